/-
  Parts: USaveM ULoadM ULoad UGoesM.
-/
import Derived.Test.YtmbgcphiigmdjaaU1
import Derived.Test.YtmbgcphiigmdjaaC2
import Derived.Test.YtmbgcphiigmdjaaU2
import Derived.Deep.RegionHeld3
set_option linter.unusedSimpArgs false
set_option linter.unusedVariables false
/-
  A ledger's bytes, as plain functions.
-/
namespace Go.Proofs.Ytmbgcphiigmdjaa
open Go.RowKit Ss Ds

/-- Its users, rising. -/
def useOf (M : List Usr) (s : Str) : Int × Int := (lookG s M).getD (0, 0)
def sortU (M : List Usr) : List Usr := (namesS M).map fun s => (s, useOf M s)
end Go.Proofs.Ytmbgcphiigmdjaa
/-
  What bytes are read as, as plain functions.
-/
namespace Go.Proofs.Ytmbgcphiigmdjaa
open Go.RowKit Ss Ds

/-- Where a reader is: its place, its fault. -/
abbrev St := Nat × Int × Int
theorem sortU_keys (M : List Usr) : (sortU M).map Prod.fst = namesS M := by
  unfold sortU
  rw [List.map_map]
  conv => rhs; rw [← List.map_id (namesS M)]
  rfl
end Go.Proofs.Ytmbgcphiigmdjaa
/-
  A ledger of bytes, by the program.
-/
namespace Go.Proofs.Ytmbgcphiigmdjaa
open Go.RowKit Ss Ds

/-- A reader in block g, all of which lies from block B on. -/
def RdG (B : Nat) (w : World) (g : Nat) (l : List UInt8) (s : St) : Prop := Cs.Rdr w g l s.1 s.2.1 s.2.2 ∧ B ≤ g ∧ ∃ A cap, w.cell? ⟨g, 0, none⟩ = some (.slice A l.length cap) ∧ ∀ a, A = some a → B ≤ a.block
theorem RdG.lt {B : Nat} {w : World} {g : Nat} {l : List UInt8} {s : St} (h : RdG B w g l s) : g < w.heap.size := h.1.lt
theorem RdG.below {B : Nat} {w w' : World} {g : Nat} {l : List UInt8} {s : St} (h : RdG B w g l s) (hb : Below w.heap.size w w') : RdG B w' g l s := by
  obtain ⟨h1, h2, A, cap, h3, h4⟩ := h
  exact ⟨h1.below hb, h2, A, cap, (hb.cell (p := ⟨g, 0, none⟩) h1.lt).trans h3, h4⟩
theorem RdG.drew {B : Nat} {w : World} {g : Nat} {l : List UInt8} {s : St} (h : RdG B w g l s) : RdG B w.drew g l s := h.below ((Below.refl _ _).drew)
/-- A block below B turns. -/
theorem RdG.grown {B : Nat} {w w' : World} {g q : Nat} {l : List UInt8} {s : St} (h : RdG B w g l s) (hf : w.grownBy w' (some q)) (hq : q < B) : RdG B w' g l s := by
  obtain ⟨⟨A', cap', r1, r2, r3, r4, r5, r6⟩, h2, A, cap, h3, h4⟩ := h
  have hc := r1.c0
  rw [h3] at hc
  injection hc with hc
  injection hc with e1 _ e2
  subst e1 e2
  have hgb : w'.heap[g]? = w.heap[g]? := hf.block g r1.lt (by intro e; injection e with e; omega)
  refine ⟨⟨A, cap, hgb.trans r1, fun h0 => ?_, r3, r4, r5, r6⟩, h2, A, cap, (World.cell?_of_block hgb).trans h3, h4⟩
  obtain ⟨b, o, e, hb, hcl⟩ := r2 h0
  have hbB := h4 _ e
  refine ⟨b, o, e, Nat.lt_of_lt_of_le hb hf.size, fun j hj => ?_⟩
  exact (World.cell?_of_block (hf.block b hb (by intro e; injection e with e; have : B ≤ b := hbB; omega))).trans (hcl j hj)
/-- It has been read. -/
theorem RdG.turn {B : Nat} {w w' : World} {g : Nat} {l : List UInt8} {s s' : St} (h : RdG B w g l s) (hr : Cs.Rdr w' g l s'.1 s'.2.1 s'.2.2) (ht : Cs.Turns w w' g) : RdG B w' g l s' := by
  obtain ⟨h1, h2, A, cap, h3, h4⟩ := h
  exact ⟨hr, h2, A, cap, (ht.head h1.lt).trans h3, h4⟩
theorem less_str (s t : Str) : Op.bytesLess (str s).toList (str t).toList = decide (s < t) := by
  rw [bytesLess_eq, ByteArray.toList_eq, ByteArray.toList_eq]
  rfl
theorem same_str (s t : Str) : ((str s).toList == (str t).toList) = decide (s = t) := by
  rw [ByteArray.toList_eq, ByteArray.toList_eq, Bool.eq_iff_iff]
  simp [str]
end Go.Proofs.Ytmbgcphiigmdjaa
/-
  Plain mathematics: two ledgers of the same users, in whatever order.
-/
namespace Go.Proofs.Ytmbgcphiigmdjaa
open Go.RowKit Go.Maps Go.MapKept Ss Ds

theorem nodup_of_keys {L : List Usr} (h : (L.map Prod.fst).Nodup) : L.Nodup := by
  induction L with
  | nil => exact List.nodup_nil
  | cons x r ih =>
    rw [List.map_cons, List.nodup_cons] at h
    exact List.nodup_cons.2 ⟨fun hm => h.1 (List.mem_map_of_mem (f := Prod.fst) hm), ih h.2⟩
theorem mem_look {L : List Usr} (h : (L.map Prod.fst).Nodup) {x : Usr} : x ∈ L ↔ lookG x.1 L = some x.2 := ⟨fun hx => mem_lookG h hx, fun hx => lookG_mem hx⟩
theorem perm_of_look {L L' : List Usr} (h : (L.map Prod.fst).Nodup) (h' : (L'.map Prod.fst).Nodup) (he : ∀ s, lookG s L = lookG s L') : L.Perm L' :=
  (List.perm_ext_iff_of_nodup (nodup_of_keys h) (nodup_of_keys h')).2 fun x => by rw [mem_look h, mem_look h', he]
theorem look_perm {L L' : List Usr} (hp : L.Perm L') (h : (L.map Prod.fst).Nodup) (s : Str) : lookG s L = lookG s L' := by
  have h' : (L'.map Prod.fst).Nodup := (hp.map Prod.fst).nodup_iff.1 h
  cases hl : lookG s L with
  | none =>
    have h1 := lookG_none.1 hl
    rw [(hp.map Prod.fst).mem_iff] at h1
    exact (lookG_none.2 h1).symm
  | some u => exact (mem_lookG h' (hp.mem_iff.1 (lookG_mem hl))).symm
theorem good_perm {M M' : List Usr} (hg : Good M) (hp : M.Perm M') : Good M' := ⟨(hp.map Prod.fst).nodup_iff.1 hg.nodup, by rw [← hp.length_eq]; exact hg.len, fun x hx => hg.each x (hp.mem_iff.2 hx)⟩
theorem sort_perm {M M' : List Usr} (hg : Good M) (hp : M.Perm M') : sortU M = sortU M' := by
  have h1 : namesS M = namesS M' := mergeSort_of_perm (hp.map Prod.fst)
  unfold sortU
  rw [h1]
  refine List.map_congr_left fun s _ => ?_
  unfold useOf
  rw [look_perm hp hg.nodup]
end Go.Proofs.Ytmbgcphiigmdjaa
