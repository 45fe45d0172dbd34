/-
  A writer's Int, Text and Nodes.
-/
import Derived.Test.YtbclmgakifmgfaaCPut
import Derived.Test.YtbclmgakifmgfaaCNodes
import Derived.Outline
namespace Go.Proofs.Ytbclmgakifmgfaa
open Go.RowKit

theorem Wr.ne {w : World} {p : Nat} {v : Value} {l : List UInt8} (h : Wr w p v l) : some p ≠ v.ownBlock := by
  rcases h.2.2 with ⟨rfl, _⟩ | ⟨g, cap, cur, rfl, _, hg, _⟩
  · simp [Value.ownBlock]
  · intro e
    have e : p = g := by simpa [Value.ownBlock] using e
    subst e
    have h1 := h.1
    rw [hg] at h1
    injection h1 with h1
    injection h1 with _ ht _
    exact absurd ht (by decide)
theorem Wr.lt {w : World} {p : Nat} {v : Value} {l : List UInt8} (h : Wr w p v l) : p < w.heap.size := lt_of_block h.1
theorem Wr.below {w w' : World} {p : Nat} {v : Value} {l : List UInt8} (h : Wr w p v l) (hb : Below w.heap.size w w') : Wr w' p v l := ⟨(hb.block p h.lt).trans h.1, h.2.below hb⟩
theorem Wr.new (w : World) : Wr (w.alloc (.cells #[.slice none 0 0] 29)) w.heap.size (.slice none 0 0) [] := ⟨heap_alloc_new w _, Own.none_ _ _⟩
/-- The writer's slice has grown, and is laid back. -/
theorem Wr.put {w w1 : World} {p : Nat} {v v2 : Value} {l l2 : List UInt8} (h : Wr w p v l) (ho : Own w1 0 v2 l2) (he : Ext none v w v2 w1) : Wr (w1.setCell ⟨p, 0, none⟩ v2) p v2 l2 ∧ Ext (some p) v w v2 (w1.setCell ⟨p, 0, none⟩ v2) := by
  have hb := (he.block p h.lt (by simp) h.ne).trans h.1
  refine ⟨⟨one_setCell hb, ownsRow_setCell_other ho ?_ _⟩, (he.weak (some p)).set 0 v2⟩
  show v2.ownBlock ≠ some p
  rcases he.at_ with e | e | ⟨g, e, hg⟩
  · rw [e]; exact fun e => h.ne e.symm
  · rw [e]; simp
  · rw [e]; intro e2; injection e2 with e2; have := h.lt; omega
theorem Wr.kept {w w1 : World} {p : Nat} {v v2 : Value} {l : List UInt8} (h : Wr w p v l) (he : Ext none v w v2 w1) : w1.cell? ⟨p, 0, none⟩ = some v ∧ w1.frozen? ⟨p, 0, none⟩ = false := by
  have hb := (he.block p h.lt (by simp) h.ne).trans h.1
  exact ⟨cell_of_one hb, free_of_one hb⟩

/-- The slice at address A reads as these values. -/
def SegV (w : World) (A : Option Addr) (vs : List Value) : Prop := 0 < vs.length → ∃ b o, A = some ⟨b, o, none⟩ ∧ b < w.heap.size ∧ ∀ j (h : j < vs.length), w.cell? ⟨b, o + j, none⟩ = some vs[j]
theorem SegV.at_ {w : World} {A : Option Addr} {vs : List Value} (h : SegV w A vs) {k : Nat} (hk : k < vs.length) : ∃ b o, A = some ⟨b, o, none⟩ ∧ b < w.heap.size ∧ w.cell? ⟨b, o + k, none⟩ = some vs[k] := by
  obtain ⟨b, o, e, hb, hc⟩ := h (by omega)
  exact ⟨b, o, e, hb, hc k hk⟩
theorem SegV.below {w w' : World} {A : Option Addr} {vs : List Value} (h : SegV w A vs) (hb : Below w.heap.size w w') : SegV w' A vs := fun h0 => by
  obtain ⟨b, o, e, hlt, hc⟩ := h h0
  exact ⟨b, o, e, Nat.lt_of_lt_of_le hlt hb.size, fun j hj => (hb.cell (p := ⟨b, o + j, none⟩) hlt).trans (hc j hj)⟩
/-- The slice lies apart from the writer. -/
def Apart (A : Option Addr) (p : Nat) (v : Value) : Prop := ∀ a, A = some a → a.block ≠ p ∧ some a.block ≠ v.ownBlock
/-- The writer has become one of these bytes. -/
def Wrote (w : World) (p : Nat) (v : Value) (l : List UInt8) (e : Ending) (w' : World) : Prop := ∃ v', e = .returned (.tuple #[]) ∧ Wr w' p v' l ∧ Ext (some p) v w v' w'
def InR (n : Int) : Prop := -9223372036854775808 ≤ n ∧ n ≤ 9223372036854775807
theorem flat_le (ns : List Int) (h : ∀ n ∈ ns, InR n) : (ns.flatMap nb).length ≤ 10 * ns.length := by
  induction ns with
  | nil => simp
  | cons n r ih =>
    have h1 := h n (by simp)
    have := nb_ten n h1.1 h1.2
    have := ih fun m hm => h m (by simp [hm])
    rw [List.flatMap_cons, List.length_append, List.length_cons]
    omega
theorem flat_snoc {α : Type} (f : α → List UInt8) (ns : List α) (k : Nat) (h : k < ns.length) : (ns.take (k + 1)).flatMap f = (ns.take k).flatMap f ++ f ns[k] := by
  rw [List.take_succ_eq_append_getElem h, List.flatMap_append, List.flatMap_singleton]
theorem Int_put_nil (A : Option Addr) (n c : Nat) (w : World) : Calls Try.prog 8 #[.pointer none, .slice A n c] w fun e w' => e = .returned (.tuple #[]) ∧ w = w' := by
  go_enter Try.func8, Try.ntmps8
  go_wp2
  exact bodyPost_ret (v := .tuple #[]) (by simp [results, Try.results8, go_sem]) rfl ⟨rfl, rfl⟩
set_option maxRecDepth 100000 in
set_option maxHeartbeats 1000000 in
theorem Int_put (p : Nat) (v : Value) (l : List UInt8) (A : Option Addr) (ns : List Int) (c : Nat) (w : World) (h : Wr w p v l) (hs : SegV w A (ns.map (.int .i64))) (ha : 0 < ns.length → Apart A p v) (hr : ∀ n ∈ ns, InR n)
    (hl : l.length + 10 * ns.length + 10 ≤ 140737488355328) :
    Calls Try.prog 8 #[.pointer (some ⟨p, 0, none⟩), .slice A ns.length c] w (Wrote w p v (l ++ ns.flatMap nb)) := by
  replace h := fhid h
  replace hs := fhid hs
  replace hr := fhid hr
  replace ha := fhid ha
  go_enter Try.func8, Try.ntmps8
  go_wp2
  go_loopw [10] (fun i wr => ∃ (k : Nat) (v1 : Value), k ≤ ns.length ∧ i = .int .i64 k ∧ Wr wr p v1 (l ++ (ns.take k).flatMap nb) ∧ Ext (some p) v w v1 wr) (fun i _ => ns.length - (intOf i).toNat)
  case atStart => exact ⟨0, v, Nat.zero_le _, rfl, by rw [List.take_zero, List.flatMap_nil, List.append_nil]; exact h.out, Ext.refl _ _ _⟩
  case round =>
    obtain ⟨k, v1, hk, rfl, hW, hE⟩ := hrel
    by_cases hlt : k < ns.length
    · obtain ⟨b, o, rfl, hb, hc⟩ := hs.out.at_ (k := k) (by rw [List.length_map]; exact hlt)
      rw [List.getElem_map] at hc
      obtain ⟨a1, a2⟩ := ha.out (by omega) _ rfl
      have hcell : wr.cell? ⟨b, o + k, none⟩ = some (.int .i64 ns[k]) := (hE.cell (a := ⟨b, o + k, none⟩) hb (fun e => a1 (by injection e)) a2).trans hc
      have hsn := fhid (flat_snoc nb ns k hlt)
      have hri := hr.out ns[k] (List.getElem_mem hlt)
      have hfl := flat_le (ns.take k) fun m hm => hr.out m (List.mem_of_mem_take hm)
      rw [List.length_take] at hfl
      generalize ns[k] = n at *
      generalize hpre : l ++ (ns.take k).flatMap nb = pre at *
      have hpl : pre.length + 10 ≤ 140737488355328 := by rw [← hpre, List.length_append]; omega
      replace hpre := fhid hpre
      have c0 := cell_of_one hW.1
      have f0 := free_of_one hW.1
      have pn := putNumber_any v1 pre n wr hW.2 hri.1 hri.2 hpl
      replace hW := fhid hW
      have h2 : (k : Int) < ns.length := by omega
      have h3 : (0 : Int) ≤ k := by omega
      clear hc hfl hri a2
      go_wp2_with (go_at_call 25; (with_reducible refine pn.mono ?_); rintro e w1 ⟨v2, rfl, o2, e2⟩; obtain ⟨c1, f1⟩ := hW.out.kept e2; have P := fhid (hW.out.put o2 e2); obtain ⟨A2, k2, rfl, _⟩ := o2.shape; generalize (pre ++ nb n).length = N2 at *)
      go_roundw
      case rel => exact ⟨k + 1, _, by omega, by go_num, by rw [hsn.out, ← List.append_assoc, hpre.out]; exact P.out.1, hE.trans P.out.2⟩
      case measure => simp [intOf]; omega
    · obtain rfl : k = ns.length := by omega
      have h2 : ¬ (ns.length : Int) < ns.length := by omega
      go_wp2
      go_end0
      exact ⟨v1, rfl, by rw [List.take_length] at hW; exact hW, hE⟩
/-- A text's bytes. -/
def tb (t : List UInt8) : List UInt8 := nb (t.length : Int) ++ t
theorem flat_part {α : Type} (f : α → List UInt8) (ns : List α) (k : Nat) : ((ns.take k).flatMap f).length ≤ (ns.flatMap f).length := by
  have := congrArg (fun l => (l.flatMap f).length) (List.take_append_drop k ns)
  simp only [List.flatMap_append, List.length_append] at this
  omega
theorem Text_put_nil (A : Option Addr) (n c : Nat) (w : World) : Calls Try.prog 9 #[.pointer none, .slice A n c] w fun e w' => e = .returned (.tuple #[]) ∧ w = w' := by
  go_enter Try.func9, Try.ntmps9
  go_wp2
  exact bodyPost_ret (v := .tuple #[]) (by simp [results, Try.results9, go_sem]) rfl ⟨rfl, rfl⟩
set_option maxRecDepth 100000 in
set_option maxHeartbeats 1000000 in
theorem Text_put (p : Nat) (v : Value) (l : List UInt8) (A : Option Addr) (ts : List (List UInt8)) (c : Nat) (w : World) (h : Wr w p v l) (hs : SegV w A (ts.map fun t => .string (str t))) (ha : 0 < ts.length → Apart A p v)
    (hl : l.length + (ts.flatMap tb).length + 10 ≤ 140737488355328) (hn : ts.length ≤ 140737488355328) :
    Calls Try.prog 9 #[.pointer (some ⟨p, 0, none⟩), .slice A ts.length c] w (Wrote w p v (l ++ ts.flatMap tb)) := by
  replace h := fhid h
  replace hs := fhid hs
  replace ha := fhid ha
  go_enter Try.func9, Try.ntmps9
  go_wp2
  go_loopw [10] (fun i wr => ∃ (k : Nat) (v1 : Value), k ≤ ts.length ∧ i = .int .i64 k ∧ Wr wr p v1 (l ++ (ts.take k).flatMap tb) ∧ Ext (some p) v w v1 wr) (fun i _ => ts.length - (intOf i).toNat)
  case atStart => exact ⟨0, v, Nat.zero_le _, rfl, by rw [List.take_zero, List.flatMap_nil, List.append_nil]; exact h.out, Ext.refl _ _ _⟩
  case round =>
    obtain ⟨k, v1, hk, rfl, hW, hE⟩ := hrel
    by_cases hlt : k < ts.length
    · obtain ⟨b, o, rfl, hb, hc⟩ := hs.out.at_ (k := k) (by rw [List.length_map]; exact hlt)
      rw [List.getElem_map] at hc
      obtain ⟨a1, a2⟩ := ha.out (by omega) _ rfl
      have hcell : wr.cell? ⟨b, o + k, none⟩ = some (.string (str ts[k])) := (hE.cell (a := ⟨b, o + k, none⟩) hb (fun e => a1 (by injection e)) a2).trans hc
      have hsn := fhid (flat_snoc tb ts k hlt)
      have hfl := flat_part tb ts (k + 1)
      rw [hsn.out, List.length_append] at hfl
      generalize ts[k] = t at *
      have hz := str_size t
      have htb := fhid (show tb t = nb (t.length : Int) ++ t from rfl)
      have htl : (tb t).length = (nb (t.length : Int)).length + t.length := by rw [htb.out, List.length_append]
      have hten := nb_pos (t.length : Int)
      generalize hpre : l ++ (ts.take k).flatMap tb = pre at *
      have hpl : pre.length + (tb t).length + 10 ≤ 140737488355328 := by rw [← hpre, List.length_append]; omega
      replace hpre := fhid hpre
      have c0 := cell_of_one hW.1
      have f0 := free_of_one hW.1
      have pn := putNumber_any v1 pre (t.length : Int) wr hW.2 (by omega) (by omega) (by omega)
      have hnl : (pre ++ nb (t.length : Int)).length + t.length ≤ 140737488355328 := by rw [List.length_append]; omega
      replace hW := fhid hW
      replace htl := fhid htl
      have h2 : (k : Int) < ts.length := by omega
      have h3 : (0 : Int) ≤ k := by omega
      clear hc hfl a2
      go_wp2_with (first
        | (go_at_call 25; (with_reducible refine pn.mono ?_); rintro e w1 ⟨v2, rfl, o2, e2⟩)
        | (at_builtin
           refine app_str rfl _ _ rfl v2 _ rfl o2 t rfl hnl ?_
           intro v3 w3 o3 e3
           have e4 := e2.trans e3
           obtain ⟨c1, f1⟩ := hW.out.kept e4
           have P := fhid (hW.out.put o3 e4)
           obtain ⟨A2, k2, rfl, _⟩ := o3.shape
           generalize (pre ++ nb (t.length : Int) ++ t).length = N2 at *))
      go_roundw
      case rel => exact ⟨k + 1, _, by omega, by go_num, by rw [hsn.out, htb.out, ← List.append_assoc, ← List.append_assoc, hpre.out]; exact P.out.1, hE.trans P.out.2⟩
      case measure => simp [intOf]; omega
    · obtain rfl : k = ts.length := by omega
      have h2 : ¬ (ts.length : Int) < ts.length := by omega
      go_wp2
      go_end0
      exact ⟨v1, rfl, by rw [List.take_length] at hW; exact hW, hE⟩
end Go.Proofs.Ytbclmgakifmgfaa
