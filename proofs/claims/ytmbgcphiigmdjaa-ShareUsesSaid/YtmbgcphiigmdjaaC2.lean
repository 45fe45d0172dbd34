/-
  Parts: FSame CText CTextOk CWord CNodes CEnd CExt CPut CWriter.
-/
import Derived.Test.YtmbgcphiigmdjaaC1
import Derived.Lib.SlBytesRow
import Derived.Laws.Strings
import Derived.Outline
import Derived.StillTailTactics
import Derived.Lib.AppendStr
set_option linter.unusedSimpArgs false
set_option linter.unusedVariables false
/-
  Two slices of bytes are the same where their bytes are.
-/
namespace Go.Proofs.Ytmbgcphiigmdjaa.Cs
open Go.RowKit

/-- Bytes, as a string. -/
def str (l : List UInt8) : ByteArray := ⟨l.toArray⟩
theorem str_inj {l m : List UInt8} : str l = str m ↔ l = m := by
  constructor
  · intro h
    have := congrArg (fun s : ByteArray => s.data.toList) h
    simpa [str] using this
  · rintro rfl; rfl
end Go.Proofs.Ytmbgcphiigmdjaa.Cs
/-
  A text, read.
-/
namespace Go.Proofs.Ytmbgcphiigmdjaa.Cs
open Go.RowKit

end Go.Proofs.Ytmbgcphiigmdjaa.Cs
/-
  A text, read: the way without a fault.
-/
namespace Go.Proofs.Ytmbgcphiigmdjaa.Cs
open Go.RowKit

end Go.Proofs.Ytmbgcphiigmdjaa.Cs
/-
  A word's eight bytes, read.
-/
namespace Go.Proofs.Ytmbgcphiigmdjaa.Cs
open Go.RowKit

end Go.Proofs.Ytmbgcphiigmdjaa.Cs
/-
  A set, read.
-/
namespace Go.Proofs.Ytmbgcphiigmdjaa.Cs
open Go.RowKit

section
variable {w w' : World} {B : Nat} {f : Nat → Nat}
end
end Go.Proofs.Ytmbgcphiigmdjaa.Cs
/-
  The end asked for.
-/
namespace Go.Proofs.Ytmbgcphiigmdjaa.Cs
open Go.RowKit

end Go.Proofs.Ytmbgcphiigmdjaa.Cs
/-
  Bytes of the call's own that grow: where they lie behind it, and what else is as it was.
-/
namespace Go.Proofs.Ytmbgcphiigmdjaa.Cs
open Go.RowKit

/-- v has become v': all blocks that were there are as they were, but p and v's own; v' lies in v's block or in a new one. -/
structure Ext (p : Option Nat) (v : Value) (w : World) (v' : Value) (w' : World) : Prop where
  os : w'.os = w.os
  tape : w'.tape = w.tape
  output : w'.output = w.output
  size : w.heap.size ≤ w'.heap.size
  block : ∀ k, k < w.heap.size → some k ≠ p → some k ≠ v.ownBlock → w'.heap[k]? = w.heap[k]?
  at_ : v'.ownBlock = v.ownBlock ∨ v'.ownBlock = none ∨ ∃ g, v'.ownBlock = some g ∧ w.heap.size ≤ g
section
variable {p : Option Nat} {v v' v'' : Value} {w w' w'' : World}
theorem Ext.refl (p : Option Nat) (v : Value) (w : World) : Ext p v w v w := ⟨rfl, rfl, rfl, Nat.le_refl _, fun _ _ _ _ => rfl, .inl rfl⟩
theorem Ext.trans (h : Ext p v w v' w') (k : Ext p v' w' v'' w'') : Ext p v w v'' w'' := by
  refine ⟨k.os.trans h.os, k.tape.trans h.tape, k.output.trans h.output, Nat.le_trans h.size k.size, fun i hi hp hv => ?_, ?_⟩
  · refine (k.block i (Nat.lt_of_lt_of_le hi h.size) hp ?_).trans (h.block i hi hp hv)
    rcases h.at_ with e | e | ⟨g, e, hg⟩
    · rw [e]; exact hv
    · rw [e]; simp
    · rw [e]; intro e2; injection e2 with e2; omega
  · rcases k.at_ with e | e | ⟨g, e, hg⟩
    · rw [e]; exact h.at_
    · exact .inr (.inl e)
    · exact .inr (.inr ⟨g, e, Nat.le_trans h.size hg⟩)
theorem Ext.ofBelow (p : Option Nat) (v : Value) (h : Below w.heap.size w w') : Ext p v w v w' := ⟨h.os, h.tape, h.output, h.size, fun k hk _ _ => h.block k hk, .inl rfl⟩
theorem Ext.alloc (h : Ext p v w v' w') (o : Obj) : Ext p v w v' (w'.alloc o) := h.trans (Ext.ofBelow p v' ((Below.refl _ _).alloc (Nat.le_refl _) o))
theorem Ext.weak (h : Ext none v w v' w') (p : Option Nat) : Ext p v w v' w' := ⟨h.os, h.tape, h.output, h.size, fun k hk _ hv => h.block k hk (by simp) hv, h.at_⟩
theorem Ext.set {b : Nat} (h : Ext (some b) v w v' w') (i : Nat) (u : Value) : Ext (some b) v w v' (w'.setCell ⟨b, i, none⟩ u) :=
  ⟨h.os, h.tape, h.output, by simpa [World.setCell] using h.size, fun k hk hp hv => (Below.heap_setCell _ _ _ _ (fun e => hp (by rw [e]))).trans (h.block k hk hp hv), h.at_⟩
/-- From below all that the value or the block could have turned. -/
theorem Ext.below {B : Nat} (h : Ext p v w v' w') (hB : B ≤ w.heap.size) (hp : ∀ b, p = some b → B ≤ b) (hv : ∀ b, v.ownBlock = some b → B ≤ b) : Below B w w' :=
  ⟨h.os, h.tape, h.output, h.size, fun k hk => h.block k (by omega) (fun e => by have := hp k e.symm; omega) (fun e => by have := hv k e.symm; omega)⟩
theorem Ext.cell (h : Ext p v w v' w') {a : Addr} (ha : a.block < w.heap.size) (hp : some a.block ≠ p) (hv : some a.block ≠ v.ownBlock) : w'.cell? a = w.cell? a := World.cell?_of_block (h.block a.block ha hp hv)
end
theorem str_size (l : List UInt8) : (str l).size = l.length := by simp [str, ByteArray.size]
end Go.Proofs.Ytmbgcphiigmdjaa.Cs
/-
  A number's bytes, and a word's, put behind others.
-/
namespace Go.Proofs.Ytmbgcphiigmdjaa.Cs
open Go.RowKit

end Go.Proofs.Ytmbgcphiigmdjaa.Cs
/-
  A writer's Int, Text and Nodes.
-/
namespace Go.Proofs.Ytmbgcphiigmdjaa.Cs
open Go.RowKit

theorem Wr.ne {w : World} {p : Nat} {v : Value} {l : List UInt8} (h : Wr w p v l) : some p ≠ v.ownBlock := by
  rcases h.2.2 with ⟨rfl, _⟩ | ⟨g, cap, cur, rfl, _, hg, _⟩
  · simp [Value.ownBlock]
  · intro e
    have e : p = g := by simpa [Value.ownBlock] using e
    subst e
    have h1 := h.1
    rw [hg] at h1
    injection h1 with h1
    injection h1 with _ ht _
    exact absurd ht (by decide)
theorem Wr.lt {w : World} {p : Nat} {v : Value} {l : List UInt8} (h : Wr w p v l) : p < w.heap.size := lt_of_block h.1
theorem Wr.below {w w' : World} {p : Nat} {v : Value} {l : List UInt8} (h : Wr w p v l) (hb : Below w.heap.size w w') : Wr w' p v l := ⟨(hb.block p h.lt).trans h.1, h.2.below hb⟩
theorem Wr.new (w : World) : Wr (w.alloc (.cells #[.slice none 0 0] 84)) w.heap.size (.slice none 0 0) [] := ⟨heap_alloc_new w _, Own.none_ _ _⟩
/-- The writer's slice has grown, and is laid back. -/
theorem Wr.put {w w1 : World} {p : Nat} {v v2 : Value} {l l2 : List UInt8} (h : Wr w p v l) (ho : Own w1 0 v2 l2) (he : Ext none v w v2 w1) : Wr (w1.setCell ⟨p, 0, none⟩ v2) p v2 l2 ∧ Ext (some p) v w v2 (w1.setCell ⟨p, 0, none⟩ v2) := by
  have hb := (he.block p h.lt (by simp) h.ne).trans h.1
  refine ⟨⟨one_setCell hb, ownsRow_setCell_other ho ?_ _⟩, (he.weak (some p)).set 0 v2⟩
  show v2.ownBlock ≠ some p
  rcases he.at_ with e | e | ⟨g, e, hg⟩
  · rw [e]; exact fun e => h.ne e.symm
  · rw [e]; simp
  · rw [e]; intro e2; injection e2 with e2; have := h.lt; omega
/-- The slice at address A reads as these values. -/
def SegV (w : World) (A : Option Addr) (vs : List Value) : Prop := 0 < vs.length → ∃ b o, A = some ⟨b, o, none⟩ ∧ b < w.heap.size ∧ ∀ j (h : j < vs.length), w.cell? ⟨b, o + j, none⟩ = some vs[j]
theorem SegV.at_ {w : World} {A : Option Addr} {vs : List Value} (h : SegV w A vs) {k : Nat} (hk : k < vs.length) : ∃ b o, A = some ⟨b, o, none⟩ ∧ b < w.heap.size ∧ w.cell? ⟨b, o + k, none⟩ = some vs[k] := by
  obtain ⟨b, o, e, hb, hc⟩ := h (by omega)
  exact ⟨b, o, e, hb, hc k hk⟩
theorem SegV.below {w w' : World} {A : Option Addr} {vs : List Value} (h : SegV w A vs) (hb : Below w.heap.size w w') : SegV w' A vs := fun h0 => by
  obtain ⟨b, o, e, hlt, hc⟩ := h h0
  exact ⟨b, o, e, Nat.lt_of_lt_of_le hlt hb.size, fun j hj => (hb.cell (p := ⟨b, o + j, none⟩) hlt).trans (hc j hj)⟩
/-- A text's bytes. -/
def tb (t : List UInt8) : List UInt8 := nb (t.length : Int) ++ t
end Go.Proofs.Ytmbgcphiigmdjaa.Cs
