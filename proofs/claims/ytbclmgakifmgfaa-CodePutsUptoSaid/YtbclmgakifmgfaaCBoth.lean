/-
  A reader and a writer beside each other.
-/
import Derived.Test.YtbclmgakifmgfaaCAlive
namespace Go.Proofs.Ytbclmgakifmgfaa
open Go.RowKit

theorem Rdr.alloc' {w : World} {p : Nat} {l : List UInt8} {at_ : Nat} {why fat : Int} (h : Rdr w p l at_ why fat) (o : Obj) : Rdr (w.alloc o) p l at_ why fat := h.below ((Below.refl _ _).alloc (Nat.le_refl _) o)
/-- A reader all of which lies below block B. -/
def Rdb (B : Nat) (w : World) (p : Nat) (l : List UInt8) (at_ : Nat) (why fat : Int) : Prop :=
  ∃ A cap, Rd w p (.slice A l.length cap) at_ why fat ∧ Seg w B A l ∧ l.length ≤ cap ∧ (∀ a, A = some a → a.block ≠ p) ∧ at_ ≤ l.length ∧ l.length ≤ 140737488355328 ∧ p < B ∧ B ≤ w.heap.size
section
variable {w w' : World} {B p : Nat} {l : List UInt8} {at_ at' : Nat} {why fat why' fat' : Int}
theorem Rdb.of (h : Rdr w p l at_ why fat) : Rdb w.heap.size w p l at_ why fat := by
  have := h.lt
  obtain ⟨A, cap, h1, h2, h3, h4, h5, h6⟩ := h
  exact ⟨A, cap, h1, h2, h3, h4, h5, h6, this, Nat.le_refl _⟩
theorem Rdb.rdr (h : Rdb B w p l at_ why fat) : Rdr w p l at_ why fat := by
  obtain ⟨A, cap, h1, h2, h3, h4, h5, h6, _, h8⟩ := h
  exact ⟨A, cap, h1, h2.more h8, h3, h4, h5, h6⟩
theorem Rdb.le (h : Rdb B w p l at_ why fat) : at_ ≤ l.length := by
  obtain ⟨A, cap, h1, h2, h3, h4, h5, _⟩ := h
  exact h5
theorem Rdb.lt (h : Rdb B w p l at_ why fat) : p < B := by
  obtain ⟨A, cap, h1, h2, h3, h4, h5, h6, h7, _⟩ := h
  exact h7
theorem Rdb.size (h : Rdb B w p l at_ why fat) : B ≤ w.heap.size := by
  obtain ⟨A, cap, h1, h2, h3, h4, h5, h6, h7, h8⟩ := h
  exact h8
theorem Rdb.below (h : Rdb B w p l at_ why fat) (hb : Below B w w') : Rdb B w' p l at_ why fat := by
  obtain ⟨A, cap, h1, h2, h3, h4, h5, h6, h7, h8⟩ := h
  exact ⟨A, cap, (hb.block p h7).trans h1, h2.below hb, h3, h4, h5, h6, h7, Nat.le_trans h8 hb.size⟩
theorem Rdb.turn (h : Rdb B w p l at_ why fat) (r : Rdr w' p l at' why' fat') (t : Turns w w' p) : Rdb B w' p l at' why' fat' := by
  obtain ⟨A, cap, h1, h2, h3, h4, _, h6, h7, h8⟩ := h
  obtain ⟨A', cap', r1, _, _, _, r5, _⟩ := r
  have e := t.head h1.lt
  rw [r1.c0, h1.c0] at e
  injection e with e
  injection e with e1 _ e3
  subst e1; subst e3
  exact ⟨A', cap', r1, h2.turn h4 fun q hq hp => World.cell?_of_block (t.block q.block (by omega) (fun e => hp (by injection e))), h3, h4, r5, h6, h7, Nat.le_trans h8 t.size⟩
/-- What a reader does leaves a writer as it is. -/
theorem Wr.turn {g : Nat} {v : Value} {c : List UInt8} (h : Wr w p v c) (r : Rdr w g l at_ why fat) (t : Turns w w' g) (hne : p ≠ g) : Wr w' p v c := by
  refine ⟨(t.block p h.lt (fun e => hne (by injection e))).trans h.1, World.ownsRow.kept h.2 t.gb ?_⟩
  right
  intro e
  obtain ⟨A, cap, h1, _⟩ := r
  rcases h.2.2 with ⟨rfl, _⟩ | ⟨b, _, cur, rfl, _, hg, _⟩
  · simp [Value.ownBlock] at e
  · have e : b = g := by simpa [Value.ownBlock] using e
    subst e
    rw [show w.heap[b]? = _ from h1] at hg
    injection hg with hg
    injection hg with _ ht _
    exact absurd ht (by decide)
end
end Go.Proofs.Ytbclmgakifmgfaa
