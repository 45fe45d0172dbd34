/-
  combine, at whatever is done to the parts.
-/
import Derived.Test.YtbdoppgcelihcaaDoorVSafe
namespace Go.Proofs.YtbdoppgcelihcaaDoor
open Go.RowKit

theorem cres_bad {x y z e f g : Int} (h : orI [e, f, g] ≠ 0) : cres x y z e f g = ((0, 0, 0), orI [e, f, g]) := if_pos h
theorem cres_in {x y z e f g : Int} (h : orI [e, f, g] = 0) (h2 : right x y z = true) : cres x y z e f g = ((x, y, z), 0) := by unfold cres; rw [if_neg (fun k => k h), if_pos h2]
theorem cres_out {x y z e f g : Int} (h : orI [e, f, g] = 0) (h2 : right x y z = false) : cres x y z e f g = ((0, 0, 0), 5) := by unfold cres; rw [if_neg (fun k => k h), if_neg (by rw [h2]; decide)]
/-- A vector's box. -/
def VB (w : World) (b : Nat) (x y z : Int) : Prop := w.heap[b]? = some (.cells #[.int .i64 x, .int .i64 y, .int .i64 z] 37 (0, 0))
theorem VB.facts {w : World} {b : Nat} {x y z : Int} (h : VB w b x y z) : w.cell? ⟨b, 0, none⟩ = some (.int .i64 x) ∧ w.cell? ⟨b, 1, none⟩ = some (.int .i64 y) ∧ w.cell? ⟨b, 2, none⟩ = some (.int .i64 z) ∧ (w.frozen? ⟨b, 0, none⟩ = false ∧ w.frozen? ⟨b, 1, none⟩ = false ∧ w.frozen? ⟨b, 2, none⟩ = false) ∧ b < w.heap.size := by
  unfold VB at h
  exact ⟨by simp [World.cell?, h], by simp [World.cell?, h], by simp [World.cell?, h], ⟨by simp [World.frozen?, h], by simp [World.frozen?, h], by simp [World.frozen?, h]⟩, lt_of_block h⟩
theorem VB.grew {w w' : World} {b : Nat} {x y z : Int} (h : VB w b x y z) (g : Grew w w') : VB w' b x y z := (g.below.block b (lt_of_block h)).trans h
theorem VB.on {w w' : World} {b : Nat} {x y z : Int} (h : VB w b x y z) (g : Below w.heap.size w w') : VB w' b x y z := (g.block b (lt_of_block h)).trans h
theorem VB.new (w : World) (x y z : Int) (g : Nat) (hg : g = w.heap.size) : VB (w.alloc (.cells #[.int .i64 x, .int .i64 y, .int .i64 z] 37)) g x y z := by subst hg; exact heap_alloc_new _ _
/-- Three boxes, and what lies in them, in each world that grew. -/
theorem box3 (a b c d e f : Int) (w : World) : let W := ((w.alloc (.cells #[.int .i64 a, .int .i64 b, .int .i64 c] 37)).alloc (.cells #[.int .i64 d, .int .i64 e, .int .i64 f] 37)).alloc (.cells #[.int .i64 0, .int .i64 0, .int .i64 0] 37)
    Grew w W ∧ W.heap.size = w.heap.size + 3 ∧ VB W w.heap.size a b c ∧ VB W (w.heap.size + 1) d e f ∧ VB W (w.heap.size + 2) 0 0 0 := by
  intro W
  refine ⟨(((Grew.refl w).alloc _).alloc _).alloc _, by simp [W], ?_, ?_, ?_⟩
  · refine (Below.heap_alloc _ _ w.heap.size (by simp; omega)).trans ((Below.heap_alloc _ _ w.heap.size (by simp)).trans (heap_alloc_new w _))
  · have h := heap_alloc_new (w.alloc (.cells #[.int .i64 a, .int .i64 b, .int .i64 c] 37)) (.cells #[.int .i64 d, .int .i64 e, .int .i64 f] 37)
    rw [World.size_alloc] at h
    exact (Below.heap_alloc _ _ (w.heap.size + 1) (by simp)).trans h
  · have h := heap_alloc_new ((w.alloc (.cells #[.int .i64 a, .int .i64 b, .int .i64 c] 37)).alloc (.cells #[.int .i64 d, .int .i64 e, .int .i64 f] 37)) (.cells #[.int .i64 0, .int .i64 0, .int .i64 0] 37)
    rw [World.size_alloc, World.size_alloc] at h
    exact h
end Go.Proofs.YtbdoppgcelihcaaDoor
