/-
  The document's Into.
-/
import Derived.Test.YtbdoppgcelihcaaDoorVInto2
namespace Go.Proofs.YtbdoppgcelihcaaDoor
open Go.RowKit

theorem box2V (a b c d e f : Int) (w : World) : let W := (w.alloc (.cells #[.int .i64 a, .int .i64 b, .int .i64 c] 37)).alloc (.cells #[.int .i64 d, .int .i64 e, .int .i64 f] 37)
    Grew w W ∧ VB W w.heap.size a b c ∧ VB W (w.heap.size + 1) d e f := by
  intro W
  refine ⟨((Grew.refl w).alloc _).alloc _, ?_, ?_⟩
  · exact (Below.heap_alloc _ _ w.heap.size (by simp)).trans (heap_alloc_new w _)
  · have h := heap_alloc_new (w.alloc (.cells #[.int .i64 a, .int .i64 b, .int .i64 c] 37)) (.cells #[.int .i64 d, .int .i64 e, .int .i64 f] 37)
    rw [World.size_alloc] at h
    exact h
theorem quo_wrap {n m : Int} (h0 : 0 < n) (h1 : n ≤ 1073741824) (h2 : 0 ≤ m) (h3 : m ≤ 1073741824) : IntKind.i64.wrap (m.tdiv n) = ti n m ∧ wrap64 (m / n) = ti n m ∧ IntKind.i64.wrap (m / n) = ti n m ∧ m / n = ti n m := by
  have hb := ti_le (by omega) h1 h2 h3
  have e := ti_pos (m := m) h0
  have e2 : m.tdiv n = m / n := Int.tdiv_eq_ediv_of_nonneg h2
  rw [← e2, ← e]
  have k : IntKind.i64.wrap (ti n m) = ti n m := IntWalk.i64_in _ (by omega)
  exact ⟨k, wrap_same _ ⟨by omega, by omega⟩, k, rfl⟩
end Go.Proofs.YtbdoppgcelihcaaDoor
