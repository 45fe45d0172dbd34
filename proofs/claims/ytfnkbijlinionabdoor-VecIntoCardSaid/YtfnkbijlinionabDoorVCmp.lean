/-
  How two vectors stand to each other.
-/
import Derived.Test.YtfnkbijlinionabDoorVLeaf
import Derived.StillTailTactics
namespace Go.Proofs.YtfnkbijlinionabDoor
open Go.RowKit

/-- By the first part that differs. -/
def cmp3 (a b c d e f : Int) : Int := orI [Lib.compareInt a d, Lib.compareInt b e, Lib.compareInt c f]
/-- Two boxes of vectors, one behind the other. -/
theorem box2 (a b c d e f : Int) (w : World) : let W := (w.alloc (.cells #[.int .i64 a, .int .i64 b, .int .i64 c] 23)).alloc (.cells #[.int .i64 d, .int .i64 e, .int .i64 f] 23)
    W.cell? ⟨w.heap.size, 0, none⟩ = some (.int .i64 a) ∧ W.cell? ⟨w.heap.size, 1, none⟩ = some (.int .i64 b) ∧ W.cell? ⟨w.heap.size, 2, none⟩ = some (.int .i64 c) ∧ W.cell? ⟨w.heap.size + 1, 0, none⟩ = some (.int .i64 d) ∧ W.cell? ⟨w.heap.size + 1, 1, none⟩ = some (.int .i64 e) ∧ W.cell? ⟨w.heap.size + 1, 2, none⟩ = some (.int .i64 f) := by
  intro W
  have h1 := heap_alloc_new (w.alloc (.cells #[.int .i64 a, .int .i64 b, .int .i64 c] 23)) (.cells #[.int .i64 d, .int .i64 e, .int .i64 f] 23)
  rw [World.size_alloc] at h1
  have h0 : W.heap[w.heap.size]? = _ := (Below.heap_alloc (w.alloc (.cells #[.int .i64 a, .int .i64 b, .int .i64 c] 23)) (.cells #[.int .i64 d, .int .i64 e, .int .i64 f] 23) w.heap.size (by rw [World.size_alloc]; omega)).trans (heap_alloc_new w _)
  replace h1 : W.heap[w.heap.size + 1]? = _ := h1
  simp [World.cell?, h0, h1]
end Go.Proofs.YtfnkbijlinionabDoor
