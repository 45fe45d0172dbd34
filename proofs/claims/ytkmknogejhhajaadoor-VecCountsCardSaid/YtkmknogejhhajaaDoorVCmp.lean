/-
  How two vectors stand to each other.
-/
import Derived.Test.YtkmknogejhhajaaDoorVLeaf
import Derived.StillTailTactics
namespace Go.Proofs.YtkmknogejhhajaaDoor
open Go.RowKit

/-- By the first part that differs. -/
def cmp3 (a b c d e f : Int) : Int := orI [Lib.compareInt a d, Lib.compareInt b e, Lib.compareInt c f]
theorem or3 (x y z : Int) (g : Nat) (W : World) (h : W.heap[g]? = some (.cells #[.int .i64 x, .int .i64 y, .int .i64 z] 3 (0, 0))) : Calls Tryd.prog 46 #[.slice (some ⟨g, 0, none⟩) 3 3] W fun e w' => e = .returned (.int .i64 (orI [x, y, z])) ∧ W = w' :=
  or_any [x, y, z] g 0 3 3 W rfl (fun j hj => by
    simp only [World.cell?, h, Nat.zero_add]
    match j, hj with
    | 0, _ => rfl
    | 1, _ => rfl
    | 2, _ => rfl) (by show 3 ≤ 1000; omega)
/-- Two boxes of vectors, one behind the other. -/
theorem box2 (a b c d e f : Int) (w : World) : let W := (w.alloc (.cells #[.int .i64 a, .int .i64 b, .int .i64 c] 23)).alloc (.cells #[.int .i64 d, .int .i64 e, .int .i64 f] 23)
    W.cell? ⟨w.heap.size, 0, none⟩ = some (.int .i64 a) ∧ W.cell? ⟨w.heap.size, 1, none⟩ = some (.int .i64 b) ∧ W.cell? ⟨w.heap.size, 2, none⟩ = some (.int .i64 c) ∧ W.cell? ⟨w.heap.size + 1, 0, none⟩ = some (.int .i64 d) ∧ W.cell? ⟨w.heap.size + 1, 1, none⟩ = some (.int .i64 e) ∧ W.cell? ⟨w.heap.size + 1, 2, none⟩ = some (.int .i64 f) := by
  intro W
  have h1 := heap_alloc_new (w.alloc (.cells #[.int .i64 a, .int .i64 b, .int .i64 c] 23)) (.cells #[.int .i64 d, .int .i64 e, .int .i64 f] 23)
  rw [World.size_alloc] at h1
  have h0 : W.heap[w.heap.size]? = _ := (Below.heap_alloc (w.alloc (.cells #[.int .i64 a, .int .i64 b, .int .i64 c] 23)) (.cells #[.int .i64 d, .int .i64 e, .int .i64 f] 23) w.heap.size (by rw [World.size_alloc]; omega)).trans (heap_alloc_new w _)
  replace h1 : W.heap[w.heap.size + 1]? = _ := h1
  simp [World.cell?, h0, h1]
set_option maxRecDepth 100000 in
set_option maxHeartbeats 4000000 in
theorem compare_any (a b c d e f : Int) (w : World) : Calls Tryd.prog 34 #[vec a b c, vec d e f] w fun r w' => r = .returned (.int .i64 (cmp3 a b c d e f)) ∧ Grew w w' := by
  have h1 := fun W => Tryd.cmp_Compare_int a d W
  have h2 := fun W => Tryd.cmp_Compare_int b e W
  have h3 := fun W => Tryd.cmp_Compare_int c f W
  have hE := fhid (show cmp3 a b c d e f = orI [Lib.compareInt a d, Lib.compareInt b e, Lib.compareInt c f] from rfl)
  generalize Lib.compareInt a d = x at *
  generalize Lib.compareInt b e = y at *
  generalize Lib.compareInt c f = z at *
  have h4 := or3 x y z
  go_enter Tryd.func34, Tryd.ntmps34
  go_wp2_with fail
  obtain ⟨c0, c1, c2, c3, c4, c5⟩ := box2 a b c d e f w
  have g0 := ((Grew.refl w).alloc (.cells #[.int .i64 a, .int .i64 b, .int .i64 c] 23)).alloc (.cells #[.int .i64 d, .int .i64 e, .int .i64 f] 23)
  generalize ((w.alloc _).alloc _) = w2 at *
  refine wp_region_still_tail 15 (by kernel_rfl) (by kernel_rfl) ?_
  simp only [List.take_succ_cons, List.take_zero, List.drop_succ_cons, List.drop_zero]
  iterate 4 still_step
  still_call (h1 _)
  iterate 4 still_step
  still_call (h2 _)
  iterate 4 still_step
  still_call (h3 _)
  refine wpStill_nil ?_
  change wpList _ _ _ _ _ w2.drew
  replace g0 := g0.drew
  clear c0 c1 c2 c3 c4 c5
  generalize w2.drew = w3 at *
  go_wp2_with (go_at_call 46; (with_reducible refine (h4 _ _ (heap_alloc_new _ _)).mono ?_); rintro e w1 ⟨rfl, rfl⟩)
  go_ret
  exact ⟨fret1 hE.out.symm, g0.alloc _⟩
end Go.Proofs.YtkmknogejhhajaaDoor
