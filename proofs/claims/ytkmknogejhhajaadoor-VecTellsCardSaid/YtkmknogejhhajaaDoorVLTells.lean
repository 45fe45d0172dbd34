/-
  VecTells, walked.
-/
import Derived.Test.YtkmknogejhhajaaDoorVHeld
import Derived.Test.YtkmknogejhhajaaDoorVInto3
import Derived.Lib.QuietBelow
import Derived.BigQuiet
namespace Go.Proofs.YtkmknogejhhajaaDoor
open Go.RowKit

set_option maxRecDepth 100000 in
set_option maxHeartbeats 4000000 in
theorem tells_walk (a b c d e f : Int) (w : World) (hw : Env w) : Calls Tryd.prog 3 #[vec a b c, vec d e f] w (TP w true) := by
  have k1 := fun W => (Right_any a b c W).mono fun e W' (h : BP W _ e W') => (show e = .returned (.bool (right a b c)) ∧ Below W.heap.size W W' from ⟨h.1, h.2.below⟩)
  have k2 := fun W => (rRight_any a b c W).mono fun e W' (h : BP W _ e W') => (show e = .returned (.bool (right a b c)) ∧ Below W.heap.size W W' from ⟨h.1, h.2.below⟩)
  have k3 := fun W => (Fits_any a b c d e f W).mono fun r W' (h : BP W _ r W') => (show r = .returned (.bool (decide (a ≤ d ∧ b ≤ e ∧ c ≤ f))) ∧ Below W.heap.size W W' from ⟨h.1, h.2.below⟩)
  have k4 := fun W => (rFits_any a b c d e f W).mono fun r W' (h : BP W _ r W') => (show r = .returned (.bool (decide (a ≤ d ∧ b ≤ e ∧ c ≤ f))) ∧ Below W.heap.size W W' from ⟨h.1, h.2.below⟩)
  have k5 := fun W => (Into_any a b c d e f W).mono fun r W' h => (show r = .returned (.int .i64 (in3 a b c d e f)) ∧ Below W.heap.size W W' from ⟨h.1, h.2.below⟩)
  have k6 := fun W => (rInto_any a b c d e f W).mono fun r W' h => (show r = .returned (.int .i64 (in3 a b c d e f)) ∧ Below W.heap.size W W' from ⟨h.1, h.2.below⟩)
  have k7 := fun W => (Less_any a b c d e f W).mono fun r W' (h : BP W _ r W') => (show r = .returned (.bool (less3 a b c d e f)) ∧ Below W.heap.size W W' from ⟨h.1, h.2.below⟩)
  have k8 := fun W => (rLess_any a b c d e f W).mono fun r W' (h : BP W _ r W') => (show r = .returned (.bool (less3 a b c d e f)) ∧ Below W.heap.size W W' from ⟨h.1, h.2.below⟩)
  have k9 := fun W (hW : Env W) => (alive_any W hW).mono fun r W' (h : TP W true r W') => (show r = .returned (.bool true) ∧ Below W.heap.size W W' from h)
  generalize right a b c = x1 at *
  generalize decide (a ≤ d ∧ b ≤ e ∧ c ≤ f) = x2 at *
  generalize in3 a b c d e f = x3 at *
  generalize less3 a b c d e f = x4 at *
  go_enter Tryd.func3, Tryd.ntmps3
  go_upto_region 1 with fail
  obtain ⟨g0, b0, b1⟩ := box2V a b c d e f w
  generalize ((w.alloc _).alloc _) = w1 at *
  obtain ⟨c0, c1, c2, _, _⟩ := VB.facts b0
  obtain ⟨d0, d1, d2, _, _⟩ := VB.facts b1
  have q0 := fun d os => cell_regrown c0 d os
  have q1 := fun d os => cell_regrown c1 d os
  have q2 := fun d os => cell_regrown c2 d os
  have q3 := fun d os => cell_regrown d0 d os
  have q4 := fun d os => cell_regrown d1 d os
  have q5 := fun d os => cell_regrown d2 d os
  have hw1 : ∀ d os, Env (Sort.grow (redrawn w1 d) os) := fun d os => hw.below (g0.below.trans ((below_regrown w1 d os).mono g0.below.size))
  have m1 := fun d os => Calls.regrown_of (k1 (Sort.grow (redrawn w1 d) os))
  have m2 := fun d os => Calls.regrown_of (k2 (Sort.grow (redrawn w1 d) os))
  have m3 := fun d os => Calls.regrown_of (k3 (Sort.grow (redrawn w1 d) os))
  have m4 := fun d os => Calls.regrown_of (k4 (Sort.grow (redrawn w1 d) os))
  have m5 := fun d os => Calls.regrown_of (k5 (Sort.grow (redrawn w1 d) os))
  have m6 := fun d os => Calls.regrown_of (k6 (Sort.grow (redrawn w1 d) os))
  have m7 := fun d os => Calls.regrown_of (k7 (Sort.grow (redrawn w1 d) os))
  have m8 := fun d os => Calls.regrown_of (k8 (Sort.grow (redrawn w1 d) os))
  have m9 := fun d os => Calls.regrown_of (k9 (Sort.grow (redrawn w1 d) os) (hw1 d os))
  clear k1 k2 k3 k4 k5 k6 k7 k8 k9 c0 c1 c2 d0 d1 d2 b0 b1
  refine wp_region_quiet_below (by kernel_rfl) (by kernel_rfl) ?_
  repeat (first
    | go_big_quiet_step ((first | exact m1 _ _ | exact m2 _ _ | exact m3 _ _ | exact m4 _ _ | exact m5 _ _ | exact m6 _ _ | exact m7 _ _ | exact m8 _ _ | exact m9 _ _))
    | quiet_step ((first | exact m1 _ _ | exact m2 _ _ | exact m3 _ _ | exact m4 _ _ | exact m5 _ _ | exact m6 _ _ | exact m7 _ _ | exact m8 _ _ | exact m9 _ _)))
  refine wpQuiet_nil ?_
  rintro w9 ⟨pq, rfl⟩
  have b9 := below_regrown w1 pq.d pq.os
  go_wp2_with fail
  go_ret
  exact ⟨rfl, g0.below.trans (b9.mono g0.below.size)⟩
end Go.Proofs.YtkmknogejhhajaaDoor
