/-
  VecTexts, walked.
-/
import Derived.Test.YtkmknogejhhajaaDoorVHeld
import Derived.Test.YtkmknogejhhajaaDoorVRParse
namespace Go.Proofs.YtkmknogejhhajaaDoor
open Go.RowKit

set_option maxRecDepth 100000 in
set_option maxHeartbeats 4000000 in
theorem texts_walk (a b c : Int) (s : ByteArray) (hs : s.size ≤ 140737488355328) (w : World) (hw : Env w) (ha : I64 a) (hb : I64 b) (hc : I64 c) : Calls Tryd.prog 5 #[vec a b c, .string s] w (TP w true) := by
  have k1 := fun W (hW : Env W) => (Format_any a b c W hW ha hb hc).mono fun e W' h => (show e = .returned (.string (str (fmt (a, b, c)))) ∧ Below W.heap.size W W' from h)
  have k2 := fun W => rFormat_any a b c W ha hb hc
  have k3 := fun W (hW : Env W) => alive_any W hW
  have hp := fun W (hW : Env W) => Parse_any s hs W hW
  have hq := fun W => rParse_any s W
  unfold VP at hp hq
  generalize parseP (bl s) = R at *
  obtain ⟨⟨x, y, z⟩, E⟩ := R
  simp only [vv] at hp hq
  generalize str (fmt (a, b, c)) = F at *
  clear ha hb hc hs
  have hve := fun W => veq x y z W
  replace hw := fhid hw
  go_enter Tryd.func5, Tryd.ntmps5
  go_upto_region 1 with fail
  have g0 := (Grew.refl w).alloc (.cells #[.int .i64 a, .int .i64 b, .int .i64 c] 23)
  have v0 := fhid (VB.new w a b c _ rfl)
  have y0 := fhid g0.below
  clear g0
  generalize w.alloc _ = w1 at *
  go_upto_region 3 with (first
    | (go_at_call 25; (with_reducible refine (hp _ (hw.out.below y0.out)).mono ?_); clear hp; rintro r w2 ⟨rfl, b2⟩
       have v1 := fhid ((v0.out.on b2).grew ((Grew.refl w2).alloc (.cells #[.int .i64 x, .int .i64 y, .int .i64 z] 23)))
       have n1 := fhid (VB.new w2 x y z _ rfl)
       have y1 := fhid ((y0.out.trans (b2.mono y0.out.size)).trans (((Grew.refl w2).alloc (.cells #[.int .i64 x, .int .i64 y, .int .i64 z] 23)).below.mono (y0.out.trans (b2.mono y0.out.size)).size)))
    | (go_at_call 26; (with_reducible refine (hq _).mono ?_); clear hq; rintro r w3 ⟨rfl, b3⟩
       have v2 := fhid ((v1.out.on b3).grew ((Grew.refl w3).alloc (.cells #[.int .i64 x, .int .i64 y, .int .i64 z] 23)))
       have n2 := fhid ((n1.out.on b3).grew ((Grew.refl w3).alloc (.cells #[.int .i64 x, .int .i64 y, .int .i64 z] 23)))
       have n3 := fhid (VB.new w3 x y z _ rfl)
       have y3 := fhid ((y1.out.trans (b3.mono y1.out.size)).trans (((Grew.refl w3).alloc (.cells #[.int .i64 x, .int .i64 y, .int .i64 z] 23)).below.mono (y1.out.trans (b3.mono y1.out.size)).size))))
  clear v0 y0 v1 n1 y1 b2 b3
  generalize w3.alloc _ = w4 at *
  generalize w2.heap.size = B1 at *
  generalize w3.heap.size = B2 at *
  obtain ⟨c0, c1, c2, _, _⟩ := v2.out.facts
  obtain ⟨d0, d1, d2, _, _⟩ := n2.out.facts
  obtain ⟨e0, e1, e2, _, _⟩ := n3.out.facts
  have q0 := fun d os => cell_regrown c0 d os
  have q1 := fun d os => cell_regrown c1 d os
  have q2 := fun d os => cell_regrown c2 d os
  have q3 := fun d os => cell_regrown d0 d os
  have q4 := fun d os => cell_regrown d1 d os
  have q5 := fun d os => cell_regrown d2 d os
  have q6 := fun d os => cell_regrown e0 d os
  have q7 := fun d os => cell_regrown e1 d os
  have q8 := fun d os => cell_regrown e2 d os
  have hw1 : ∀ d os, Env (Sort.grow (redrawn w4 d) os) := fun d os => hw.out.below (y3.out.trans ((below_regrown w4 d os).mono y3.out.size))
  have m1 := fun d os => Calls.regrown_of (k1 (Sort.grow (redrawn w4 d) os) (hw1 d os))
  have m2 := fun d os => Calls.regrown_of (k2 (Sort.grow (redrawn w4 d) os))
  have m3 := fun d os => Calls.regrown_of ((k3 (Sort.grow (redrawn w4 d) os) (hw1 d os)).mono fun r W' (h : TP _ true r W') => (show r = .returned (.bool true) ∧ Below _ _ W' from h))
  clear k1 k2 k3 c0 c1 c2 d0 d1 d2 e0 e1 e2 v2 n2 n3
  refine wp_region_quiet_below (by kernel_rfl) (by kernel_rfl) ?_
  repeat (first
    | go_big_quiet_step ((first | exact m1 _ _ | exact m2 _ _ | exact m3 _ _))
    | quiet_step ((first | exact m1 _ _ | exact m2 _ _ | exact m3 _ _)))
  refine wpQuiet_nil ?_
  rintro w9 ⟨pq, rfl⟩
  have b9 := below_regrown w4 pq.d pq.os
  go_wp2_with fail
  go_ret
  exact ⟨rfl, y3.out.trans (b9.mono y3.out.size)⟩
end Go.Proofs.YtkmknogejhhajaaDoor
