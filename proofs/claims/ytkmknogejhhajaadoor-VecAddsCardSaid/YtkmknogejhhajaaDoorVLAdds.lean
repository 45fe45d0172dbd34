/-
  VecAdds, walked.
-/
import Derived.Test.YtkmknogejhhajaaDoorVAlive
namespace Go.Proofs.YtkmknogejhhajaaDoor
open Go.RowKit

theorem heap_alloc_new2 (w : World) (o o2 : Obj) : ((w.alloc o).alloc o2).heap[w.heap.size + 1]? = some o2 := by
  have := heap_alloc_new (w.alloc o) o2
  rwa [World.size_alloc] at this
theorem addTwo (a b c d e f : Int) (g : Nat) (W : World) (h : W.heap[g]? = some (.cells #[.int .i64 a, .int .i64 b, .int .i64 c, .int .i64 d, .int .i64 e, .int .i64 f] 23 (0, 0))) : Calls Tryd.prog 19 #[.slice (some ⟨g, 0, none⟩) 2 2] W (VP W (addV [(a, b, c), (d, e, f)])) :=
  Add_any (some ⟨g, 0, none⟩) [(a, b, c), (d, e, f)] 2 W (segV_two a b c d e f g W h) (by simp)
theorem addV_two (a b c d e f : Int) : addV [(a, b, c), (d, e, f)] = if (right a b c && right d e f) = true then okV (a + d) (b + e) (c + f) else ((0, 0, 0), 1) := by
  unfold addV allR
  simp only [List.all_cons, List.all_nil, Bool.and_true]
  cases h1 : right a b c with
  | false => simp
  | true =>
    cases h2 : right d e f with
    | false => simp
    | true =>
      simp only [Bool.and_self, if_true]
      unfold addGo
      simp only [Int.zero_add, h1, if_true]
      unfold addGo okV
      simp only [addGo]
theorem addV_comm (a b c d e f : Int) : addV [(d, e, f), (a, b, c)] = addV [(a, b, c), (d, e, f)] := by
  rw [addV_two, addV_two, Bool.and_comm, Int.add_comm d a, Int.add_comm e b, Int.add_comm f c]
set_option maxRecDepth 100000 in
set_option maxHeartbeats 4000000 in
theorem adds_bad (a b c d e f E : Int) (w : World) (hw : Env w) (hE : E ≠ 0) (hR : addV [(a, b, c), (d, e, f)] = ((0, 0, 0), E)) : Calls Tryd.prog 8 #[vec a b c, vec d e f] w (TP w true) := by
  have hA1 := addTwo a b c d e f
  have hA2 := addTwo d e f a b c
  rw [addV_comm, hR] at hA2
  rw [hR] at hA1
  unfold VP at hA1 hA2
  simp only [vv] at hA1 hA2
  have hal := fun W (hW : Env W) => alive_any W hW
  have hE2 : (E != 0) = true := by simpa using hE
  have hnq := fun W => neq_vec 0 0 0 0 0 0 W
  rw [decide_eq_true (show (0 : Int) = 0 ∧ (0 : Int) = 0 ∧ (0 : Int) = 0 from ⟨rfl, rfl, rfl⟩)] at hnq
  clear hR
  replace hw := fhid hw
  go_enter Tryd.func8, Tryd.ntmps8
  go_upto_region 1 with fail
  obtain ⟨g0, b0, b1⟩ := box2V a b c d e f w
  generalize ((w.alloc _).alloc _) = w1 at *
  obtain ⟨c0, c1, c2, _, _⟩ := VB.facts b0
  obtain ⟨d0, d1, d2, _, _⟩ := VB.facts b1
  replace b0 := fhid b0
  replace b1 := fhid b1
  replace g0 := fhid g0
  go_wp2_with (first
    | (go_at_call 19; (with_reducible refine (hA1 _ _ (heap_alloc_new _ _)).mono ?_); clear hA1; rintro r w2 ⟨rfl, b2⟩
       have y2 := fhid (((Grew.refl w1).alloc (.cells #[.int .i64 a, .int .i64 b, .int .i64 c, .int .i64 d, .int .i64 e, .int .i64 f] 23)).below.trans (b2.mono (by simp)))
       have k0 := fhid (b0.out.on y2.out)
       have k1 := fhid (b1.out.on y2.out)
       have s2 := fhid (VB.new w2 0 0 0 _ rfl)
       clear c0 c1 c2 d0 d1 d2
       obtain ⟨c0, c1, c2, _, _⟩ := k0.out.facts
       obtain ⟨d0, d1, d2, _, _⟩ := k1.out.facts)
    | (go_at_call 19; (with_reducible refine (hA2 _ _ (heap_alloc_new2 _ _ _)).mono ?_); clear hA2; rintro r w3 ⟨rfl, b3⟩
       have y3 := fhid ((((Grew.refl w2).alloc (.cells #[.int .i64 0, .int .i64 0, .int .i64 0] 23)).alloc (.cells #[.int .i64 d, .int .i64 e, .int .i64 f, .int .i64 a, .int .i64 b, .int .i64 c] 23)).below.trans (b3.mono (by simp; omega)))
       have s3 := fhid ((s2.out.grew ((Grew.refl _).alloc (.cells #[.int .i64 d, .int .i64 e, .int .i64 f, .int .i64 a, .int .i64 b, .int .i64 c] 23))).on b3)
       clear c0 c1 c2 d0 d1 d2
       obtain ⟨e0, e1, e2, _, _⟩ := s3.out.facts
       have z2 := g0.out.below.trans (y2.out.mono g0.out.below.size)
       have z3 := z2.trans (y3.out.mono z2.size)
       have z4 := fhid (z3.trans (((Grew.refl w3).alloc (.cells #[.int .i64 0, .int .i64 0, .int .i64 0] 23)).below.mono z3.size))
       clear z2 z3)
    | (go_at_call 18; (with_reducible refine (hal _ (hw.out.below z4.out)).mono ?_); rintro r w4 ⟨rfl, b4⟩))
  go_ret
  exact ⟨rfl, z4.out.trans (b4.mono z4.out.size)⟩
set_option maxRecDepth 100000 in
set_option maxHeartbeats 4000000 in
theorem adds_good (a b c d e f : Int) (w : World) (hw : Env w) (h1 : right a b c = true) (h2 : right d e f = true) (h3 : right (a + d) (b + e) (c + f) = true) : Calls Tryd.prog 8 #[vec a b c, vec d e f] w (TP w true) := by
  have hR : addV [(a, b, c), (d, e, f)] = ((a + d, b + e, c + f), 0) := by
    rw [addV_two, h1, h2, if_pos (by rfl)]
    unfold okV
    rw [if_pos h3]
  have hA1 := addTwo a b c d e f
  have hA2 := addTwo d e f a b c
  rw [addV_comm, hR] at hA2
  rw [hR] at hA1
  have hS := fun W => Sub_any (a + d) (b + e) (c + f) a b c W
  have hSV : subV (a + d, b + e, c + f) (a, b, c) = ((d, e, f), 0) := by
    unfold subV okV
    simp only [h1, h3, Bool.and_self, if_true]
    rw [show a + d - a = d by omega, show b + e - b = e by omega, show c + f - c = f by omega, if_pos h2]
  rw [hSV] at hS
  unfold VP at hA1 hA2 hS
  simp only [vv] at hA1 hA2 hS
  have hp1 := right_iff.1 h1
  have hp2 := right_iff.1 h2
  have hF1 := fun W => Fits_any a b c (a + d) (b + e) (c + f) W
  rw [decide_eq_true (show a ≤ a + d ∧ b ≤ b + e ∧ c ≤ c + f by omega)] at hF1
  have hF2 := fun W => Fits_any d e f (a + d) (b + e) (c + f) W
  rw [decide_eq_true (show d ≤ a + d ∧ e ≤ b + e ∧ f ≤ c + f by omega)] at hF2
  have hal := fun W (hW : Env W) => alive_any W hW
  generalize a + d = x at *
  generalize b + e = y at *
  generalize c + f = z at *
  have hnq := fun W => neq_vec x y z x y z W
  rw [decide_eq_true (show x = x ∧ y = y ∧ z = z from ⟨rfl, rfl, rfl⟩)] at hnq
  have heq := fun W => eql_vec d e f d e f W
  rw [decide_eq_true (show d = d ∧ e = e ∧ f = f from ⟨rfl, rfl, rfl⟩)] at heq
  clear hR hSV h1 h2 h3 hp1 hp2
  replace hw := fhid hw
  go_enter Tryd.func8, Tryd.ntmps8
  go_upto_region 1 with fail
  obtain ⟨g0, b0, b1⟩ := box2V a b c d e f w
  generalize ((w.alloc _).alloc _) = w1 at *
  obtain ⟨c0, c1, c2, _, _⟩ := VB.facts b0
  obtain ⟨d0, d1, d2, _, _⟩ := VB.facts b1
  replace b0 := fhid b0
  replace b1 := fhid b1
  replace g0 := fhid g0
  go_wp2_with (first
    | (go_at_call 19; (with_reducible refine (hA1 _ _ (heap_alloc_new _ _)).mono ?_); clear hA1; rintro r w2 ⟨rfl, b2⟩
       have y2 := fhid (((Grew.refl w1).alloc (.cells #[.int .i64 a, .int .i64 b, .int .i64 c, .int .i64 d, .int .i64 e, .int .i64 f] 23)).below.trans (b2.mono (by simp)))
       have k0 := fhid (b0.out.on y2.out)
       have k1 := fhid (b1.out.on y2.out)
       have s2 := fhid (VB.new w2 x y z _ rfl)
       clear c0 c1 c2 d0 d1 d2
       obtain ⟨c0, c1, c2, _, _⟩ := k0.out.facts
       obtain ⟨d0, d1, d2, _, _⟩ := k1.out.facts)
    | (go_at_call 19; (with_reducible refine (hA2 _ _ (heap_alloc_new2 _ _ _)).mono ?_); clear hA2; rintro r w3 ⟨rfl, b3⟩
       have y3 := fhid ((((Grew.refl w2).alloc (.cells #[.int .i64 x, .int .i64 y, .int .i64 z] 23)).alloc (.cells #[.int .i64 d, .int .i64 e, .int .i64 f, .int .i64 a, .int .i64 b, .int .i64 c] 23)).below.trans (b3.mono (by simp; omega)))
       have s3 := fhid ((s2.out.grew ((Grew.refl _).alloc (.cells #[.int .i64 d, .int .i64 e, .int .i64 f, .int .i64 a, .int .i64 b, .int .i64 c] 23))).on b3)
       have m0 := fhid (k0.out.on y3.out)
       have m1 := fhid (k1.out.on y3.out)
       clear c0 c1 c2 d0 d1 d2
       obtain ⟨e0, e1, e2, _, _⟩ := s3.out.facts
       obtain ⟨c0, c1, c2, _, _⟩ := m0.out.facts
       have z2 := g0.out.below.trans (y2.out.mono g0.out.below.size)
       have z3 := z2.trans (y3.out.mono z2.size)
       have z4 := fhid (z3.trans (((Grew.refl w3).alloc (.cells #[.int .i64 x, .int .i64 y, .int .i64 z] 23)).below.mono z3.size))
       clear z2 z3)
    | (go_at_call 21; (with_reducible refine (hS _).mono ?_); clear hS; rintro r w5 ⟨rfl, b5⟩
       have y5 := fhid (((Grew.refl w3).alloc (.cells #[.int .i64 x, .int .i64 y, .int .i64 z] 23)).below.trans (b5.mono (by simp)))
       have s5 := fhid (s3.out.on y5.out)
       have n0 := fhid (m0.out.on y5.out)
       have n1 := fhid (m1.out.on y5.out)
       have z5 := fhid (z4.out.trans (b5.mono z4.out.size))
       have z6 := fhid (z5.out.trans (((Grew.refl w5).alloc (.cells #[.int .i64 d, .int .i64 e, .int .i64 f] 23)).below.mono z5.out.size))
       clear e0 e1 e2 c0 c1 c2
       obtain ⟨e0, e1, e2, _, _⟩ := s5.out.facts
       obtain ⟨c0, c1, c2, _, _⟩ := n0.out.facts
       obtain ⟨d0, d1, d2, _, _⟩ := n1.out.facts)
    | (go_at_call 12; (with_reducible refine (hF1 _).mono ?_); clear hF1; rintro r w7 ⟨rfl, g7⟩
       have h7 := ((Grew.refl w5).alloc (.cells #[.int .i64 d, .int .i64 e, .int .i64 f] 23)).trans g7
       clear e0 e1 e2 c0 c1 c2 d0 d1 d2
       obtain ⟨e0, e1, e2, _, _⟩ := (s5.out.grew h7).facts
       obtain ⟨d0, d1, d2, _, _⟩ := (n1.out.grew h7).facts
       have z7 := fhid (z6.out.trans (g7.below.mono z6.out.size)))
    | (go_at_call 12; (with_reducible refine (hF2 _).mono ?_); clear hF2; rintro r w8 ⟨rfl, g8⟩
       have z8 := fhid (z7.out.trans (g8.below.mono z7.out.size)))
    | (go_at_call 18; (with_reducible refine (hal _ (hw.out.below z8.out)).mono ?_); rintro r w9 ⟨rfl, b9⟩))
  go_ret
  exact ⟨rfl, z8.out.trans (b9.mono z8.out.size)⟩
theorem adds_walk (a b c d e f : Int) (w : World) (hw : Env w) : Calls Tryd.prog 8 #[vec a b c, vec d e f] w (TP w true) := by
  have h := addV_two a b c d e f
  cases h1 : right a b c with
  | false => exact adds_bad a b c d e f 1 w hw (by decide) (by rw [h, h1]; rfl)
  | true =>
    cases h2 : right d e f with
    | false => exact adds_bad a b c d e f 1 w hw (by decide) (by rw [h, h1, h2]; rfl)
    | true =>
      rcases okV_cases (a + d) (b + e) (c + f) with ⟨ho, hr⟩ | ⟨ho, hr⟩
      · exact adds_good a b c d e f w hw h1 h2 hr
      · exact adds_bad a b c d e f 5 w hw (by decide) (by rw [h, h1, h2, if_pos (by rfl), ho])
end Go.Proofs.YtkmknogejhhajaaDoor
