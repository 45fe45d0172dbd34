/-
  The document's own Sub and Times; Into, and the document's.
-/
import Derived.Test.YtkmknogejhhajaaDoorVAddL
namespace Go.Proofs.YtkmknogejhhajaaDoor
open Go.RowKit

theorem sub_fits {a b c d e f : Int} (h : right a b c = true) (k : right d e f = true) : right (a - d) (b - e) (c - f) = decide (d ≤ a ∧ e ≤ b ∧ f ≤ c) := by
  obtain ⟨⟨a0, a1⟩, ⟨b0, b1⟩, c0, c1⟩ := right_iff.1 h
  obtain ⟨⟨d0, d1⟩, ⟨e0, e1⟩, f0, f1⟩ := right_iff.1 k
  rw [Bool.eq_iff_iff, right_iff]
  simp
  omega
set_option maxRecDepth 100000 in
set_option maxHeartbeats 2000000 in
theorem rSub_any (a b c d e f : Int) (w : World) : Calls Tryd.prog 22 #[vec a b c, vec d e f] w (VP w (subV (a, b, c) (d, e, f))) := by
  obtain ⟨R, hR⟩ : ∃ R, subV (a, b, c) (d, e, f) = R := ⟨_, rfl⟩
  rw [hR]
  unfold subV at hR
  simp only at hR
  have hr1 := fun W => rRight_any a b c W
  have hr2 := fun W => rRight_any d e f W
  have hfi := fun W => rFits_any d e f a b c W
  have hx := @sub_fits a b c d e f
  have hp1 := @right_iff a b c
  have hp2 := @right_iff d e f
  cases hq1 : right a b c with
  | false =>
    rw [hq1] at hr1 hR
    rw [if_neg (by simp)] at hR
    clear hq1 hx hp1 hp2 hr2 hfi
    replace hR := fhid hR
    go_enter Tryd.func22, Tryd.ntmps22
    go_upto_region 1 with fail
    obtain ⟨g0, hs, b0, b1, b2⟩ := box3 a b c d e f w
    generalize (((w.alloc _).alloc _).alloc _) = w1 at *
    obtain ⟨c0, c1, c2, _⟩ := VB.facts b0
    replace b2 := fhid b2
    clear b0 b1 hs
    go_wp2_with (go_at_call 11; (with_reducible refine (hr1 _).mono ?_); rintro r w3 ⟨rfl, g3⟩
                 have r5 := fhid (b2.out.grew g3)
                 obtain ⟨d0, d1, d2, ⟨u0, u1, u2⟩, yy⟩ := r5.out.facts)
    exact bodyPost_ret (v := .tuple #[vec 0 0 0, .int .i64 1]) (by simp [results, Tryd.results22, go_sem, d0, d1, d2]) rfl (VP.ret hR.out (set3 (g0.trans g3).below (by omega) _ _ _))
  | true =>
    cases hq2 : right d e f with
    | false =>
      rw [hq1] at hr1 hR
      rw [hq2] at hr2 hR
      rw [if_neg (by simp)] at hR
      clear hq1 hq2 hx hp1 hp2 hfi
      replace hR := fhid hR
      go_enter Tryd.func22, Tryd.ntmps22
      go_upto_region 1 with fail
      obtain ⟨g0, hs, b0, b1, b2⟩ := box3 a b c d e f w
      generalize (((w.alloc _).alloc _).alloc _) = w1 at *
      obtain ⟨c0, c1, c2, _⟩ := VB.facts b0
      have kb1 := fhid b1
      replace b2 := fhid b2
      clear b0 b1 hs
      go_wp2_with (first
        | (go_at_call 11; (with_reducible refine (hr1 _).mono ?_); clear hr1; rintro r w3 ⟨rfl, g3⟩
           obtain ⟨e0, e1, e2, _⟩ := (kb1.out.grew g3).facts
           replace b2 := fhid (b2.out.grew g3))
        | (go_at_call 11; (with_reducible refine (hr2 _).mono ?_); rintro r w4 ⟨rfl, g4⟩
           have r5 := fhid (b2.out.grew g4)
           obtain ⟨d0, d1, d2, ⟨u0, u1, u2⟩, yy⟩ := r5.out.facts))
      exact bodyPost_ret (v := .tuple #[vec 0 0 0, .int .i64 1]) (by simp [results, Tryd.results22, go_sem, d0, d1, d2]) rfl (VP.ret hR.out (set3 ((g0.trans g3).trans g4).below (by omega) _ _ _))
    | true =>
      obtain ⟨⟨a0, a1⟩, ⟨b0, b1⟩, c0, c1⟩ := hp1.1 hq1
      obtain ⟨⟨d0, d1⟩, ⟨e0, e1⟩, f0, f1⟩ := hp2.1 hq2
      have hx' := hx hq1 hq2
      rw [hq1] at hr1 hR
      rw [hq2] at hr2 hR
      rw [if_pos (by rfl)] at hR
      unfold okV at hR
      rw [hx'] at hR
      clear hq1 hq2 hx hp1 hp2 hx'
      cases hq : decide (d ≤ a ∧ e ≤ b ∧ f ≤ c) with
      | false =>
        rw [hq] at hfi hR
        rw [if_neg (by simp)] at hR
        clear hq a0 a1 b0 b1 c0 c1 d0 d1 e0 e1 f0 f1
        replace hR := fhid hR
        go_enter Tryd.func22, Tryd.ntmps22
        go_upto_region 1 with fail
        obtain ⟨g0, hs, b0, b1, b2⟩ := box3 a b c d e f w
        generalize (((w.alloc _).alloc _).alloc _) = w1 at *
        obtain ⟨c0, c1, c2, _⟩ := VB.facts b0
        have kb0 := fhid b0
        have kb1 := fhid b1
        replace b2 := fhid b2
        clear b0 b1 hs
        go_wp2_with (first
          | (go_at_call 11; (with_reducible refine (hr1 _).mono ?_); clear hr1; rintro r w3 ⟨rfl, g3⟩
             obtain ⟨e0, e1, e2, _⟩ := (kb1.out.grew g3).facts
             replace b2 := fhid (b2.out.grew g3))
          | (go_at_call 11; (with_reducible refine (hr2 _).mono ?_); clear hr2; rintro r w4 ⟨rfl, g4⟩
             clear c0 c1 c2 e0 e1 e2
             obtain ⟨c0, c1, c2, _⟩ := ((kb0.out.grew g3).grew g4).facts
             obtain ⟨e0, e1, e2, _⟩ := ((kb1.out.grew g3).grew g4).facts
             replace b2 := fhid (b2.out.grew g4))
          | (go_at_call 13; (with_reducible refine (hfi _).mono ?_); rintro r w5 ⟨rfl, g5⟩
             have r5 := fhid (b2.out.grew g5)
             obtain ⟨d0, d1, d2, ⟨u0, u1, u2⟩, yy⟩ := r5.out.facts))
        exact bodyPost_ret (v := .tuple #[vec 0 0 0, .int .i64 5]) (by simp [results, Tryd.results22, go_sem, d0, d1, d2]) rfl (VP.ret hR.out (set3 (((g0.trans g3).trans g4).trans g5).below (by omega) _ _ _))
      | true =>
        rw [hq] at hfi hR
        rw [if_pos rfl] at hR
        clear hq
        replace hR := fhid hR
        go_enter Tryd.func22, Tryd.ntmps22
        go_upto_region 1 with fail
        obtain ⟨g0, hs, kb0, kb1, b2⟩ := box3 a b c d e f w
        generalize (((w.alloc _).alloc _).alloc _) = w1 at *
        obtain ⟨k0, k1, k2, _⟩ := VB.facts kb0
        replace kb0 := fhid kb0
        replace kb1 := fhid kb1
        replace b2 := fhid b2
        clear hs
        go_wp2_with (first
          | (go_at_call 11; (with_reducible refine (hr1 _).mono ?_); clear hr1; rintro r w3 ⟨rfl, g3⟩
             obtain ⟨l0, l1, l2, _⟩ := (kb1.out.grew g3).facts
             replace b2 := fhid (b2.out.grew g3))
          | (go_at_call 11; (with_reducible refine (hr2 _).mono ?_); clear hr2; rintro r w4 ⟨rfl, g4⟩
             clear k0 k1 k2 l0 l1 l2
             have kc0 := fhid ((kb0.out.grew g3).grew g4)
             have kc1 := fhid ((kb1.out.grew g3).grew g4)
             obtain ⟨k0, k1, k2, _⟩ := kc0.out.facts
             obtain ⟨l0, l1, l2, _⟩ := kc1.out.facts
             replace b2 := fhid (b2.out.grew g4))
          | (go_at_call 13; (with_reducible refine (hfi _).mono ?_); rintro r w5 ⟨rfl, g5⟩
             clear k0 k1 k2 l0 l1 l2
             obtain ⟨k0, k1, k2, _⟩ := (kc0.out.grew g5).facts
             obtain ⟨l0, l1, l2, _⟩ := (kc1.out.grew g5).facts
             have r5 := fhid (b2.out.grew g5)
             obtain ⟨m0, m1, m2, ⟨u0, u1, u2⟩, yy⟩ := r5.out.facts))
        exact bodyPost_ret (v := .tuple #[vec (a - d) (b - e) (c - f), .int .i64 0]) (by simp [results, Tryd.results22, go_sem, m0, m1, m2]) rfl (VP.ret hR.out (set3 (((g0.trans g3).trans g4).trans g5).below (by omega) _ _ _))
end Go.Proofs.YtkmknogejhhajaaDoor
