/-
  The document's Into.
-/
import Derived.Test.YtkmknogejhhajaaDoorVInto2
namespace Go.Proofs.YtkmknogejhhajaaDoor
open Go.RowKit

theorem box2V (a b c d e f : Int) (w : World) : let W := (w.alloc (.cells #[.int .i64 a, .int .i64 b, .int .i64 c] 23)).alloc (.cells #[.int .i64 d, .int .i64 e, .int .i64 f] 23)
    Grew w W ∧ VB W w.heap.size a b c ∧ VB W (w.heap.size + 1) d e f := by
  intro W
  refine ⟨((Grew.refl w).alloc _).alloc _, ?_, ?_⟩
  · exact (Below.heap_alloc _ _ w.heap.size (by simp)).trans (heap_alloc_new w _)
  · have h := heap_alloc_new (w.alloc (.cells #[.int .i64 a, .int .i64 b, .int .i64 c] 23)) (.cells #[.int .i64 d, .int .i64 e, .int .i64 f] 23)
    rw [World.size_alloc] at h
    exact h
theorem quo_wrap {n m : Int} (h0 : 0 < n) (h1 : n ≤ 1073741824) (h2 : 0 ≤ m) (h3 : m ≤ 1073741824) : IntKind.i64.wrap (m.tdiv n) = ti n m ∧ wrap64 (m / n) = ti n m ∧ IntKind.i64.wrap (m / n) = ti n m ∧ m / n = ti n m := by
  have hb := ti_le (by omega) h1 h2 h3
  have e := ti_pos (m := m) h0
  have e2 : m.tdiv n = m / n := Int.tdiv_eq_ediv_of_nonneg h2
  rw [← e2, ← e]
  have k : IntKind.i64.wrap (ti n m) = ti n m := IntWalk.i64_in _ (by omega)
  exact ⟨k, wrap_same _ ⟨by omega, by omega⟩, k, rfl⟩
set_option maxRecDepth 100000 in
set_option maxHeartbeats 4000000 in
theorem rInto_any (a b c d e f : Int) (w : World) : Calls Tryd.prog 15 #[vec a b c, vec d e f] w fun r w' => r = .returned (.int .i64 (in3 a b c d e f)) ∧ Grew w w' := by
  obtain ⟨R, hR⟩ : ∃ R, in3 a b c d e f = R := ⟨_, rfl⟩
  rw [hR]
  unfold in3 at hR
  have hr1 := fun W => rRight_any a b c W
  have hr2 := fun W => rRight_any d e f W
  have hp1 := @right_iff a b c
  have hp2 := @right_iff d e f
  have hst := in_steps a b c d e f
  cases hq1 : right a b c with
  | false =>
    rw [hq1] at hr1 hR
    rw [if_neg (by simp)] at hR
    clear hq1 hp1 hp2 hr2 hst
    replace hR := fhid hR
    go_enter Tryd.func15, Tryd.ntmps15
    go_upto_region 1 with fail
    obtain ⟨g0, b0, b1⟩ := box2V a b c d e f w
    generalize ((w.alloc _).alloc _) = w1 at *
    obtain ⟨c0, c1, c2, _⟩ := VB.facts b0
    go_wp2_with (go_at_call 11; (with_reducible refine (hr1 _).mono ?_); rintro r w3 ⟨rfl, g3⟩)
    go_ret
    exact ⟨fret1 hR.out, g0.trans g3⟩
  | true =>
    cases hq2 : right d e f with
    | false =>
      rw [hq1] at hr1 hR
      rw [hq2] at hr2 hR
      rw [if_neg (by simp)] at hR
      clear hq1 hq2 hp1 hp2 hst
      replace hR := fhid hR
      go_enter Tryd.func15, Tryd.ntmps15
      go_upto_region 1 with fail
      obtain ⟨g0, b0, b1⟩ := box2V a b c d e f w
      generalize ((w.alloc _).alloc _) = w1 at *
      obtain ⟨c0, c1, c2, _⟩ := VB.facts b0
      replace b1 := fhid b1
      go_wp2_with (first
        | (go_at_call 11; (with_reducible refine (hr1 _).mono ?_); clear hr1; rintro r w3 ⟨rfl, g3⟩
           obtain ⟨e0, e1, e2, _⟩ := (b1.out.grew g3).facts)
        | (go_at_call 11; (with_reducible refine (hr2 _).mono ?_); rintro r w4 ⟨rfl, g4⟩))
      go_ret
      exact ⟨fret1 hR.out, (g0.trans g3).trans g4⟩
    | true =>
      obtain ⟨⟨a0, a1⟩, ⟨b0, b1⟩, c0, c1⟩ := hp1.1 hq1
      obtain ⟨⟨d0, d1⟩, ⟨e0, e1⟩, f0, f1⟩ := hp2.1 hq2
      have hst' := hst hq1 hq2
      rw [hq1] at hr1 hR
      rw [hq2] at hr2 hR
      rw [if_pos (by rfl), hst'] at hR
      clear hq1 hq2 hp1 hp2 hst hst'
      have q1 := fun h : 0 < a => quo_wrap h a1 d0 d1
      have q2 := fun h : 0 < b => quo_wrap h b1 e0 e1
      have q3 := fun h : 0 < c => quo_wrap h c1 f0 f1
      unfold inStep at hR
      clear a0 a1 b0 b1 c0 c1
      generalize ti a d = x at *
      generalize ti b e = y at *
      generalize ti c f = z at *
      replace q1 := fhid q1
      replace q2 := fhid q2
      replace q3 := fhid q3
      by_cases h1 : 0 < a <;> by_cases h2 : 0 < b <;> by_cases h3 : 0 < c
      all_goals
        simp only [h1, h2, h3, if_true, if_false] at hR
        replace hR := fhid hR
        try (obtain ⟨u1, u2, u3, u4⟩ := q1.out h1; replace u4 := fhid u4; have v1 : ¬ a = 0 := (by omega); have v1' : (a == 0) = false := by simpa using v1)
        try (obtain ⟨s1, s2, s3, s4⟩ := q2.out h2; replace s4 := fhid s4; have v2 : ¬ b = 0 := (by omega); have v2' : (b == 0) = false := by simpa using v2)
        try (obtain ⟨t1, t2, t3, t4⟩ := q3.out h3; replace t4 := fhid t4; have v3 : ¬ c = 0 := (by omega); have v3' : (c == 0) = false := by simpa using v3)
        have m2 := min_two
        go_enter Tryd.func15, Tryd.ntmps15
        go_upto_region 1 with fail
        obtain ⟨g0, b0, b1⟩ := box2V a b c d e f w
        generalize ((w.alloc _).alloc _) = w1 at *
        obtain ⟨c0, c1, c2, _⟩ := VB.facts b0
        replace b0 := fhid b0
        replace b1 := fhid b1
        go_wp2_with (first
          | (go_at_call 11; (with_reducible refine (hr1 _).mono ?_); clear hr1; rintro r w3 ⟨rfl, g3⟩
             obtain ⟨e0, e1, e2, _⟩ := (b1.out.grew g3).facts)
          | (go_at_call 11; (with_reducible refine (hr2 _).mono ?_); clear hr2; rintro r w4 ⟨rfl, g4⟩
             clear c0 c1 c2 e0 e1 e2
             obtain ⟨k0, k1, k2, _⟩ := ((b0.out.grew g3).grew g4).facts
             obtain ⟨l0, l1, l2, _⟩ := ((b1.out.grew g3).grew g4).facts))
        go_ret
        have hR2 := hR.out
        try (replace u4 := u4.out)
        try (replace s4 := s4.out)
        try (replace t4 := t4.out)
        exact ⟨fret1 (by omega), (g0.trans g3).trans g4⟩
end Go.Proofs.YtkmknogejhhajaaDoor
