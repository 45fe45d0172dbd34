/-
  The document's Times; Into, and the document's.
-/
import Derived.Test.YtkmknogejhhajaaDoorVRef
namespace Go.Proofs.YtkmknogejhhajaaDoor
open Go.RowKit

def partP (x n : Int) : Int × Bool := if x = 0 then (0, true) else (x * (n % 1073741825), decide (n ≤ 1073741824 / x))
theorem partP_ok {x n : Int} (x0 : 0 ≤ x) (x1 : x ≤ 1073741824) (n0 : 0 ≤ n) : (partP x n).2 = decide (x * n ≤ 1073741824) ∧ (x * n ≤ 1073741824 → (partP x n).1 = x * n) := by
  unfold partP
  by_cases h : x = 0
  · subst h
    rw [if_pos rfl]
    simp
  · rw [if_neg h]
    have hiff : n ≤ 1073741824 / x ↔ x * n ≤ 1073741824 := by
      rw [Int.le_ediv_iff_mul_le (by omega), Int.mul_comm]
    refine ⟨?_, fun hle => ?_⟩
    · exact decide_eq_decide.2 hiff
    · have hn : n ≤ 1073741824 := by
        have h2 := hiff.2 hle
        have := Int.ediv_le_self x (show (0 : Int) ≤ 1073741824 by omega)
        omega
      show x * (n % 1073741825) = x * n
      rw [Int.emod_eq_of_lt n0 (by omega)]
set_option maxRecDepth 100000 in
set_option maxHeartbeats 1000000 in
theorem part_any (x n : Int) (w : World) (x0 : 0 ≤ x) (x1 : x ≤ 1073741824) (n0 : 0 ≤ n) (n1 : n ≤ 9223372036854775807) :
    Calls Tryd.prog 39 #[.int .i64 x, .int .i64 n] w fun e w' => e = .returned (.tuple #[.int .i64 (partP x n).1, .bool (partP x n).2]) ∧ Grew w w' := by
  by_cases h : x = 0
  · subst h
    go_enter Tryd.func39, Tryd.ntmps39
    go_wp2
    exact bodyPost_ret (v := .tuple #[.int .i64 0, .bool true]) (by simp [results, Tryd.results39, go_sem]) rfl ⟨rfl, Grew.refl w⟩
  · have e1 : (x == 0) = false := by simpa using h
    have hm : 0 ≤ n % 1073741825 ∧ n % 1073741825 ≤ 1073741824 := by omega
    have hp : 0 ≤ x * (n % 1073741825) ∧ x * (n % 1073741825) ≤ 1073741824 * 1073741824 := ⟨Int.mul_nonneg x0 hm.1, Int.mul_le_mul x1 hm.2 hm.1 (by omega)⟩
    have i2 := fhid (wrap_same (x * (n % 1073741825)) ⟨by omega, by omega⟩)
    have hq1 := Int.ediv_nonneg (show (0 : Int) ≤ 1073741824 by omega) x0
    have hq2 := Int.ediv_le_self x (show (0 : Int) ≤ 1073741824 by omega)
    have hE := fhid (show partP x n = (x * (n % 1073741825), decide (n ≤ 1073741824 / x)) from if_neg h)
    clear hp hm
    go_enter Tryd.func39, Tryd.ntmps39
    go_wp2_with fail
    go_quiet (fail)
    go_wp2_with fail
    exact bodyPost_ret (v := .tuple #[.int .i64 (wrap64 (x * (n % 1073741825))), .bool (decide (n ≤ 1073741824 / x))]) (by simp [results, Tryd.results39, go_sem]) rfl ⟨by rw [hE.out, i2.out], (Grew.refl w).drewN _⟩
theorem times_ok (a b c n : Int) (h : right a b c = true) (n0 : 0 ≤ n) : okV (a * n) (b * n) (c * n) = if ((partP a n).2 && (partP b n).2 && (partP c n).2) = true then (((partP a n).1, (partP b n).1, (partP c n).1), 0) else ((0, 0, 0), 5) := by
  obtain ⟨⟨a0, a1⟩, ⟨b0, b1⟩, c0, c1⟩ := right_iff.1 h
  obtain ⟨p1, q1⟩ := partP_ok a0 a1 n0
  obtain ⟨p2, q2⟩ := partP_ok b0 b1 n0
  obtain ⟨p3, q3⟩ := partP_ok c0 c1 n0
  have m1 := Int.mul_nonneg a0 n0
  have m2 := Int.mul_nonneg b0 n0
  have m3 := Int.mul_nonneg c0 n0
  unfold okV
  rw [p1, p2, p3]
  by_cases hr : right (a * n) (b * n) (c * n) = true
  · obtain ⟨⟨_, k1⟩, ⟨_, k2⟩, _, k3⟩ := right_iff.1 hr
    rw [if_pos hr, if_pos (by simp; omega), q1 k1, q2 k2, q3 k3]
  · rw [if_neg hr, if_neg]
    intro hx
    apply hr
    rw [right_iff]
    simp at hx
    omega
set_option maxRecDepth 100000 in
set_option maxHeartbeats 2000000 in
theorem rTimes_any (a b c n : Int) (w : World) (hn : n ≤ 9223372036854775807) : Calls Tryd.prog 24 #[vec a b c, .int .i64 n] w (VP w (timesV (a, b, c) n)) := by
  obtain ⟨R, hR⟩ : ∃ R, timesV (a, b, c) n = R := ⟨_, rfl⟩
  rw [hR]
  unfold timesV at hR
  simp only at hR
  have hr := fun W => rRight_any a b c W
  cases hq : right a b c with
  | false =>
    rw [hq] at hr hR
    rw [if_neg (by simp)] at hR
    clear hq hn
    replace hR := fhid hR
    go_enter Tryd.func24, Tryd.ntmps24
    go_upto_region 1 with fail
    obtain ⟨g0, hs, b0, b2⟩ := box2v a b c w
    generalize ((w.alloc _).alloc _) = w1 at *
    obtain ⟨c0, c1, c2, _⟩ := VB.facts b0
    replace b2 := fhid b2
    clear hs b0
    go_wp2_with (go_at_call 11; (with_reducible refine (hr _).mono ?_); rintro r w3 ⟨rfl, g3⟩
                 have r5 := fhid (b2.out.grew g3)
                 obtain ⟨d0, d1, d2, ⟨u0, u1, u2⟩, yy⟩ := r5.out.facts)
    exact bodyPost_ret (v := .tuple #[vec 0 0 0, .int .i64 1]) (by simp [results, Tryd.results24, go_sem, d0, d1, d2]) rfl (VP.ret hR.out (set3 (g0.trans g3).below (by omega) _ _ _))
  | true =>
    by_cases h0 : n < 0
    · rw [hq] at hr hR
      rw [if_neg (by simp; omega)] at hR
      clear hq hn
      replace hR := fhid hR
      go_enter Tryd.func24, Tryd.ntmps24
      go_upto_region 1 with fail
      obtain ⟨g0, hs, b0, b2⟩ := box2v a b c w
      generalize ((w.alloc _).alloc _) = w1 at *
      obtain ⟨c0, c1, c2, _⟩ := VB.facts b0
      replace b2 := fhid b2
      clear hs b0
      go_wp2_with (go_at_call 11; (with_reducible refine (hr _).mono ?_); rintro r w3 ⟨rfl, g3⟩
                   have r5 := fhid (b2.out.grew g3)
                   obtain ⟨d0, d1, d2, ⟨u0, u1, u2⟩, yy⟩ := r5.out.facts)
      exact bodyPost_ret (v := .tuple #[vec 0 0 0, .int .i64 1]) (by simp [results, Tryd.results24, go_sem, d0, d1, d2]) rfl (VP.ret hR.out (set3 (g0.trans g3).below (by omega) _ _ _))
    · obtain ⟨⟨a0, a1⟩, ⟨b0, b1⟩, c0, c1⟩ := right_iff.1 hq
      have hp1 := fun W => part_any a n W a0 a1 (by omega) hn
      have hp2 := fun W => part_any b n W b0 b1 (by omega) hn
      have hp3 := fun W => part_any c n W c0 c1 (by omega) hn
      have ht := times_ok a b c n hq (by omega)
      rw [hq] at hr hR
      rw [if_pos ⟨rfl, by omega⟩, ht] at hR
      clear hq hn ht a0 a1 b0 b1 c0 c1
      generalize partP a n = P1 at *
      generalize partP b n = P2 at *
      generalize partP c n = P3 at *
      rcases P1 with ⟨x, p⟩
      rcases P2 with ⟨y, q⟩
      rcases P3 with ⟨z, r⟩
      dsimp only at hp1 hp2 hp3 hR
      cases p <;> cases q <;> cases r
      all_goals
        simp only [Bool.and_true, Bool.and_false, Bool.false_eq_true, if_true, if_false] at hR
        replace hR := fhid hR
        go_enter Tryd.func24, Tryd.ntmps24
        go_upto_region 1 with fail
        obtain ⟨g0, hs, kb0, b2⟩ := box2v a b c w
        generalize ((w.alloc _).alloc _) = w1 at *
        obtain ⟨k0, k1, k2, _⟩ := VB.facts kb0
        replace kb0 := fhid kb0
        replace b2 := fhid b2
        replace g0 := fhid g0
        clear hs
        go_wp2_with (first
          | (go_at_call 11; (with_reducible refine (hr _).mono ?_); clear hr; rintro r w3 ⟨rfl, g3⟩
             clear k0 k1 k2
             replace g0 := fhid (g0.out.trans g3); replace kb0 := fhid (kb0.out.grew g3); replace b2 := fhid (b2.out.grew g3)
             obtain ⟨k0, k1, k2, _⟩ := kb0.out.facts)
          | (go_at_call 39; (with_reducible refine (hp1 _).mono ?_); clear hp1; rintro r w4 ⟨rfl, g4⟩
             clear k0 k1 k2
             replace g0 := fhid (g0.out.trans g4); replace kb0 := fhid (kb0.out.grew g4); replace b2 := fhid (b2.out.grew g4)
             obtain ⟨k0, k1, k2, _⟩ := kb0.out.facts)
          | (go_at_call 39; (with_reducible refine (hp2 _).mono ?_); clear hp2; rintro r w5 ⟨rfl, g5⟩
             clear k0 k1 k2
             replace g0 := fhid (g0.out.trans g5); replace kb0 := fhid (kb0.out.grew g5); replace b2 := fhid (b2.out.grew g5)
             obtain ⟨k0, k1, k2, _⟩ := kb0.out.facts)
          | (go_at_call 39; (with_reducible refine (hp3 _).mono ?_); clear hp3; rintro r w6 ⟨rfl, g6⟩
             clear k0 k1 k2
             replace g0 := fhid (g0.out.trans g6); replace b2 := fhid (b2.out.grew g6)
             obtain ⟨d0, d1, d2, ⟨u0, u1, u2⟩, yy⟩ := b2.out.facts))
        first
          | (have hh : (((0 : Int), (0 : Int), (0 : Int)), (5 : Int)) = R := hR.out
             exact bodyPost_ret (v := .tuple #[vec 0 0 0, .int .i64 5]) (by simp [results, Tryd.results24, go_sem, d0, d1, d2]) rfl (VP.ret hh (set3 g0.out.below (by omega) _ _ _)))
          | (have hh : ((x, y, z), (0 : Int)) = R := hR.out
             exact bodyPost_ret (v := .tuple #[vec x y z, .int .i64 0]) (by simp [results, Tryd.results24, go_sem, d0, d1, d2]) rfl (VP.ret hh (set3 g0.out.below (by omega) _ _ _)))
end Go.Proofs.YtkmknogejhhajaaDoor
