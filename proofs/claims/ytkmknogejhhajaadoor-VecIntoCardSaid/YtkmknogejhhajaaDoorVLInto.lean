/-
  VecInto, walked.
-/
import Derived.Test.YtkmknogejhhajaaDoorVHeld
namespace Go.Proofs.YtkmknogejhhajaaDoor
open Go.RowKit

theorem ti_mul {x m : Int} (h : 0 < x) (hm : 0 ≤ m) (n : Int) (hn : n ≤ ti x m) : x * n ≤ m := by
  rw [ti_pos h, Int.tdiv_eq_ediv_of_nonneg hm] at hn
  have h1 := Int.mul_le_mul_of_nonneg_left hn (Int.le_of_lt h)
  have h2 := Int.mul_ediv_self_le (x := m) (k := x) (by omega)
  omega
theorem ti_over {x m : Int} (h : 0 < x) (hm : 0 ≤ m) : m < x * (ti x m + 1) := by
  rw [ti_pos h, Int.tdiv_eq_ediv_of_nonneg hm]
  have := Int.lt_mul_ediv_self_add (x := m) h
  rw [Int.mul_add, Int.mul_one]
  exact this
theorem part_fits {x m n : Int} (h0 : 0 ≤ x) (hm : 0 ≤ m) (hn : n ≤ ti x m) : x * n ≤ m := by
  by_cases h : x = 0
  · subst h; rw [Int.zero_mul]; exact hm
  · exact ti_mul (by omega) hm n hn
theorem into_facts {a b c d e f : Int} (h1 : right a b c = true) (h2 : right d e f = true) :
    0 ≤ in3 a b c d e f ∧ in3 a b c d e f ≤ 1073741824 ∧ (a * in3 a b c d e f ≤ d ∧ b * in3 a b c d e f ≤ e ∧ c * in3 a b c d e f ≤ f) ∧ right (a * in3 a b c d e f) (b * in3 a b c d e f) (c * in3 a b c d e f) = true ∧
    ((a = 0 ∧ b = 0 ∧ c = 0 ∧ in3 a b c d e f = 1073741824) ∨ (¬ (a = 0 ∧ b = 0 ∧ c = 0) ∧ ¬ (a * (in3 a b c d e f + 1) ≤ d ∧ b * (in3 a b c d e f + 1) ≤ e ∧ c * (in3 a b c d e f + 1) ≤ f))) := by
  obtain ⟨⟨a0, a1⟩, ⟨b0, b1⟩, c0, c1⟩ := right_iff.1 h1
  obtain ⟨⟨d0, d1⟩, ⟨e0, e1⟩, f0, f1⟩ := right_iff.1 h2
  obtain ⟨t1, t1'⟩ := ti_le a0 a1 d0 d1
  obtain ⟨t2, t2'⟩ := ti_le b0 b1 e0 e1
  obtain ⟨t3, t3'⟩ := ti_le c0 c1 f0 f1
  have hE : in3 a b c d e f = min (min (ti a d) (ti b e)) (ti c f) := by unfold in3; rw [h1, h2]; rfl
  generalize hN : in3 a b c d e f = n at *
  have n1 : n ≤ ti a d := by omega
  have n2 : n ≤ ti b e := by omega
  have n3 : n ≤ ti c f := by omega
  have n0 : 0 ≤ n := by omega
  have p1 := part_fits a0 d0 n1
  have p2 := part_fits b0 e0 n2
  have p3 := part_fits c0 f0 n3
  have m1 := Int.mul_nonneg a0 n0
  have m2 := Int.mul_nonneg b0 n0
  have m3 := Int.mul_nonneg c0 n0
  refine ⟨n0, by omega, ⟨p1, p2, p3⟩, right_iff.2 ⟨⟨m1, by omega⟩, ⟨m2, by omega⟩, m3, by omega⟩, ?_⟩
  by_cases h0 : a = 0 ∧ b = 0 ∧ c = 0
  · obtain ⟨rfl, rfl, rfl⟩ := h0
    exact .inl ⟨rfl, rfl, rfl, by rw [hE, ti_zero, ti_zero, ti_zero]; rfl⟩
  · refine .inr ⟨h0, fun hh => ?_⟩
    have o1 : 0 < a → n = ti a d → False := fun k e => by have := ti_over k d0; rw [← e] at this; omega
    have o2 : 0 < b → n = ti b e → False := fun k e => by have := ti_over k e0; rw [← e] at this; omega
    have o3 : 0 < c → n = ti c f → False := fun k e => by have := ti_over k f0; rw [← e] at this; omega
    have z1 : a = 0 → ti a d = 1073741824 := fun h => by rw [h]; rfl
    have z2 : b = 0 → ti b e = 1073741824 := fun h => by rw [h]; rfl
    have z3 : c = 0 → ti c f = 1073741824 := fun h => by rw [h]; rfl
    generalize ti a d = x at *
    generalize ti b e = y at *
    generalize ti c f = z at *
    clear p1 p2 p3 m1 m2 m3 hh hN
    by_cases ka : a = 0
    · by_cases kb : b = 0
      · have := z1 ka; have := z2 kb
        have kc : 0 < c := by omega
        exact o3 kc (by omega)
      · have := z1 ka
        by_cases kc : c = 0
        · have := z3 kc
          exact o2 (by omega) (by omega)
        · by_cases q : n = y
          · exact o2 (by omega) q
          · exact o3 (by omega) (by omega)
    · by_cases q1 : n = x
      · exact o1 (by omega) q1
      · by_cases q2 : n = y
        · by_cases kb : b = 0
          · have := z2 kb
            exact o1 (by omega) (by omega)
          · exact o2 (by omega) q2
        · by_cases kc : c = 0
          · have := z3 kc
            omega
          · exact o3 (by omega) (by omega)
theorem times_nonneg {a b c n : Int} (h : right a b c = true) (h0 : 0 ≤ n) : timesV (a, b, c) n = okV (a * n) (b * n) (c * n) := by
  unfold timesV
  rw [if_pos ⟨h, h0⟩]
set_option maxRecDepth 100000 in
set_option maxHeartbeats 4000000 in
theorem into_not (a b c d e f : Int) (w : World) (hw : Env w) (h : (right a b c && right d e f) = false) : Calls Tryd.prog 9 #[vec a b c, vec d e f] w (TP w true) := by
  have hin := fun W => Into_any a b c d e f W
  have hE : in3 a b c d e f = 0 := by unfold in3; rw [h]; rfl
  rw [hE] at hin
  have hr1 := fun W => Right_any a b c W
  have hr2 := fun W => Right_any d e f W
  have hal := fun W (hW : Env W) => alive_any W hW
  clear hE
  replace hw := fhid hw
  cases q1 : right a b c with
  | false =>
    rw [q1] at hr1
    clear q1 h hr2
    go_enter Tryd.func9, Tryd.ntmps9
    go_upto_region 1 with fail
    have H0 := fhid (HV.two a b c d e f w)
    generalize ((w.alloc _).alloc _) = w1 at *
    obtain ⟨a0, a1, a2, _, ax⟩ := (H0.out.get w.heap.size a b c (by simp)).facts
    obtain ⟨b0, b1, b2, _, bx⟩ := (H0.out.get (w.heap.size + 1) d e f (by simp)).facts
    go_wp2_with (first
      | (go_at_call 14; (with_reducible refine (hin _).mono ?_); clear hin; rintro r w2 ⟨rfl, g2⟩
         have H2 := fhid (H0.out.on g2.below)
         clear a0 a1 a2 ax b0 b1 b2 bx
         obtain ⟨a0, a1, a2, _, ax⟩ := (H2.out.get w.heap.size a b c (by simp)).facts)
      | (go_at_call 10; (with_reducible refine (hr1 _).mono ?_); clear hr1; rintro r w3 ⟨rfl, g3⟩
         have H3 := fhid (H2.out.on g3.below))
      | (go_at_call 18; (with_reducible refine (hal _ (hw.out.below H3.out.bel)).mono ?_); rintro r w8 ⟨rfl, b8⟩))
    go_ret
    exact ⟨rfl, (H3.out.on b8).bel⟩
  | true =>
    rw [q1, Bool.true_and] at h
    rw [q1] at hr1
    rw [h] at hr2
    clear q1 h
    go_enter Tryd.func9, Tryd.ntmps9
    go_upto_region 1 with fail
    have H0 := fhid (HV.two a b c d e f w)
    generalize ((w.alloc _).alloc _) = w1 at *
    obtain ⟨a0, a1, a2, _, ax⟩ := (H0.out.get w.heap.size a b c (by simp)).facts
    obtain ⟨b0, b1, b2, _, bx⟩ := (H0.out.get (w.heap.size + 1) d e f (by simp)).facts
    go_wp2_with (first
      | (go_at_call 14; (with_reducible refine (hin _).mono ?_); clear hin; rintro r w2 ⟨rfl, g2⟩
         have H2 := fhid (H0.out.on g2.below)
         clear a0 a1 a2 ax b0 b1 b2 bx
         obtain ⟨a0, a1, a2, _, ax⟩ := (H2.out.get w.heap.size a b c (by simp)).facts)
      | (go_at_call 10; (with_reducible refine (hr1 _).mono ?_); clear hr1; rintro r w3 ⟨rfl, g3⟩
         have H3 := fhid (H2.out.on g3.below)
         obtain ⟨b0, b1, b2, _, bx⟩ := (H3.out.get (w.heap.size + 1) d e f (by simp)).facts)
      | (go_at_call 10; (with_reducible refine (hr2 _).mono ?_); clear hr2; rintro r w4 ⟨rfl, g4⟩
         have H4 := fhid (H3.out.on g4.below))
      | (go_at_call 18; (with_reducible refine (hal _ (hw.out.below H4.out.bel)).mono ?_); rintro r w8 ⟨rfl, b8⟩))
    go_ret
    exact ⟨rfl, (H4.out.on b8).bel⟩
set_option maxRecDepth 100000 in
set_option maxHeartbeats 4000000 in
theorem into_yes (a b c d e f : Int) (w : World) (hw : Env w) (h1 : right a b c = true) (h2 : right d e f = true) : Calls Tryd.prog 9 #[vec a b c, vec d e f] w (TP w true) := by
  have hin := fun W => Into_any a b c d e f W
  obtain ⟨n0, n1, hfit, hrt, hor⟩ := into_facts h1 h2
  have hr1 := fun W => Right_any a b c W
  have hr2 := fun W => Right_any d e f W
  have hal := fun W (hW : Env W) => alive_any W hW
  have hT1 := fun W => Times_any a b c (in3 a b c d e f) W (by omega)
  have hT2 := fun W => Times_any a b c (in3 a b c d e f + 1) W (by omega)
  rw [times_nonneg h1 n0] at hT1
  rw [times_nonneg h1 (by omega)] at hT2
  have hF1 := fun W => Fits_any (a * in3 a b c d e f) (b * in3 a b c d e f) (c * in3 a b c d e f) d e f W
  rw [decide_eq_true hfit] at hF1
  have ho1 : okV (a * in3 a b c d e f) (b * in3 a b c d e f) (c * in3 a b c d e f) = ((a * in3 a b c d e f, b * in3 a b c d e f, c * in3 a b c d e f), 0) := if_pos hrt
  rw [ho1] at hT1
  rw [h1] at hr1
  rw [h2] at hr2
  unfold VP at hT1 hT2
  simp only [vv] at hT1 hT2
  have hF2 := fun W => Fits_any (a * (in3 a b c d e f + 1)) (b * (in3 a b c d e f + 1)) (c * (in3 a b c d e f + 1)) d e f W
  have hok := okV_cases (a * (in3 a b c d e f + 1)) (b * (in3 a b c d e f + 1)) (c * (in3 a b c d e f + 1))
  have hq := fun W => eql_vec a b c 0 0 0 W
  clear ho1 hrt hfit h1 h2
  generalize in3 a b c d e f = n at *
  generalize a * n = x1 at *
  generalize b * n = y1 at *
  generalize c * n = z1 at *
  generalize a * (n + 1) = x2 at *
  generalize b * (n + 1) = y2 at *
  generalize c * (n + 1) = z2 at *
  have hnm : n + 1 ≤ 1073741825 := by omega
  replace hw := fhid hw
  rcases hor with ⟨rfl, rfl, rfl, rfl⟩ | ⟨hne, hnf⟩
  · rw [decide_eq_true (show (0 : Int) = 0 ∧ (0 : Int) = 0 ∧ (0 : Int) = 0 from ⟨rfl, rfl, rfl⟩)] at hq
    clear hok hF2
    generalize okV x2 y2 z2 = R at *
    rcases R with ⟨⟨x3, y3, z3⟩, e3⟩
    simp only [show (1073741824 : Int) + 1 = 1073741825 from rfl] at hT2
    go_enter Tryd.func9, Tryd.ntmps9
    go_upto_region 1 with fail
    have H0 := fhid (HV.two 0 0 0 d e f w)
    generalize ((w.alloc _).alloc _) = w1 at *
    obtain ⟨a0, a1, a2, _, ax⟩ := (H0.out.get w.heap.size 0 0 0 (by simp)).facts
    obtain ⟨b0, b1, b2, _, bx⟩ := (H0.out.get (w.heap.size + 1) d e f (by simp)).facts
    go_wp2_with (first
      | (go_at_call 14; (with_reducible refine (hin _).mono ?_); clear hin; rintro r w2 ⟨rfl, g2⟩
         have H2 := fhid (H0.out.on g2.below)
         clear a0 a1 a2 ax b0 b1 b2 bx
         obtain ⟨a0, a1, a2, _, ax⟩ := (H2.out.get w.heap.size 0 0 0 (by simp)).facts)
      | (go_at_call 10; (with_reducible refine (hr1 _).mono ?_); clear hr1; rintro r w3 ⟨rfl, g3⟩
         have H3 := fhid (H2.out.on g3.below)
         obtain ⟨b0, b1, b2, _, bx⟩ := (H3.out.get (w.heap.size + 1) d e f (by simp)).facts)
      | (go_at_call 10; (with_reducible refine (hr2 _).mono ?_); clear hr2; rintro r w4 ⟨rfl, g4⟩
         have H4 := fhid (H3.out.on g4.below)
         clear a0 a1 a2 ax b0 b1 b2 bx
         obtain ⟨a0, a1, a2, _, ax⟩ := (H4.out.get w.heap.size 0 0 0 (by simp)).facts)
      | (go_at_call 23; (with_reducible refine (hT1 _).mono ?_); clear hT1; rintro r w5 ⟨rfl, b5⟩
         have K5 := fhid (H4.out.on b5)
         have H5 := fhid (K5.out.add x1 y1 z1)
         clear a0 a1 a2 ax
         obtain ⟨b0, b1, b2, _, bx⟩ := (K5.out.get (w.heap.size + 1) d e f (by simp)).facts)
      | (go_at_call 12; (with_reducible refine (hF1 _).mono ?_); clear hF1; rintro r w6 ⟨rfl, g6⟩
         have H6 := fhid (H5.out.on g6.below)
         clear b0 b1 b2 bx
         obtain ⟨a0, a1, a2, _, ax⟩ := (H6.out.get w.heap.size 0 0 0 (by simp)).facts)
      | (go_at_call 23; (with_reducible refine (hT2 _).mono ?_); clear hT2; rintro r w7 ⟨rfl, b7⟩
         have K7 := fhid (H6.out.on b7)
         have H7 := fhid (K7.out.add x3 y3 z3)
         clear a0 a1 a2 ax
         obtain ⟨a0, a1, a2, _, ax⟩ := (K7.out.get w.heap.size 0 0 0 (by simp)).facts)
      | (go_at_call 18; (with_reducible refine (hal _ (hw.out.below H7.out.bel)).mono ?_); rintro r w8 ⟨rfl, b8⟩))
    go_ret
    exact ⟨rfl, (H7.out.on b8).bel⟩
  · rw [decide_eq_false hne] at hq
    clear hne
    rcases hok with ⟨ho, _⟩ | ⟨ho, _⟩
    · rw [ho] at hT2
      rw [decide_eq_false hnf] at hF2
      simp only at hT2
      clear ho hnf
      go_enter Tryd.func9, Tryd.ntmps9
      go_upto_region 1 with fail
      have H0 := fhid (HV.two a b c d e f w)
      generalize ((w.alloc _).alloc _) = w1 at *
      obtain ⟨a0, a1, a2, _, ax⟩ := (H0.out.get w.heap.size a b c (by simp)).facts
      obtain ⟨b0, b1, b2, _, bx⟩ := (H0.out.get (w.heap.size + 1) d e f (by simp)).facts
      go_wp2_with (first
        | (go_at_call 14; (with_reducible refine (hin _).mono ?_); clear hin; rintro r w2 ⟨rfl, g2⟩
           have H2 := fhid (H0.out.on g2.below)
           clear a0 a1 a2 ax b0 b1 b2 bx
           obtain ⟨a0, a1, a2, _, ax⟩ := (H2.out.get w.heap.size a b c (by simp)).facts)
        | (go_at_call 10; (with_reducible refine (hr1 _).mono ?_); clear hr1; rintro r w3 ⟨rfl, g3⟩
           have H3 := fhid (H2.out.on g3.below)
           obtain ⟨b0, b1, b2, _, bx⟩ := (H3.out.get (w.heap.size + 1) d e f (by simp)).facts)
        | (go_at_call 10; (with_reducible refine (hr2 _).mono ?_); clear hr2; rintro r w4 ⟨rfl, g4⟩
           have H4 := fhid (H3.out.on g4.below)
           clear a0 a1 a2 ax b0 b1 b2 bx
           obtain ⟨a0, a1, a2, _, ax⟩ := (H4.out.get w.heap.size a b c (by simp)).facts)
        | (go_at_call 23; (with_reducible refine (hT1 _).mono ?_); clear hT1; rintro r w5 ⟨rfl, b5⟩
           have K5 := fhid (H4.out.on b5)
           have H5 := fhid (K5.out.add x1 y1 z1)
           clear a0 a1 a2 ax
           obtain ⟨b0, b1, b2, _, bx⟩ := (K5.out.get (w.heap.size + 1) d e f (by simp)).facts)
        | (go_at_call 12; (with_reducible refine (hF1 _).mono ?_); clear hF1; rintro r w6 ⟨rfl, g6⟩
           have H6 := fhid (H5.out.on g6.below)
           clear b0 b1 b2 bx
           obtain ⟨a0, a1, a2, _, ax⟩ := (H6.out.get w.heap.size a b c (by simp)).facts)
        | (go_at_call 23; (with_reducible refine (hT2 _).mono ?_); clear hT2; rintro r w7 ⟨rfl, b7⟩
           have K7 := fhid (H6.out.on b7)
           have H7 := fhid (K7.out.add x2 y2 z2)
           clear a0 a1 a2 ax
           obtain ⟨a0, a1, a2, _, ax⟩ := (K7.out.get w.heap.size a b c (by simp)).facts
           obtain ⟨b0, b1, b2, _, bx⟩ := (K7.out.get (w.heap.size + 1) d e f (by simp)).facts)
        | (go_at_call 12; (with_reducible refine (hF2 _).mono ?_); clear hF2; rintro r w9 ⟨rfl, g9⟩
           have H9 := fhid (H7.out.on g9.below))
        | (go_at_call 18; (with_reducible refine (hal _ (hw.out.below H9.out.bel)).mono ?_); rintro r w8 ⟨rfl, b8⟩))
      go_ret
      exact ⟨rfl, (H9.out.on b8).bel⟩
    · rw [ho] at hT2
      simp only at hT2
      clear ho hnf hF2
      go_enter Tryd.func9, Tryd.ntmps9
      go_upto_region 1 with fail
      have H0 := fhid (HV.two a b c d e f w)
      generalize ((w.alloc _).alloc _) = w1 at *
      obtain ⟨a0, a1, a2, _, ax⟩ := (H0.out.get w.heap.size a b c (by simp)).facts
      obtain ⟨b0, b1, b2, _, bx⟩ := (H0.out.get (w.heap.size + 1) d e f (by simp)).facts
      go_wp2_with (first
        | (go_at_call 14; (with_reducible refine (hin _).mono ?_); clear hin; rintro r w2 ⟨rfl, g2⟩
           have H2 := fhid (H0.out.on g2.below)
           clear a0 a1 a2 ax b0 b1 b2 bx
           obtain ⟨a0, a1, a2, _, ax⟩ := (H2.out.get w.heap.size a b c (by simp)).facts)
        | (go_at_call 10; (with_reducible refine (hr1 _).mono ?_); clear hr1; rintro r w3 ⟨rfl, g3⟩
           have H3 := fhid (H2.out.on g3.below)
           obtain ⟨b0, b1, b2, _, bx⟩ := (H3.out.get (w.heap.size + 1) d e f (by simp)).facts)
        | (go_at_call 10; (with_reducible refine (hr2 _).mono ?_); clear hr2; rintro r w4 ⟨rfl, g4⟩
           have H4 := fhid (H3.out.on g4.below)
           clear a0 a1 a2 ax b0 b1 b2 bx
           obtain ⟨a0, a1, a2, _, ax⟩ := (H4.out.get w.heap.size a b c (by simp)).facts)
        | (go_at_call 23; (with_reducible refine (hT1 _).mono ?_); clear hT1; rintro r w5 ⟨rfl, b5⟩
           have K5 := fhid (H4.out.on b5)
           have H5 := fhid (K5.out.add x1 y1 z1)
           clear a0 a1 a2 ax
           obtain ⟨b0, b1, b2, _, bx⟩ := (K5.out.get (w.heap.size + 1) d e f (by simp)).facts)
        | (go_at_call 12; (with_reducible refine (hF1 _).mono ?_); clear hF1; rintro r w6 ⟨rfl, g6⟩
           have H6 := fhid (H5.out.on g6.below)
           clear b0 b1 b2 bx
           obtain ⟨a0, a1, a2, _, ax⟩ := (H6.out.get w.heap.size a b c (by simp)).facts)
        | (go_at_call 23; (with_reducible refine (hT2 _).mono ?_); clear hT2; rintro r w7 ⟨rfl, b7⟩
           have K7 := fhid (H6.out.on b7)
           have H7 := fhid (K7.out.add 0 0 0)
           clear a0 a1 a2 ax
           obtain ⟨a0, a1, a2, _, ax⟩ := (K7.out.get w.heap.size a b c (by simp)).facts)
        | (go_at_call 18; (with_reducible refine (hal _ (hw.out.below H7.out.bel)).mono ?_); rintro r w8 ⟨rfl, b8⟩))
      go_ret
      exact ⟨rfl, (H7.out.on b8).bel⟩
theorem into_walk (a b c d e f : Int) (w : World) (hw : Env w) : Calls Tryd.prog 9 #[vec a b c, vec d e f] w (TP w true) := by
  cases h : right a b c && right d e f with
  | false => exact into_not a b c d e f w hw h
  | true =>
    obtain ⟨h1, h2⟩ := (Bool.and_eq_true _ _).mp h
    exact into_yes a b c d e f w hw h1 h2
end Go.Proofs.YtkmknogejhhajaaDoor
