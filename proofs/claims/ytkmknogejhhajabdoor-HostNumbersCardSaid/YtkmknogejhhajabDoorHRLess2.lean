/-
  The document's less, walked.
-/
import Derived.Test.YtkmknogejhhajabDoorHRLess
namespace Go.Proofs.YtkmknogejhhajabDoor
open Go.RowKit Go.Sort

set_option maxRecDepth 100000 in
set_option maxHeartbeats 8000000 in
theorem rless_any (s t : ByteArray) (w : World) (hs : s.size ≤ 140737488355328) (ht : t.size ≤ 140737488355328) : Calls Tryd.prog 19 #[.string s, .string t] w fun e w' => e = .returned (.bool (ltOf cmpN (bl s) (bl t))) ∧ Grew w w' := by
  have n1 := fun W => rNumber_any s W hs
  have n2 := fun W => rNumber_any t W ht
  have hR := less_doc (bl s) (bl t)
  unfold NumberPost numberV at n1 n2
  unfold numD at hR
  generalize ltOf cmpN (bl s) (bl t) = R at *
  generalize number (bl s) = P at *
  generalize number (bl t) = Q at *
  obtain ⟨p, n, k, x⟩ := P
  obtain ⟨q, m, j, y⟩ := Q
  simp only at n1 n2 hR
  have hse := str_eq (str p) (str q)
  have hle := less_bl (str p) (str q)
  have hl2 := less_bl s t
  rw [bl_str, bl_str] at hse hle
  have n0 : (0 : Int) ≤ n := by omega
  have m0 : (0 : Int) ≤ m := by omega
  by_cases h1 : p = q
  · rw [if_neg (fun h => h h1)] at hR
    rw [decide_eq_true h1] at hse
    subst h1
    clear hle
    generalize str p = S at *
    cases x with
    | true =>
      cases y with
      | true =>
        rw [if_pos rfl, if_pos rfl] at hR
        have h3 := n0
        by_cases h2 : n = m
        · rw [if_neg (fun h => h (by rw [h2]))] at hR
          subst h2
          by_cases h2 : k = j
          · rw [if_neg (fun h => h h2)] at hR
            rw [hR] at hl2
            subst h2
            replace hR := fhid hR
            clear h3
            go_enter Tryd.func19, Tryd.ntmps19
            go_wp2_with (first
              | (go_at_call 6; (with_reducible refine (n1 _).mono ?_); clear n1; rintro e w1 ⟨rfl, g1⟩)
              | (go_at_call 6; (with_reducible refine (n2 _).mono ?_); rintro e w2 ⟨rfl, g2⟩))
            go_ret
            exact ⟨fretb (by first | rfl | exact hR.out | exact hR.out.symm | (rw [hR.out]; simp; done) | (rw [hR.out]; simp; omega) | (simp [hR.out]; done)), g1.trans g2⟩
          · rw [if_pos h2] at hR
            have e1 : ¬ (k : Int) = j := by omega
            have e2 : ((k : Int) == j) = false := by simpa using e1
            have e3 : ((k : Int) != j) = true := by simpa using e1
            by_cases c : (k : Int) < j
            · have hR := fhid (show R = true by rw [← hR]; exact decide_eq_true (by omega))
              clear h3 h2
              go_enter Tryd.func19, Tryd.ntmps19
              go_wp2_with (first
                | (go_at_call 6; (with_reducible refine (n1 _).mono ?_); clear n1; rintro e w1 ⟨rfl, g1⟩)
                | (go_at_call 6; (with_reducible refine (n2 _).mono ?_); rintro e w2 ⟨rfl, g2⟩))
              go_ret
              exact ⟨fretb (by first | rfl | exact hR.out | exact hR.out.symm | (rw [hR.out]; simp; done) | (rw [hR.out]; simp; omega) | (simp [hR.out]; done)), g1.trans g2⟩
            · have hR := fhid (show R = false by rw [← hR]; exact decide_eq_false (by omega))
              clear h3 h2
              go_enter Tryd.func19, Tryd.ntmps19
              go_wp2_with (first
                | (go_at_call 6; (with_reducible refine (n1 _).mono ?_); clear n1; rintro e w1 ⟨rfl, g1⟩)
                | (go_at_call 6; (with_reducible refine (n2 _).mono ?_); rintro e w2 ⟨rfl, g2⟩))
              go_ret
              exact ⟨fretb (by first | rfl | exact hR.out | exact hR.out.symm | (rw [hR.out]; simp; done) | (rw [hR.out]; simp; omega) | (simp [hR.out]; done)), g1.trans g2⟩
        · rw [if_pos (fun h => h2 (by omega))] at hR
          have e1 : ¬ (n : Int) = m := by omega
          have e2 : ((n : Int) == m) = false := by simpa using e1
          have e3 : ((n : Int) != m) = true := by simpa using e1
          by_cases c : (n : Int) < m
          · have hR := fhid (show R = true by rw [← hR]; exact decide_eq_true (by omega))
            clear h2 h3
            go_enter Tryd.func19, Tryd.ntmps19
            go_wp2_with (first
              | (go_at_call 6; (with_reducible refine (n1 _).mono ?_); clear n1; rintro e w1 ⟨rfl, g1⟩)
              | (go_at_call 6; (with_reducible refine (n2 _).mono ?_); rintro e w2 ⟨rfl, g2⟩))
            go_ret
            exact ⟨fretb (by first | rfl | exact hR.out | exact hR.out.symm | (rw [hR.out]; simp; done) | (rw [hR.out]; simp; omega) | (simp [hR.out]; done)), g1.trans g2⟩
          · have hR := fhid (show R = false by rw [← hR]; exact decide_eq_false (by omega))
            clear h2 h3
            go_enter Tryd.func19, Tryd.ntmps19
            go_wp2_with (first
              | (go_at_call 6; (with_reducible refine (n1 _).mono ?_); clear n1; rintro e w1 ⟨rfl, g1⟩)
              | (go_at_call 6; (with_reducible refine (n2 _).mono ?_); rintro e w2 ⟨rfl, g2⟩))
            go_ret
            exact ⟨fretb (by first | rfl | exact hR.out | exact hR.out.symm | (rw [hR.out]; simp; done) | (rw [hR.out]; simp; omega) | (simp [hR.out]; done)), g1.trans g2⟩
      | false =>
        simp only [Bool.false_eq_true, if_false, if_true] at hR
        rw [if_pos (by omega)] at hR
        have hR := fhid (show R = false by rw [← hR]; exact decide_eq_false (by omega))
        have e1 : ¬ (n : Int) = -1 := by omega
        have e4 : ¬ (n : Int) < -1 := by omega
        have e2 : ((n : Int) == -1) = false := by rw [beq_eq_false_iff_ne]; exact e1
        have e3 : ((n : Int) != -1) = true := by rw [bne_iff_ne]; exact e1
        go_enter Tryd.func19, Tryd.ntmps19
        go_wp2_with (first
          | (go_at_call 6; (with_reducible refine (n1 _).mono ?_); clear n1; rintro e w1 ⟨rfl, g1⟩)
          | (go_at_call 6; (with_reducible refine (n2 _).mono ?_); rintro e w2 ⟨rfl, g2⟩))
        go_ret
        exact ⟨fretb (by first | rfl | exact hR.out | exact hR.out.symm | (rw [hR.out]; simp; done) | (rw [hR.out]; simp; omega) | (simp [hR.out]; done)), g1.trans g2⟩
    | false =>
      cases y with
      | true =>
        simp only [Bool.false_eq_true, if_false, if_true] at hR
        rw [if_pos (by omega)] at hR
        have hR := fhid (show R = true by rw [← hR]; exact decide_eq_true (by omega))
        have e1 : ¬ (-1 : Int) = m := by omega
        have e4 : (-1 : Int) < m := by omega
        have e2 : ((-1 : Int) == m) = false := by rw [beq_eq_false_iff_ne]; exact e1
        have e3 : ((-1 : Int) != m) = true := by rw [bne_iff_ne]; exact e1
        go_enter Tryd.func19, Tryd.ntmps19
        go_wp2_with (first
          | (go_at_call 6; (with_reducible refine (n1 _).mono ?_); clear n1; rintro e w1 ⟨rfl, g1⟩)
          | (go_at_call 6; (with_reducible refine (n2 _).mono ?_); rintro e w2 ⟨rfl, g2⟩))
        go_ret
        exact ⟨fretb (by first | rfl | exact hR.out | exact hR.out.symm | (rw [hR.out]; simp; done) | (rw [hR.out]; simp; omega) | (simp [hR.out]; done)), g1.trans g2⟩
      | false =>
        simp only [Bool.false_eq_true, if_false] at hR
        rw [if_neg (fun h => h rfl)] at hR
        have h3 := n0
        by_cases h2 : k = j
        · rw [if_neg (fun h => h h2)] at hR
          rw [hR] at hl2
          subst h2
          replace hR := fhid hR
          clear h3
          go_enter Tryd.func19, Tryd.ntmps19
          go_wp2_with (first
            | (go_at_call 6; (with_reducible refine (n1 _).mono ?_); clear n1; rintro e w1 ⟨rfl, g1⟩)
            | (go_at_call 6; (with_reducible refine (n2 _).mono ?_); rintro e w2 ⟨rfl, g2⟩))
          go_ret
          exact ⟨fretb (by first | rfl | exact hR.out | exact hR.out.symm | (rw [hR.out]; simp; done) | (rw [hR.out]; simp; omega) | (simp [hR.out]; done)), g1.trans g2⟩
        · rw [if_pos h2] at hR
          have e1 : ¬ (k : Int) = j := by omega
          have e2 : ((k : Int) == j) = false := by simpa using e1
          have e3 : ((k : Int) != j) = true := by simpa using e1
          by_cases c : (k : Int) < j
          · have hR := fhid (show R = true by rw [← hR]; exact decide_eq_true (by omega))
            clear h3 h2
            go_enter Tryd.func19, Tryd.ntmps19
            go_wp2_with (first
              | (go_at_call 6; (with_reducible refine (n1 _).mono ?_); clear n1; rintro e w1 ⟨rfl, g1⟩)
              | (go_at_call 6; (with_reducible refine (n2 _).mono ?_); rintro e w2 ⟨rfl, g2⟩))
            go_ret
            exact ⟨fretb (by first | rfl | exact hR.out | exact hR.out.symm | (rw [hR.out]; simp; done) | (rw [hR.out]; simp; omega) | (simp [hR.out]; done)), g1.trans g2⟩
          · have hR := fhid (show R = false by rw [← hR]; exact decide_eq_false (by omega))
            clear h3 h2
            go_enter Tryd.func19, Tryd.ntmps19
            go_wp2_with (first
              | (go_at_call 6; (with_reducible refine (n1 _).mono ?_); clear n1; rintro e w1 ⟨rfl, g1⟩)
              | (go_at_call 6; (with_reducible refine (n2 _).mono ?_); rintro e w2 ⟨rfl, g2⟩))
            go_ret
            exact ⟨fretb (by first | rfl | exact hR.out | exact hR.out.symm | (rw [hR.out]; simp; done) | (rw [hR.out]; simp; omega) | (simp [hR.out]; done)), g1.trans g2⟩
  · rw [if_pos h1] at hR
    rw [decide_eq_false h1] at hse
    rw [hR] at hle
    replace hR := fhid hR
    clear hl2 n0 m0 h1
    generalize str p = S at *
    generalize str q = T at *
    cases x with
    | true =>
      cases y with
      | true =>
        go_enter Tryd.func19, Tryd.ntmps19
        go_wp2_with (first
          | (go_at_call 6; (with_reducible refine (n1 _).mono ?_); clear n1; rintro e w1 ⟨rfl, g1⟩)
          | (go_at_call 6; (with_reducible refine (n2 _).mono ?_); rintro e w2 ⟨rfl, g2⟩))
        go_ret
        exact ⟨fretb (by first | rfl | exact hR.out | exact hR.out.symm | (rw [hR.out]; simp; done) | (rw [hR.out]; simp; omega) | (simp [hR.out]; done)), g1.trans g2⟩
      | false =>
        go_enter Tryd.func19, Tryd.ntmps19
        go_wp2_with (first
          | (go_at_call 6; (with_reducible refine (n1 _).mono ?_); clear n1; rintro e w1 ⟨rfl, g1⟩)
          | (go_at_call 6; (with_reducible refine (n2 _).mono ?_); rintro e w2 ⟨rfl, g2⟩))
        go_ret
        exact ⟨fretb (by first | rfl | exact hR.out | exact hR.out.symm | (rw [hR.out]; simp; done) | (rw [hR.out]; simp; omega) | (simp [hR.out]; done)), g1.trans g2⟩
    | false =>
      cases y with
      | true =>
        go_enter Tryd.func19, Tryd.ntmps19
        go_wp2_with (first
          | (go_at_call 6; (with_reducible refine (n1 _).mono ?_); clear n1; rintro e w1 ⟨rfl, g1⟩)
          | (go_at_call 6; (with_reducible refine (n2 _).mono ?_); rintro e w2 ⟨rfl, g2⟩))
        go_ret
        exact ⟨fretb (by first | rfl | exact hR.out | exact hR.out.symm | (rw [hR.out]; simp; done) | (rw [hR.out]; simp; omega) | (simp [hR.out]; done)), g1.trans g2⟩
      | false =>
        go_enter Tryd.func19, Tryd.ntmps19
        go_wp2_with (first
          | (go_at_call 6; (with_reducible refine (n1 _).mono ?_); clear n1; rintro e w1 ⟨rfl, g1⟩)
          | (go_at_call 6; (with_reducible refine (n2 _).mono ?_); rintro e w2 ⟨rfl, g2⟩))
        go_ret
        exact ⟨fretb (by first | rfl | exact hR.out | exact hR.out.symm | (rw [hR.out]; simp; done) | (rw [hR.out]; simp; omega) | (simp [hR.out]; done)), g1.trans g2⟩
end Go.Proofs.YtkmknogejhhajabDoor
