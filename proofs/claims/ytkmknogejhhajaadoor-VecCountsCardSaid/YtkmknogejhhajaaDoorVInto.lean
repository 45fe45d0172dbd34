/-
  Which comes ahead; how often one fits into another one.
-/
import Derived.Test.YtkmknogejhhajaaDoorVCmp
namespace Go.Proofs.YtkmknogejhhajaaDoor
open Go.RowKit

def less3 (a b c d e f : Int) : Bool := if a ≠ d then decide (a < d) else if b ≠ e then decide (b < e) else decide (c < f)
theorem cmpI_lt {x y : Int} (h : x < y) : Lib.compareInt x y = -1 := by unfold Lib.compareInt; rw [if_pos h]
theorem cmpI_gt {x y : Int} (h : y < x) : Lib.compareInt x y = 1 := by unfold Lib.compareInt; rw [if_neg (by omega), if_pos h]
theorem cmpI_eq (x : Int) : Lib.compareInt x x = 0 := by unfold Lib.compareInt; rw [if_neg (by omega), if_neg (by omega)]
theorem less_cmp (a b c d e f : Int) : decide (cmp3 a b c d e f < 0) = less3 a b c d e f := by
  unfold cmp3 less3
  rcases Int.lt_trichotomy a d with h | rfl | h
  · rw [cmpI_lt h, if_pos (by omega), decide_eq_true h]; rfl
  · rw [cmpI_eq, if_neg (by simp)]
    rcases Int.lt_trichotomy b e with h | rfl | h
    · rw [cmpI_lt h, if_pos (by omega), decide_eq_true h]; rfl
    · rw [cmpI_eq, if_neg (by simp)]
      rcases Int.lt_trichotomy c f with h | rfl | h
      · rw [cmpI_lt h, decide_eq_true h]; rfl
      · rw [cmpI_eq, decide_eq_false (Int.lt_irrefl c)]; rfl
      · rw [cmpI_gt h, decide_eq_false (show ¬ c < f by omega)]; rfl
    · rw [cmpI_gt h, if_pos (by omega), decide_eq_false (show ¬ b < e by omega)]; rfl
  · rw [cmpI_gt h, if_pos (by omega), decide_eq_false (show ¬ a < d by omega)]; rfl
set_option maxRecDepth 100000 in
set_option maxHeartbeats 1000000 in
theorem Less_any (a b c d e f : Int) (w : World) : Calls Tryd.prog 16 #[vec a b c, vec d e f] w (BP w (less3 a b c d e f)) := by
  have h1 := fun W => compare_any a b c d e f W
  have hE := less_cmp a b c d e f
  generalize less3 a b c d e f = r at *
  generalize cmp3 a b c d e f = x at *
  by_cases h : x < 0
  all_goals
    rw [show decide (x < 0) = _ by first | exact decide_eq_true h | exact decide_eq_false h] at hE
    replace hE := fhid hE
    go_enter Tryd.func16, Tryd.ntmps16
    go_wp2_with (go_at_call 34; (with_reducible refine (h1 _).mono ?_); rintro e w1 ⟨rfl, g1⟩)
    go_ret
    exact BP.mk' (by rw [← hE.out] <;> first | rfl | (simp; done) | (simp; omega)) ((((Grew.refl w).alloc _).alloc _).trans g1)
set_option maxRecDepth 100000 in
set_option maxHeartbeats 1000000 in
theorem rLess_any (a b c d e f : Int) (w : World) : Calls Tryd.prog 17 #[vec a b c, vec d e f] w (BP w (less3 a b c d e f)) := by
  have hE := fhid (show less3 a b c d e f = if a ≠ d then decide (a < d) else if b ≠ e then decide (b < e) else decide (c < f) from rfl)
  generalize less3 a b c d e f = R at *
  by_cases h1 : a = d
  · by_cases h2 : b = e
    · by_cases h3 : c < f
      all_goals
        go_enter Tryd.func17, Tryd.ntmps17
        go_wp2
        go_ret
        exact BP.mk' (by rw [hE.out]; simp [h1, h2]; try omega) (((Grew.refl w).alloc _).alloc _)
    · have n2 : ((b : Int) != e) = true := by simpa using h2
      by_cases h3 : b < e
      all_goals
        go_enter Tryd.func17, Tryd.ntmps17
        go_wp2
        go_ret
        exact BP.mk' (by rw [hE.out]; simp [h1, h2]; try omega) (((Grew.refl w).alloc _).alloc _)
  · have n1 : ((a : Int) != d) = true := by simpa using h1
    by_cases h3 : a < d
    all_goals
      go_enter Tryd.func17, Tryd.ntmps17
      go_wp2
      go_ret
      exact BP.mk' (by rw [hE.out]; simp [h1]; try omega) (((Grew.refl w).alloc _).alloc _)
/-- How often a part goes into another one. -/
def ti (n m : Int) : Int := if n = 0 then 1073741824 else m.tdiv n
theorem ti_le {n m : Int} (h0 : 0 ≤ n) (_h1 : n ≤ 1073741824) (h2 : 0 ≤ m) (h3 : m ≤ 1073741824) : 0 ≤ ti n m ∧ ti n m ≤ 1073741824 := by
  unfold ti
  by_cases h : n = 0
  · rw [if_pos h]; omega
  · rw [if_neg h, Int.tdiv_eq_ediv_of_nonneg h2]
    have := Int.ediv_nonneg h2 h0
    have := Int.ediv_le_self n h2
    omega
def in3 (a b c d e f : Int) : Int := if right a b c && right d e f then min (min (ti a d) (ti b e)) (ti c f) else 0
set_option maxRecDepth 100000 in
set_option maxHeartbeats 1000000 in
theorem timesInto_any (n m : Int) (w : World) (h0 : 0 ≤ n) (h1 : n ≤ 1073741824) (h2 : 0 ≤ m) (h3 : m ≤ 1073741824) : Calls Tryd.prog 33 #[.int .i64 n, .int .i64 m] w fun e w' => e = .returned (.int .i64 (ti n m)) ∧ w' = w := by
  have hb := ti_le h0 h1 h2 h3
  have hE := fhid (show ti n m = if n = 0 then 1073741824 else m.tdiv n from rfl)
  by_cases h : n = 0
  · go_enter Tryd.func33, Tryd.ntmps33
    go_wp2
    go_ret
    exact ⟨fret1 (by rw [hE.out, if_pos h]), rfl⟩
  · have i1 : (n == 0) = false := by simpa using h
    have i2 : IntKind.i64.wrap (m.tdiv n) = ti n m := by
      rw [show ti n m = m.tdiv n by rw [hE.out, if_neg h]] at hb ⊢
      exact IntWalk.i64_in _ (by omega)
    go_enter Tryd.func33, Tryd.ntmps33
    go_wp2
    go_ret
    exact ⟨rfl, rfl⟩
end Go.Proofs.YtkmknogejhhajaaDoor
