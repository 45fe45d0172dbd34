/-
  Into, and the document's.
-/
import Derived.Test.YtkmknogejhhajaaDoorVRef2
namespace Go.Proofs.YtkmknogejhhajaaDoor
open Go.RowKit

theorem min_two (x y : Int) (w : World) : (Builtin.min_ #[3, 3] 3 #[.int .i64 x, .int .i64 y]).run Tryd.prog w = .ok (.int .i64 (min x y)) w := by
  have e : min x y = if y < x then y else x := by split <;> omega
  rw [e]
  simp [Builtin.min_, Builtin.min2]
theorem min_three (x y z : Int) (w : World) : (Builtin.min_ #[3, 3, 3] 3 #[.int .i64 x, .int .i64 y, .int .i64 z]).run Tryd.prog w = .ok (.int .i64 (min (min x y) z)) w := by
  have e : min (min x y) z = if z < (if y < x then y else x) then z else (if y < x then y else x) := by repeat' split <;> omega
  rw [e]
  simp [Builtin.min_, Builtin.min2]
set_option maxRecDepth 100000 in
set_option maxHeartbeats 4000000 in
theorem Into_any (a b c d e f : Int) (w : World) : Calls Tryd.prog 14 #[vec a b c, vec d e f] w fun r w' => r = .returned (.int .i64 (in3 a b c d e f)) ∧ Grew w w' := by
  obtain ⟨R, hR⟩ : ∃ R, in3 a b c d e f = R := ⟨_, rfl⟩
  rw [hR]
  unfold in3 at hR
  have hall := allTwo a b c d e f
  cases hq : right a b c && right d e f with
  | false =>
    rw [hq] at hall hR
    rw [if_neg (by decide)] at hR
    clear hq
    replace hR := fhid hR
    go_enter Tryd.func14, Tryd.ntmps14
    go_upto_region 1 with fail
    obtain ⟨c0, c1, c2, d0, d1, d2⟩ := box2 a b c d e f w
    have g0 := ((Grew.refl w).alloc (.cells #[.int .i64 a, .int .i64 b, .int .i64 c] 23)).alloc (.cells #[.int .i64 d, .int .i64 e, .int .i64 f] 23)
    generalize ((w.alloc _).alloc _) = w1 at *
    go_wp2_with (go_at_call 32; (with_reducible refine (hall _ _ (heap_alloc_new _ _)).mono ?_); rintro r w3 ⟨rfl, g3⟩)
    go_ret
    exact ⟨fret1 hR.out, (g0.alloc _).trans g3⟩
  | true =>
    obtain ⟨h1, h2⟩ := (Bool.and_eq_true _ _).mp hq
    obtain ⟨⟨a0, a1⟩, ⟨b0, b1⟩, c0', c1'⟩ := right_iff.1 h1
    obtain ⟨⟨d0', d1'⟩, ⟨e0, e1⟩, f0, f1⟩ := right_iff.1 h2
    have t1 := fun W => timesInto_any a d W a0 a1 d0' d1'
    have t2 := fun W => timesInto_any b e W b0 b1 e0 e1
    have t3 := fun W => timesInto_any c f W c0' c1' f0 f1
    rw [hq] at hall hR
    rw [if_pos rfl] at hR
    clear hq h1 h2 a0 a1 b0 b1 c0' c1' d0' d1' e0 e1 f0 f1
    generalize ti a d = x at *
    generalize ti b e = y at *
    generalize ti c f = z at *
    replace hR := fhid hR
    go_enter Tryd.func14, Tryd.ntmps14
    go_upto_region 1 with fail
    obtain ⟨c0, c1, c2, d0, d1, d2⟩ := box2 a b c d e f w
    have g0 := ((Grew.refl w).alloc (.cells #[.int .i64 a, .int .i64 b, .int .i64 c] 23)).alloc (.cells #[.int .i64 d, .int .i64 e, .int .i64 f] 23)
    generalize hw1 : ((w.alloc _).alloc _) = w1 at *
    have hsz : w1.heap.size = w.heap.size + 2 := by rw [← hw1]; simp
    replace hsz := fhid hsz
    clear hw1
    go_upto_region 3 with (go_at_call 32; (with_reducible refine (hall _ _ (heap_alloc_new _ _)).mono ?_); rintro r w3 ⟨rfl, g3⟩)
    have g4 := ((Grew.refl w1).alloc (.cells #[.int .i64 a, .int .i64 b, .int .i64 c, .int .i64 d, .int .i64 e, .int .i64 f] 23)).trans g3
    have hk := fun o i (ho : o < w.heap.size + 2) => cell_grew g4 (p := ⟨o, i, none⟩) (by rw [hsz.out]; exact ho)
    replace c0 := (hk _ _ (by omega)).trans c0
    replace c1 := (hk _ _ (by omega)).trans c1
    replace c2 := (hk _ _ (by omega)).trans c2
    replace d0 := (hk _ _ (by omega)).trans d0
    replace d1 := (hk _ _ (by omega)).trans d1
    replace d2 := (hk _ _ (by omega)).trans d2
    replace g0 := fhid (g0.trans g4)
    clear hk g3 g4 hsz hall
    refine wp_region_still_tail 15 (by kernel_rfl) (by kernel_rfl) ?_
    simp only [List.take_succ_cons, List.take_zero, List.drop_succ_cons, List.drop_zero]
    iterate 4 still_step
    still_call (t1 _)
    iterate 4 still_step
    still_call (t2 _)
    iterate 4 still_step
    still_call (t3 _)
    refine wpStill_nil ?_
    change wpList _ _ _ _ _ w3.drew
    replace g0 := fhid g0.out.drew
    clear c0 c1 c2 d0 d1 d2
    generalize w3.drew = w4 at *
    have hm := fun W => min_three x y z W
    go_wp2
    go_ret
    exact ⟨fret1 (by rw [← Int.min_assoc]; exact hR.out), g0.out⟩
theorem ti_pos {n m : Int} (h : 0 < n) : ti n m = m.tdiv n := if_neg (by omega)
theorem ti_zero (m : Int) : ti 0 m = 1073741824 := if_pos rfl
/-- Into, part by part, as the document reckons it. -/
def inStep (n x y : Int) : Int := if 0 < x then min n (ti x y) else n
theorem in_steps (a b c d e f : Int) (h : right a b c = true) (k : right d e f = true) : min (min (ti a d) (ti b e)) (ti c f) = inStep (inStep (inStep 1073741824 a d) b e) c f := by
  obtain ⟨⟨a0, a1⟩, ⟨b0, b1⟩, c0, c1⟩ := right_iff.1 h
  obtain ⟨⟨d0, d1⟩, ⟨e0, e1⟩, f0, f1⟩ := right_iff.1 k
  have t1 := ti_le a0 a1 d0 d1
  have t2 := ti_le b0 b1 e0 e1
  have t3 := ti_le c0 c1 f0 f1
  have z1 : ¬ 0 < a → ti a d = 1073741824 := fun h => by rw [show a = 0 by omega]; rfl
  have z2 : ¬ 0 < b → ti b e = 1073741824 := fun h => by rw [show b = 0 by omega]; rfl
  have z3 : ¬ 0 < c → ti c f = 1073741824 := fun h => by rw [show c = 0 by omega]; rfl
  unfold inStep
  by_cases h1 : 0 < a <;> by_cases h2 : 0 < b <;> by_cases h3 : 0 < c <;> simp only [h1, h2, h3, if_true, if_false]
  all_goals
    first | (have y1 := z1 h1) | (have y1 : True := trivial)
    first | (have y2 := z2 h2) | (have y2 : True := trivial)
    first | (have y3 := z3 h3) | (have y3 : True := trivial)
    omega
end Go.Proofs.YtkmknogejhhajaaDoor
