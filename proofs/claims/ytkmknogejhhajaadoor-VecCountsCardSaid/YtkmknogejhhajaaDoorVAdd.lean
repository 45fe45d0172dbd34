/-
  Add, Sub, Times.
-/
import Derived.Test.YtkmknogejhhajaaDoorVComb2
namespace Go.Proofs.YtkmknogejhhajaaDoor
open Go.RowKit

/-- A vector that may be, or the fault. -/
def okV (x y z : Int) : V3 × Int := if right x y z = true then ((x, y, z), 0) else ((0, 0, 0), 5)
def addGo : V3 → List V3 → V3 × Int
  | s, [] => (s, 0)
  | s, v :: r => if right (s.1 + v.1) (s.2.1 + v.2.1) (s.2.2 + v.2.2) = true then addGo (s.1 + v.1, s.2.1 + v.2.1, s.2.2 + v.2.2) r else ((0, 0, 0), 5)
def addV (l : List V3) : V3 × Int := if allR l = true then addGo (0, 0, 0) l else ((0, 0, 0), 1)
def subV (a b : V3) : V3 × Int := if (right a.1 a.2.1 a.2.2 && right b.1 b.2.1 b.2.2) = true then okV (a.1 - b.1) (a.2.1 - b.2.1) (a.2.2 - b.2.2) else ((0, 0, 0), 1)
def timesV (v : V3) (n : Int) : V3 × Int := if right v.1 v.2.1 v.2.2 = true ∧ 0 ≤ n then okV (v.1 * n) (v.2.1 * n) (v.2.2 * n) else ((0, 0, 0), 1)
theorem cres_zero (x y z : Int) : cres x y z 0 0 0 = okV x y z := by
  unfold cres okV; rw [if_neg (fun h => h rfl)]
theorem combAdd (a b c d e f : Int) (w : World) (h : right a b c = true) (k : right d e f = true) : Calls Tryd.prog 35 #[vec a b c, vec d e f, .func (.func 36) #[] #[]] w (VP w (okV (a + d) (b + e) (c + f))) := by
  obtain ⟨⟨a0, a1⟩, ⟨b0, b1⟩, c0, c1⟩ := right_iff.1 h
  obtain ⟨⟨d0, d1⟩, ⟨e0, e1⟩, f0, f1⟩ := right_iff.1 k
  rw [← cres_zero]
  exact combine_any 36 (enters_of Tryd.func36 (by kernel_rfl) rfl) a b c d e f _ _ _ _ _ _ w (fun W => sAdd a d W a0 a1 d0 d1) (fun W => sAdd b e W b0 b1 e0 e1) (fun W => sAdd c f W c0 c1 f0 f1)
theorem combSub (a b c d e f : Int) (w : World) (h : right a b c = true) (k : right d e f = true) : Calls Tryd.prog 35 #[vec a b c, vec d e f, .func (.func 37) #[] #[]] w (VP w (okV (a - d) (b - e) (c - f))) := by
  obtain ⟨⟨a0, a1⟩, ⟨b0, b1⟩, c0, c1⟩ := right_iff.1 h
  obtain ⟨⟨d0, d1⟩, ⟨e0, e1⟩, f0, f1⟩ := right_iff.1 k
  rw [← cres_zero]
  exact combine_any 37 (enters_of Tryd.func37 (by kernel_rfl) rfl) a b c d e f _ _ _ _ _ _ w (fun W => sSub a d W a0 a1 d0 d1) (fun W => sSub b e W b0 b1 e0 e1) (fun W => sSub c f W c0 c1 f0 f1)
theorem mul_cres (a b c : Int) : cres (mgot a) (mgot b) (mgot c) (merr a) (merr b) (merr c) = okV a b c := by
  by_cases h1 : a ≤ 9223372036854775807 <;> by_cases h2 : b ≤ 9223372036854775807 <;> by_cases h3 : c ≤ 9223372036854775807
  all_goals
    unfold mgot merr
    simp only [h1, h2, h3, if_true, if_false]
    first
      | exact cres_zero a b c
      | (have hr : right a b c = false := by
           cases hq : right a b c with
           | false => rfl
           | true => have := right_iff.1 hq; omega
         unfold okV
         rw [hr, if_neg (by decide)]
         exact cres_bad (by decide))
theorem combMul (a b c n : Int) (w : World) (h : right a b c = true) (n0 : 0 ≤ n) (n1 : n ≤ 9223372036854775807) : Calls Tryd.prog 35 #[vec a b c, vec n n n, .func (.func 38) #[] #[]] w (VP w (okV (a * n) (b * n) (c * n))) := by
  obtain ⟨⟨a0, a1⟩, ⟨b0, b1⟩, c0, c1⟩ := right_iff.1 h
  rw [← mul_cres]
  exact combine_any 38 (enters_of Tryd.func38 (by kernel_rfl) rfl) a b c n n n _ _ _ _ _ _ w (fun W => sMul a n W a0 a1 n0 n1) (fun W => sMul b n W b0 b1 n0 n1) (fun W => sMul c n W c0 c1 n0 n1)
theorem okV_cases (x y z : Int) : (okV x y z = ((x, y, z), 0) ∧ right x y z = true) ∨ (okV x y z = ((0, 0, 0), 5) ∧ right x y z = false) := by
  unfold okV
  cases h : right x y z with
  | true => exact .inl ⟨if_pos rfl, rfl⟩
  | false => exact .inr ⟨if_neg (by decide), rfl⟩
theorem VP.ret {w w' : World} {r : V3 × Int} {x y z e : Int} (h : ((x, y, z), e) = r) (b : Below w.heap.size w w') : VP w r (.returned (.tuple #[vec x y z, .int .i64 e])) w' := by subst h; exact ⟨rfl, b⟩

set_option maxRecDepth 100000 in
set_option maxHeartbeats 2000000 in
theorem Sub_any (a b c d e f : Int) (w : World) : Calls Tryd.prog 21 #[vec a b c, vec d e f] w (VP w (subV (a, b, c) (d, e, f))) := by
  obtain ⟨R, hR⟩ : ∃ R, subV (a, b, c) (d, e, f) = R := ⟨_, rfl⟩
  rw [hR]
  unfold subV at hR
  simp only at hR
  have hall := allTwo a b c d e f
  cases hq : right a b c && right d e f with
  | false =>
    rw [hq] at hall hR
    rw [if_neg (by decide)] at hR
    clear hq
    replace hR := fhid hR
    go_enter Tryd.func21, Tryd.ntmps21
    go_upto_region 1 with fail
    obtain ⟨g0, hs, b0, b1, b2⟩ := box3 a b c d e f w
    generalize (((w.alloc _).alloc _).alloc _) = w1 at *
    obtain ⟨c0, c1, c2, _⟩ := VB.facts b0
    obtain ⟨d0, d1, d2, _⟩ := VB.facts b1
    replace b2 := fhid b2
    have hn : ∀ o, (w1.alloc o).heap[w.heap.size + 3]? = some o := fun o => by rw [← hs]; exact heap_alloc_new _ _
    go_wp2_with (go_at_call 32; (with_reducible refine (hall _ _ (hn _)).mono ?_); rintro r w3 ⟨rfl, g3⟩
                 have r5 := fhid ((b2.out.grew ((Grew.refl _).alloc _)).grew g3)
                 obtain ⟨d0, d1, d2, ⟨u0, u1, u2⟩, yy⟩ := r5.out.facts)
    exact bodyPost_ret (v := .tuple #[vec 0 0 0, .int .i64 1]) (by simp [results, Tryd.results21, go_sem, d0, d1, d2]) rfl (VP.ret hR.out (set3 ((g0.alloc _).trans g3).below (by omega) _ _ _))
  | true =>
    rw [hq] at hall hR
    rw [if_pos rfl] at hR
    obtain ⟨h1, h2⟩ := (Bool.and_eq_true _ _).mp hq
    have hcomb := fun W => combSub a b c d e f W h1 h2
    rw [hR] at hcomb
    clear hq h1 h2
    rcases R with ⟨⟨x, y, z⟩, E⟩
    unfold VP at hcomb
    simp only [vv] at hcomb
    clear hR
    go_enter Tryd.func21, Tryd.ntmps21
    go_upto_region 1 with fail
    obtain ⟨g0, hs, b0, b1, b2⟩ := box3 a b c d e f w
    generalize (((w.alloc _).alloc _).alloc _) = w1 at *
    obtain ⟨c0, c1, c2, _⟩ := VB.facts b0
    obtain ⟨d0, d1, d2, _⟩ := VB.facts b1
    have kb0 := fhid b0
    have kb1 := fhid b1
    replace b2 := fhid b2
    have hn : ∀ o, (w1.alloc o).heap[w.heap.size + 3]? = some o := fun o => by rw [← hs]; exact heap_alloc_new _ _
    clear b0 b1
    go_wp2_with (first
      | (go_at_call 32; (with_reducible refine (hall _ _ (hn _)).mono ?_); clear hall; rintro r w3 ⟨rfl, g3⟩
         have g4 := fhid ((g0.alloc _).trans g3)
         have r4 := fhid ((b2.out.grew ((Grew.refl _).alloc _)).grew g3)
         have s0 := (kb0.out.grew ((Grew.refl _).alloc _)).grew g3
         have s1 := (kb1.out.grew ((Grew.refl _).alloc _)).grew g3
         clear c0 c1 c2 d0 d1 d2 b2 hn hs
         obtain ⟨c0, c1, c2, _⟩ := VB.facts s0
         obtain ⟨d0, d1, d2, _⟩ := VB.facts s1
         clear s0 s1 kb0 kb1)
      | (go_at_call 35; (with_reducible refine (hcomb _).mono ?_); rintro r w5 ⟨rfl, b5⟩
         have r5 := fhid (r4.out.on b5)
         clear c0 c1 c2 d0 d1 d2
         obtain ⟨d0, d1, d2, ⟨u0, u1, u2⟩, yy⟩ := r5.out.facts))
    have zb := g4.out.below
    exact bodyPost_ret (v := .tuple #[vec x y z, .int .i64 E]) (by simp [results, Tryd.results21, go_sem, d0, d1, d2]) rfl (VP.ret rfl (set3 (zb.trans (b5.mono zb.size)) (by omega) _ _ _))
end Go.Proofs.YtkmknogejhhajaaDoor
