/-
  combine, walked.
-/
import Derived.Test.YtkmknogejhhajaaDoorVComb
namespace Go.Proofs.YtkmknogejhhajaaDoor
open Go.RowKit

theorem set3 {w u : World} (h : Below w.heap.size w u) {b : Nat} (hb : w.heap.size ≤ b) (x y z : Value) : Below w.heap.size w (((u.setCell ⟨b, 0, none⟩ x).setCell ⟨b, 1, none⟩ y).setCell ⟨b, 2, none⟩ z) :=
  ((h.setCell (p := ⟨b, 0, none⟩) hb _).setCell (p := ⟨b, 1, none⟩) hb _).setCell (p := ⟨b, 2, none⟩) hb _
set_option maxRecDepth 100000 in
set_option maxHeartbeats 4000000 in
theorem combine_any (g : Nat) (eg : ∀ args w, (callFunc g args).run Tryd.prog w = .ok (.enter g args) w) (a b c d e f : Int) (x0 e0 x1 e1 x2 e2 : Int) (w : World)
    (h0 : ∀ W, Calls Tryd.prog g #[.int .i64 a, .int .i64 d] W fun r w' => r = .returned (.tuple #[.int .i64 x0, .int .i64 e0]) ∧ w' = W)
    (h1 : ∀ W, Calls Tryd.prog g #[.int .i64 b, .int .i64 e] W fun r w' => r = .returned (.tuple #[.int .i64 x1, .int .i64 e1]) ∧ w' = W)
    (h2 : ∀ W, Calls Tryd.prog g #[.int .i64 c, .int .i64 f] W fun r w' => r = .returned (.tuple #[.int .i64 x2, .int .i64 e2]) ∧ w' = W) :
    Calls Tryd.prog 35 #[vec a b c, vec d e f, .func (.func g) #[] #[]] w (VP w (cres x0 x1 x2 e0 e1 e2)) := by
  have h4 := or3E e0 e1 e2
  have k1 := fhid (cres_bad (x := x0) (y := x1) (z := x2) (e := e0) (f := e1) (g := e2))
  have k2 := fhid (cres_in (x := x0) (y := x1) (z := x2) (e := e0) (f := e1) (g := e2))
  have k3 := fhid (cres_out (x := x0) (y := x1) (z := x2) (e := e0) (f := e1) (g := e2))
  have hr := fun W => Right_any x0 x1 x2 W
  generalize orI [e0, e1, e2] = E at *
  generalize right x0 x1 x2 = q at *
  go_enter Tryd.func35, Tryd.ntmps35
  go_upto_region 1 with fail
  obtain ⟨g0, hs, b0, b1, b2⟩ := box3 a b c d e f w
  generalize (((w.alloc _).alloc _).alloc _) = w1 at *
  obtain ⟨c0, c1, c2, _⟩ := VB.facts b0
  obtain ⟨d0, d1, d2, _⟩ := VB.facts b1
  replace b2 := fhid b2
  go_upto_region 4 with (first
    | (go_at_fn g; (with_reducible refine (h0 _).mono ?_); clear h0; rintro r w2 ⟨rfl, rfl⟩)
    | (go_at_fn g; (with_reducible refine (h1 _).mono ?_); clear h1; rintro r w2 ⟨rfl, rfl⟩)
    | (go_at_fn g; (with_reducible refine (h2 _).mono ?_); clear h2; rintro r w2 ⟨rfl, rfl⟩))
  clear c0 c1 c2 d0 d1 d2 b0 b1
  have hB := g0.below
  have hn : ∀ o, (w2.alloc o).heap[w.heap.size + 3]? = some o := fun o => by rw [← hs]; exact heap_alloc_new _ _
  by_cases hE : E = 0
  · subst hE
    cases q with
    | true =>
      have kk := fhid (k2.out rfl rfl)
      clear k1 k2 k3
      go_upto_region 5 with (go_at_call 48; (with_reducible refine (h4 _ _ (hn _)).mono ?_); rintro r w3 ⟨rfl, rfl⟩)
      replace b2 := fhid (show VB (w2.alloc (.cells #[.int .i64 e0, .int .i64 e1, .int .i64 e2] 29)) (w.heap.size + 2) 0 0 0 from VB.grew b2.out ((Grew.refl _).alloc _))
      have g1 := fhid (g0.alloc (.cells #[.int .i64 e0, .int .i64 e1, .int .i64 e2] 29))
      generalize w2.alloc _ = w4 at *
      go_wp2_with (go_at_call 10; (with_reducible refine (hr _).mono ?_); rintro r w5 ⟨rfl, g2⟩
                   have v5 := fhid ((VB.new w4 x0 x1 x2 _ rfl).grew g2)
                   obtain ⟨c0, c1, c2, ⟨f0, f1, f2⟩, z⟩ := v5.out.facts
                   have r5 := fhid ((b2.out.grew ((Grew.refl _).alloc _)).grew g2)
                   obtain ⟨d0, d1, d2, ⟨u0, u1, u2⟩, y⟩ := r5.out.facts)
      exact bodyPost_ret (v := .tuple #[vec x0 x1 x2, .int .i64 0]) (by simp [results, Tryd.results35, go_sem, d0, d1, d2]) rfl ⟨by rw [kk.out], set3 ((g1.out.alloc _).trans g2).below (by omega) _ _ _⟩
    | false =>
      have kk := fhid (k3.out rfl rfl)
      clear k1 k2 k3
      go_upto_region 5 with (go_at_call 48; (with_reducible refine (h4 _ _ (hn _)).mono ?_); rintro r w3 ⟨rfl, rfl⟩)
      replace b2 := fhid (show VB (w2.alloc (.cells #[.int .i64 e0, .int .i64 e1, .int .i64 e2] 29)) (w.heap.size + 2) 0 0 0 from VB.grew b2.out ((Grew.refl _).alloc _))
      have g1 := fhid (g0.alloc (.cells #[.int .i64 e0, .int .i64 e1, .int .i64 e2] 29))
      generalize w2.alloc _ = w4 at *
      go_wp2_with (go_at_call 10; (with_reducible refine (hr _).mono ?_); rintro r w5 ⟨rfl, g2⟩
                   have v5 := fhid ((VB.new w4 x0 x1 x2 _ rfl).grew g2)
                   obtain ⟨c0, c1, c2, ⟨f0, f1, f2⟩, z⟩ := v5.out.facts
                   have r5 := fhid ((b2.out.grew ((Grew.refl _).alloc _)).grew g2)
                   obtain ⟨d0, d1, d2, ⟨u0, u1, u2⟩, y⟩ := r5.out.facts)
      exact bodyPost_ret (v := .tuple #[vec 0 0 0, .int .i64 5]) (by simp [results, Tryd.results35, go_sem, d0, d1, d2]) rfl ⟨by rw [kk.out], set3 ((g1.out.alloc _).trans g2).below (by omega) _ _ _⟩
  · have kk := fhid (k1.out hE)
    have hE2 : (E != 0) = true := by simpa using hE
    clear k1 k2 k3
    go_upto_region 5 with (go_at_call 48; (with_reducible refine (h4 _ _ (hn _)).mono ?_); rintro r w3 ⟨rfl, rfl⟩)
    replace b2 := fhid (show VB (w2.alloc (.cells #[.int .i64 e0, .int .i64 e1, .int .i64 e2] 29)) (w.heap.size + 2) 0 0 0 from VB.grew b2.out ((Grew.refl _).alloc _))
    have g1 := fhid (g0.alloc (.cells #[.int .i64 e0, .int .i64 e1, .int .i64 e2] 29))
    generalize w2.alloc _ = w4 at *
    obtain ⟨d0, d1, d2, ⟨u0, u1, u2⟩, y⟩ := b2.out.facts
    go_wp2_with fail
    exact bodyPost_ret (v := .tuple #[vec 0 0 0, .int .i64 E]) (by simp [results, Tryd.results35, go_sem, d0, d1, d2]) rfl ⟨by rw [kk.out], set3 g1.out.below (by omega) _ _ _⟩
end Go.Proofs.YtkmknogejhhajaaDoor
