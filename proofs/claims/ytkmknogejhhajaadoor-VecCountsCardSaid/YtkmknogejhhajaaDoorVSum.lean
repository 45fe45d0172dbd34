/-
  Times; Add.
-/
import Derived.Test.YtkmknogejhhajaaDoorVAdd
namespace Go.Proofs.YtkmknogejhhajaaDoor
open Go.RowKit

theorem block_set {w : World} {b : Nat} {cs : Array Value} {t : TypeId} (i : Nat) (u : Value) (h : w.heap[b]? = some (.cells cs t (0, 0))) : (w.setCell ⟨b, i, none⟩ u).heap[b]? = some (.cells (cs.setIfInBounds i u) t (0, 0)) := by
  have hlt := lt_of_block h
  have h' : w.heap[b] = .cells cs t (0, 0) := by simpa [Array.getElem?_eq_getElem hlt] using h
  show (w.heap.modify b _)[b]? = _
  rw [Array.getElem?_eq_getElem (by simpa using hlt), Array.getElem_modify_self, h']
  rfl
theorem block_other {w : World} {b c : Nat} {o : Option Obj} (i : Nat) (u : Value) (h : w.heap[b]? = o) (hne : b ≠ c) : (w.setCell ⟨c, i, none⟩ u).heap[b]? = o := (Below.heap_setCell _ _ _ _ hne).trans h
theorem VB.put {w : World} {b : Nat} {x y z : Int} (h : VB w b x y z) (p q r : Int) : VB (((w.setCell ⟨b, 0, none⟩ (.int .i64 p)).setCell ⟨b, 1, none⟩ (.int .i64 q)).setCell ⟨b, 2, none⟩ (.int .i64 r)) b p q r := block_set 2 _ (block_set 1 _ (block_set 0 _ h))
theorem VB.other {w : World} {b c : Nat} {x y z : Int} (h : VB w b x y z) (hne : b ≠ c) (p q r : Value) : VB (((w.setCell ⟨c, 0, none⟩ p).setCell ⟨c, 1, none⟩ q).setCell ⟨c, 2, none⟩ r) b x y z := block_other 2 _ (block_other 1 _ (block_other 0 _ h hne) hne) hne
theorem box2v (a b c : Int) (w : World) : let W := (w.alloc (.cells #[.int .i64 a, .int .i64 b, .int .i64 c] 23)).alloc (.cells #[.int .i64 0, .int .i64 0, .int .i64 0] 23)
    Grew w W ∧ W.heap.size = w.heap.size + 2 ∧ VB W w.heap.size a b c ∧ VB W (w.heap.size + 1) 0 0 0 := by
  intro W
  refine ⟨((Grew.refl w).alloc _).alloc _, by simp [W], ?_, ?_⟩
  · exact (Below.heap_alloc _ _ w.heap.size (by simp)).trans (heap_alloc_new w _)
  · have h := heap_alloc_new (w.alloc (.cells #[.int .i64 a, .int .i64 b, .int .i64 c] 23)) (.cells #[.int .i64 0, .int .i64 0, .int .i64 0] 23)
    rw [World.size_alloc] at h
    exact h
set_option maxRecDepth 100000 in
set_option maxHeartbeats 2000000 in
theorem Times_any (a b c n : Int) (w : World) (hn : n ≤ 9223372036854775807) : Calls Tryd.prog 23 #[vec a b c, .int .i64 n] w (VP w (timesV (a, b, c) n)) := by
  obtain ⟨R, hR⟩ : ∃ R, timesV (a, b, c) n = R := ⟨_, rfl⟩
  rw [hR]
  unfold timesV at hR
  simp only at hR
  have hr := fun W => Right_any a b c W
  cases hq : right a b c with
  | false =>
    rw [hq] at hr hR
    rw [if_neg (by simp)] at hR
    clear hq hn
    replace hR := fhid hR
    go_enter Tryd.func23, Tryd.ntmps23
    go_upto_region 1 with fail
    obtain ⟨g0, hs, b0, b2⟩ := box2v a b c w
    generalize ((w.alloc _).alloc _) = w1 at *
    obtain ⟨c0, c1, c2, _⟩ := VB.facts b0
    replace b2 := fhid b2
    clear hs b0
    go_wp2_with (go_at_call 10; (with_reducible refine (hr _).mono ?_); rintro r w3 ⟨rfl, g3⟩
                 have r5 := fhid (b2.out.grew g3)
                 obtain ⟨d0, d1, d2, ⟨u0, u1, u2⟩, yy⟩ := r5.out.facts)
    exact bodyPost_ret (v := .tuple #[vec 0 0 0, .int .i64 1]) (by simp [results, Tryd.results23, go_sem, d0, d1, d2]) rfl (VP.ret hR.out (set3 (g0.trans g3).below (by omega) _ _ _))
  | true =>
    by_cases h0 : n < 0
    · rw [hq] at hr hR
      rw [if_neg (by simp; omega)] at hR
      clear hq hn
      replace hR := fhid hR
      go_enter Tryd.func23, Tryd.ntmps23
      go_upto_region 1 with fail
      obtain ⟨g0, hs, b0, b2⟩ := box2v a b c w
      generalize ((w.alloc _).alloc _) = w1 at *
      obtain ⟨c0, c1, c2, _⟩ := VB.facts b0
      replace b2 := fhid b2
      clear hs b0
      go_wp2_with (go_at_call 10; (with_reducible refine (hr _).mono ?_); rintro r w3 ⟨rfl, g3⟩
                   have r5 := fhid (b2.out.grew g3)
                   obtain ⟨d0, d1, d2, ⟨u0, u1, u2⟩, yy⟩ := r5.out.facts)
      exact bodyPost_ret (v := .tuple #[vec 0 0 0, .int .i64 1]) (by simp [results, Tryd.results23, go_sem, d0, d1, d2]) rfl (VP.ret hR.out (set3 (g0.trans g3).below (by omega) _ _ _))
    · have hcomb := fun W => combMul a b c n W hq (by omega) hn
      rw [hq] at hr hR
      rw [if_pos ⟨rfl, by omega⟩] at hR
      rw [hR] at hcomb
      rcases R with ⟨⟨x, y, z⟩, E⟩
      unfold VP at hcomb
      simp only [vv] at hcomb
      clear hR hq hn
      go_enter Tryd.func23, Tryd.ntmps23
      go_upto_region 1 with fail
      obtain ⟨g0, hs, b0, b2⟩ := box2v a b c w
      generalize ((w.alloc _).alloc _) = w1 at *
      obtain ⟨c0, c1, c2, _⟩ := VB.facts b0
      have kb0 := fhid b0
      replace b2 := fhid b2
      clear hs b0
      go_wp2_with (first
        | (go_at_call 10; (with_reducible refine (hr _).mono ?_); rintro r w3 ⟨rfl, g3⟩
           have g4 := fhid (g0.trans g3)
           have r4 := fhid (b2.out.grew g3)
           clear c0 c1 c2
           obtain ⟨c0, c1, c2, _⟩ := VB.facts (kb0.out.grew g3))
        | (go_at_call 35; (with_reducible refine (hcomb _).mono ?_); rintro r w5 ⟨rfl, b5⟩
           have r5 := fhid (r4.out.on b5)
           clear c0 c1 c2
           obtain ⟨d0, d1, d2, ⟨u0, u1, u2⟩, yy⟩ := r5.out.facts))
      have zb := g4.out.below
      exact bodyPost_ret (v := .tuple #[vec x y z, .int .i64 E]) (by simp [results, Tryd.results23, go_sem, d0, d1, d2]) rfl (VP.ret rfl (set3 (zb.trans (b5.mono zb.size)) (by omega) _ _ _))
theorem addGo_drop (s : V3) (l : List V3) (k : Nat) (h : k < l.length) : addGo s (l.drop k) = if right (s.1 + l[k].1) (s.2.1 + l[k].2.1) (s.2.2 + l[k].2.2) = true then addGo (s.1 + l[k].1, s.2.1 + l[k].2.1, s.2.2 + l[k].2.2) (l.drop (k + 1)) else ((0, 0, 0), 5) := by
  rw [List.drop_eq_getElem_cons h]; rfl
theorem allR_get {l : List V3} (h : allR l = true) (k : Nat) (hk : k < l.length) : right l[k].1 l[k].2.1 l[k].2.2 = true := List.all_eq_true.1 h _ (List.getElem_mem hk)
end Go.Proofs.YtkmknogejhhajaaDoor
