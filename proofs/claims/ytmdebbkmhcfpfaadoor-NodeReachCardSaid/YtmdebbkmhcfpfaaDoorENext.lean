/-
  Next, walked.
-/
import Derived.Test.YtmdebbkmhcfpfaaDoorEBase
namespace Go.Proofs.YtmdebbkmhcfpfaaDoor
open Go.RowKit

/-- What Next hands back. -/
def NextPost (w : World) (r : N3 × Int) (e : Ending) (w' : World) : Prop := e = .returned (.tuple #[nv r.1, .int .i64 r.2]) ∧ Below w.heap.size w w'
/-- The two blocks that Next makes. -/
theorem next_start (w : World) (n : N3) : NB ((w.alloc (.cells #[.int .i64 n.1, .int .i64 n.2.1, .int .i64 n.2.2] TNd)).alloc (.cells #[.int .i64 0, .int .i64 0, .int .i64 0] TNd)) w.heap.size TNd n ∧ NB ((w.alloc (.cells #[.int .i64 n.1, .int .i64 n.2.1, .int .i64 n.2.2] TNd)).alloc (.cells #[.int .i64 0, .int .i64 0, .int .i64 0] TNd)) (w.heap.size + 1) TNd (0, 0, 0) ∧
    Below w.heap.size w ((w.alloc (.cells #[.int .i64 n.1, .int .i64 n.2.1, .int .i64 n.2.2] TNd)).alloc (.cells #[.int .i64 0, .int .i64 0, .int .i64 0] TNd)) ∧ ((w.alloc (.cells #[.int .i64 n.1, .int .i64 n.2.1, .int .i64 n.2.2] TNd)).alloc (.cells #[.int .i64 0, .int .i64 0, .int .i64 0] TNd)).heap.size = w.heap.size + 2 := by
  refine ⟨(NB.new w TNd n).alloc _, ?_, ((Below.refl _ _).alloc (Nat.le_refl _) _).alloc (by rw [World.size_alloc]; omega) _, by rw [World.size_alloc, World.size_alloc]⟩
  have h := NB.new (w.alloc (.cells #[.int .i64 n.1, .int .i64 n.2.1, .int .i64 n.2.2] TNd)) TNd (0, 0, 0)
  rw [World.size_alloc] at h
  exact h
theorem set3 {B : Nat} {a w : World} (h : Below B a w) {b : Nat} (hb : B ≤ b) (x y z : Value) : Below B a (((w.setCell ⟨b, 0, none⟩ x).setCell ⟨b, 1, none⟩ y).setCell ⟨b, 2, none⟩ z) :=
  ((h.setCell (p := ⟨b, 0, none⟩) hb _).setCell (p := ⟨b, 1, none⟩) hb _).setCell (p := ⟨b, 2, none⟩) hb _
theorem NB.over {w : World} {b : Nat} {T : TypeId} {n : N3} (h : NB w b T n) (x y z : Int) : NB (((w.setCell ⟨b, 0, none⟩ (.int .i64 x)).setCell ⟨b, 1, none⟩ (.int .i64 y)).setCell ⟨b, 2, none⟩ (.int .i64 z)) b T (x, y, z) := ((h.set0 x).set1 y).set2 z
set_option maxRecDepth 100000 in
/-- What a call hands back whose result lies in a block. -/
theorem ret_next {W : World} {P : Ending → World → Prop} {a : Act} {r : Nat} {n : N3} {e : Int} (hd : a.defers = []) (h8 : a.tmps[8]? = some (.pointer (some ⟨r, 0, none⟩))) (h9 : a.tmps[9]? = some (.int .i64 e)) (hb : NB W r TNd n)
    (hp : P (.returned (.tuple #[nv n, .int .i64 e])) W) : bodyPost Tryd.prog Tryd.f19 P .ret a W := by
  obtain ⟨k0, k1, k2, _⟩ := hb.facts
  exact bodyPost_ret (v := .tuple #[nv n, .int .i64 e]) (by simp [results, Tryd.results19, go_sem, h8, h9, k0, k1, k2, nv]) hd hp
set_option maxRecDepth 100000 in
set_option maxHeartbeats 4000000 in
/-- What is refused. -/
theorem Next_arg (n : N3) (ev now retry : Int) (w : World) (h : askOk n ev now = false) :
    Calls Tryd.prog 19 #[nv n, .int .i64 ev, .int .i64 now, .int .i64 retry] w (NextPost w ((0, 0, 0), 1)) := by
  obtain ⟨t0, t1, t2, t3⟩ := next_start w n
  obtain ⟨s, si, t⟩ := n
  unfold nv
  simp only at t0 t1 t2 t3 ⊢
  have hS := fun W => isState_any s W
  have hE := fun W => isEvent_any ev W
  have hc : stOk s = false ∨ (stOk s = true ∧ evOk ev = false) ∨ (stOk s = true ∧ evOk ev = true ∧ t < 0) ∨ (stOk s = true ∧ evOk ev = true ∧ ¬ t < 0 ∧ now < si) := by
    unfold askOk at h
    simp only at h
    cases h1 : stOk s with
    | false => exact .inl rfl
    | true =>
      cases h2 : evOk ev with
      | false => exact .inr (.inl ⟨rfl, rfl⟩)
      | true =>
        rw [h1, h2] at h
        simp at h
        by_cases h3 : t < 0
        · exact .inr (.inr (.inl ⟨rfl, rfl, h3⟩))
        · exact .inr (.inr (.inr ⟨rfl, rfl, h3, by have := h (by omega); omega⟩))
  clear h
  obtain ⟨c0, c1, c2, f0, f1, f2, hlt⟩ := t0.facts
  obtain ⟨d0, d1, d2, g0, g1, g2, hlt2⟩ := t1.facts
  simp only at c0 c1 c2 d0 d1 d2
  rcases hc with h1 | ⟨h1, h2⟩ | ⟨h1, h2, h3⟩ | ⟨h1, h2, h3, h4⟩
  all_goals
    first | rw [h1] at hS | skip
    first | rw [h2] at hE | skip
    replace t0 := fhid t0
    replace t1 := fhid t1
    replace t2 := fhid t2
    replace t3 := fhid t3
    go_enter Tryd.func19, Tryd.ntmps19
    go_upto_region 1 with fail
    generalize ((w.alloc _).alloc _) = W at *
    go_wp2_with (first | (go_at_call 20; (with_reducible refine (hS _).mono ?_); rintro e w3 ⟨rfl, rfl⟩) | (go_at_call 22; (with_reducible refine (hE _).mono ?_); rintro e w3 ⟨rfl, rfl⟩) | fail)
    exact ret_next rfl rfl rfl (t1.out.over 0 0 0) ⟨rfl, set3 t2.out (by omega) _ _ _⟩
set_option maxRecDepth 100000 in
set_option maxHeartbeats 8000000 in
/-- What the table has not; what it has. -/
theorem Next_yes (n : N3) (ev now retry : Int) (w : World) (hT : TabW w) (h : askOk n ev now = true) :
    Calls Tryd.prog 19 #[nv n, .int .i64 ev, .int .i64 now, .int .i64 retry] w (NextPost w (nextN n ev now retry)) := by
  obtain ⟨t0, t1, t2, t3⟩ := next_start w n
  obtain ⟨h1, h2, h3, h4⟩ := ask_iff.1 h
  obtain ⟨s, hs, hs8⟩ := st_nat h1
  obtain ⟨e, he, he1, he12⟩ := ev_nat h2
  have hS := fun W => isState_any n.1 W
  have hE := fun W => isEvent_any ev W
  have hM := fun W => more_any n.2.2 W h3
  rw [h1] at hS
  rw [h2] at hE
  have hTc := hT.below t2 s e hs8 he12
  have hte : tabN s e = tabE n.1 ev := by unfold tabE; rw [hs, he, Int.toNat_natCast, Int.toNat_natCast]
  rw [hte] at hTc
  obtain ⟨hx0, hx8⟩ : 0 ≤ tabE n.1 ev ∧ tabE n.1 ev ≤ 8 := by rw [← hte]; exact tab_le s hs8 e he12
  have n0 := fun h0 => next_state (retry := retry) h h0
  have n3 := fun h0 h3 => next_late (retry := retry) h h0 h3
  have n2 := fun h0 h2 => next_zero (retry := retry) h h0 h2
  have n1 := fun h0 h3 h2 h9 => next_else (retry := retry) h h0 h3 h2 h9
  generalize nextN n ev now retry = R at *
  generalize tabE n.1 ev = x at *
  obtain ⟨st, si, t⟩ := n
  unfold nv
  simp only at *
  clear h h1 h2 hT hte
  subst hs
  subst he
  obtain ⟨c0, c1, c2, f0, f1, f2, hlt⟩ := t0.facts
  obtain ⟨d0, d1, d2, g0, g1, g2, hlt2⟩ := t1.facts
  simp only at c0 c1 c2 d0 d1 d2
  have i3 : ¬ t < 0 := by omega
  have i4 : ¬ now < si := by omega
  have i5 : (s : Int) < 8 := by omega
  have i6 : (e : Int) < 12 := by omega
  have i7 : ¬ (s : Int) < 0 := by omega
  have i8 : ¬ (e : Int) < 0 := by omega
  by_cases hx : x = 0
  · subst hx
    obtain rfl := n0 rfl
    clear n0 n1 n2 n3
    replace t0 := fhid t0
    replace t1 := fhid t1
    replace t2 := fhid t2
    replace t3 := fhid t3
    go_enter Tryd.func19, Tryd.ntmps19
    go_upto_region 1 with fail
    generalize ((w.alloc _).alloc _) = W at *
    go_upto_region 3 with (first | (go_at_call 20; (with_reducible refine (hS _).mono ?_); rintro e w3 ⟨rfl, rfl⟩) | (go_at_call 22; (with_reducible refine (hE _).mono ?_); rintro e w3 ⟨rfl, rfl⟩) | fail)
    go_wp2_with fail
    exact ret_next rfl rfl rfl (t1.out.over 0 0 0) ⟨rfl, set3 t2.out (by omega) _ _ _⟩
  · have bx : (x == 0) = false := by simpa using hx
    have xw : -9223372036854775808 ≤ x - 1 ∧ x - 1 ≤ 9223372036854775807 := by omega
    clear n0
    have n1 := n1 hx
    have n2 := n2 hx
    have n3 := n3 hx
    replace t0 := fhid t0
    replace t1 := fhid t1
    replace t2 := fhid t2
    replace t3 := fhid t3
    replace n1 := fhid n1
    replace n2 := fhid n2
    replace n3 := fhid n3
    clear hx
    go_enter Tryd.func19, Tryd.ntmps19
    go_upto_region 1 with fail
    generalize ((w.alloc _).alloc _) = W at *
    go_upto_region 7 with (first | (go_at_call 20; (with_reducible refine (hS _).mono ?_); rintro e w3 ⟨rfl, rfl⟩) | (go_at_call 22; (with_reducible refine (hE _).mono ?_); rintro e w3 ⟨rfl, rfl⟩) | fail)
    have q0 : NB ((w3.setCell ⟨w.heap.size, 0, none⟩ (.int .i64 (x - 1))).setCell ⟨w.heap.size, 1, none⟩ (.int .i64 now)) w.heap.size TNd (x - 1, now, t) := (NB.set0 t0.out (x - 1)).set1 now
    have q1 : NB ((w3.setCell ⟨w.heap.size, 0, none⟩ (.int .i64 (x - 1))).setCell ⟨w.heap.size, 1, none⟩ (.int .i64 now)) (w.heap.size + 1) TNd (0, 0, 0) := (NB.other t1.out 0 _ (by omega)).other 1 _ (by omega)
    have q2 : Below w.heap.size w ((w3.setCell ⟨w.heap.size, 0, none⟩ (.int .i64 (x - 1))).setCell ⟨w.heap.size, 1, none⟩ (.int .i64 now)) := (t2.out.setCell (p := ⟨w.heap.size, 0, none⟩) (Nat.le_refl _) _).setCell (p := ⟨w.heap.size, 1, none⟩) (Nat.le_refl _) _
    clear c0 c1 c2 d0 d1 d2 f0 f1 f2 g0 g1 g2 hlt hlt2 t0 t1 t2 t3 hTc hS hE
    generalize ((w3.setCell ⟨w.heap.size, 0, none⟩ (.int .i64 (x - 1))).setCell ⟨w.heap.size, 1, none⟩ (.int .i64 now)) = V at *
    obtain ⟨c0, c1, c2, f0, f1, f2, hlt⟩ := q0.facts
    obtain ⟨d0, d1, d2, g0, g1, g2, hlt2⟩ := q1.facts
    simp only at c0 c1 c2 d0 d1 d2
    replace q0 := fhid q0
    replace q1 := fhid q1
    replace q2 := fhid q2
    by_cases e3 : e = 3
    · subst e3
      have n3 := n3.out rfl
      clear n1 n2
      go_upto_region 10 with (go_at_call 23; (with_reducible refine (hM _).mono ?_); rintro e w4 ⟨rfl, rfl⟩)
      have r0 : NB (w4.setCell ⟨w.heap.size, 2, none⟩ (.int .i64 (moreT t))) w.heap.size TNd (x - 1, now, moreT t) := NB.set2 q0.out (moreT t)
      have r1 : NB (w4.setCell ⟨w.heap.size, 2, none⟩ (.int .i64 (moreT t))) (w.heap.size + 1) TNd (0, 0, 0) := NB.other q1.out 2 _ (by omega)
      have r2 : Below w.heap.size w (w4.setCell ⟨w.heap.size, 2, none⟩ (.int .i64 (moreT t))) := q2.out.setCell (p := ⟨w.heap.size, 2, none⟩) (Nat.le_refl _) _
      clear c0 c1 c2 d0 d1 d2 f0 f1 f2 g0 g1 g2 hlt hlt2 q0 q1 q2 hM
      generalize w4.setCell ⟨w.heap.size, 2, none⟩ (.int .i64 (moreT t)) = V at *
      generalize moreT t = m at *
      obtain ⟨c0, c1, c2, f0, f1, f2, hlt⟩ := r0.facts
      obtain ⟨d0, d1, d2, g0, g1, g2, hlt2⟩ := r1.facts
      simp only at c0 c1 c2 d0 d1 d2
      replace r0 := fhid r0
      replace r1 := fhid r1
      replace r2 := fhid r2
      by_cases hm : retry < m
      · rw [if_pos hm] at n3
        subst n3
        have i9 : m > retry := hm
        go_upto_region 15 with fail
        have s1 : NB (V.setCell ⟨w.heap.size, 0, none⟩ (.int .i64 6)) w.heap.size TNd (6, now, m) := NB.set0 r0.out 6
        have s2 : NB (V.setCell ⟨w.heap.size, 0, none⟩ (.int .i64 6)) (w.heap.size + 1) TNd (0, 0, 0) := NB.other r1.out 0 _ (by omega)
        have s3 : Below w.heap.size w (V.setCell ⟨w.heap.size, 0, none⟩ (.int .i64 6)) := r2.out.setCell (p := ⟨w.heap.size, 0, none⟩) (Nat.le_refl _) _
        clear c0 c1 c2 d0 d1 d2 f0 f1 f2 g0 g1 g2 hlt hlt2 r0 r1 r2
        generalize V.setCell ⟨w.heap.size, 0, none⟩ (.int .i64 6) = U at *
        obtain ⟨c0, c1, c2, f0, f1, f2, hlt⟩ := s1.facts
        obtain ⟨d0, d1, d2, g0, g1, g2, hlt2⟩ := s2.facts
        simp only at c0 c1 c2 d0 d1 d2
        replace s1 := fhid s1
        replace s2 := fhid s2
        replace s3 := fhid s3
        go_wp2_with fail
        exact ret_next rfl rfl rfl (s2.out.over 6 now m) ⟨rfl, set3 s3.out (by omega) _ _ _⟩
      · rw [if_neg hm] at n3
        subst n3
        have i9 : ¬ m > retry := hm
        go_wp2_with fail
        exact ret_next rfl rfl rfl (r1.out.over (x - 1) now m) ⟨rfl, set3 r2.out (by omega) _ _ _⟩
    · by_cases e2 : e = 2 ∨ e = 9
      · have n2 := n2.out (by omega)
        subst n2
        have b3 : ((e : Int) == 3) = false := by simpa using (show ¬ (e : Int) = 3 by omega)
        clear n1 n3
        rcases e2 with rfl | rfl
        all_goals
          go_upto_region 15 with fail
          have r0 : NB (V.setCell ⟨w.heap.size, 2, none⟩ (.int .i64 0)) w.heap.size TNd (x - 1, now, 0) := NB.set2 q0.out 0
          have r1 : NB (V.setCell ⟨w.heap.size, 2, none⟩ (.int .i64 0)) (w.heap.size + 1) TNd (0, 0, 0) := NB.other q1.out 2 _ (by omega)
          have r2 : Below w.heap.size w (V.setCell ⟨w.heap.size, 2, none⟩ (.int .i64 0)) := q2.out.setCell (p := ⟨w.heap.size, 2, none⟩) (Nat.le_refl _) _
          clear c0 c1 c2 d0 d1 d2 f0 f1 f2 g0 g1 g2 hlt hlt2 q0 q1 q2 hM
          generalize V.setCell ⟨w.heap.size, 2, none⟩ (.int .i64 0) = U at *
          obtain ⟨c0, c1, c2, f0, f1, f2, hlt⟩ := r0.facts
          obtain ⟨d0, d1, d2, g0, g1, g2, hlt2⟩ := r1.facts
          simp only at c0 c1 c2 d0 d1 d2
          replace r0 := fhid r0
          replace r1 := fhid r1
          replace r2 := fhid r2
          go_wp2_with fail
          exact ret_next rfl rfl rfl (r1.out.over (x - 1) now 0) ⟨rfl, set3 r2.out (by omega) _ _ _⟩
      · have n1 := n1.out (by omega) (by omega) (by omega)
        subst n1
        have b3 : ((e : Int) == 3) = false := by simpa using (show ¬ (e : Int) = 3 by omega)
        have b2 : ((e : Int) == 2) = false := by simpa using (show ¬ (e : Int) = 2 by omega)
        have b9 : ((e : Int) == 9) = false := by simpa using (show ¬ (e : Int) = 9 by omega)
        clear n2 n3
        go_wp2_with fail
        exact ret_next rfl rfl rfl (q1.out.over (x - 1) now t) ⟨rfl, set3 q2.out (by omega) _ _ _⟩
/-- A node behind an event. -/
theorem Next_any (n : N3) (ev now retry : Int) (w : World) (hT : TabW w) :
    Calls Tryd.prog 19 #[nv n, .int .i64 ev, .int .i64 now, .int .i64 retry] w (NextPost w (nextN n ev now retry)) := by
  by_cases h : askOk n ev now = true
  · exact Next_yes n ev now retry w hT h
  · have h : askOk n ev now = false := by simpa using h
    rw [next_arg h]
    exact Next_arg n ev now retry w h
end Go.Proofs.YtmdebbkmhcfpfaaDoor
