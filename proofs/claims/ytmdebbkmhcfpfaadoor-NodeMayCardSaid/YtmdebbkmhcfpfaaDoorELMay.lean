/-
  NodeMay, walked.
-/
import Derived.Test.YtmdebbkmhcfpfaaDoorEEvents
namespace Go.Proofs.YtmdebbkmhcfpfaaDoor
open Go.RowKit

theorem may_cases (n : N3) (ev now retry : Int) (x : N3) (err : Int) (h : nextN n ev now retry = (x, err)) :
    (err = 0 ∧ ev ∈ eventsP n.1 ∧ x.2.1 = now ∧ 0 ≤ x.1 ∧ x.1 ≤ 7 ∧ x.1 ≠ n.1) ∨
    (err = 1 ∧ x = (0, 0, 0) ∧ (n.1 < 0 ∨ (¬ n.1 < 0 ∧ n.1 > 7) ∨ (¬ n.1 < 0 ∧ ¬ n.1 > 7 ∧ ev < 1) ∨ (¬ n.1 < 0 ∧ ¬ n.1 > 7 ∧ ¬ ev < 1 ∧ ev > 11) ∨ (¬ n.1 < 0 ∧ ¬ n.1 > 7 ∧ ¬ ev < 1 ∧ ¬ ev > 11 ∧ n.2.2 < 0) ∨ (¬ n.1 < 0 ∧ ¬ n.1 > 7 ∧ ¬ ev < 1 ∧ ¬ ev > 11 ∧ ¬ n.2.2 < 0 ∧ now < n.2.1))) ∨
    (err = 11 ∧ x = (0, 0, 0) ∧ ev ∉ eventsP n.1) := by
  rcases next_err n ev now retry with ⟨y, hy⟩ | ⟨hy, ha⟩ | ⟨hy, ha, h0⟩
  · rw [h] at hy
    injection hy with hx he
    subst he
    obtain ⟨ha, h0, h1, _, _⟩ := next_ok h
    obtain ⟨h2, h3, h4, _⟩ := next_facts h
    obtain ⟨hs, he, _⟩ := ask_iff.1 ha
    exact .inl ⟨rfl, (mem_events hs he).2 h0, h1, h2, h3, h4⟩
  · rw [h] at hy
    injection hy with hx he
    refine .inr (.inl ⟨he, hx, ?_⟩)
    have h1 : ¬ (stOk n.1 = true ∧ evOk ev = true ∧ 0 ≤ n.2.2 ∧ n.2.1 ≤ now) := by
      intro hh
      rw [ask_iff.2 hh] at ha
      cases ha
    unfold stOk evOk at h1
    rw [decide_eq_true_eq, decide_eq_true_eq] at h1
    omega
  · rw [h] at hy
    injection hy with hx he
    obtain ⟨hs, he2, _⟩ := ask_iff.1 ha
    exact .inr (.inr ⟨he, hx, fun hm => (mem_events hs he2).1 hm h0⟩)
theorem events_small (s : Int) : (eventsP s).length ≤ 10000000 := by
  unfold eventsP
  split
  · rename_i h
    obtain ⟨n, rfl, hn⟩ := st_nat h
    have := events_len n hn
    rw [Int.toNat_natCast]
    omega
  · simp
set_option maxRecDepth 100000 in
set_option maxHeartbeats 8000000 in
theorem may_walk (n : N3) (ev now : Int) (w : World) (hT : TabW w) :
    Calls Tryd.prog 4 #[nv n, .int .i64 ev, .int .i64 now] w (BoolPost w true) := by
  have hal := fun W (hW : Below w.heap.size w W) => alive_any W (hT.below hW)
  have hev := fun W (hW : Below w.heap.size w W) => Events_any n.1 W (hT.below hW)
  have hth := fun W => theirs_any n W
  have hnx := fun W (hW : Below w.heap.size w W) => Next_any n ev now 3 W (hT.below hW)
  have hq := eql_nd 0 0 0 0 0 0
  obtain ⟨x, err, hR⟩ : ∃ x err, nextN n ev now 3 = (x, err) := ⟨_, _, rfl⟩
  have hcase := fhid (may_cases n ev now 3 x err hR)
  have hsm := events_small n.1
  rw [hR] at hnx
  clear hR
  have t0 := NB.new w TRNd n
  have g0 : Below w.heap.size w (w.alloc (.cells #[.int .i64 n.1, .int .i64 n.2.1, .int .i64 n.2.2] TRNd)) := (Below.refl _ _).alloc (Nat.le_refl _) _
  obtain ⟨s, si, t⟩ := n
  obtain ⟨xs, xi, xt⟩ := x
  unfold NextPost NodePost nv at *
  simp only at *
  generalize eventsP s = L at *
  replace hT := fhid hT
  go_enter Tryd.func4, Tryd.ntmps4
  go_upto_region 1 with fail
  generalize w.alloc _ = w1 at *
  obtain ⟨c0, c1, c2, _, _, _, z1⟩ := t0.facts
  go_upto_region 2 with (first
    | (go_at_call 16
       (with_reducible refine (hth _).mono ?_)
       rintro e u1 ⟨rfl, b1⟩
       have g1 := g0.trans (b1.mono g0.size))
    | (go_at_call 19
       (with_reducible refine (hnx _ g1).mono ?_)
       rintro e u2 ⟨rfl, b2⟩)
    | fail)
  have y1 := b1.size
  have y2 := b2.size
  have p2 := (t0.below b1 z1).below b2 (by omega)
  have g2 := g1.trans (b2.mono g1.size)
  have p3 : NB (u2.alloc (.cells #[.int .i64 xs, .int .i64 xi, .int .i64 xt] TNd)) w.heap.size TRNd (s, si, t) := p2.alloc _
  have q3 : NB (u2.alloc (.cells #[.int .i64 xs, .int .i64 xi, .int .i64 xt] TNd)) u2.heap.size TNd (xs, xi, xt) := NB.new u2 TNd (xs, xi, xt)
  have g3 : Below w.heap.size w (u2.alloc (.cells #[.int .i64 xs, .int .i64 xi, .int .i64 xt] TNd)) := g2.alloc g2.size _
  clear c0 c1 c2 p2 t0 b1 b2 g0 g1 g2
  generalize u2.alloc _ = w3 at *
  generalize u2.heap.size = b at *
  obtain ⟨c0, c1, c2, _, _, _, z3⟩ := p3.facts
  obtain ⟨d0, d1, d2, _, _, _, y3⟩ := q3.facts
  replace p3 := fhid p3
  replace q3 := fhid q3
  replace g3 := fhid g3
  go_upto_region 4 with (go_at_call 9; (with_reducible refine (hev _ g3.out).mono ?_); rintro e w4 ⟨v, rfl, o1, b4⟩; obtain ⟨A, q, rfl, hlq, hqm, n1⟩ := o1.shape)
  have g4 := fhid (g3.out.trans (b4.mono g3.out.size))
  have p4 := p3.out.below b4 z3
  have q4 := q3.out.below b4 y3
  clear c0 c1 c2 d0 d1 d2 p3 q3 g3 o1 b4
  replace n1 := fhid n1
  obtain ⟨c0, c1, c2, _⟩ := p4.facts
  obtain ⟨d0, d1, d2, _⟩ := q4.facts
  replace p4 := fhid p4
  replace q4 := fhid q4
  go_loop [9, 24] (fun st i => ∃ k : Nat, k ≤ L.length ∧ i = .int .i64 (k : Int) ∧ st = .bool (decide (ev ∈ L.take k))) (fun _ i => L.length - (intOf i).toNat)
  case atStart => exact ⟨0, Nat.zero_le _, rfl, by simp⟩
  case round =>
    obtain ⟨k, hk, rfl, rfl⟩ := hrel
    by_cases hlt : k < L.length
    · obtain ⟨bb, oo, rfl, hbb, hc⟩ := Ints.at_ n1.out hlt
      have hsn := List.take_succ_eq_append_getElem hlt
      have i1 : (k : Int) < L.length := by omega
      have i0 : (0 : Int) ≤ k := by omega
      generalize L[k] = y at *
      have hD : decide (ev ∈ L.take (k + 1)) = (decide (ev ∈ L.take k) || (y == ev)) := by
        rw [hsn, Bool.eq_iff_iff]
        simp only [List.mem_append, List.mem_singleton, Bool.or_eq_true, decide_eq_true_eq, beq_iff_eq]
        exact or_congr Iff.rfl ⟨Eq.symm, Eq.symm⟩
      replace hD := fhid hD
      generalize decide (ev ∈ L.take k) = B at *
      clear hsn
      cases B with
      | true =>
        go_wp2_with fail
        go_round
        case rel => exact ⟨k + 1, by omega, by go_num, by rw [hD.out]; rfl⟩
        case measure => simp [intOf]; omega
      | false =>
        go_wp2_with fail
        go_round
        case rel => exact ⟨k + 1, by omega, by go_num, by rw [hD.out]; rfl⟩
        case measure => simp [intOf]; omega
    · obtain rfl : k = L.length := by omega
      rw [List.take_length]
      have i1 : ¬ (L.length : Int) < L.length := by omega
      rcases hcase.out with ⟨rfl, hm, rfl, k1, k2, k3⟩ | ⟨rfl, hx, hor⟩ | ⟨rfl, hx, hm⟩
      · rw [decide_eq_true hm]
        have k1' : xs ≥ 0 := k1
        have k3' : (xs != s) = true := by simpa using k3
        go_wp2_with (go_at_call 18; (with_reducible refine (hal _ g4.out).mono ?_); rintro e w5 ⟨rfl, b5⟩)
        go_ret
        exact ⟨rfl, g4.out.trans (b5.mono g4.out.size)⟩
      · injection hx with h1 h2
        injection h2 with h2 h3
        subst h1 h2 h3
        rcases hor with e1 | ⟨e1, e2⟩ | ⟨e1, e2, e3⟩ | ⟨e1, e2, e3, e4⟩ | ⟨e1, e2, e3, e4, e5⟩ | ⟨e1, e2, e3, e4, e5, e6⟩
        all_goals
          go_wp2_with (go_at_call 18; (with_reducible refine (hal _ g4.out).mono ?_); rintro e w5 ⟨rfl, b5⟩)
          go_ret
          exact ⟨rfl, g4.out.trans (b5.mono g4.out.size)⟩
      · injection hx with h1 h2
        injection h2 with h2 h3
        subst h1 h2 h3
        rw [decide_eq_false hm]
        go_wp2_with (go_at_call 18; (with_reducible refine (hal _ g4.out).mono ?_); rintro e w5 ⟨rfl, b5⟩)
        go_ret
        exact ⟨rfl, g4.out.trans (b5.mono g4.out.size)⟩
end Go.Proofs.YtmdebbkmhcfpfaaDoor
