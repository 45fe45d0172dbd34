/-
  NodeIdle, walked.
-/
import Derived.Test.YtmdebbkmhcfpfaaDoorEAlive
namespace Go.Proofs.YtmdebbkmhcfpfaaDoor
open Go.RowKit

theorem idle_cases (n : N3) (ev now retry : Int) (x : N3) (h : nextN n ev now retry = (x, 0)) :
    (x.1 = 7 ∧ n.1 = 2 ∧ (ev == 8) = false) ∨ (x.1 = 3 ∧ n.1 = 2 ∧ (ev == 8) = false) ∨ (x.1 = 3 ∧ n.1 = 4 ∧ (ev == 8) = false) ∨
    ((x.1 = 6 ∧ ev = 8 ∧ (n.1 == 6) = false) ∨ ((x.1 == 7) = false ∧ (x.1 == 3) = false ∧ n.1 = 6 ∧ ev = 9) ∨ ((x.1 == 7) = false ∧ (x.1 == 3) = false ∧ (ev == 8) = false ∧ (n.1 == 6) = false)) := by
  obtain ⟨_, _, _, h1, h2, h3, h4⟩ := next_facts h
  simp only [beq_eq_false_iff_ne, ne_eq]
  omega
set_option maxRecDepth 100000 in
set_option maxHeartbeats 8000000 in
theorem idle_walk (n : N3) (L : List Int) (A : Option Addr) (cap : Nat) (w : World) (hT : TabW w) (hs : Ints w w.heap.size A L) (hl : L.length ≤ 9223372036854775807) :
    Calls Tryd.prog 7 #[nv n, .slice A L.length cap] w (BoolPost w true) := by
  have hal := fun W (hW : Below w.heap.size w W) => alive_any W (hT.below hW)
  have hth := fun W => theirs_any n W
  have hnx := fun (m : N3) (ev now : Int) W (hW : Below w.heap.size w W) => Next_any m ev now 3 W (hT.below hW)
  have t0 := NB.new w TRNd n
  have g0 : Below w.heap.size w (w.alloc (.cells #[.int .i64 n.1, .int .i64 n.2.1, .int .i64 n.2.2] TRNd)) := (Below.refl _ _).alloc (Nat.le_refl _) _
  obtain ⟨s, si, t⟩ := n
  unfold NodePost nv at *
  unfold NextPost nv at hnx
  simp only at *
  replace hT := fhid hT
  replace hs := fhid hs
  go_enter Tryd.func7, Tryd.ntmps7
  go_upto_region 1 with fail
  generalize w.alloc _ = w1 at *
  obtain ⟨c0, c1, c2, _, _, _, z1⟩ := t0.facts
  go_upto_region 2 with (go_at_call 16; (with_reducible refine (hth _).mono ?_); rintro e u1 ⟨rfl, b1⟩)
  have g1 := g0.trans (b1.mono g0.size)
  have q3 : NB (u1.alloc (.cells #[.int .i64 s, .int .i64 si, .int .i64 t] TNd)) u1.heap.size TNd (s, si, t) := NB.new u1 TNd (s, si, t)
  have g3 : Below w.heap.size w (u1.alloc (.cells #[.int .i64 s, .int .i64 si, .int .i64 t] TNd)) := g1.alloc g1.size _
  have hbz : w.heap.size ≤ u1.heap.size := g1.size
  clear c0 c1 c2 t0 b1 g0 g1
  generalize u1.alloc _ = w3 at *
  generalize u1.heap.size = b at *
  replace q3 := fhid q3
  replace g3 := fhid g3
  go_wp2_with fail
  go_loopw [14] (fun i wr => ∃ (k : Nat) (m : N3), k ≤ L.length ∧ i = .int .i64 (k : Int) ∧ NB wr b TNd m ∧ Below w.heap.size w wr) (fun i _ => L.length - (intOf i).toNat)
  case atStart => exact ⟨0, (s, si, t), Nat.zero_le _, rfl, q3.out, g3.out⟩
  case round =>
    obtain ⟨k, ⟨ms, mi, mt⟩, hk, rfl, hM, hB⟩ := hrel
    by_cases hlt : k < L.length
    · obtain ⟨bb, oo, rfl, hbb, hc⟩ := Ints.at_ hs.out hlt
      have hc := (hB.cell (p := ⟨bb, oo + k, none⟩) hbb).trans hc
      have i1 : (k : Int) < L.length := by omega
      have i0 : (0 : Int) ≤ k := by omega
      generalize L[k] = ev at *
      obtain ⟨d0, d1, d2, _, _, _, zb⟩ := hM.facts
      simp only at d0 d1 d2
      have hn2 := fun now W hW => hnx (ms, mi, mt) ev now W hW
      simp only at hn2
      replace hM := fhid hM
      replace hB := fhid hB
      by_cases hmx : (k : Int) ≤ mi
      · go_upto_region 6 with (go_at_call 19; (with_reducible refine (hn2 _ _ hB.out).mono ?_); rintro e u2 ⟨rfl, b2⟩)
        generalize hNV : nextN (ms, mi, mt) ev (mi) 3 = R at *
        obtain ⟨⟨xs, xi, xt⟩, err⟩ := R
        have q5 : NB (u2.alloc (.cells #[.int .i64 xs, .int .i64 xi, .int .i64 xt] TNd)) u2.heap.size TNd (xs, xi, xt) := NB.new u2 TNd (xs, xi, xt)
        have m5 : NB (u2.alloc (.cells #[.int .i64 xs, .int .i64 xi, .int .i64 xt] TNd)) b TNd (ms, mi, mt) := (hM.out.below b2 zb).alloc _
        have g4 := hB.out.trans (b2.mono hB.out.size)
        have g5 : Below w.heap.size w (u2.alloc (.cells #[.int .i64 xs, .int .i64 xi, .int .i64 xt] TNd)) := g4.alloc g4.size _
        simp only
        clear d0 d1 d2 hc hM hB b2 g4 zb
        generalize u2.alloc _ = w5 at *
        generalize u2.heap.size = c at *
        obtain ⟨d0, d1, d2, f0, f1, f2, zb⟩ := m5.facts
        obtain ⟨c0, c1, c2, _⟩ := q5.facts
        simp only at c0 c1 c2 d0 d1 d2
        replace m5 := fhid m5
        replace q5 := fhid q5
        replace g5 := fhid g5
        by_cases he : err = 0
        · subst he
          have hI := idle_cases _ _ _ _ _ hNV
          clear hNV
          simp only at hI
          rcases hI with ⟨rfl, rfl, e8⟩ | ⟨rfl, rfl, e8⟩ | ⟨rfl, rfl, e8⟩ | ⟨rfl, rfl, e6⟩ | ⟨e7, e3, rfl, rfl⟩ | ⟨e7, e3, e8, e6⟩
          all_goals
            go_wp2_with fail
            go_roundw
            case rel => exact ⟨k + 1, (_, xi, xt), by omega, by go_num, m5.out.over _ xi xt, set3 g5.out hbz _ _ _⟩
            case measure => simp [intOf]; omega
        · have be : (err != 0) = true := by simpa using he
          clear hNV
          go_wp2_with fail
          go_roundw
          case rel => exact ⟨k + 1, (ms, mi, mt), by omega, by go_num, m5.out, g5.out⟩
          case measure => simp [intOf]; omega
      · go_upto_region 6 with (go_at_call 19; (with_reducible refine (hn2 _ _ hB.out).mono ?_); rintro e u2 ⟨rfl, b2⟩)
        generalize hNV : nextN (ms, mi, mt) ev ((k : Int)) 3 = R at *
        obtain ⟨⟨xs, xi, xt⟩, err⟩ := R
        have q5 : NB (u2.alloc (.cells #[.int .i64 xs, .int .i64 xi, .int .i64 xt] TNd)) u2.heap.size TNd (xs, xi, xt) := NB.new u2 TNd (xs, xi, xt)
        have m5 : NB (u2.alloc (.cells #[.int .i64 xs, .int .i64 xi, .int .i64 xt] TNd)) b TNd (ms, mi, mt) := (hM.out.below b2 zb).alloc _
        have g4 := hB.out.trans (b2.mono hB.out.size)
        have g5 : Below w.heap.size w (u2.alloc (.cells #[.int .i64 xs, .int .i64 xi, .int .i64 xt] TNd)) := g4.alloc g4.size _
        simp only
        clear d0 d1 d2 hc hM hB b2 g4 zb
        generalize u2.alloc _ = w5 at *
        generalize u2.heap.size = c at *
        obtain ⟨d0, d1, d2, f0, f1, f2, zb⟩ := m5.facts
        obtain ⟨c0, c1, c2, _⟩ := q5.facts
        simp only at c0 c1 c2 d0 d1 d2
        replace m5 := fhid m5
        replace q5 := fhid q5
        replace g5 := fhid g5
        by_cases he : err = 0
        · subst he
          have hI := idle_cases _ _ _ _ _ hNV
          clear hNV
          simp only at hI
          rcases hI with ⟨rfl, rfl, e8⟩ | ⟨rfl, rfl, e8⟩ | ⟨rfl, rfl, e8⟩ | ⟨rfl, rfl, e6⟩ | ⟨e7, e3, rfl, rfl⟩ | ⟨e7, e3, e8, e6⟩
          all_goals
            go_wp2_with fail
            go_roundw
            case rel => exact ⟨k + 1, (_, xi, xt), by omega, by go_num, m5.out.over _ xi xt, set3 g5.out hbz _ _ _⟩
            case measure => simp [intOf]; omega
        · have be : (err != 0) = true := by simpa using he
          clear hNV
          go_wp2_with fail
          go_roundw
          case rel => exact ⟨k + 1, (ms, mi, mt), by omega, by go_num, m5.out, g5.out⟩
          case measure => simp [intOf]; omega
    · obtain rfl : k = L.length := by omega
      have i1 : ¬ (L.length : Int) < L.length := by omega
      go_wp2_with (go_at_call 18; (with_reducible refine (hal _ hB).mono ?_); rintro e w5 ⟨rfl, b5⟩)
      go_ret
      exact ⟨rfl, hB.trans (b5.mono hB.size)⟩
end Go.Proofs.YtmdebbkmhcfpfaaDoor
