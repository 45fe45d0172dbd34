/-
  NodeTries, walked.
-/
import Derived.Test.YtmdebbkmhcfpfaaDoorEAlive
namespace Go.Proofs.YtmdebbkmhcfpfaaDoor
open Go.RowKit

def evT : List Int := [1, 3, 1, 2, 10, 11]
def seqT (k : Nat) : N3 := ([((0 : Int), (0 : Int), (0 : Int)), (1, 0, 0), (0, 0, 1), (1, 0, 1), (2, 0, 0), (7, 0, 0), (0, 0, 0)] : List N3).getD k (0, 0, 0)
theorem seq_next : ∀ k < 6, nextN (seqT k) (evT.getD k 0) 0 300 = (seqT (k + 1), 0) := by decide
/-- The slice of the six events. -/
def EvB (w : World) (g : Nat) : Prop := w.heap[g]? = some (.cells #[.int .i64 1, .int .i64 3, .int .i64 1, .int .i64 2, .int .i64 10, .int .i64 11] 3 (0, 0))
theorem EvB.cell {w : World} {g : Nat} (h : EvB w g) (k : Nat) (hk : k < 6) : w.cell? ⟨g, k, none⟩ = some (.int .i64 (evT.getD k 0)) := by
  unfold EvB at h
  rcases (show k = 0 ∨ k = 1 ∨ k = 2 ∨ k = 3 ∨ k = 4 ∨ k = 5 by omega) with rfl | rfl | rfl | rfl | rfl | rfl <;> simp [World.cell?, h, evT]
theorem tries_on (si k r : Int) (h0 : 0 ≤ k) (h1 : si ≤ k) : nextN (0, si, k) 1 k r = ((1, k, k), 0) := by
  rw [next_else (n := (0, si, k)) (ask_iff.2 ⟨show stOk 0 = true by decide, show evOk 1 = true by decide, h0, h1⟩) (show tabE 0 1 ≠ 0 by decide) (by decide) (by decide) (by decide)]
  rfl
theorem tries_late (k r : Int) (h0 : 0 ≤ k) (h1 : k < 4611686018427387904) : nextN (1, k, k) 3 k r = ((if r < k + 1 then 6 else 0, k, k + 1), 0) := by
  rw [next_late (n := (1, k, k)) (ask_iff.2 ⟨show stOk 1 = true by decide, show evOk 3 = true by decide, h0, Int.le_refl _⟩) (show tabE 1 3 ≠ 0 by decide) rfl]
  have hm : moreT k = k + 1 := if_neg (by omega)
  simp only [hm]
  rfl
theorem tries_repair (si t r : Int) (h0 : 0 ≤ t) (h1 : si ≤ 999) : nextN (6, si, t) 9 999 r = ((0, 999, 0), 0) := by
  rw [next_zero (n := (6, si, t)) (ask_iff.2 ⟨show stOk 6 = true by decide, show evOk 9 = true by decide, h0, h1⟩) (show tabE 6 9 ≠ 0 by decide) (.inr rfl)]
  rfl
theorem u8_i64 {r : Int} (h : 0 ≤ r ∧ r ≤ 255) : IntKind.i64.wrap r = r := by
  rw [IntKind.wrap_i64]
  omega
set_option maxRecDepth 100000 in
set_option maxHeartbeats 16000000 in
theorem tries_walk (r : Int) (bo : Bool) (w : World) (hT : TabW w) (hr : 0 ≤ r ∧ r ≤ 255) :
    Calls Tryd.prog 6 #[.int .u8 r, .bool bo] w (BoolPost w true) := by
  have hal := fun W (hW : Below w.heap.size w W) => alive_any W (hT.below hW)
  have hnx := fun (m : N3) (ev now retry : Int) W (hW : Below w.heap.size w W) => Next_any m ev now retry W (hT.below hW)
  have hconv := u8_i64 hr
  have q0 := NB.new w TNd (0, 0, 0)
  have g0 : Below w.heap.size w (w.alloc (.cells #[.int .i64 0, .int .i64 0, .int .i64 0] TNd)) := (Below.refl _ _).alloc (Nat.le_refl _) _
  unfold NextPost nv at hnx
  simp only at *
  replace hT := fhid hT
  cases bo with
  | false =>
    go_enter Tryd.func6, Tryd.ntmps6
    go_upto_region 2 with fail
    generalize w.alloc _ = w3 at *
    replace q0 := fhid q0
    replace g0 := fhid g0
    go_wp2_with fail
    go_loopw [10] (fun i wr => ∃ (k : Nat) (si : Int), (k : Int) ≤ r + 1 ∧ si ≤ k ∧ si ≤ 255 ∧ i = .int .i64 (k : Int) ∧ NB wr w.heap.size TNd (if r < k then 6 else 0, si, k) ∧ Below w.heap.size w wr) (fun i _ => (256 - intOf i).toNat)
    case atStart => exact ⟨0, 0, by omega, by omega, by omega, rfl, by rw [if_neg (by omega)]; exact q0.out, g0.out⟩
    case round =>
      obtain ⟨k, si, hk, hs1, hs2, rfl, hM, hB⟩ := hrel
      by_cases hlt : (k : Int) ≤ r
      · rw [if_neg (by omega)] at hM
        have hn1 := fun W hW => hnx (0, si, k) 1 k r W hW
        have hn2 := fun W hW => hnx (1, k, k) 3 k r W hW
        rw [tries_on si k r (by omega) hs1] at hn1
        rw [tries_late k r (by omega) (by omega)] at hn2
        have hst : (if r < (k : Int) + 1 then (6 : Int) else 0) = if r < ((k + 1 : Nat) : Int) then 6 else 0 := by rw [Int.natCast_add]; rfl
        obtain ⟨d0, d1, d2, _, _, _, zb⟩ := hM.facts
        simp only at d0 d1 d2 hn1 hn2
        replace hM := fhid hM
        replace hB := fhid hB
        replace hst := fhid hst
        go_upto_region 15 with (go_at_call 19; (with_reducible refine (hn1 _ hB.out).mono ?_); rintro e u2 ⟨rfl, b2⟩)
        have q5 : NB (u2.alloc (.cells #[.int .i64 1, .int .i64 k, .int .i64 k] TNd)) u2.heap.size TNd (1, k, k) := NB.new u2 TNd (1, k, k)
        have m5 : NB (u2.alloc (.cells #[.int .i64 1, .int .i64 k, .int .i64 k] TNd)) w.heap.size TNd (0, si, k) := (hM.out.below b2 zb).alloc _
        have g4 := hB.out.trans (b2.mono hB.out.size)
        have g5 : Below w.heap.size w (u2.alloc (.cells #[.int .i64 1, .int .i64 k, .int .i64 k] TNd)) := g4.alloc g4.size _
        clear d0 d1 d2 hM hB b2 g4 zb hn1
        generalize u2.alloc _ = w5 at *
        generalize u2.heap.size = c at *
        obtain ⟨d0, d1, d2, f0, f1, f2, zb⟩ := m5.facts
        obtain ⟨c0, c1, c2, _, _, _, zc⟩ := q5.facts
        simp only at c0 c1 c2 d0 d1 d2
        replace m5 := fhid m5
        replace q5 := fhid q5
        replace g5 := fhid g5
        by_cases hkr : (k : Int) = r
        · rw [if_pos (by omega)] at hn2
          have hX := fhid (show (6 : Int) = if r < ((k + 1 : Nat) : Int) then 6 else 0 by rw [if_pos (by omega)])
          have bkr : ((k : Int) == r) = true := by simpa using hkr
          replace hkr := fhid hkr
          go_upto_region 16 with (go_at_call 19; (with_reducible refine (hn2 _ g5.out).mono ?_); rintro e u3 ⟨rfl, b3⟩)
          have m6 : NB (u3.alloc (.cells #[.int .i64 6, .int .i64 k, .int .i64 (k + 1)] TNd)) u3.heap.size TNd (6, k, k + 1) := NB.new u3 TNd (6, k, k + 1)
          have m7 : NB (u3.alloc (.cells #[.int .i64 6, .int .i64 k, .int .i64 (k + 1)] TNd)) w.heap.size TNd (0, si, k) := (m5.out.below b3 zb).alloc _
          have g6 := g5.out.trans (b3.mono g5.out.size)
          have g7 : Below w.heap.size w (u3.alloc (.cells #[.int .i64 6, .int .i64 k, .int .i64 (k + 1)] TNd)) := g6.alloc g6.size _
          clear d0 d1 d2 f0 f1 f2 c0 c1 c2 m5 q5 g5 b3 g6 zb zc hn2
          generalize u3.alloc _ = w7 at *
          generalize u3.heap.size = c2 at *
          obtain ⟨d0, d1, d2, f0, f1, f2, zb⟩ := m7.facts
          obtain ⟨e0, e1, e2, _⟩ := m6.facts
          simp only at d0 d1 d2 e0 e1 e2
          replace m6 := fhid m6
          replace m7 := fhid m7
          replace g7 := fhid g7
          go_wp2_with fail
          go_roundw
          case rel => exact ⟨k + 1, k, by omega, by omega, by omega, by go_num, by rw [← hX.out]; exact m7.out.over 6 k ((k : Int) + 1), set3 g7.out (Nat.le_refl _) _ _ _⟩
          case measure => simp [intOf]; omega
        · rw [if_neg (by omega)] at hn2
          have hX := fhid (show (0 : Int) = if r < ((k + 1 : Nat) : Int) then 6 else 0 by rw [if_neg (by omega)])
          have bkr : ((k : Int) == r) = false := by simpa using hkr
          go_upto_region 16 with (go_at_call 19; (with_reducible refine (hn2 _ g5.out).mono ?_); rintro e u3 ⟨rfl, b3⟩)
          have m6 : NB (u3.alloc (.cells #[.int .i64 0, .int .i64 k, .int .i64 (k + 1)] TNd)) u3.heap.size TNd (0, k, k + 1) := NB.new u3 TNd (0, k, k + 1)
          have m7 : NB (u3.alloc (.cells #[.int .i64 0, .int .i64 k, .int .i64 (k + 1)] TNd)) w.heap.size TNd (0, si, k) := (m5.out.below b3 zb).alloc _
          have g6 := g5.out.trans (b3.mono g5.out.size)
          have g7 : Below w.heap.size w (u3.alloc (.cells #[.int .i64 0, .int .i64 k, .int .i64 (k + 1)] TNd)) := g6.alloc g6.size _
          clear d0 d1 d2 f0 f1 f2 c0 c1 c2 m5 q5 g5 b3 g6 zb zc hn2
          generalize u3.alloc _ = w7 at *
          generalize u3.heap.size = c2 at *
          obtain ⟨d0, d1, d2, f0, f1, f2, zb⟩ := m7.facts
          obtain ⟨e0, e1, e2, _⟩ := m6.facts
          simp only at d0 d1 d2 e0 e1 e2
          replace m6 := fhid m6
          replace m7 := fhid m7
          replace g7 := fhid g7
          go_wp2_with fail
          go_roundw
          case rel => exact ⟨k + 1, k, by omega, by omega, by omega, by go_num, by rw [← hX.out]; exact m7.out.over 0 k ((k : Int) + 1), set3 g7.out (Nat.le_refl _) _ _ _⟩
          case measure => simp [intOf]; omega
      · have hk2 : (k : Int) = r + 1 := by omega
        rw [if_pos (by omega)] at hM
        have hn1 := fun W hW => hnx (6, si, k) 9 999 r W hW
        rw [tries_repair si k r (by omega) (by omega)] at hn1
        replace hk2 := fhid hk2
        obtain ⟨d0, d1, d2, _, _, _, zb⟩ := hM.facts
        simp only at d0 d1 d2 hn1
        replace hM := fhid hM
        replace hB := fhid hB
        go_upto_region 20 with (go_at_call 19; (with_reducible refine (hn1 _ hB.out).mono ?_); rintro e u2 ⟨rfl, b2⟩)
        have q5 : NB (u2.alloc (.cells #[.int .i64 0, .int .i64 999, .int .i64 0] TNd)) u2.heap.size TNd (0, 999, 0) := NB.new u2 TNd (0, 999, 0)
        have g4 := hB.out.trans (b2.mono hB.out.size)
        have g5 : Below w.heap.size w (u2.alloc (.cells #[.int .i64 0, .int .i64 999, .int .i64 0] TNd)) := g4.alloc g4.size _
        clear d0 d1 d2 hM hB b2 g4 zb hn1
        generalize u2.alloc _ = w5 at *
        generalize u2.heap.size = c at *
        obtain ⟨c0, c1, c2, _, _, _, zc⟩ := q5.facts
        simp only at c0 c1 c2
        replace q5 := fhid q5
        replace g5 := fhid g5
        go_wp2_with (go_at_call 18; (with_reducible refine (hal _ g5.out).mono ?_); rintro e w6 ⟨rfl, b6⟩)
        go_ret
        exact ⟨rfl, g5.out.trans (b6.mono g5.out.size)⟩
  | true =>
    go_enter Tryd.func6, Tryd.ntmps6
    go_upto_region 3 with fail
    have zz := World.size_alloc w (.cells #[.int .i64 0, .int .i64 0, .int .i64 0] TNd)
    generalize w.alloc _ = w1 at *
    have q1 : NB (w1.alloc (.cells #[.int .i64 1, .int .i64 3, .int .i64 1, .int .i64 2, .int .i64 10, .int .i64 11] 3)) w.heap.size TNd (0, 0, 0) := q0.alloc _
    have e1 : EvB (w1.alloc (.cells #[.int .i64 1, .int .i64 3, .int .i64 1, .int .i64 2, .int .i64 10, .int .i64 11] 3)) w1.heap.size := heap_alloc_new _ _
    have g1 : Below w.heap.size w (w1.alloc (.cells #[.int .i64 1, .int .i64 3, .int .i64 1, .int .i64 2, .int .i64 10, .int .i64 11] 3)) := g0.alloc g0.size _
    have hgb : w1.heap.size ≠ w.heap.size := by omega
    have hgb2 : w.heap.size < w1.heap.size := by omega
    clear q0 g0 zz
    go_wp2_with fail
    generalize w1.alloc _ = w2 at *
    generalize w1.heap.size = g at *
    replace q1 := fhid q1
    replace e1 := fhid e1
    replace g1 := fhid g1
    go_loopw [21] (fun i wr => ∃ k : Nat, k ≤ 6 ∧ i = .int .i64 (k : Int) ∧ NB wr w.heap.size TNd (seqT k) ∧ EvB wr g ∧ Below w.heap.size w wr) (fun i _ => (6 - intOf i).toNat)
    case atStart => exact ⟨0, by omega, rfl, q1.out, e1.out, g1.out⟩
    case round =>
      obtain ⟨k, hk, rfl, hM, hE, hB⟩ := hrel
      by_cases hlt : k < 6
      · have hc := hE.cell k hlt
        have hsq := seq_next k hlt
        have hn2 := fun W hW => hnx (seqT k) (evT.getD k 0) 0 300 W hW
        rw [hsq] at hn2
        have i1 : (k : Int) < 6 := by omega
        have i0 : (0 : Int) ≤ k := by omega
        generalize evT.getD k 0 = ev at *
        generalize hm2 : seqT (k + 1) = m2 at *
        generalize seqT k = m at *
        obtain ⟨ms, mi, mt⟩ := m
        obtain ⟨xs, xi, xt⟩ := m2
        obtain ⟨d0, d1, d2, _, _, _, zb⟩ := hM.facts
        simp only at d0 d1 d2 hn2
        have zg := lt_of_block hE
        clear hsq
        replace hM := fhid hM
        replace hE := fhid hE
        replace hB := fhid hB
        go_upto_region 7 with (go_at_call 19; (with_reducible refine (hn2 _ hB.out).mono ?_); rintro e u2 ⟨rfl, b2⟩)
        have q5 : NB (u2.alloc (.cells #[.int .i64 xs, .int .i64 xi, .int .i64 xt] TNd)) u2.heap.size TNd (xs, xi, xt) := NB.new u2 TNd (xs, xi, xt)
        have m5 : NB (u2.alloc (.cells #[.int .i64 xs, .int .i64 xi, .int .i64 xt] TNd)) w.heap.size TNd (ms, mi, mt) := (hM.out.below b2 zb).alloc _
        have v5 : EvB (u2.alloc (.cells #[.int .i64 xs, .int .i64 xi, .int .i64 xt] TNd)) g := (Below.heap_alloc u2 _ g (Nat.lt_of_lt_of_le zg b2.size)).trans ((b2.block g zg).trans hE.out)
        have g4 := hB.out.trans (b2.mono hB.out.size)
        have g5 : Below w.heap.size w (u2.alloc (.cells #[.int .i64 xs, .int .i64 xi, .int .i64 xt] TNd)) := g4.alloc g4.size _
        clear d0 d1 d2 hc hM hB hE b2 g4 zb hn2 zg
        generalize u2.alloc _ = w5 at *
        generalize u2.heap.size = c at *
        obtain ⟨d0, d1, d2, f0, f1, f2, zb⟩ := m5.facts
        obtain ⟨c0, c1, c2, _⟩ := q5.facts
        simp only at c0 c1 c2 d0 d1 d2
        replace m5 := fhid m5
        replace q5 := fhid q5
        replace g5 := fhid g5
        replace v5 := fhid v5
        go_wp2_with fail
        go_roundw
        case rel => exact ⟨k + 1, by omega, by go_num, by rw [hm2]; exact m5.out.over xs xi xt, (Below.heap_setCell _ _ _ _ hgb).trans ((Below.heap_setCell _ _ _ _ hgb).trans ((Below.heap_setCell _ _ _ _ hgb).trans v5.out)), set3 g5.out (Nat.le_refl _) _ _ _⟩
        case measure => simp [intOf]; omega
      · obtain rfl : k = 6 := by omega
        have i1 : ¬ (6 : Int) < 6 := by omega
        have q0 : NB wr w.heap.size TNd (0, 0, 0) := hM
        have g0 := hB
        clear hM hB hE
        replace q0 := fhid q0
        replace g0 := fhid g0
        go_wp2_with fail
        go_loopw [10] (fun i wr => ∃ (k : Nat) (si : Int), (k : Int) ≤ r + 1 ∧ si ≤ k ∧ si ≤ 255 ∧ i = .int .i64 (k : Int) ∧ NB wr w.heap.size TNd (if r < k then 6 else 0, si, k) ∧ Below w.heap.size w wr) (fun i _ => (256 - intOf i).toNat)
        case atStart => exact ⟨0, 0, by omega, by omega, by omega, rfl, by rw [if_neg (by omega)]; exact q0.out, g0.out⟩
        case round =>
          obtain ⟨k, si, hk, hs1, hs2, rfl, hM, hB⟩ := hrel
          by_cases hlt : (k : Int) ≤ r
          · rw [if_neg (by omega)] at hM
            have hn1 := fun W hW => hnx (0, si, k) 1 k r W hW
            have hn2 := fun W hW => hnx (1, k, k) 3 k r W hW
            rw [tries_on si k r (by omega) hs1] at hn1
            rw [tries_late k r (by omega) (by omega)] at hn2
            have hst : (if r < (k : Int) + 1 then (6 : Int) else 0) = if r < ((k + 1 : Nat) : Int) then 6 else 0 := by rw [Int.natCast_add]; rfl
            obtain ⟨d0, d1, d2, _, _, _, zb⟩ := hM.facts
            simp only at d0 d1 d2 hn1 hn2
            replace hM := fhid hM
            replace hB := fhid hB
            replace hst := fhid hst
            go_upto_region 15 with (go_at_call 19; (with_reducible refine (hn1 _ hB.out).mono ?_); rintro e u2 ⟨rfl, b2⟩)
            have q5 : NB (u2.alloc (.cells #[.int .i64 1, .int .i64 k, .int .i64 k] TNd)) u2.heap.size TNd (1, k, k) := NB.new u2 TNd (1, k, k)
            have m5 : NB (u2.alloc (.cells #[.int .i64 1, .int .i64 k, .int .i64 k] TNd)) w.heap.size TNd (0, si, k) := (hM.out.below b2 zb).alloc _
            have g4 := hB.out.trans (b2.mono hB.out.size)
            have g5 : Below w.heap.size w (u2.alloc (.cells #[.int .i64 1, .int .i64 k, .int .i64 k] TNd)) := g4.alloc g4.size _
            clear d0 d1 d2 hM hB b2 g4 zb hn1
            generalize u2.alloc _ = w5 at *
            generalize u2.heap.size = c at *
            obtain ⟨d0, d1, d2, f0, f1, f2, zb⟩ := m5.facts
            obtain ⟨c0, c1, c2, _, _, _, zc⟩ := q5.facts
            simp only at c0 c1 c2 d0 d1 d2
            replace m5 := fhid m5
            replace q5 := fhid q5
            replace g5 := fhid g5
            by_cases hkr : (k : Int) = r
            · rw [if_pos (by omega)] at hn2
              have hX := fhid (show (6 : Int) = if r < ((k + 1 : Nat) : Int) then 6 else 0 by rw [if_pos (by omega)])
              have bkr : ((k : Int) == r) = true := by simpa using hkr
              replace hkr := fhid hkr
              go_upto_region 16 with (go_at_call 19; (with_reducible refine (hn2 _ g5.out).mono ?_); rintro e u3 ⟨rfl, b3⟩)
              have m6 : NB (u3.alloc (.cells #[.int .i64 6, .int .i64 k, .int .i64 (k + 1)] TNd)) u3.heap.size TNd (6, k, k + 1) := NB.new u3 TNd (6, k, k + 1)
              have m7 : NB (u3.alloc (.cells #[.int .i64 6, .int .i64 k, .int .i64 (k + 1)] TNd)) w.heap.size TNd (0, si, k) := (m5.out.below b3 zb).alloc _
              have g6 := g5.out.trans (b3.mono g5.out.size)
              have g7 : Below w.heap.size w (u3.alloc (.cells #[.int .i64 6, .int .i64 k, .int .i64 (k + 1)] TNd)) := g6.alloc g6.size _
              clear d0 d1 d2 f0 f1 f2 c0 c1 c2 m5 q5 g5 b3 g6 zb zc hn2
              generalize u3.alloc _ = w7 at *
              generalize u3.heap.size = c2 at *
              obtain ⟨d0, d1, d2, f0, f1, f2, zb⟩ := m7.facts
              obtain ⟨e0, e1, e2, _⟩ := m6.facts
              simp only at d0 d1 d2 e0 e1 e2
              replace m6 := fhid m6
              replace m7 := fhid m7
              replace g7 := fhid g7
              go_wp2_with fail
              go_roundw
              case rel => exact ⟨k + 1, k, by omega, by omega, by omega, by go_num, by rw [← hX.out]; exact m7.out.over 6 k ((k : Int) + 1), set3 g7.out (Nat.le_refl _) _ _ _⟩
              case measure => simp [intOf]; omega
            · rw [if_neg (by omega)] at hn2
              have hX := fhid (show (0 : Int) = if r < ((k + 1 : Nat) : Int) then 6 else 0 by rw [if_neg (by omega)])
              have bkr : ((k : Int) == r) = false := by simpa using hkr
              go_upto_region 16 with (go_at_call 19; (with_reducible refine (hn2 _ g5.out).mono ?_); rintro e u3 ⟨rfl, b3⟩)
              have m6 : NB (u3.alloc (.cells #[.int .i64 0, .int .i64 k, .int .i64 (k + 1)] TNd)) u3.heap.size TNd (0, k, k + 1) := NB.new u3 TNd (0, k, k + 1)
              have m7 : NB (u3.alloc (.cells #[.int .i64 0, .int .i64 k, .int .i64 (k + 1)] TNd)) w.heap.size TNd (0, si, k) := (m5.out.below b3 zb).alloc _
              have g6 := g5.out.trans (b3.mono g5.out.size)
              have g7 : Below w.heap.size w (u3.alloc (.cells #[.int .i64 0, .int .i64 k, .int .i64 (k + 1)] TNd)) := g6.alloc g6.size _
              clear d0 d1 d2 f0 f1 f2 c0 c1 c2 m5 q5 g5 b3 g6 zb zc hn2
              generalize u3.alloc _ = w7 at *
              generalize u3.heap.size = c2 at *
              obtain ⟨d0, d1, d2, f0, f1, f2, zb⟩ := m7.facts
              obtain ⟨e0, e1, e2, _⟩ := m6.facts
              simp only at d0 d1 d2 e0 e1 e2
              replace m6 := fhid m6
              replace m7 := fhid m7
              replace g7 := fhid g7
              go_wp2_with fail
              go_roundw
              case rel => exact ⟨k + 1, k, by omega, by omega, by omega, by go_num, by rw [← hX.out]; exact m7.out.over 0 k ((k : Int) + 1), set3 g7.out (Nat.le_refl _) _ _ _⟩
              case measure => simp [intOf]; omega
          · have hk2 : (k : Int) = r + 1 := by omega
            rw [if_pos (by omega)] at hM
            have hn1 := fun W hW => hnx (6, si, k) 9 999 r W hW
            rw [tries_repair si k r (by omega) (by omega)] at hn1
            replace hk2 := fhid hk2
            obtain ⟨d0, d1, d2, _, _, _, zb⟩ := hM.facts
            simp only at d0 d1 d2 hn1
            replace hM := fhid hM
            replace hB := fhid hB
            go_upto_region 20 with (go_at_call 19; (with_reducible refine (hn1 _ hB.out).mono ?_); rintro e u2 ⟨rfl, b2⟩)
            have q5 : NB (u2.alloc (.cells #[.int .i64 0, .int .i64 999, .int .i64 0] TNd)) u2.heap.size TNd (0, 999, 0) := NB.new u2 TNd (0, 999, 0)
            have g4 := hB.out.trans (b2.mono hB.out.size)
            have g5 : Below w.heap.size w (u2.alloc (.cells #[.int .i64 0, .int .i64 999, .int .i64 0] TNd)) := g4.alloc g4.size _
            clear d0 d1 d2 hM hB b2 g4 zb hn1
            generalize u2.alloc _ = w5 at *
            generalize u2.heap.size = c at *
            obtain ⟨c0, c1, c2, _, _, _, zc⟩ := q5.facts
            simp only at c0 c1 c2
            replace q5 := fhid q5
            replace g5 := fhid g5
            go_wp2_with (go_at_call 18; (with_reducible refine (hal _ g5.out).mono ?_); rintro e w6 ⟨rfl, b6⟩)
            go_ret
            exact ⟨rfl, g5.out.trans (b6.mono g5.out.size)⟩
end Go.Proofs.YtmdebbkmhcfpfaaDoor
