/-
  The document's own Right.
-/
import Derived.Test.YtlcbppflpadhaaaDoorYLBack
namespace Go.Proofs.YtlcbppflpadhaaaDoor
open Go.RowKit

theorem right_lim {l : List Int} {lim : Int} (h : lim < 0 ∨ 999999 < lim) : right l lim = false := decide_eq_false fun hr => by
  obtain ⟨_, _, h1, h2⟩ := hr
  omega
theorem okAt_zero {l : List Int} : okAt l 0 = (decide (0 ≤ l.getD 0 0) && decide (l.getD 0 0 ≤ 999999)) := by
  unfold okAt prev
  rw [if_pos rfl]
  rfl
set_option maxRecDepth 100000 in
set_option maxHeartbeats 8000000 in
theorem rRight_any (l : List Int) (A : Option Addr) (cap : Nat) (lim : Int) (w : World) (hs : Ints w w.heap.size A l) :
    Calls Tryd.prog 12 #[.agg #[.slice A l.length cap, .int .i64 lim]] w (BoolPost w (right l lim)) := by
  have hpost := fhid (show ∀ e w' r, e = .returned (.bool r) → right l lim = r → Below w.heap.size w w' → BoolPost w (right l lim) e w' from fun e w' r h1 h2 h3 => ⟨by rw [h2]; exact h1, h3⟩)
  generalize BoolPost w (right l lim) = P at *
  have p0 : AB (w.alloc (.cells #[.slice A l.length cap, .int .i64 lim] TRAr)) w.heap.size TRAr (.slice A l.length cap) lim := heap_alloc_new w _
  have b0 : Below w.heap.size w (w.alloc (.cells #[.slice A l.length cap, .int .i64 lim] TRAr)) := (Below.refl _ _).alloc (Nat.le_refl _) _
  have hc0 : ∀ {W : World}, AB W w.heap.size TRAr (.slice A l.length cap) lim → W.cell? ⟨w.heap.size, 0, none⟩ = some (.slice A l.length cap) ∧ W.cell? ⟨w.heap.size, 1, none⟩ = some (.int .i64 lim) := fun h => ⟨h.facts.1, h.facts.2.1⟩
  by_cases h1 : l.length < 1
  · have hr := fhid (right_len (l := l) (lim := lim) (.inl (by omega)))
    have i0 : (l.length : Int) < 1 := by omega
    clear h1
    go_enter Tryd.func12, Tryd.ntmps12
    go_upto_region 1 with fail
    generalize w.alloc _ = w1 at *
    obtain ⟨c0, c1⟩ := hc0 p0
    replace p0 := fhid p0
    go_wp2_with fail
    exact hpost.out _ _ false rfl hr.out b0
  have i0 : ¬ (l.length : Int) < 1 := by omega
  by_cases h256 : 256 < l.length
  · have hr := fhid (right_len (l := l) (lim := lim) (.inr h256))
    have i2 : (256 : Int) < l.length := by omega
    go_enter Tryd.func12, Tryd.ntmps12
    go_upto_region 1 with fail
    generalize w.alloc _ = w1 at *
    obtain ⟨c0, c1⟩ := hc0 p0
    replace p0 := fhid p0
    go_wp2_with fail
    exact hpost.out _ _ false rfl hr.out b0
  have i2 : ¬ (256 : Int) < l.length := by omega
  by_cases m0 : lim < 0
  · have hr := fhid (right_lim (l := l) (lim := lim) (.inl m0))
    go_enter Tryd.func12, Tryd.ntmps12
    go_upto_region 1 with fail
    generalize w.alloc _ = w1 at *
    obtain ⟨c0, c1⟩ := hc0 p0
    replace p0 := fhid p0
    go_wp2_with fail
    exact hpost.out _ _ false rfl hr.out b0
  by_cases m1 : 999999 < lim
  · have hr := fhid (right_lim (l := l) (lim := lim) (.inr m1))
    go_enter Tryd.func12, Tryd.ntmps12
    go_upto_region 1 with fail
    generalize w.alloc _ = w1 at *
    obtain ⟨c0, c1⟩ := hc0 p0
    replace p0 := fhid p0
    go_wp2_with fail
    exact hpost.out _ _ false rfl hr.out b0
  obtain ⟨b, o, rfl, hb, hcell⟩ := cells_of hs (by omega)
  clear hs
  go_enter Tryd.func12, Tryd.ntmps12
  go_upto_region 1 with fail
  generalize w.alloc _ = w1 at *
  obtain ⟨c0, c1⟩ := hc0 p0
  have hcell' : ∀ j, j < l.length → w1.cell? ⟨b, o + j, none⟩ = some (.int .i64 (l.getD j 0)) := fun j hj => (b0.cell (p := ⟨b, o + j, none⟩) hb).trans (hcell j hj)
  clear hcell hc0
  replace p0 := fhid p0
  replace hcell' := fhid hcell'
  go_wp2_with fail
  go_loop [4] (fun i => ∃ j : Nat, j ≤ l.length ∧ i = .int .i64 (j : Int) ∧ OkTo l j) (fun i => l.length - (intOf i).toNat)
  case atStart => exact ⟨0, Nat.zero_le _, rfl, OkTo.zero l⟩
  case round =>
    obtain ⟨j, hj, rfl, hok⟩ := hrel
    by_cases hlt : j < l.length
    · have hc := hcell'.out j hlt
      have j1 : (j : Int) < l.length := by omega
      have j0 : (0 : Int) ≤ j := by omega
      have hbad := fun h => right_bad (lim := lim) hlt h
      have hsucc := fun h => hok.succ (j := j) h
      have hpv := OkTo.prev hok
      replace hbad := fhid hbad
      replace hsucc := fhid hsucc
      clear hok
      by_cases hz : j = 0
      · subst hz
        have hE := okAt_zero (l := l)
        have hc' : w1.cell? ⟨b, o, none⟩ = some (.int .i64 (l.getD 0 0)) := by simpa using hc
        clear hc
        generalize l.getD 0 0 = n at *
        by_cases k1 : n < 0
        · have hg := fhid (hbad.out (hE.trans (by rw [decide_eq_false (show ¬ 0 ≤ n by omega), Bool.false_and])))
          clear hE
          go_wp2_with fail
          exact hpost.out _ _ false rfl hg.out b0
        · by_cases k2 : 999999 < n
          · have hg := fhid (hbad.out (hE.trans (by rw [decide_eq_false (show ¬ n ≤ 999999 by omega), Bool.and_false])))
            clear hE
            go_wp2_with fail
            exact hpost.out _ _ false rfl hg.out b0
          · have hg := fhid (hE.trans (by rw [decide_eq_true (show 0 ≤ n by omega), decide_eq_true (show n ≤ 999999 by omega), Bool.and_true]))
            clear hE
            go_wp2_with fail
            go_round
            case rel => exact ⟨1, by omega, rfl, hsucc.out hg.out⟩
            case measure => simp [intOf]; omega
      · have hE : okAt l j = (decide (l.getD (j - 1) 0 < l.getD j 0) && decide (l.getD j 0 ≤ 999999)) := by unfold okAt prev; rw [if_neg hz]
        have hp0 := hpv.2 (by omega)
        have hpe : prev l j = l.getD (j - 1) 0 := if_neg hz
        rw [hpe] at hp0
        have hcp := hcell'.out (j - 1) (by omega)
        have k0 : (0 : Int) < j := by omega
        have k7 : (0 : Int) ≤ (j : Int) - 1 := by omega
        have k8 : (j : Int) - 1 < l.length := by omega
        have k9 : ((j : Int) - 1).toNat = j - 1 := by omega
        clear hpe hpv
        generalize l.getD (j - 1) 0 = p at *
        generalize l.getD j 0 = n at *
        by_cases k1 : n < 0
        · have hg := fhid (hbad.out (hE.trans (by rw [decide_eq_false (show ¬ p < n by omega), Bool.false_and])))
          clear hE
          go_wp2_with fail
          exact hpost.out _ _ false rfl hg.out b0
        · by_cases k2 : 999999 < n
          · have hg := fhid (hbad.out (hE.trans (by rw [decide_eq_false (show ¬ n ≤ 999999 by omega), Bool.and_false])))
            clear hE
            go_wp2_with fail
            exact hpost.out _ _ false rfl hg.out b0
          · by_cases k3 : n ≤ p
            · have hg := fhid (hbad.out (hE.trans (by rw [decide_eq_false (show ¬ p < n by omega), Bool.false_and])))
              clear hE
              go_wp2_with fail
              exact hpost.out _ _ false rfl hg.out b0
            · have hg := fhid (hE.trans (by rw [decide_eq_true (show p < n by omega), decide_eq_true (show n ≤ 999999 by omega), Bool.and_true]))
              clear hE
              go_wp2_with fail
              go_round
              case rel => exact ⟨j + 1, by omega, by go_num, hsucc.out hg.out⟩
              case measure => simp [intOf]; omega
    · obtain rfl : j = l.length := by omega
      have hr := fhid (right_all (lim := lim) (by omega) (by omega) hok)
      have j1 : ¬ (l.length : Int) < l.length := by omega
      clear hok
      go_wp2_with fail
      exact hpost.out _ _ true rfl (hr.out.trans (by rw [decide_eq_true (show 0 ≤ lim by omega), decide_eq_true (show lim ≤ 999999 by omega), Bool.and_true])) b0
end Go.Proofs.YtlcbppflpadhaaaDoor
