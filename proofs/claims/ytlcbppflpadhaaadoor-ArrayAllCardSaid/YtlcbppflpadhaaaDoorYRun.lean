/-
  How many indexes make one range's text; whether an array may be.
-/
import Derived.Test.YtlcbppflpadhaaaDoorYParse
namespace Go.Proofs.YtlcbppflpadhaaaDoor
open Go.RowKit

/-- A call that answers a truth, and makes memory. -/
def BoolPost (w : World) (r : Bool) (e : Ending) (w' : World) : Prop := e = .returned (.bool r) ∧ Below w.heap.size w w'
theorem cells_of {w : World} {B : Nat} {A : Option Addr} {l : List Int} (h : Ints w B A l) (hl : 0 < l.length) : ∃ b o, A = some ⟨b, o, none⟩ ∧ b < B ∧ ∀ j, j < l.length → w.cell? ⟨b, o + j, none⟩ = some (.int .i64 (l.getD j 0)) := by
  obtain ⟨b, o, rfl, hb, hc⟩ := h (by rw [IV_len]; exact hl)
  refine ⟨b, o, rfl, hb, fun j hj => ?_⟩
  rw [hc j (by rw [IV_len]; exact hj), IV_get l j hj, getD_get hj]
theorem right_bad {l : List Int} {lim : Int} {j : Nat} (hj : j < l.length) (h : okAt l j = false) : right l lim = false := decide_eq_false fun hr => by
  have := hr.2.1 j hj
  rw [h] at this
  cases this
/-- What holds of the first j. -/
def OkTo (l : List Int) (j : Nat) : Prop := ∀ i, i < j → okAt l i = true
theorem OkTo.zero (l : List Int) : OkTo l 0 := fun _ h => absurd h (Nat.not_lt_zero _)
theorem OkTo.succ {l : List Int} {j : Nat} (h : OkTo l j) (hj : okAt l j = true) : OkTo l (j + 1) := fun i hi => by
  by_cases e : i = j
  · subst e; exact hj
  · exact h i (by omega)
theorem OkTo.prev {l : List Int} : ∀ {j : Nat}, OkTo l j → -1 ≤ prev l j ∧ (0 < j → 0 ≤ prev l j)
  | 0, _ => ⟨by unfold Go.Proofs.YtlcbppflpadhaaaDoor.prev; simp, fun h => absurd h (Nat.lt_irrefl 0)⟩
  | j + 1, h => by
    have h1 := (okAt_iff.1 (h j (by omega))).1
    have h2 := (OkTo.prev (j := j) fun i hi => h i (by omega)).1
    have e : Go.Proofs.YtlcbppflpadhaaaDoor.prev l (j + 1) = l.getD j 0 := if_neg (by omega)
    rw [e]
    exact ⟨by omega, fun _ => by omega⟩
theorem right_all {l : List Int} {lim : Int} (h1 : 1 ≤ l.length) (h2 : l.length ≤ 256) (h : OkTo l l.length) : right l lim = (decide (0 ≤ lim) && decide (lim ≤ 999999)) := by
  unfold right
  rw [Bool.eq_iff_iff, decide_eq_true_iff, Bool.and_eq_true, decide_eq_true_iff, decide_eq_true_iff]
  exact ⟨fun hr => hr.2.2, fun hr => ⟨⟨h1, h2⟩, h, hr⟩⟩
theorem right_len {l : List Int} {lim : Int} (h : l.length = 0 ∨ 256 < l.length) : right l lim = false := decide_eq_false fun hr => by
  obtain ⟨⟨h1, h2⟩, _⟩ := hr
  omega
set_option maxRecDepth 100000 in
set_option maxHeartbeats 4000000 in
theorem Right_any (l : List Int) (A : Option Addr) (cap : Nat) (lim : Int) (w : World) (hs : Ints w w.heap.size A l) :
    Calls Tryd.prog 11 #[.agg #[.slice A l.length cap, .int .i64 lim]] w (BoolPost w (right l lim)) := by
  have hpost := fhid (show ∀ e w' r, e = .returned (.bool r) → right l lim = r → Below w.heap.size w w' → BoolPost w (right l lim) e w' from fun e w' r h1 h2 h3 => ⟨by rw [h2]; exact h1, h3⟩)
  generalize BoolPost w (right l lim) = P at *
  have p0 : AB (w.alloc (.cells #[.slice A l.length cap, .int .i64 lim] TAr)) w.heap.size TAr (.slice A l.length cap) lim := heap_alloc_new w _
  have b0 : Below w.heap.size w (w.alloc (.cells #[.slice A l.length cap, .int .i64 lim] TAr)) := (Below.refl _ _).alloc (Nat.le_refl _) _
  by_cases h0 : l.length = 0
  · have hr := fhid (right_len (l := l) (lim := lim) (.inl h0))
    have i0 : (l.length : Int) = 0 := by omega
    have i1 : ((l.length : Int) == 0) = true := beq_iff_eq.2 i0
    clear h0
    go_enter Tryd.func11, Tryd.ntmps11
    go_upto_region 1 with fail
    generalize w.alloc _ = w1 at *
    obtain ⟨c0, c1, _, _, _⟩ := p0.facts
    replace p0 := fhid p0
    go_wp2_with fail
    exact hpost.out _ _ false rfl hr.out b0
  have i1 : ((l.length : Int) == 0) = false := beq_eq_false_iff_ne.2 (by omega)
  have i1' : ¬ (l.length : Int) = 0 := by omega
  by_cases h256 : 256 < l.length
  · have hr := fhid (right_len (l := l) (lim := lim) (.inr h256))
    have i2 : (256 : Int) < l.length := by omega
    go_enter Tryd.func11, Tryd.ntmps11
    go_upto_region 1 with fail
    generalize w.alloc _ = w1 at *
    obtain ⟨c0, c1, _, _, _⟩ := p0.facts
    replace p0 := fhid p0
    go_wp2_with fail
    exact hpost.out _ _ false rfl hr.out b0
  have i2 : ¬ (256 : Int) < l.length := by omega
  obtain ⟨b, o, rfl, hb, hcell⟩ := cells_of hs (by omega)
  clear hs
  go_enter Tryd.func11, Tryd.ntmps11
  go_upto_region 1 with fail
  generalize w.alloc _ = w1 at *
  obtain ⟨c0, c1, _, _, _⟩ := p0.facts
  have hcell' : ∀ j, j < l.length → w1.cell? ⟨b, o + j, none⟩ = some (.int .i64 (l.getD j 0)) := fun j hj => (b0.cell (p := ⟨b, o + j, none⟩) hb).trans (hcell j hj)
  clear hcell
  replace p0 := fhid p0
  replace hcell' := fhid hcell'
  go_wp2_with fail
  go_loop [3, 19] (fun a i => ∃ j : Nat, j ≤ l.length ∧ i = .int .i64 (j : Int) ∧ a = .int .i64 (prev l j) ∧ OkTo l j) (fun _ i => l.length - (intOf i).toNat)
  case atStart => exact ⟨0, Nat.zero_le _, rfl, rfl, OkTo.zero l⟩
  case round =>
    obtain ⟨j, hj, rfl, rfl, hok⟩ := hrel
    by_cases hlt : j < l.length
    · have hc := hcell'.out j hlt
      have j1 : (j : Int) < l.length := by omega
      have j0 : (0 : Int) ≤ j := by omega
      have hE : okAt l j = (decide (prev l j < l.getD j 0) && decide (l.getD j 0 ≤ 999999)) := rfl
      have hP : prev l (j + 1) = l.getD j 0 := if_neg (by omega)
      have hbad := fun h => right_bad (lim := lim) hlt h
      have hsucc := fun h => hok.succ (j := j) h
      replace hbad := fhid hbad
      replace hsucc := fhid hsucc
      clear hok
      generalize l.getD j 0 = n at *
      replace hP := fhid hP
      by_cases k1 : prev l j < n
      · have k1' : ¬ n ≤ prev l j := by omega
        by_cases k2 : n ≤ 999999
        · have k2' : ¬ 999999 < n := by omega
          have hg := fhid (hE.trans (by rw [decide_eq_true k1, decide_eq_true k2, Bool.and_true]))
          clear hE
          generalize prev l j = p at *
          go_wp2_with fail
          go_round
          case rel => exact ⟨j + 1, by omega, by go_num, hP.out ▸ rfl, hsucc.out hg.out⟩
          case measure => simp [intOf]; omega
        · have k2' : 999999 < n := by omega
          have hg := fhid (hbad.out (hE.trans (by rw [decide_eq_false k2, Bool.and_false])))
          clear hE
          generalize prev l j = p at *
          go_wp2_with fail
          exact hpost.out _ _ false rfl hg.out b0
      · have k1' : n ≤ prev l j := by omega
        have hg := fhid (hbad.out (hE.trans (by rw [decide_eq_false k1, Bool.false_and])))
        clear hE
        generalize prev l j = p at *
        go_wp2_with fail
        exact hpost.out _ _ false rfl hg.out b0
    · obtain rfl : j = l.length := by omega
      have hr := fhid (right_all (lim := lim) (by omega) (by omega) hok)
      have j1 : ¬ (l.length : Int) < l.length := by omega
      clear hok
      generalize prev l l.length = p at *
      by_cases k1 : 0 ≤ lim
      · by_cases k2 : lim ≤ 999999
        · go_wp2_with fail
          exact hpost.out _ _ true rfl (hr.out.trans (by rw [decide_eq_true k1, decide_eq_true k2]; rfl)) b0
        · go_wp2_with fail
          exact hpost.out _ _ false rfl (hr.out.trans (by rw [decide_eq_false (show ¬ lim ≤ 999999 by omega), Bool.and_false])) b0
      · go_wp2_with fail
        exact hpost.out _ _ false rfl (hr.out.trans (by rw [decide_eq_false (show ¬ 0 ≤ lim by omega), Bool.false_and])) b0
end Go.Proofs.YtlcbppflpadhaaaDoor
