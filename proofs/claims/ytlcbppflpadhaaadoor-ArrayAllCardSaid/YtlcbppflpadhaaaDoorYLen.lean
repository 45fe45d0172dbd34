/-
  How many indexes make one range's text.
-/
import Derived.Test.YtlcbppflpadhaaaDoorYRun
namespace Go.Proofs.YtlcbppflpadhaaaDoor
open Go.RowKit

/-- The first k go on by one step. -/
def StepTo (l : List Int) (k : Nat) : Prop := ∀ j, j + 1 < k → l.getD (j + 1) 0 - l.getD j 0 = stepOf l
theorem StepTo.succ {l : List Int} {k : Nat} (h : StepTo l k) (h1 : 1 ≤ k) (hk : l.getD k 0 - l.getD (k - 1) 0 = l.getD 1 0 - l.getD 0 0) : StepTo l (k + 1) := fun j hj => by
  by_cases e : j + 1 = k
  · subst e; exact hk
  · exact h j (by omega)
/-- A call that answers a number, and makes memory. -/
def NP (w : World) (n : Int) (e : Ending) (w' : World) : Prop := e = .returned (.int .i64 n) ∧ Below w.heap.size w w'
theorem NP.mk' {w w' : World} {n m : Int} {e : Ending} (he : e = .returned (.int .i64 m)) (hm : n = m) (hb : Below w.heap.size w w') : NP w n e w' := ⟨by rw [hm]; exact he, hb⟩
set_option maxRecDepth 100000 in
set_option maxHeartbeats 4000000 in
theorem run_any (l : List Int) (A : Option Addr) (cap : Nat) (w : World) (hs : Ints w w.heap.size A l) (hl : 0 < l.length) (hl2 : l.length ≤ 1000) (hx : ∀ j, j < l.length → 0 ≤ l.getD j 0 ∧ l.getD j 0 ≤ 999999) :
    Calls Tryd.prog 18 #[.slice A l.length cap] w (NP w (cutN l)) := by
  obtain ⟨b, o, rfl, hb, hcell⟩ := cells_of hs hl
  have hcut : ∀ k, maxRun l = k → cutN l = if k = 2 ∧ stepOf l ≠ 1 then 1 else k := fun k h => by rw [← h]; rfl
  have hst : stepOf l = l.getD 1 0 - l.getD 0 0 := rfl
  replace hcut := fhid hcut
  replace hst := fhid hst
  replace hcell := fhid hcell
  replace hx := fhid hx
  clear hs
  go_enter Tryd.func18, Tryd.ntmps18
  go_wp2_with fail
  go_loopw [3] (fun i wr => ∃ k : Nat, 1 ≤ k ∧ k ≤ l.length ∧ i = .int .i64 (k : Int) ∧ StepTo l k ∧ Below w.heap.size w wr) (fun i _ => l.length - (intOf i).toNat)
  case atStart => exact ⟨1, Nat.le_refl _, hl, rfl, fun j hj => by omega, Below.refl _ _⟩
  case round =>
    obtain ⟨k, h1, hk, rfl, hto, hB⟩ := hrel
    have j0 : (1 : Int) ≤ k := by omega
    have j4 : (k : Int) ≤ 1000 := by omega
    have hat : ∀ j, j < l.length → wr.cell? ⟨b, o + j, none⟩ = some (.int .i64 (l.getD j 0)) := fun j hj => (hB.cell (p := ⟨b, o + j, none⟩) hb).trans (hcell.out j hj)
    replace hat := fhid hat
    have hdone : (k < l.length → l.getD k 0 - l.getD (k - 1) 0 ≠ l.getD 1 0 - l.getD 0 0) → maxRun l = k := fun h => maxRun_of h1 hk hto h
    have hnext : l.getD k 0 - l.getD (k - 1) 0 = l.getD 1 0 - l.getD 0 0 → StepTo l (k + 1) := fun h => hto.succ h1 h
    clear hto
    have key : (k < l.length ∧ l.getD k 0 - l.getD (k - 1) 0 = l.getD 1 0 - l.getD 0 0) ∨ maxRun l = k := by
      by_cases hlt : k < l.length
      · by_cases he : l.getD k 0 - l.getD (k - 1) 0 = l.getD 1 0 - l.getD 0 0
        · exact .inl ⟨hlt, he⟩
        · exact .inr (hdone fun _ => he)
      · exact .inr (hdone fun h => absurd h hlt)
    by_cases hlt : k < l.length
    · have a0 := hat.out 0 (by omega)
      have a1 := hat.out 1 (by omega)
      have ak := hat.out k hlt
      have ap := hat.out (k - 1) (by omega)
      rw [Nat.add_zero] at a0
      have b0 := hx.out 0 (by omega)
      have b1 := hx.out 1 (by omega)
      have bk := hx.out k hlt
      have bp := hx.out (k - 1) (by omega)
      have i1 : (k : Int) < l.length := by omega
      have i0 : (0 : Int) ≤ k := by omega
      have i7 : (0 : Int) ≤ (k : Int) - 1 := by omega
      have i8 : (k : Int) - 1 < l.length := by omega
      have i9 : ((k : Int) - 1).toNat = k - 1 := by omega
      have i11 : (1 : Int) < l.length := by omega
      have i12 : (0 : Int) < l.length := by omega
      generalize l.getD 0 0 = x0 at *
      generalize l.getD 1 0 = x1 at *
      generalize l.getD k 0 = xk at *
      generalize l.getD (k - 1) 0 = xp at *
      have s1 : IntKind.i64.wrap (xk - xp) = xk - xp := IntWalk.i64_in _ (by omega)
      have s2 : IntKind.i64.wrap (x1 - x0) = x1 - x0 := IntWalk.i64_in _ (by omega)
      have i10 : IntKind.i64.wrap ((k : Int) - 1) = (k : Int) - 1 := IntWalk.i64_in _ (by omega)
      by_cases he : xk - xp = x1 - x0
      · have hn := fhid (hnext he)
        have he1 : (xk - xp == x1 - x0) = true := beq_iff_eq.2 he
        replace he := fhid he
        clear hdone hnext key b0 b1 bk bp
        go_upto_region 2 with fail
        go_quiet (fail)
        clear s1 s2 i10
        go_wp2_with fail
        go_roundw
        case rel => exact ⟨k + 1, by omega, by omega, by go_num, hn.out, below_drewN hB _⟩
        case measure => simp [intOf]; omega
      · have hm := fhid (hcut.out k (hdone fun _ => he))
        have he1 : (xk - xp == x1 - x0) = false := beq_eq_false_iff_ne.2 he
        replace he := fhid he
        clear hdone hnext key b0 b1 bk bp
        by_cases k2 : k = 2
        · have k2b : ((k : Int) == 2) = true := beq_iff_eq.2 (by omega)
          by_cases h1s : x1 - x0 = 1
          · have hf := fhid (hm.out.trans (if_neg fun h => h.2 (by rw [hst.out]; exact h1s)))
            have h1b : (x1 - x0 != 1) = false := by rw [h1s]; rfl
            replace h1s := fhid h1s
            clear hm k2
            go_upto_region 2 with fail
            go_quiet (fail)
            go_wp2_with fail
            go_quiet (fail)
            clear s2
            go_wp2_with fail
            go_ret
            exact NP.mk' rfl (by rw [hf.out]) (below_drewN (below_drewN hB _) _)
          · have hf := fhid (hm.out.trans (if_pos ⟨k2, by rw [hst.out]; exact h1s⟩))
            have h1b : (x1 - x0 != 1) = true := bne_iff_ne.2 h1s
            clear hm k2 h1s
            go_upto_region 2 with fail
            go_quiet (fail)
            go_wp2_with fail
            go_quiet (fail)
            clear s2
            go_wp2_with fail
            go_ret
            exact NP.mk' rfl (by rw [hf.out]; rfl) (below_drewN (below_drewN hB _) _)
        · have k2b : ((k : Int) == 2) = false := beq_eq_false_iff_ne.2 (by omega)
          have hf := fhid (hm.out.trans (if_neg fun h => k2 h.1))
          clear hm k2
          go_upto_region 2 with fail
          go_quiet (fail)
          go_wp2_with fail
          go_quiet (fail)
          go_wp2_with fail
          go_ret
          exact NP.mk' rfl (by rw [hf.out]) (below_drewN (below_drewN hB _) _)
    · obtain rfl : k = l.length := by omega
      have hm := fhid (hcut.out _ (hdone fun h => absurd h hlt))
      have i1 : decide ((l.length : Int) < l.length) = false := decide_eq_false (by omega)
      clear hdone hnext key
      by_cases k2 : l.length = 2
      · have k2b : ((l.length : Int) == 2) = true := beq_iff_eq.2 (by omega)
        have a0 := hat.out 0 (by omega)
        have a1 := hat.out 1 (by omega)
        rw [Nat.add_zero] at a0
        have b0 := hx.out 0 (by omega)
        have b1 := hx.out 1 (by omega)
        have i11 : (1 : Int) < l.length := by omega
        have i12 : (0 : Int) < l.length := by omega
        generalize l.getD 0 0 = x0 at *
        generalize l.getD 1 0 = x1 at *
        have s2 : IntKind.i64.wrap (x1 - x0) = x1 - x0 := IntWalk.i64_in _ (by omega)
        clear b0 b1
        by_cases h1s : x1 - x0 = 1
        · have hf := fhid (hm.out.trans (if_neg fun h => h.2 (by rw [hst.out]; exact h1s)))
          have h1b : (x1 - x0 != 1) = false := by rw [h1s]; rfl
          replace h1s := fhid h1s
          replace k2 := fhid k2
          clear hm
          go_upto_region 2 with fail
          go_quiet (fail)
          go_wp2_with fail
          go_quiet (fail)
          clear s2
          go_wp2_with fail
          go_ret
          exact NP.mk' rfl (by rw [hf.out]) (below_drewN (below_drewN hB _) _)
        · have hf := fhid (hm.out.trans (if_pos ⟨k2, by rw [hst.out]; exact h1s⟩))
          have h1b : (x1 - x0 != 1) = true := bne_iff_ne.2 h1s
          replace k2 := fhid k2
          clear hm h1s
          go_upto_region 2 with fail
          go_quiet (fail)
          go_wp2_with fail
          go_quiet (fail)
          clear s2
          go_wp2_with fail
          go_ret
          exact NP.mk' rfl (by rw [hf.out]; rfl) (below_drewN (below_drewN hB _) _)
      · have k2b : ((l.length : Int) == 2) = false := beq_eq_false_iff_ne.2 (by omega)
        have hf := fhid (hm.out.trans (if_neg fun h => k2 h.1))
        clear hm k2
        go_upto_region 2 with fail
        go_quiet (fail)
        go_wp2_with fail
        go_quiet (fail)
        go_wp2_with fail
        go_ret
        exact NP.mk' rfl (by rw [hf.out]) (below_drewN (below_drewN hB _) _)
end Go.Proofs.YtlcbppflpadhaaaDoor
