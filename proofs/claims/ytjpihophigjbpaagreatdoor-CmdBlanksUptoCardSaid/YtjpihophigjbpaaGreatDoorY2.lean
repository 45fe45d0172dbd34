/-
  Parts: YRun YLen YStr YFmt YAlive.
-/
import Derived.Test.YtjpihophigjbpaaGreatDoorY1
import Derived.Lib.AppendIntMem
import Derived.ChangeKeysEq
set_option linter.unusedSimpArgs false
set_option linter.unusedVariables false
/-
  How many indexes make one range's text; whether an array may be.
-/
namespace Go.Proofs.YtjpihophigjbpaaGreatDoor.Ys
open Go.Proofs.YtjpihophigjbpaaGreatDoor.Ds
open Go.RowKit

/-- A call that answers a truth, and makes memory. -/
def BoolPost (w : World) (r : Bool) (e : Ending) (w' : World) : Prop := e = .returned (.bool r) ∧ Below w.heap.size w w'
theorem cells_of {w : World} {B : Nat} {A : Option Addr} {l : List Int} (h : Ints w B A l) (hl : 0 < l.length) : ∃ b o, A = some ⟨b, o, none⟩ ∧ b < B ∧ ∀ j, j < l.length → w.cell? ⟨b, o + j, none⟩ = some (.int .i64 (l.getD j 0)) := by
  obtain ⟨b, o, rfl, hb, hc⟩ := h (by rw [IV_len]; exact hl)
  refine ⟨b, o, rfl, hb, fun j hj => ?_⟩
  rw [hc j (by rw [IV_len]; exact hj), IV_get l j hj, getD_get hj]
theorem right_bad {l : List Int} {lim : Int} {j : Nat} (hj : j < l.length) (h : okAt l j = false) : right l lim = false := decide_eq_false fun hr => by
  have := hr.2.1 j hj
  rw [h] at this
  cases this
/-- What holds of the first j. -/
def OkTo (l : List Int) (j : Nat) : Prop := ∀ i, i < j → okAt l i = true
theorem OkTo.zero (l : List Int) : OkTo l 0 := fun _ h => absurd h (Nat.not_lt_zero _)
theorem OkTo.succ {l : List Int} {j : Nat} (h : OkTo l j) (hj : okAt l j = true) : OkTo l (j + 1) := fun i hi => by
  by_cases e : i = j
  · subst e; exact hj
  · exact h i (by omega)
theorem OkTo.prev {l : List Int} : ∀ {j : Nat}, OkTo l j → -1 ≤ prev l j ∧ (0 < j → 0 ≤ prev l j)
  | 0, _ => ⟨by unfold Ys.prev; simp, fun h => absurd h (Nat.lt_irrefl 0)⟩
  | j + 1, h => by
    have h1 := (okAt_iff.1 (h j (by omega))).1
    have h2 := (OkTo.prev (j := j) fun i hi => h i (by omega)).1
    have e : Ys.prev l (j + 1) = l.getD j 0 := if_neg (by omega)
    rw [e]
    exact ⟨by omega, fun _ => by omega⟩
theorem right_all {l : List Int} {lim : Int} (h1 : 1 ≤ l.length) (h2 : l.length ≤ 256) (h : OkTo l l.length) : right l lim = (decide (0 ≤ lim) && decide (lim ≤ 999999)) := by
  unfold right
  rw [Bool.eq_iff_iff, decide_eq_true_iff, Bool.and_eq_true, decide_eq_true_iff, decide_eq_true_iff]
  exact ⟨fun hr => hr.2.2, fun hr => ⟨⟨h1, h2⟩, h, hr⟩⟩
theorem right_len {l : List Int} {lim : Int} (h : l.length = 0 ∨ 256 < l.length) : right l lim = false := decide_eq_false fun hr => by
  obtain ⟨⟨h1, h2⟩, _⟩ := hr
  omega
set_option maxRecDepth 100000 in
set_option maxHeartbeats 4000000 in
theorem Right_any (l : List Int) (A : Option Addr) (cap : Nat) (lim : Int) (w : World) (hs : Ints w w.heap.size A l) :
    Calls Tryz.prog 79 #[.agg #[.slice A l.length cap, .int .i64 lim]] w (BoolPost w (right l lim)) := by
  have hpost := fhid (show ∀ e w' r, e = .returned (.bool r) → right l lim = r → Below w.heap.size w w' → BoolPost w (right l lim) e w' from fun e w' r h1 h2 h3 => ⟨by rw [h2]; exact h1, h3⟩)
  generalize BoolPost w (right l lim) = P at *
  have p0 : AB (w.alloc (.cells #[.slice A l.length cap, .int .i64 lim] TAr)) w.heap.size TAr (.slice A l.length cap) lim := heap_alloc_new w _
  have b0 : Below w.heap.size w (w.alloc (.cells #[.slice A l.length cap, .int .i64 lim] TAr)) := (Below.refl _ _).alloc (Nat.le_refl _) _
  by_cases h0 : l.length = 0
  · have hr := fhid (right_len (l := l) (lim := lim) (.inl h0))
    have i0 : (l.length : Int) = 0 := by omega
    have i1 : ((l.length : Int) == 0) = true := beq_iff_eq.2 i0
    clear h0
    go_enter Tryz.func79, Tryz.ntmps79
    go_upto_region 1 with fail
    generalize w.alloc _ = w1 at *
    obtain ⟨c0, c1, _, _, _⟩ := p0.facts
    replace p0 := fhid p0
    go_wp2_with fail
    exact hpost.out _ _ false rfl hr.out b0
  have i1 : ((l.length : Int) == 0) = false := beq_eq_false_iff_ne.2 (by omega)
  have i1' : ¬ (l.length : Int) = 0 := by omega
  by_cases h256 : 256 < l.length
  · have hr := fhid (right_len (l := l) (lim := lim) (.inr h256))
    have i2 : (256 : Int) < l.length := by omega
    go_enter Tryz.func79, Tryz.ntmps79
    go_upto_region 1 with fail
    generalize w.alloc _ = w1 at *
    obtain ⟨c0, c1, _, _, _⟩ := p0.facts
    replace p0 := fhid p0
    go_wp2_with fail
    exact hpost.out _ _ false rfl hr.out b0
  have i2 : ¬ (256 : Int) < l.length := by omega
  obtain ⟨b, o, rfl, hb, hcell⟩ := cells_of hs (by omega)
  clear hs
  go_enter Tryz.func79, Tryz.ntmps79
  go_upto_region 1 with fail
  generalize w.alloc _ = w1 at *
  obtain ⟨c0, c1, _, _, _⟩ := p0.facts
  have hcell' : ∀ j, j < l.length → w1.cell? ⟨b, o + j, none⟩ = some (.int .i64 (l.getD j 0)) := fun j hj => (b0.cell (p := ⟨b, o + j, none⟩) hb).trans (hcell j hj)
  clear hcell
  replace p0 := fhid p0
  replace hcell' := fhid hcell'
  go_wp2_with fail
  go_loop [3, 19] (fun a i => ∃ j : Nat, j ≤ l.length ∧ i = .int .i64 (j : Int) ∧ a = .int .i64 (prev l j) ∧ OkTo l j) (fun _ i => l.length - (intOf i).toNat)
  case atStart => exact ⟨0, Nat.zero_le _, rfl, rfl, OkTo.zero l⟩
  case round =>
    obtain ⟨j, hj, rfl, rfl, hok⟩ := hrel
    by_cases hlt : j < l.length
    · have hc := hcell'.out j hlt
      have j1 : (j : Int) < l.length := by omega
      have j0 : (0 : Int) ≤ j := by omega
      have hE : okAt l j = (decide (prev l j < l.getD j 0) && decide (l.getD j 0 ≤ 999999)) := rfl
      have hP : prev l (j + 1) = l.getD j 0 := if_neg (by omega)
      have hbad := fun h => right_bad (lim := lim) hlt h
      have hsucc := fun h => hok.succ (j := j) h
      replace hbad := fhid hbad
      replace hsucc := fhid hsucc
      clear hok
      generalize l.getD j 0 = n at *
      replace hP := fhid hP
      by_cases k1 : prev l j < n
      · have k1' : ¬ n ≤ prev l j := by omega
        by_cases k2 : n ≤ 999999
        · have k2' : ¬ 999999 < n := by omega
          have hg := fhid (hE.trans (by rw [decide_eq_true k1, decide_eq_true k2, Bool.and_true]))
          clear hE
          generalize prev l j = p at *
          go_wp2_with fail
          go_round
          case rel => exact ⟨j + 1, by omega, by go_num, hP.out ▸ rfl, hsucc.out hg.out⟩
          case measure => simp [intOf]; omega
        · have k2' : 999999 < n := by omega
          have hg := fhid (hbad.out (hE.trans (by rw [decide_eq_false k2, Bool.and_false])))
          clear hE
          generalize prev l j = p at *
          go_wp2_with fail
          exact hpost.out _ _ false rfl hg.out b0
      · have k1' : n ≤ prev l j := by omega
        have hg := fhid (hbad.out (hE.trans (by rw [decide_eq_false k1, Bool.false_and])))
        clear hE
        generalize prev l j = p at *
        go_wp2_with fail
        exact hpost.out _ _ false rfl hg.out b0
    · obtain rfl : j = l.length := by omega
      have hr := fhid (right_all (lim := lim) (by omega) (by omega) hok)
      have j1 : ¬ (l.length : Int) < l.length := by omega
      clear hok
      generalize prev l l.length = p at *
      by_cases k1 : 0 ≤ lim
      · by_cases k2 : lim ≤ 999999
        · go_wp2_with fail
          exact hpost.out _ _ true rfl (hr.out.trans (by rw [decide_eq_true k1, decide_eq_true k2]; rfl)) b0
        · go_wp2_with fail
          exact hpost.out _ _ false rfl (hr.out.trans (by rw [decide_eq_false (show ¬ lim ≤ 999999 by omega), Bool.and_false])) b0
      · go_wp2_with fail
        exact hpost.out _ _ false rfl (hr.out.trans (by rw [decide_eq_false (show ¬ 0 ≤ lim by omega), Bool.false_and])) b0
end Go.Proofs.YtjpihophigjbpaaGreatDoor.Ys
/-
  How many indexes make one range's text.
-/
namespace Go.Proofs.YtjpihophigjbpaaGreatDoor.Ys
open Go.Proofs.YtjpihophigjbpaaGreatDoor.Ds
open Go.RowKit

/-- The first k go on by one step. -/
def StepTo (l : List Int) (k : Nat) : Prop := ∀ j, j + 1 < k → l.getD (j + 1) 0 - l.getD j 0 = stepOf l
theorem StepTo.succ {l : List Int} {k : Nat} (h : StepTo l k) (h1 : 1 ≤ k) (hk : l.getD k 0 - l.getD (k - 1) 0 = l.getD 1 0 - l.getD 0 0) : StepTo l (k + 1) := fun j hj => by
  by_cases e : j + 1 = k
  · subst e; exact hk
  · exact h j (by omega)
/-- A call that answers a number, and makes memory. -/
def NP (w : World) (n : Int) (e : Ending) (w' : World) : Prop := e = .returned (.int .i64 n) ∧ Below w.heap.size w w'
theorem NP.mk' {w w' : World} {n m : Int} {e : Ending} (he : e = .returned (.int .i64 m)) (hm : n = m) (hb : Below w.heap.size w w') : NP w n e w' := ⟨by rw [hm]; exact he, hb⟩
set_option maxRecDepth 100000 in
set_option maxHeartbeats 4000000 in
theorem run_any (l : List Int) (A : Option Addr) (cap : Nat) (w : World) (hs : Ints w w.heap.size A l) (hl : 0 < l.length) (hl2 : l.length ≤ 1000) (hx : ∀ j, j < l.length → 0 ≤ l.getD j 0 ∧ l.getD j 0 ≤ 999999) :
    Calls Tryz.prog 80 #[.slice A l.length cap] w (NP w (cutN l)) := by
  obtain ⟨b, o, rfl, hb, hcell⟩ := cells_of hs hl
  have hcut : ∀ k, maxRun l = k → cutN l = if k = 2 ∧ stepOf l ≠ 1 then 1 else k := fun k h => by rw [← h]; rfl
  have hst : stepOf l = l.getD 1 0 - l.getD 0 0 := rfl
  replace hcut := fhid hcut
  replace hst := fhid hst
  replace hcell := fhid hcell
  replace hx := fhid hx
  clear hs
  go_enter Tryz.func80, Tryz.ntmps80
  go_wp2_with fail
  go_loopw [3] (fun i wr => ∃ k : Nat, 1 ≤ k ∧ k ≤ l.length ∧ i = .int .i64 (k : Int) ∧ StepTo l k ∧ Below w.heap.size w wr) (fun i _ => l.length - (intOf i).toNat)
  case atStart => exact ⟨1, Nat.le_refl _, hl, rfl, fun j hj => by omega, Below.refl _ _⟩
  case round =>
    obtain ⟨k, h1, hk, rfl, hto, hB⟩ := hrel
    have j0 : (1 : Int) ≤ k := by omega
    have j4 : (k : Int) ≤ 1000 := by omega
    have hat : ∀ j, j < l.length → wr.cell? ⟨b, o + j, none⟩ = some (.int .i64 (l.getD j 0)) := fun j hj => (hB.cell (p := ⟨b, o + j, none⟩) hb).trans (hcell.out j hj)
    replace hat := fhid hat
    have hdone : (k < l.length → l.getD k 0 - l.getD (k - 1) 0 ≠ l.getD 1 0 - l.getD 0 0) → maxRun l = k := fun h => maxRun_of h1 hk hto h
    have hnext : l.getD k 0 - l.getD (k - 1) 0 = l.getD 1 0 - l.getD 0 0 → StepTo l (k + 1) := fun h => hto.succ h1 h
    clear hto
    have key : (k < l.length ∧ l.getD k 0 - l.getD (k - 1) 0 = l.getD 1 0 - l.getD 0 0) ∨ maxRun l = k := by
      by_cases hlt : k < l.length
      · by_cases he : l.getD k 0 - l.getD (k - 1) 0 = l.getD 1 0 - l.getD 0 0
        · exact .inl ⟨hlt, he⟩
        · exact .inr (hdone fun _ => he)
      · exact .inr (hdone fun h => absurd h hlt)
    by_cases hlt : k < l.length
    · have a0 := hat.out 0 (by omega)
      have a1 := hat.out 1 (by omega)
      have ak := hat.out k hlt
      have ap := hat.out (k - 1) (by omega)
      rw [Nat.add_zero] at a0
      have b0 := hx.out 0 (by omega)
      have b1 := hx.out 1 (by omega)
      have bk := hx.out k hlt
      have bp := hx.out (k - 1) (by omega)
      have i1 : (k : Int) < l.length := by omega
      have i0 : (0 : Int) ≤ k := by omega
      have i7 : (0 : Int) ≤ (k : Int) - 1 := by omega
      have i8 : (k : Int) - 1 < l.length := by omega
      have i9 : ((k : Int) - 1).toNat = k - 1 := by omega
      have i11 : (1 : Int) < l.length := by omega
      have i12 : (0 : Int) < l.length := by omega
      generalize l.getD 0 0 = x0 at *
      generalize l.getD 1 0 = x1 at *
      generalize l.getD k 0 = xk at *
      generalize l.getD (k - 1) 0 = xp at *
      have s1 : IntKind.i64.wrap (xk - xp) = xk - xp := IntWalk.i64_in _ (by omega)
      have s2 : IntKind.i64.wrap (x1 - x0) = x1 - x0 := IntWalk.i64_in _ (by omega)
      have i10 : IntKind.i64.wrap ((k : Int) - 1) = (k : Int) - 1 := IntWalk.i64_in _ (by omega)
      by_cases he : xk - xp = x1 - x0
      · have hn := fhid (hnext he)
        have he1 : (xk - xp == x1 - x0) = true := beq_iff_eq.2 he
        replace he := fhid he
        clear hdone hnext key b0 b1 bk bp
        go_upto_region 2 with fail
        go_quiet (fail)
        clear s1 s2 i10
        go_wp2_with fail
        go_roundw
        case rel => exact ⟨k + 1, by omega, by omega, by go_num, hn.out, Ds.below_drewN hB _⟩
        case measure => simp [intOf]; omega
      · have hm := fhid (hcut.out k (hdone fun _ => he))
        have he1 : (xk - xp == x1 - x0) = false := beq_eq_false_iff_ne.2 he
        replace he := fhid he
        clear hdone hnext key b0 b1 bk bp
        by_cases k2 : k = 2
        · have k2b : ((k : Int) == 2) = true := beq_iff_eq.2 (by omega)
          by_cases h1s : x1 - x0 = 1
          · have hf := fhid (hm.out.trans (if_neg fun h => h.2 (by rw [hst.out]; exact h1s)))
            have h1b : (x1 - x0 != 1) = false := by rw [h1s]; rfl
            replace h1s := fhid h1s
            clear hm k2
            go_upto_region 2 with fail
            go_quiet (fail)
            go_wp2_with fail
            go_quiet (fail)
            clear s2
            go_wp2_with fail
            go_ret
            exact NP.mk' rfl (by rw [hf.out]) (Ds.below_drewN (Ds.below_drewN hB _) _)
          · have hf := fhid (hm.out.trans (if_pos ⟨k2, by rw [hst.out]; exact h1s⟩))
            have h1b : (x1 - x0 != 1) = true := bne_iff_ne.2 h1s
            clear hm k2 h1s
            go_upto_region 2 with fail
            go_quiet (fail)
            go_wp2_with fail
            go_quiet (fail)
            clear s2
            go_wp2_with fail
            go_ret
            exact NP.mk' rfl (by rw [hf.out]; rfl) (Ds.below_drewN (Ds.below_drewN hB _) _)
        · have k2b : ((k : Int) == 2) = false := beq_eq_false_iff_ne.2 (by omega)
          have hf := fhid (hm.out.trans (if_neg fun h => k2 h.1))
          clear hm k2
          go_upto_region 2 with fail
          go_quiet (fail)
          go_wp2_with fail
          go_quiet (fail)
          go_wp2_with fail
          go_ret
          exact NP.mk' rfl (by rw [hf.out]) (Ds.below_drewN (Ds.below_drewN hB _) _)
    · obtain rfl : k = l.length := by omega
      have hm := fhid (hcut.out _ (hdone fun h => absurd h hlt))
      have i1 : decide ((l.length : Int) < l.length) = false := decide_eq_false (by omega)
      clear hdone hnext key
      by_cases k2 : l.length = 2
      · have k2b : ((l.length : Int) == 2) = true := beq_iff_eq.2 (by omega)
        have a0 := hat.out 0 (by omega)
        have a1 := hat.out 1 (by omega)
        rw [Nat.add_zero] at a0
        have b0 := hx.out 0 (by omega)
        have b1 := hx.out 1 (by omega)
        have i11 : (1 : Int) < l.length := by omega
        have i12 : (0 : Int) < l.length := by omega
        generalize l.getD 0 0 = x0 at *
        generalize l.getD 1 0 = x1 at *
        have s2 : IntKind.i64.wrap (x1 - x0) = x1 - x0 := IntWalk.i64_in _ (by omega)
        clear b0 b1
        by_cases h1s : x1 - x0 = 1
        · have hf := fhid (hm.out.trans (if_neg fun h => h.2 (by rw [hst.out]; exact h1s)))
          have h1b : (x1 - x0 != 1) = false := by rw [h1s]; rfl
          replace h1s := fhid h1s
          replace k2 := fhid k2
          clear hm
          go_upto_region 2 with fail
          go_quiet (fail)
          go_wp2_with fail
          go_quiet (fail)
          clear s2
          go_wp2_with fail
          go_ret
          exact NP.mk' rfl (by rw [hf.out]) (Ds.below_drewN (Ds.below_drewN hB _) _)
        · have hf := fhid (hm.out.trans (if_pos ⟨k2, by rw [hst.out]; exact h1s⟩))
          have h1b : (x1 - x0 != 1) = true := bne_iff_ne.2 h1s
          replace k2 := fhid k2
          clear hm h1s
          go_upto_region 2 with fail
          go_quiet (fail)
          go_wp2_with fail
          go_quiet (fail)
          clear s2
          go_wp2_with fail
          go_ret
          exact NP.mk' rfl (by rw [hf.out]; rfl) (Ds.below_drewN (Ds.below_drewN hB _) _)
      · have k2b : ((l.length : Int) == 2) = false := beq_eq_false_iff_ne.2 (by omega)
        have hf := fhid (hm.out.trans (if_neg fun h => k2 h.1))
        clear hm k2
        go_upto_region 2 with fail
        go_quiet (fail)
        go_wp2_with fail
        go_quiet (fail)
        go_wp2_with fail
        go_ret
        exact NP.mk' rfl (by rw [hf.out]) (Ds.below_drewN (Ds.below_drewN hB _) _)
end Go.Proofs.YtjpihophigjbpaaGreatDoor.Ys
/-
  Texts of the call's own, joined; a number's text; a range's text.
-/
namespace Go.Proofs.YtjpihophigjbpaaGreatDoor.Ys
open Go.Proofs.YtjpihophigjbpaaGreatDoor.Ds
open Go.RowKit

/-- The library's table of powers of ten reads as the program's text lays it. -/
def Tab (w : World) : Prop := Lib.TabIs Tryz.prog w "internal/strconv.uint64pow10" .u64 Lib.pow10Tab
theorem tab_below {w w' : World} (h : Tab w) (hb : Below w.heap.size w w') : Tab w' := ((Lib.tabBelow_of_tabIs h).on hb).here
theorem dec_len (u : Nat) (h : u < 18446744073709551616) : (dec u).length ≤ 20 := by
  unfold dec
  rw [Lib.decDigits_length]
  by_cases h0 : u < 10
  · rw [Lib.nDigits_small h0]; omega
  · have := Lib.numDigits_eq u (by omega) h
    split at this <;> omega
/-- Names, as cells. -/
def NV (ns : List (List UInt8)) : List Value := ns.map fun n => .string (str n)
theorem NV_len (ns : List (List UInt8)) : (NV ns).length = ns.length := List.length_map _
theorem NV_get (ns : List (List UInt8)) (j : Nat) (h : j < ns.length) (h' : j < (NV ns).length) : (NV ns)[j] = .string (str ns[j]) := by simp [NV]
theorem NV_app (a b : List (List UInt8)) : NV (a ++ b) = NV a ++ NV b := List.map_append
theorem infoString : (Tryz.prog.info? 9).map (fun i => (i.zero, i.size, i.bytes)) = some (some (.string ⟨#[]⟩), 1, 16) := by kernel_rfl
/-- A slice of the call's own holds these texts. -/
def OwnS (w : World) (base : Nat) (v : Value) (ns : List (List UInt8)) : Prop := w.ownsRow base 9 1 v ns.length (NV ns)
section
variable {w : World} {ops : Array Oper} {rest : List Oper} {o : Oper} {a : Act} {Q : Exit → Act → World → Prop}
theorem app_name (hgd : o.guard = none) (s x : Operand) (ho : o.op = .call { callee := .builtin .append, args := #[s, x], argTypes := #[51, 51] })
    (base : Nat) (v : Value) (ns : List (List UInt8)) (n : List UInt8) (S : ByteArray) (hS : S = str n) (w0 : World) (hs : a.eval s = v) (hown : OwnS w0 base v ns)
    (hw : w = w0.alloc (.cells #[.string S] 9)) (g : Nat) (hg : g = w0.heap.size) (hx : a.eval x = .slice (some ⟨g, 0, none⟩) 1 1) (hlen : ns.length ≤ 1048576) (hbase : base ≤ w0.heap.size)
    (h : ∀ v' w', OwnS w' base v' (ns ++ [n]) → Below base w0 w' → wpList Tryz.prog ops Q rest (a.put o.dst v') w') : wpList Tryz.prog ops Q (o :: rest) a w := by
  subst hS
  subst hw
  subst hg
  refine app_own 51 9 (.string ⟨#[]⟩) 1 16 Tryz.underlying51 infoString rfl (by decide) hgd s x ho base v ns.length (NV ns) hs (World.ownsRow.alloc hown _) (w0.heap.size + 1) (some ⟨w0.heap.size, 0, none⟩) 1 1 [.string (str n)] hx (one_cells w0 _ _) rfl (fun u hu => by simp at hu; rcases hu with rfl; rfl) (fun h => by cases h) (by omega) (by omega) (by rw [World.size_alloc]; omega) ?_
  intro v' w' h1 _ h3 _
  refine h v' w' ?_ (((Below.refl _ _).alloc hbase _).trans h3)
  unfold OwnS
  rw [NV_app, List.length_append]
  exact h1
end
theorem OwnS.below {w w' : World} {base : Nat} {v : Value} {ns : List (List UInt8)} (h : OwnS w base v ns) (hb : Below w.heap.size w w') : OwnS w' base v ns := ownsRow_below h hb
theorem OwnS.nil (w : World) (base : Nat) : OwnS w base (.slice none 0 0) [] := ownsRow_nil _ _ _ _
theorem map_str (ns : List (List UInt8)) : (ns.map str).map (fun x => x.data.toList) = ns := by
  induction ns with
  | nil => rfl
  | cons x r ih => simp [str] at ih ⊢; exact ih
theorem joinTail_le (B : Nat) (c : UInt8) (r : List (List UInt8)) (h : ∀ x ∈ r, x.length ≤ B) : (Go.Lib.joinTail [c] r).length ≤ (B + 1) * r.length := by
  induction r with
  | nil => simp [Go.Lib.joinTail]
  | cons x r ih =>
    have h1 := h x (by simp)
    have h2 := ih (fun y hy => h y (by simp [hy]))
    have e : Go.Lib.joinTail [c] (x :: r) = ([c] ++ x) ++ Go.Lib.joinTail [c] r := by simp [Go.Lib.joinTail]
    rw [e, List.length_append, List.length_append, List.length_cons, List.length_cons, List.length_nil, Nat.mul_add, Nat.mul_one]
    omega
theorem join_le (B : Nat) (c : UInt8) (ns : List (List UInt8)) (h : ∀ x ∈ ns, x.length ≤ B) : (Go.Lib.join ns [c]).length ≤ (B + 1) * ns.length := by
  cases ns with
  | nil => simp [Go.Lib.join]
  | cons x r =>
    have h1 := h x (by simp)
    have h2 := joinTail_le B c r (fun y hy => h y (by simp [hy]))
    rw [Go.Lib.join_cons, List.length_append, List.length_cons, Nat.mul_add, Nat.mul_one]
    omega
/-- Texts of the call's own, joined. -/
theorem joins_any (base : Nat) (v : Value) (ns : List (List UInt8)) (c : UInt8) (w : World) (hown : OwnS w base v ns) (hl : ns.length ≤ 1000) (h : ∀ x ∈ ns, x.length ≤ 64) :
    Calls Tryz.prog 69 #[v, .string ⟨#[c]⟩] w fun e w' => e = .returned (.string (str (Go.Lib.join ns [c]))) ∧ Below w.heap.size w w' := by
  obtain ⟨A, cap, rfl, hc, _, hs⟩ := ownsRow_shape hown
  by_cases hp : 0 < ns.length
  · obtain ⟨b, o, rfl, hb, hcell⟩ := hs (by rw [NV_len]; exact hp)
    have := Tryz.strings_Join b o cap (ns.map str) ⟨#[c]⟩ w (fun j x hx => by
      rw [List.getElem?_map] at hx
      cases hn : ns[j]? with
      | none => rw [hn] at hx; cases hx
      | some y =>
        rw [hn] at hx
        obtain ⟨hj, rfl⟩ := List.getElem?_eq_some_iff.1 hn
        have hx' : str ns[j] = x := by simpa using hx
        subst hx'
        rw [hcell j (by rw [NV_len]; exact hj), NV_get ns j hj]) hb (by rw [List.length_map]; omega) (by rw [List.length_map]; exact hc) (by
          rw [map_str]
          have := join_le 64 c ns h
          show (Go.Lib.join ns [c]).length ≤ _
          have : (64 + 1) * ns.length ≤ 65 * 1000 := Nat.mul_le_mul_left _ hl
          omega)
    rw [map_str, List.length_map] at this
    exact this
  · obtain rfl : ns = [] := List.eq_nil_of_length_eq_zero (by omega)
    refine (Tryz.strings_Join_none A cap ⟨#[c]⟩ w).mono ?_
    rintro e w' ⟨rfl, rfl⟩
    exact ⟨by rw [show Go.Lib.join [] [c] = [] from rfl]; rfl, Below.refl _ _⟩
/-- A call that answers a text, and makes memory. -/
def TP (w : World) (t : List UInt8) (e : Ending) (w' : World) : Prop := e = .returned (.string (str t)) ∧ Below w.heap.size w w'
theorem TP.mk' {w w' : World} {t : List UInt8} {S : ByteArray} {e : Ending} (he : e = .returned (.string S)) (hS : str t = S) (hb : Below w.heap.size w w') : TP w t e w' := ⟨by rw [hS]; exact he, hb⟩
theorem itoa_any (n : Int) (w : World) (hT : Tab w) (h0 : 0 ≤ n) (hn : n ≤ 999999) : Calls Tryz.prog 26 #[.int .i64 n] w (TP w (num n)) := by
  refine (Tryz.strconv_Itoa n (by omega) (by omega) w hT).mono ?_
  rintro e w' ⟨rfl, k, os, rfl⟩
  refine ⟨?_, below_grow w k os⟩
  rw [show Lib.itoa n = num n from if_neg (by omega)]
  rfl
theorem pieceT_len {l : List Int} {k : Nat} (h0 : 0 ≤ l.getD 0 0 ∧ l.getD 0 0 ≤ 999999) (h1 : 0 ≤ l.getD (k - 1) 0 ∧ l.getD (k - 1) 0 ≤ 999999) (h2 : k ≠ 1 → 1 ≤ stepOf l ∧ stepOf l ≤ 999999) : (pieceT l k).length ≤ 64 := by
  have a := (num_facts h0.1 h0.2).2.2.2
  have b := (num_facts h1.1 h1.2).2.2.2
  unfold pieceT
  rw [List.length_append]
  by_cases h : k = 1
  · rw [if_pos h, List.length_nil]; omega
  · rw [if_neg h]
    have c := (num_facts (n := stepOf l) (by have := h2 h; omega) (h2 h).2).2.2.2
    rw [List.length_cons, List.length_append]
    split
    · rw [List.length_nil]; omega
    · rw [List.length_cons]; omega
set_option maxRecDepth 100000 in
set_option maxHeartbeats 4000000 in
theorem join_one (l : List Int) (A : Option Addr) (cap : Nat) (w : World) (hT : Tab w) (hs : Ints w w.heap.size A l) (hl : 0 < l.length) (h0 : 0 ≤ l.getD 0 0 ∧ l.getD 0 0 ≤ 999999) :
    Calls Tryz.prog 81 #[.slice A 1 cap] w (TP w (pieceT l 1)) := by
  obtain ⟨b, o, rfl, hb, hcell⟩ := cells_of hs hl
  have a0 := hcell 0 hl
  rw [Nat.add_zero] at a0
  have hE := fhid (show pieceT l 1 = num (l.getD 0 0) by unfold pieceT; rw [if_pos rfl, List.append_nil])
  clear hcell hs
  generalize l.getD 0 0 = x0 at *
  have hit := fun W (hW : Below w.heap.size w W) => itoa_any x0 W (tab_below hT hW) h0.1 h0.2
  have e1 : (x0 == x0) = true := by simp
  replace hT := fhid hT
  unfold TP at hit
  obtain ⟨S, hS⟩ : ∃ S, str (num x0) = S := ⟨_, rfl⟩
  rw [hS] at hit
  replace hS := fhid hS
  have b0 : Below w.heap.size w w := Below.refl _ _
  go_enter Tryz.func81, Tryz.ntmps81
  go_wp2_with fail
  go_quiet (fail)
  have g0 := Ds.below_drewN b0 nq
  generalize w.drewN nq = W at *
  clear a0
  go_wp2_with (go_at_call 26; (with_reducible refine (hit _ g0).mono ?_); rintro e w1 ⟨rfl, b1⟩)
  go_ret
  exact TP.mk' rfl (by rw [hE.out, hS.out]) (g0.trans (b1.mono g0.size))
set_option maxRecDepth 100000 in
set_option maxHeartbeats 4000000 in
theorem join_more (l : List Int) (k : Nat) (A : Option Addr) (cap : Nat) (w : World) (hT : Tab w) (hs : Ints w w.heap.size A l) (hk2 : 2 ≤ k) (hk : k ≤ l.length) (hk1 : k ≤ 1000) (hx : ∀ j, j < l.length → 0 ≤ l.getD j 0 ∧ l.getD j 0 ≤ 999999) (hlt : l.getD 0 0 < l.getD (k - 1) 0) (hst : 1 ≤ stepOf l) :
    Calls Tryz.prog 81 #[.slice A k cap] w (TP w (pieceT l k)) := by
  obtain ⟨b, o, rfl, hb, hcell⟩ := cells_of hs (by omega)
  have a0 := hcell 0 (by omega)
  have a1 := hcell 1 (by omega)
  have ak := hcell (k - 1) (by omega)
  rw [Nat.add_zero] at a0
  have x0b := hx 0 (by omega)
  have x1b := hx 1 (by omega)
  have xkb := hx (k - 1) (by omega)
  have hst' : stepOf l = l.getD 1 0 - l.getD 0 0 := rfl
  have hE := fhid (show pieceT l k = num (l.getD 0 0) ++ 45 :: (num (l.getD (k - 1) 0) ++ if stepOf l = 1 then [] else 58 :: num (stepOf l)) by unfold pieceT; rw [if_neg (by omega)])
  clear hcell hs hx
  rw [hst'] at hE hst
  clear hst'
  generalize l.getD 0 0 = x0 at *
  generalize l.getD 1 0 = x1 at *
  generalize l.getD (k - 1) 0 = xk at *
  have hit := fun n W (hW : Below w.heap.size w W) => itoa_any n W (tab_below hT hW)
  have i1 := hit x0
  have i2 := hit xk
  have i3 := hit (x1 - x0)
  clear hit
  have n0 := (num_facts x0b.1 x0b.2).2.2.2
  have nk := (num_facts xkb.1 xkb.2).2.2.2
  have n3 := (num_facts (n := x1 - x0) (by omega) (by omega)).2.2.2
  have q1 : str (num x0) ++ ⟨#[45]⟩ = str (num x0 ++ [45]) := str_app _ [45]
  have q2 : str (num x0 ++ [45]) ++ str (num xk) = str (num x0 ++ [45] ++ num xk) := str_app _ _
  have q3 : ⟨#[58]⟩ ++ str (num (x1 - x0)) = str (58 :: num (x1 - x0)) := str_app [58] _
  have q4 : str (num x0 ++ [45] ++ num xk) ++ str (58 :: num (x1 - x0)) = str (num x0 ++ [45] ++ num xk ++ 58 :: num (x1 - x0)) := str_app _ _
  have z1 : (str (num x0)).size ≤ 6 := by rw [str_size]; omega
  have z2 : (str (num x0 ++ [45])).size ≤ 7 := by rw [str_size, List.length_append, List.length_singleton]; omega
  have z3 : (str (num x0 ++ [45] ++ num xk)).size ≤ 13 := by rw [str_size, List.length_append, List.length_append, List.length_singleton]; omega
  have z4 : (str (num xk)).size ≤ 6 := by rw [str_size]; omega
  have z5 : (str (num (x1 - x0))).size ≤ 6 := by rw [str_size]; omega
  have z6 : (str (58 :: num (x1 - x0))).size ≤ 7 := by rw [str_size, List.length_cons]; omega
  have e1 : pieceT l k = num x0 ++ [45] ++ num xk ++ (if x1 - x0 = 1 then [] else 58 :: num (x1 - x0)) := by rw [hE.out]; simp
  clear hE
  unfold TP at i1 i2 i3
  by_cases h1 : x1 - x0 = 1
  · rw [if_pos h1, List.append_nil] at e1
    have e2 := fhid (show str (pieceT l k) = str (num x0 ++ [45] ++ num xk) by rw [e1])
    clear e1 i3 n3 q3 q4 z5 z6 n0 nk
    generalize str (num x0 ++ [45] ++ num xk) = Q2 at *
    generalize str (num x0 ++ [45]) = Q1 at *
    generalize str (num x0) = S0 at *
    generalize str (num xk) = SK at *
    have j1 : ¬ 9223372036854775807 < S0.size + 1 := by omega
    have j2 : ¬ 9223372036854775807 < Q1.size + SK.size := by omega
    have f1 : (x0 == xk) = false := beq_eq_false_iff_ne.2 (by omega)
    have f2 : (x1 - x0 != 1) = false := by rw [h1]; rfl
    have k0 : (0 : Int) < k := by omega
    have k1 : (1 : Int) < k := by omega
    have k3 : (0 : Int) ≤ (k : Int) - 1 := by omega
    have k4 : (k : Int) - 1 < k := by omega
    have k5 : ((k : Int) - 1).toNat = k - 1 := by omega
    have k6 : IntKind.i64.wrap ((k : Int) - 1) = (k : Int) - 1 := IntWalk.i64_in _ (by omega)
    have b0 : Below w.heap.size w w := Below.refl _ _
    have ha1 := fun W (h : Below w.heap.size w W) => (h.cell (p := ⟨b, o + 1, none⟩) hb).trans a1
    have hi1 := fun W (h : Below w.heap.size w W) => i1 W h x0b.1 x0b.2
    have hi2 := fun W (h : Below w.heap.size w W) => i2 W h xkb.1 xkb.2
    clear z1 z2 z3 z4 i1 i2
    replace h1 := fhid h1
    replace hT := fhid hT
    replace q1 := fhid q1
    replace q2 := fhid q2
    replace ha1 := fhid ha1
    go_enter Tryz.func81, Tryz.ntmps81
    go_wp2_with fail
    go_quiet (fail)
    have g0 := Ds.below_drewN b0 nq
    generalize w.drewN nq = W at *
    clear a0 a1 ak k6
    replace q1 := q1.out
    replace q2 := q2.out
    go_wp2_with (first
      | (go_at_call 26; (with_reducible refine (hi1 _ g0).mono ?_); rintro e w1 ⟨rfl, b1⟩; have g1 := g0.trans (b1.mono g0.size))
      | (go_at_call 26; (with_reducible refine (hi2 _ g1).mono ?_); rintro e w2 ⟨rfl, b2⟩; have g2 := g1.trans (b2.mono g1.size); have a1 := ha1.out _ g2))
    go_ret
    exact TP.mk' rfl e2.out g2
  · rw [if_neg h1] at e1
    have e2 := fhid (show str (pieceT l k) = str (num x0 ++ [45] ++ num xk ++ 58 :: num (x1 - x0)) by rw [e1])
    clear e1 n3 n0 nk
    generalize str (num x0 ++ [45] ++ num xk ++ 58 :: num (x1 - x0)) = Q4 at *
    generalize str (num x0 ++ [45] ++ num xk) = Q2 at *
    generalize str (num x0 ++ [45]) = Q1 at *
    generalize str (num x0) = S0 at *
    generalize str (num xk) = SK at *
    generalize str (58 :: num (x1 - x0)) = Q3 at *
    generalize str (num (x1 - x0)) = S3 at *
    have j1 : ¬ 9223372036854775807 < S0.size + 1 := by omega
    have j2 : ¬ 9223372036854775807 < Q1.size + SK.size := by omega
    have j3 : ¬ 9223372036854775807 < 1 + S3.size := by omega
    have j4 : ¬ 9223372036854775807 < Q2.size + Q3.size := by omega
    have f1 : (x0 == xk) = false := beq_eq_false_iff_ne.2 (by omega)
    have f2 : (x1 - x0 != 1) = true := bne_iff_ne.2 h1
    have k0 : (0 : Int) < k := by omega
    have k1 : (1 : Int) < k := by omega
    have k3 : (0 : Int) ≤ (k : Int) - 1 := by omega
    have k4 : (k : Int) - 1 < k := by omega
    have k5 : ((k : Int) - 1).toNat = k - 1 := by omega
    have k6 : IntKind.i64.wrap ((k : Int) - 1) = (k : Int) - 1 := IntWalk.i64_in _ (by omega)
    have b0 : Below w.heap.size w w := Below.refl _ _
    have ha1 := fun W (h : Below w.heap.size w W) => (h.cell (p := ⟨b, o + 1, none⟩) hb).trans a1
    have hi1 := fun W (h : Below w.heap.size w W) => i1 W h x0b.1 x0b.2
    have hi2 := fun W (h : Below w.heap.size w W) => i2 W h xkb.1 xkb.2
    have hi3 := fun W (h : Below w.heap.size w W) => i3 W h (by omega) (by omega)
    clear z1 z2 z3 z4 z5 z6 i1 i2 i3
    replace h1 := fhid h1
    replace hT := fhid hT
    replace q1 := fhid q1
    replace q2 := fhid q2
    replace q3 := fhid q3
    replace q4 := fhid q4
    replace ha1 := fhid ha1
    go_enter Tryz.func81, Tryz.ntmps81
    go_wp2_with fail
    go_quiet (fail)
    have g0 := Ds.below_drewN b0 nq
    generalize w.drewN nq = W at *
    clear a0 a1 ak k6
    replace q1 := q1.out
    replace q2 := q2.out
    replace q3 := q3.out
    replace q4 := q4.out
    go_wp2_with (first
      | (go_at_call 26; (with_reducible refine (hi1 _ g0).mono ?_); rintro e w1 ⟨rfl, b1⟩; have g1 := g0.trans (b1.mono g0.size))
      | (go_at_call 26; (with_reducible refine (hi2 _ g1).mono ?_); rintro e w2 ⟨rfl, b2⟩; have g2 := g1.trans (b2.mono g1.size); have a1 := ha1.out _ g2)
      | (go_at_call 26; (with_reducible refine (hi3 _ g2).mono ?_); rintro e w3 ⟨rfl, b3⟩; have g3 := g2.trans (b3.mono g2.size)))
    go_ret
    exact TP.mk' rfl e2.out g3
end Go.Proofs.YtjpihophigjbpaaGreatDoor.Ys
/-
  Format, walked.
-/
namespace Go.Proofs.YtjpihophigjbpaaGreatDoor.Ys
open Go.Proofs.YtjpihophigjbpaaGreatDoor.Ds
open Go.RowKit

/-- Numbers that rise, none too great. -/
def Rising (l : List Int) : Prop := l.Pairwise (· < ·) ∧ ∀ x ∈ l, 0 ≤ x ∧ x ≤ 999999
theorem Rising.at_ {l : List Int} (h : Rising l) : ∀ j, j < l.length → 0 ≤ l.getD j 0 ∧ l.getD j 0 ≤ 999999 := fun j hj => by
  rw [getD_get hj]
  exact h.2 _ (List.getElem_mem hj)
theorem Rising.drop {l : List Int} (h : Rising l) (k : Nat) : Rising (l.drop k) := ⟨h.1.sublist (List.drop_sublist k l), fun x hx => h.2 x (List.mem_of_mem_drop hx)⟩
theorem Rising.step {l : List Int} (h : Rising l) (hl : 2 ≤ l.length) : 1 ≤ stepOf l ∧ stepOf l ≤ 999999 := by
  have h0 := h.at_ 0 (by omega)
  have h1 := h.at_ 1 (by omega)
  have := List.pairwise_iff_getElem.1 h.1 0 1 (by omega) (by omega) (by omega)
  rw [← getD_get (l := l) (j := 0) (by omega), ← getD_get (l := l) (j := 1) (by omega)] at this
  unfold stepOf
  omega
/-- The text that the first ones make. -/
theorem join_run (l : List Int) (A : Option Addr) (cap : Nat) (w : World) (hT : Tab w) (hs : Ints w w.heap.size A l) (hl : 0 < l.length) (hl2 : l.length ≤ 1000) (hx : Rising l) :
    Calls Tryz.prog 81 #[.slice A (cutN l) cap] w (TP w (pieceT l (cutN l))) ∧ (pieceT l (cutN l)).length ≤ 64 := by
  obtain ⟨c1, c2, c3⟩ := cutN_le (List.length_pos_iff.1 hl)
  have hat := hx.at_
  refine ⟨?_, pieceT_len (hat 0 hl) (hat _ (by omega)) fun h => hx.step (by omega)⟩
  by_cases h1 : cutN l = 1
  · rw [h1]
    exact join_one l A cap w hT hs hl (hat 0 hl)
  · refine join_more l (cutN l) A cap w hT hs (by omega) c2 (by omega) hat ?_ (hx.step (by omega)).1
    have := List.pairwise_iff_getElem.1 hx.1 0 (cutN l - 1) (by omega) (by omega) (by omega)
    rwa [← getD_get (l := l) (j := 0) (by omega), ← getD_get (l := l) (j := cutN l - 1) (by omega)] at this
theorem ints_take {w : World} {B : Nat} {A : Option Addr} {l : List Int} (h : Ints w B A l) {k cap : Nat} (hk : k ≤ l.length) (hc : l.length ≤ cap) : Ints w B (if cap = k then A else A.map (·.add k)) (l.drop k) := by
  have := SegC.drop h (k := k) (cap := cap) (by rw [IV_len]; exact hk) (by rw [IV_len]; exact hc)
  unfold IV at this
  rwa [← List.map_drop] at this
def lenS : Value → Nat | .slice _ n _ => n | _ => 0
/-- What Format hands back. -/
def FmtPost (w : World) (l : List Int) (lim : Int) (e : Ending) (w' : World) : Prop := e = .returned (if right l lim = true then .tuple #[.string (str (fmtT l lim)), .int .i64 0] else .tuple #[.string ⟨#[]⟩, .int .i64 3]) ∧ Below w.heap.size w w'
/-- Where the loop is. -/
def FInv (w : World) (l : List Int) (A : Option Addr) (cap : Nat) (lim : Int) (s4 s5 : Value) (wr : World) : Prop := ∃ (M : List Int) (done : List (List UInt8)) (A' : Option Addr) (cap' f : Nat), s5 = .slice A' M.length cap' ∧ M.length ≤ cap' ∧ Ints wr w.heap.size A' M ∧ Rising M ∧ OwnS wr (w.heap.size + 1) s4 done ∧ pieces l.length l = done ++ pieces f M ∧ M.length ≤ f ∧
  done.length + M.length ≤ l.length ∧ (∀ d ∈ done, d.length ≤ 64) ∧ AB wr w.heap.size TAr (.slice A l.length cap) lim ∧ Below w.heap.size w wr ∧ w.heap.size + 1 ≤ wr.heap.size
set_option maxRecDepth 100000 in
set_option maxHeartbeats 4000000 in
theorem Format_no (l : List Int) (A : Option Addr) (cap : Nat) (lim : Int) (w : World) (hs : Ints w w.heap.size A l) (hr : right l lim = false) :
    Calls Tryz.prog 54 #[.agg #[.slice A l.length cap, .int .i64 lim]] w (FmtPost w l lim) := by
  have p0 : AB (w.alloc (.cells #[.slice A l.length cap, .int .i64 lim] TAr)) w.heap.size TAr (.slice A l.length cap) lim := heap_alloc_new w _
  have b0 : Below w.heap.size w (w.alloc (.cells #[.slice A l.length cap, .int .i64 lim] TAr)) := (Below.refl _ _).alloc (Nat.le_refl _) _
  have hri := Right_any l A cap lim (w.alloc (.cells #[.slice A l.length cap, .int .i64 lim] TAr)) ((hs.below b0).more b0.size)
  rw [hr] at hri
  have hE := fhid (show (if right l lim = true then Value.tuple #[.string (str (fmtT l lim)), .int .i64 0] else .tuple #[.string ⟨#[]⟩, .int .i64 3]) = .tuple #[.string ⟨#[]⟩, .int .i64 3] by rw [hr]; rfl)
  clear hr hs
  go_enter Tryz.func54, Tryz.ntmps54
  go_upto_region 1 with fail
  generalize w.alloc _ = w1 at *
  obtain ⟨c0, c1, _, _, _⟩ := p0.facts
  replace p0 := fhid p0
  go_wp2_with (go_at_call 79; (with_reducible refine hri.mono ?_); rintro e w2 ⟨rfl, b2⟩)
  exact bodyPost_ret (v := .tuple #[.string ⟨#[]⟩, .int .i64 3]) (by simp [results, Tryz.results54, go_sem]) rfl ⟨by rw [hE.out], b0.trans (b2.mono b0.size)⟩
set_option maxRecDepth 100000 in
set_option maxHeartbeats 8000000 in
theorem Format_yes (l : List Int) (A : Option Addr) (cap : Nat) (lim : Int) (w : World) (hT : Tab w) (hs : Ints w w.heap.size A l) (hc : l.length ≤ cap) (hr : right l lim = true) :
    Calls Tryz.prog 54 #[.agg #[.slice A l.length cap, .int .i64 lim]] w (FmtPost w l lim) := by
  have p0 : AB (w.alloc (.cells #[.slice A l.length cap, .int .i64 lim] TAr)) w.heap.size TAr (.slice A l.length cap) lim := heap_alloc_new w _
  have b0 : Below w.heap.size w (w.alloc (.cells #[.slice A l.length cap, .int .i64 lim] TAr)) := (Below.refl _ _).alloc (Nat.le_refl _) _
  have zz := World.size_alloc w (.cells #[.slice A l.length cap, .int .i64 lim] TAr)
  have hri := Right_any l A cap lim (w.alloc (.cells #[.slice A l.length cap, .int .i64 lim] TAr)) ((hs.below b0).more b0.size)
  rw [hr] at hri
  have hR : RightP l lim := of_decide_eq_true hr
  obtain ⟨⟨l1, l2⟩, _, m0, m1⟩ := id hR
  have hris := fhid (show Rising l from ⟨hR.up, hR.range⟩)
  have hE := fhid (show (if right l lim = true then Value.tuple #[.string (str (fmtT l lim)), .int .i64 0] else .tuple #[.string ⟨#[]⟩, .int .i64 3]) = .tuple #[.string (str (fmtT l lim)), .int .i64 0] by rw [hr]; rfl)
  clear hr hR
  replace hs := fhid hs
  replace hT := fhid hT
  go_enter Tryz.func54, Tryz.ntmps54
  go_upto_region 1 with fail
  generalize w.alloc _ = w1 at *
  obtain ⟨c0, c1, _, _, _⟩ := p0.facts
  replace p0 := fhid p0
  go_upto_region 3 with (go_at_call 79; (with_reducible refine hri.mono ?_); rintro e w2 ⟨rfl, b2⟩)
  clear c0 c1 hri
  have q0 := AB.below p0.out b2 (by omega)
  have g2 := b0.trans (b2.mono b0.size)
  have hz2 := b2.size
  obtain ⟨c0, c1, _, _, _⟩ := q0.facts
  replace q0 := fhid q0
  go_wp2_with fail
  go_loopw [4, 5] (fun s4 s5 wr => FInv w l A cap lim s4 s5 wr) (fun _ s5 _ => lenS s5)
  case atStart => exact ⟨l, [], A, cap, l.length, rfl, hc, hs.out.below g2, hris.out, ownsRow_nil _ _ _ _, rfl, Nat.le_refl _, by simp, fun d hd => by simp at hd, q0.out, g2, by omega⟩
  case round =>
    clear c0 c1 q0 g2 hz2 b2
    obtain ⟨M, done, A', cap', f, rfl, hMc, hM, hMr, hown, hpc, hMf, hdl, hdb, hAB, hB, hz⟩ := hrel
    have hsz := hB.size
    replace hM := fhid hM
    replace hMr := fhid hMr
    replace hpc := fhid hpc
    replace hdb := fhid hdb
    replace hAB := fhid hAB
    cases M with
    | nil =>
      have hpd : pieces l.length l = done := by
        have := hpc.out
        rw [pieces_none, List.append_nil] at this
        exact this
      have hj := joins_any (w.heap.size + 1) _ done 44 wr hown (by simp at hdl; omega) hdb.out
      have hft : fmtT l lim = Go.Lib.join done [44] ++ if lim = 0 then [] else 37 :: num lim := by unfold fmtT; rw [hpd]
      have hjl := join_le 64 44 done hdb.out
      have hdl2 : done.length ≤ 256 := by simp at hdl; omega
      have hjl2 : (Go.Lib.join done [44]).length ≤ 65 * 256 := Nat.le_trans hjl (Nat.mul_le_mul_left 65 hdl2)
      have hzj := str_size (Go.Lib.join done [44])
      have hzn : (str (num lim)).size ≤ 6 := by rw [str_size]; exact (num_facts m0 m1).2.2.2
      have hit := fun W (b : Below wr.heap.size wr W) => itoa_any lim W (tab_below hT.out (hB.trans (b.mono hsz))) m0 m1
      unfold TP at hit
      have hF1 := fun (W : World) (b : Below wr.heap.size wr W) => (AB.facts (AB.below hAB.out b (by omega))).2.1
      replace hF1 := fhid hF1
      simp only [List.length_nil]
      by_cases h0 : lim = 0
      · have e2 := fhid (show str (fmtT l lim) = str (Go.Lib.join done [44]) by rw [hft, if_pos h0, List.append_nil])
        have n0 : (lim != 0) = false := by rw [h0]; rfl
        clear hft hpd hjl hjl2 hzj hzn hown hdl hit
        replace h0 := fhid h0
        generalize str (Go.Lib.join done [44]) = SJ at *
        go_wp2_with (go_at_call 69; (with_reducible refine hj.mono ?_); rintro e w2 ⟨rfl, b2⟩
                     have cl := hF1.out _ b2)
        exact bodyPost_ret (v := .tuple #[.string SJ, .int .i64 0]) (by simp [results, Tryz.results54, go_sem]) rfl ⟨by rw [hE.out, e2.out], hB.trans (b2.mono hsz)⟩
      · have q1 : ⟨#[37]⟩ ++ str (num lim) = str (37 :: num lim) := str_app [37] _
        have q2 : str (Go.Lib.join done [44]) ++ str (37 :: num lim) = str (Go.Lib.join done [44] ++ 37 :: num lim) := str_app _ _
        have e2 := fhid (show str (fmtT l lim) = str (Go.Lib.join done [44] ++ 37 :: num lim) by rw [hft, if_neg h0])
        have n0 : (lim != 0) = true := bne_iff_ne.2 h0
        have hz7 : (str (37 :: num lim)).size ≤ 7 := by rw [str_size, List.length_cons]; rw [str_size] at hzn; omega
        rw [← hzj] at hjl2
        clear hft hpd hjl hzj hown hdl
        generalize str (Go.Lib.join done [44] ++ 37 :: num lim) = Q2 at *
        generalize str (37 :: num lim) = Q1 at *
        generalize str (Go.Lib.join done [44]) = SJ at *
        generalize str (num lim) = SN at *
        have j1 : ¬ 9223372036854775807 < 1 + SN.size := by omega
        have j2 : ¬ 9223372036854775807 < SJ.size + Q1.size := by omega
        clear hz7 hjl2 hzn
        replace hit := fhid hit
        go_wp2_with (first
          | (go_at_call 69; (with_reducible refine hj.mono ?_); rintro e w2 ⟨rfl, b2⟩
             have cl := hF1.out _ b2)
          | (go_at_call 26; (with_reducible refine (hit.out _ b2).mono ?_); rintro e w3 ⟨rfl, b3⟩))
        have b23 := b2.trans (b3.mono b2.size)
        exact bodyPost_ret (v := .tuple #[.string Q2, .int .i64 0]) (by simp [results, Tryz.results54, go_sem]) rfl ⟨by rw [hE.out, e2.out], hB.trans (b23.mono hsz)⟩
    | cons x xs =>
      cases f with
      | zero => simp at hMf
      | succ f =>
      obtain ⟨r1, r2, r3⟩ := cutN_le (l := x :: xs) (by simp)
      rw [List.length_cons] at r2
      have hMc1 : xs.length + 1 ≤ cap' := by simpa using hMc
      have hMf1 : xs.length ≤ f := by simpa using hMf
      have hdl1 : done.length + (xs.length + 1) ≤ l.length := by simpa using hdl
      have hrun := run_any (x :: xs) A' cap' wr (hM.out.more hsz) (by simp) (by rw [List.length_cons]; omega) hMr.out.at_
      have hjn := fun W (b : Below wr.heap.size wr W) => join_run (x :: xs) A' cap' W (tab_below hT.out (hB.trans (b.mono hsz))) ((hM.out.below (b.mono hsz)).more (Nat.le_trans hsz b.size)) (by simp) (by rw [List.length_cons]; omega) hMr.out
      have hjl := (hjn wr (Below.refl _ _)).2
      replace hjn := fun W (b : Below wr.heap.size wr W) => (hjn W b).1
      have hpc2 := fhid (show pieces l.length l = (done ++ [pieceT (x :: xs) (cutN (x :: xs))]) ++ pieces f ((x :: xs).drop (cutN (x :: xs))) by rw [hpc.out, pieces_some f (l := x :: xs) (by simp), List.append_assoc]; rfl)
      have hMd := fun (W : World) (b : Below w.heap.size wr W) => ints_take (hM.out.below b) (k := cutN (x :: xs)) (cap := cap') (by rw [List.length_cons]; omega) hMc
      have hMdr := hMr.out.drop (cutN (x :: xs))
      have hdlen : ((x :: xs).drop (cutN (x :: xs))).length = xs.length + 1 - cutN (x :: xs) := by rw [List.length_drop, List.length_cons]
      generalize hjr : pieceT (x :: xs) (cutN (x :: xs)) = J at *
      generalize hMM : (x :: xs).drop (cutN (x :: xs)) = M2 at *
      rw [List.length_cons] at hrun
      generalize cutN (x :: xs) = r at *
      obtain ⟨SJ, hSJ⟩ : ∃ S, str J = S := ⟨_, rfl⟩
      unfold TP at hjn
      rw [hSJ] at hjn
      have i0 : (0 : Int) < ((xs.length : Int) + 1) := by omega
      have i1 : (0 : Int) ≤ r := by omega
      have i2 : (r : Int) ≤ cap' := by omega
      have i3 : (r : Int) ≤ ((xs.length : Int) + 1) := by omega
      have i4 : ((xs.length : Int) + 1) ≤ cap' := by omega
      replace hSJ := fhid hSJ
      replace hjr := fhid hjr
      replace hMM := fhid hMM
      replace hMd := fhid hMd
      replace hMdr := fhid hMdr
      replace hdlen := fhid hdlen
      replace hown := fhid hown
      replace hjl := fhid hjl
      replace hjn := fhid hjn
      have hdll := fhid (show done.length ≤ 1048576 by omega)
      go_wp2_with (first
        | (go_at_call 80
           (with_reducible refine hrun.mono ?_)
           rintro e w2 ⟨rfl, b2⟩)
        | (go_at_call 81
           (with_reducible refine (hjn.out _ b2).mono ?_)
           rintro e w3 ⟨rfl, b3⟩
           have b4 := b2.trans (b3.mono b2.size))
        | (at_builtin
           refine app_name rfl _ _ rfl (w.heap.size + 1) _ done J _ hSJ.out.symm _ rfl (hown.out.below b4) rfl _ (by first | rfl | simp) rfl hdll.out (Nat.le_trans hz b4.size) ?_
           intro v5 w5 o5 b5))
      all_goals
        have hdn : ∀ d ∈ done ++ [J], d.length ≤ 64 := fun d hd => by
          rcases List.mem_append.1 hd with h | h
          · exact hdb.out d h
          · rw [List.mem_singleton] at h; subst h; exact hjl.out
        have b6 : Below (w.heap.size + 1) wr w5 := (b4.mono hz).trans b5
        have hMl := hdlen.out
        go_roundw
        case rel => exact ⟨M2, done ++ [J], _, _, f, by rw [hMl], by rw [hMl]; omega, hMd.out w5 (b6.mono (by omega)), hMdr.out, o5, hpc2.out, by rw [hMl]; omega, by rw [hMl, List.length_append, List.length_singleton]; omega, hdn, hAB.out.below b6 (by omega), hB.trans (b6.mono (by omega)), Nat.le_trans hz b6.size⟩
        case measure => show xs.length + 1 - r < xs.length + 1; omega
theorem Format_any (l : List Int) (A : Option Addr) (cap : Nat) (lim : Int) (w : World) (hT : Tab w) (hs : Ints w w.heap.size A l) (hc : l.length ≤ cap) :
    Calls Tryz.prog 54 #[.agg #[.slice A l.length cap, .int .i64 lim]] w (FmtPost w l lim) := by
  cases hr : right l lim with
  | false => exact Format_no l A cap lim w hs hr
  | true => exact Format_yes l A cap lim w hT hs hc hr
end Go.Proofs.YtjpihophigjbpaaGreatDoor.Ys
/-
  What each statement asks beside: an array read, told, and compared.
-/
namespace Go.Proofs.YtjpihophigjbpaaGreatDoor.Ys
open Go.Proofs.YtjpihophigjbpaaGreatDoor.Ds
open Go.RowKit

set_option maxRecDepth 100000 in
set_option maxHeartbeats 1000000 in
/-- Two slices of numbers, the same ones. -/
theorem ints_same (ns : List Int) (A A2 : Option Addr) (c c2 : Nat) (w : World) (h1 : Ints w w.heap.size A ns) (h2 : Ints w w.heap.size A2 ns) (hl : ns.length ≤ 10000000) :
    Calls Tryz.prog 20 #[.slice A ns.length c, .slice A2 ns.length c2] w fun e w' => e = .returned (.bool true) ∧ Below w.heap.size w w' := by
  replace h1 := fhid h1
  replace h2 := fhid h2
  go_enter Tryz.func20, Tryz.ntmps20
  go_wp2_with fail
  go_loopw [5] (fun i wr => ∃ j : Nat, j ≤ ns.length ∧ i = .int .i64 (j : Int) ∧ Below w.heap.size w wr) (fun i _ => ns.length - (intOf i).toNat)
  case atStart => exact ⟨0, Nat.zero_le _, rfl, Below.refl _ _⟩
  case round =>
    obtain ⟨j, hj, rfl, hB⟩ := hrel
    by_cases hlt : j < ns.length
    · obtain ⟨b1, o1, rfl, hb1, c1⟩ := Ints.at_ h1.out hlt
      obtain ⟨b2, o2, rfl, hb2, c2⟩ := Ints.at_ h2.out hlt
      have k1 := (hB.cell (p := ⟨b1, o1 + j, none⟩) hb1).trans c1
      have k2 := (hB.cell (p := ⟨b2, o2 + j, none⟩) hb2).trans c2
      have i1 : (j : Int) < ns.length := by omega
      have i0 : (0 : Int) ≤ j := by omega
      clear c1 c2
      generalize ns[j] = n at *
      have e : (n == n) = true := by simp
      go_upto_region 6 with fail
      go_quiet (fail)
      go_wp2_with fail
      go_roundw
      case rel => exact ⟨j + 1, by omega, by go_num, Ds.below_drewN hB _⟩
      case measure => simp [intOf]; omega
    · obtain rfl : j = ns.length := by omega
      have i1 : ¬ (ns.length : Int) < ns.length := by omega
      go_wp2_with fail
      go_ret
      exact ⟨rfl, hB⟩
end Go.Proofs.YtjpihophigjbpaaGreatDoor.Ys
