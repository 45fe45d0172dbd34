/-
  Whether a list of names is too long for a law.
-/
import Derived.Test.YtkmknogejhhajabDoorHAlive
namespace Go.Proofs.YtkmknogejhhajabDoor
open Go.RowKit

open Classical in
/-- Too long, or not. -/
noncomputable def longB (ls : List (List UInt8)) : Bool := !decide (ls.length ≤ 300 ∧ ∀ x ∈ ls, x.length ≤ 300)
theorem longB_bad {ls : List (List UInt8)} (h : ¬ (ls.length ≤ 300 ∧ ∀ x ∈ ls, x.length ≤ 300)) : longB ls = true := by
  unfold longB
  rw [decide_eq_false h]
  rfl
theorem longB_good {ls : List (List UInt8)} (h : ls.length ≤ 300 ∧ ∀ x ∈ ls, x.length ≤ 300) : longB ls = false := by
  unfold longB
  rw [decide_eq_true h]
  rfl
set_option maxRecDepth 100000 in
set_option maxHeartbeats 1000000 in
theorem long_is (A : Option Addr) (ls : List (List UInt8)) (cap : Nat) (w : World) (hr : Strs w w.heap.size A ls) (hl : ls.length ≤ 9223372036854775807) :
    Calls Tryd.prog 7 #[.slice A ls.length cap] w fun e w' => e = .returned (.bool (longB ls)) ∧ ∃ n, w' = w.drewN n := by
  have hlI : (ls.length : Int) ≤ 9223372036854775807 := by omega
  replace hr := fhid hr
  replace hl := fhid hl
  go_enter Tryd.func7, Tryd.ntmps7
  go_wp2_with fail
  go_loopw [7] (fun i wr => ∃ k : Nat, k ≤ ls.length ∧ i = .int .i64 k ∧ (∀ x ∈ ls.take k, x.length ≤ 300) ∧ ∃ n, wr = w.drewN n) (fun i _ => ls.length - (intOf i).toNat)
  case atStart => exact ⟨0, by omega, rfl, fun x hx => by simp at hx, 0, rfl⟩
  case round =>
    obtain ⟨k, hk, rfl, hp, q, hq⟩ := hrel
    have hcw : ∀ p, wr.cell? p = w.cell? p := fun p => by rw [hq]; rfl
    replace hq := fhid hq
    replace hp := fhid hp
    have k0 : (0 : Int) ≤ k := by omega
    have k1 : (k : Int) ≤ ls.length := by omega
    by_cases hlt : k < ls.length
    · obtain ⟨b, o, rfl, _, c1⟩ := hr.out.at_ hlt
      replace c1 := (hcw _).trans c1
      have hz := str_size ls[k]
      have k2 : (k : Int) < ls.length := by omega
      have hnx : ls[k].length ≤ 300 → Hid (∀ x ∈ ls.take (k + 1), x.length ≤ 300) := fun h => fhid (fun x hx => by
        rw [List.take_succ_eq_append_getElem hlt] at hx
        rcases List.mem_append.1 hx with h1 | h1
        · exact hp.out x h1
        · rw [List.mem_singleton] at h1; subst h1; exact h)
      have hbad : ¬ ls[k].length ≤ 300 → Hid (longB ls = true) := fun h => fhid (longB_bad fun g => h (g.2 _ (List.getElem_mem hlt)))
      clear hcw
      generalize ls[k] = x at *
      generalize str x = X at *
      by_cases hx : x.length ≤ 300
      · have x1 : ¬ (300 : Int) < x.length := by omega
        have hny := hnx hx
        clear hnx hx hbad
        go_wp2_with fail
        go_roundw
        case rel => exact ⟨k + 1, by omega, by go_num, hny.out, _, hq.out⟩
        case measure => simp [intOf]; omega
      · have x1 : (300 : Int) < x.length := by omega
        have hbd := hbad hx
        clear hnx hx hbad
        go_wp2_with fail
        go_ret
        exact ⟨fretb hbd.out.symm, _, hq.out⟩
    · have k2 : ¬ (k : Int) < ls.length := by omega
      have hk3 : k = ls.length := by omega
      have hall := fhid (show ∀ x ∈ ls, x.length ≤ 300 by
        have := hp.out
        rw [hk3, List.take_length] at this
        exact this)
      clear hk3
      by_cases h300 : ls.length ≤ 300
      · have x1 : ¬ (300 : Int) < ls.length := by omega
        replace h300 := fhid h300
        go_wp2_with fail
        go_ret
        exact ⟨fretb (longB_good ⟨h300.out, hall.out⟩).symm, _, hq.out⟩
      · have x1 : (300 : Int) < ls.length := by omega
        have hbd := fhid (longB_bad (ls := ls) fun g => h300 g.1)
        clear h300
        go_wp2_with fail
        go_ret
        exact ⟨fretb hbd.out.symm, _, hq.out⟩
end Go.Proofs.YtkmknogejhhajabDoor
