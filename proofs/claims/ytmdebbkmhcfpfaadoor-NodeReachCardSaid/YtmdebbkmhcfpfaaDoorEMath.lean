/-
  What a node is at behind an event, as plain functions; the table.
-/
import Derived.Test.YtmdebbkmhcfpfaaDoorDBase
namespace Go.Proofs.YtmdebbkmhcfpfaaDoor
open Go.RowKit

/-- A node: its state, since when, how often it has not booted in time. -/
abbrev N3 := Int × Int × Int
def rowsT : List (List Int) := [[0, 2, 0, 0, 0, 0, 6, 0, 7, 0, 0, 0], [0, 0, 3, 1, 0, 0, 0, 0, 7, 0, 0, 0], [0, 0, 0, 0, 4, 0, 6, 0, 7, 0, 8, 0], [0, 0, 0, 0, 0, 3, 5, 0, 7, 0, 0, 0], [0, 0, 0, 0, 0, 6, 0, 4, 7, 0, 0, 0], [0, 0, 0, 0, 0, 0, 0, 3, 7, 0, 0, 0], [0, 0, 0, 0, 0, 0, 0, 0, 0, 1, 0, 0], [0, 0, 0, 0, 0, 0, 0, 0, 7, 0, 0, 1]]
/-- The state behind an event, and one more; 0: the table has it not. -/
def tabN (s e : Nat) : Int := (rowsT.getD s []).getD e 0
def tabE (s e : Int) : Int := tabN s.toNat e.toNat
def stOk (s : Int) : Bool := decide (0 ≤ s ∧ s ≤ 7)
def evOk (e : Int) : Bool := decide (1 ≤ e ∧ e ≤ 11)
def moreT (t : Int) : Int := if 4611686018427387904 ≤ t then t else t + 1
/-- What is asked of a call: the state is one, the event too, no tries below 0, no time below the node's. -/
def askOk (n : N3) (ev now : Int) : Bool := stOk n.1 && evOk ev && decide (0 ≤ n.2.2) && decide (n.2.1 ≤ now)
def nextN (n : N3) (ev now retry : Int) : N3 × Int :=
  if askOk n ev now = false then ((0, 0, 0), 1)
  else if tabE n.1 ev = 0 then ((0, 0, 0), 11)
  else if ev = 3 then ((if retry < moreT n.2.2 then 6 else tabE n.1 ev - 1, now, moreT n.2.2), 0)
  else if ev = 2 ∨ ev = 9 then ((tabE n.1 ev - 1, now, 0), 0)
  else ((tabE n.1 ev - 1, now, n.2.2), 0)
def upB (s : Int) : Bool := decide (2 ≤ s ∧ s ≤ 5)
def powB (s : Int) : Bool := upB s || decide (s = 1) || decide (s = 7)
def lateB (n : N3) (now boot : Int) : Bool := decide (n.1 = 1 ∧ n.2.1 ≤ now ∧ 0 ≤ boot ∧ 2 * boot < now - n.2.1)
/-- The events that the table has, rising. -/
def eventsL (s : Nat) : List Int := ((List.range 12).filter fun e => decide (tabN s e ≠ 0)).map fun e : Nat => (e : Int)
def eventsP (s : Int) : List Int := if stOk s = true then eventsL s.toNat else []
theorem tab_le : ∀ s < 8, ∀ e < 12, 0 ≤ tabN s e ∧ tabN s e ≤ 8 := by decide
theorem tab_zero : ∀ s < 8, tabN s 0 = 0 := by decide
theorem events_len : ∀ s < 8, (eventsL s).length ≤ 12 := by decide
theorem st_nat {s : Int} (h : stOk s = true) : ∃ n : Nat, s = n ∧ n < 8 := by
  have := of_decide_eq_true h
  exact ⟨s.toNat, by omega, by omega⟩
theorem ev_nat {s : Int} (h : evOk s = true) : ∃ n : Nat, s = n ∧ 1 ≤ n ∧ n < 12 := by
  have := of_decide_eq_true h
  exact ⟨s.toNat, by omega, by omega, by omega⟩
theorem ask_iff {n : N3} {ev now : Int} : askOk n ev now = true ↔ stOk n.1 = true ∧ evOk ev = true ∧ 0 ≤ n.2.2 ∧ n.2.1 ≤ now := by
  unfold askOk
  simp only [Bool.and_eq_true, decide_eq_true_eq, and_assoc]
section
variable {n : N3} {ev now retry : Int}
theorem next_arg (h : askOk n ev now = false) : nextN n ev now retry = ((0, 0, 0), 1) := if_pos h
theorem next_state (h : askOk n ev now = true) (h0 : tabE n.1 ev = 0) : nextN n ev now retry = ((0, 0, 0), 11) := by
  unfold nextN
  rw [if_neg (by rw [h]; decide), if_pos h0]
theorem next_late (h : askOk n ev now = true) (h0 : tabE n.1 ev ≠ 0) (h3 : ev = 3) : nextN n ev now retry = ((if retry < moreT n.2.2 then 6 else tabE n.1 ev - 1, now, moreT n.2.2), 0) := by
  unfold nextN
  rw [if_neg (by rw [h]; decide), if_neg h0, if_pos h3]
theorem next_zero (h : askOk n ev now = true) (h0 : tabE n.1 ev ≠ 0) (h2 : ev = 2 ∨ ev = 9) : nextN n ev now retry = ((tabE n.1 ev - 1, now, 0), 0) := by
  unfold nextN
  rw [if_neg (by rw [h]; decide), if_neg h0, if_neg (by omega), if_pos h2]
theorem next_else (h : askOk n ev now = true) (h0 : tabE n.1 ev ≠ 0) (h3 : ev ≠ 3) (h2 : ev ≠ 2) (h9 : ev ≠ 9) : nextN n ev now retry = ((tabE n.1 ev - 1, now, n.2.2), 0) := by
  unfold nextN
  rw [if_neg (by rw [h]; decide), if_neg h0, if_neg h3, if_neg (by omega)]
end
theorem events_mem : ∀ s < 8, ∀ e : Nat, e < 12 → ((e : Int) ∈ eventsL s ↔ tabN s e ≠ 0) := by decide
theorem events_rng : ∀ s < 8, ∀ e ∈ eventsL s, 1 ≤ e ∧ e ≤ 11 := by decide
/-- An event may come just if it is one of the state's. -/
theorem mem_events {s ev : Int} (hs : stOk s = true) (he : evOk ev = true) : ev ∈ eventsP s ↔ tabE s ev ≠ 0 := by
  obtain ⟨n, rfl, hn⟩ := st_nat hs
  obtain ⟨e, rfl, _, hm⟩ := ev_nat he
  unfold eventsP tabE
  rw [if_pos hs]
  exact events_mem n hn e hm
theorem mem_events_no {s ev : Int} (h : ¬ (stOk s = true ∧ evOk ev = true)) : ev ∉ eventsP s := by
  intro hm
  unfold eventsP at hm
  split at hm
  · rename_i hs
    refine h ⟨hs, ?_⟩
    obtain ⟨n, rfl, hn⟩ := st_nat hs
    exact decide_eq_true (events_rng n hn ev hm)
  · cases hm
/-- What a node is at behind an event that may come. -/
theorem next_ok {n : N3} {ev now retry : Int} {x : N3} (h : nextN n ev now retry = (x, 0)) :
    askOk n ev now = true ∧ tabE n.1 ev ≠ 0 ∧ x.2.1 = now ∧ 0 ≤ x.2.2 ∧ (x.1 = tabE n.1 ev - 1 ∨ ev = 3 ∧ x.1 = 6) := by
  by_cases ha : askOk n ev now = true
  · by_cases h0 : tabE n.1 ev = 0
    · rw [next_state ha h0] at h
      simp at h
    · have ht := (ask_iff.1 ha).2.2.1
      refine ⟨ha, h0, ?_⟩
      by_cases h3 : ev = 3
      · rw [next_late ha h0 h3] at h
        injection h with h _
        subst h
        refine ⟨rfl, by show 0 ≤ moreT n.2.2; unfold moreT; split <;> omega, ?_⟩
        show (if retry < moreT n.2.2 then 6 else _) = _ ∨ _
        by_cases hr : retry < moreT n.2.2
        · exact .inr ⟨h3, if_pos hr⟩
        · exact .inl (if_neg hr)
      · by_cases h2 : ev = 2 ∨ ev = 9
        · rw [next_zero ha h0 h2] at h
          injection h with h _
          subst h
          exact ⟨rfl, by show (0 : Int) ≤ 0; omega, .inl rfl⟩
        · rw [next_else ha h0 h3 (by omega) (by omega)] at h
          injection h with h _
          subst h
          exact ⟨rfl, ht, .inl rfl⟩
  · rw [next_arg (by simpa using ha)] at h
    simp at h
theorem next_err (n : N3) (ev now retry : Int) : (∃ x, nextN n ev now retry = (x, 0)) ∨ (nextN n ev now retry = ((0, 0, 0), 1) ∧ askOk n ev now = false) ∨ (nextN n ev now retry = ((0, 0, 0), 11) ∧ askOk n ev now = true ∧ tabE n.1 ev = 0) := by
  by_cases ha : askOk n ev now = true
  · by_cases h0 : tabE n.1 ev = 0
    · exact .inr (.inr ⟨next_state ha h0, ha, h0⟩)
    · refine .inl ?_
      by_cases h3 : ev = 3
      · exact ⟨_, next_late ha h0 h3⟩
      · by_cases h2 : ev = 2 ∨ ev = 9
        · exact ⟨_, next_zero ha h0 h2⟩
        · exact ⟨_, next_else ha h0 h3 (by omega) (by omega)⟩
  · exact .inr (.inl ⟨next_arg (by simpa using ha), by simpa using ha⟩)
theorem tab_turn : ∀ s < 8, ∀ e < 12, tabN s e ≠ 0 → tabN s e - 1 ≠ (s : Int) := by decide
theorem tab_stop1 : ∀ s < 8, ∀ e < 12, tabN s e = 8 → s = 2 := by decide
theorem tab_stop2 : ∀ s < 8, ∀ e < 12, tabN s e = 4 → s = 2 ∨ s = 4 := by decide
theorem tab_stop3 : ∀ s < 8, tabN s 8 ≠ 0 → tabN s 8 = 7 := by decide
theorem tab_stop4 : ∀ s < 8, ∀ e < 12, s = 6 → tabN s e ≠ 0 → e = 9 := by decide
theorem tab_stop5 : ∀ s < 8, ∀ e < 12, e = 3 → tabN s e ≠ 0 → s = 1 := by decide
theorem tab_stop (s : Nat) (hs : s < 8) (e : Nat) (he : e < 12) : (tabN s e = 8 → s = 2) ∧ (tabN s e = 4 → s = 2 ∨ s = 4) ∧ (tabN s 8 ≠ 0 → tabN s 8 = 7) ∧ (s = 6 → tabN s e ≠ 0 → e = 9) ∧ (e = 3 → tabN s e ≠ 0 → s = 1) :=
  ⟨tab_stop1 s hs e he, tab_stop2 s hs e he, tab_stop3 s hs, tab_stop4 s hs e he, tab_stop5 s hs e he⟩
/-- What the laws ask of an event that has come. -/
theorem next_facts {n : N3} {ev now retry : Int} {x : N3} (h : nextN n ev now retry = (x, 0)) :
    0 ≤ x.1 ∧ x.1 ≤ 7 ∧ x.1 ≠ n.1 ∧ (x.1 = 7 → n.1 = 2) ∧ (x.1 = 3 → n.1 = 2 ∨ n.1 = 4) ∧ (ev = 8 → x.1 = 6) ∧ (n.1 = 6 → ev = 9) := by
  obtain ⟨ha, h0, _, _, hx⟩ := next_ok h
  obtain ⟨hs, he, _, _⟩ := ask_iff.1 ha
  obtain ⟨s, es, hs8⟩ := st_nat hs
  obtain ⟨e, ee, he1, he12⟩ := ev_nat he
  obtain ⟨x1, _⟩ := x
  simp only at hx ⊢
  rw [es, ee] at hx h0
  rw [es, ee]
  have h1 := tab_le s hs8 e he12
  have h2 := tab_turn s hs8 e he12
  obtain ⟨h3, h4, h5, h6, h7⟩ := tab_stop s hs8 e he12
  unfold tabE at h0 hx
  rw [Int.toNat_natCast, Int.toNat_natCast] at h0 hx
  have h2 := h2 h0
  have h6 := fun h => h6 h h0
  have h7 := fun h => h7 h h0
  by_cases e8 : e = 8
  · subst e8
    have h5 := h5 h0
    rcases hx with hx | ⟨hx, _⟩
    · refine ⟨by omega, by omega, by omega, fun h => by have := h3 (by omega); omega, fun h => by omega, fun _ => by omega, fun h => by have := h6 (by omega); omega⟩
    · omega
  · rcases hx with hx | ⟨hx, hx6⟩
    · refine ⟨by omega, by omega, by omega, fun h => by have := h3 (by omega); omega, fun h => by have := h4 (by omega); omega, fun h => by omega, fun h => by have := h6 (by omega); omega⟩
    · have h7 := h7 (by omega)
      refine ⟨by omega, by omega, by omega, fun h => by omega, fun h => by omega, fun h => by omega, fun h => by omega⟩
end Go.Proofs.YtmdebbkmhcfpfaaDoor
