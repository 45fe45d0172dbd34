/-
  The document's own order on names is the program's.
-/
import Derived.Test.YtkmknogejhhajabDoorHRNumb
namespace Go.Proofs.YtkmknogejhhajabDoor
open Go.RowKit Go.Sort

/-- A name's number as the document's order takes it: -1 where there is none. -/
def numD (l : List UInt8) : Int := if (number l).2.2.2 = true then ((number l).2.1 : Nat) else -1
theorem num_flag (l : List UInt8) : ((number l).2.2.2 = true ∧ 1 ≤ (number l).2.2.1) ∨ ((number l).2.2.2 = false ∧ (number l).2.1 = 0 ∧ (number l).2.2.1 = 0) := by
  obtain ⟨p, n, k, x, h⟩ : ∃ p n k x, number l = (p, n, k, x) := ⟨_, _, _, _, rfl⟩
  rw [h]
  cases x with
  | true => exact .inl ⟨rfl, (number_dig h).2.2.1⟩
  | false => exact .inr ⟨rfl, (number_no h).2⟩
theorem less_doc (a b : List UInt8) : (if (number a).1 ≠ (number b).1 then decide ((number a).1 < (number b).1) else if numD a ≠ numD b then decide (numD a < numD b) else if (number a).2.2.1 ≠ (number b).2.2.1 then decide ((number a).2.2.1 < (number b).2.2.1) else decide (a < b)) = ltOf cmpN a b := by
  rw [Bool.eq_iff_iff, ahead_iff]
  have fa := num_flag a
  have fb := num_flag b
  have hi := @number_inj a b
  unfold Ahead numD
  by_cases h1 : (number a).1 = (number b).1
  · have hl : ¬ (number a).1 < (number b).1 := by rw [h1]; exact List.lt_irrefl _
    rw [if_neg (fun h => h h1)]
    rcases fa with ⟨ea, ka⟩ | ⟨ea, na, ka⟩ <;> rcases fb with ⟨eb, kb⟩ | ⟨eb, nb, kb⟩
    all_goals simp only [ea, eb, if_true, Bool.false_eq_true, if_false]
    · by_cases h2 : (number a).2.1 = (number b).2.1
      · by_cases h3 : (number a).2.2.1 = (number b).2.2.1
        · have e := hi h1 h2 h3
          rw [if_neg (by omega), if_neg (by omega), decide_eq_true_iff]
          exact ⟨fun h => absurd (e ▸ h) (List.lt_irrefl _), fun h => by rcases h with h | ⟨_, h⟩ <;> first | exact absurd h hl | omega⟩
        · rw [if_neg (by omega), if_pos h3, decide_eq_true_iff]
          exact ⟨fun h => .inr ⟨h1, by omega⟩, fun h => by rcases h with h | ⟨_, h⟩ <;> first | exact absurd h hl | omega⟩
      · rw [if_pos (by omega), decide_eq_true_iff]
        exact ⟨fun h => .inr ⟨h1, by omega⟩, fun h => by rcases h with h | ⟨_, h⟩ <;> first | exact absurd h hl | omega⟩
    · rw [if_pos (by omega), decide_eq_true_iff]
      exact ⟨fun h => .inr ⟨h1, by omega⟩, fun h => by rcases h with h | ⟨_, h⟩ <;> first | exact absurd h hl | omega⟩
    · rw [if_pos (by omega), decide_eq_true_iff]
      exact ⟨fun h => .inr ⟨h1, by omega⟩, fun h => by rcases h with h | ⟨_, h⟩ <;> first | exact absurd h hl | omega⟩
    · have e := hi h1 (by omega) (by omega)
      rw [if_neg (by omega), if_neg (by omega), decide_eq_true_iff]
      exact ⟨fun h => absurd (e ▸ h) (List.lt_irrefl _), fun h => by rcases h with h | ⟨_, h⟩ <;> first | exact absurd h hl | omega⟩
  · rw [if_pos h1, decide_eq_true_iff]
    simp [h1]
end Go.Proofs.YtkmknogejhhajabDoor
