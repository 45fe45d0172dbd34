/-
  Plain facts: all frames that begin bytes.
-/
import Derived.Test.YtpblpkmlioojiaaFGet
namespace Go.Proofs.Ytpblpkmlioojiaa

theorem get_facts (l : List UInt8) (h : getErr l = 0) : (getBytes l).length + 12 = getLen l ∧ getLen l ≤ l.length := by
  have hb : getBytes l = (l.drop 4).take (num (l.take 4)) := by unfold getBytes; rw [if_pos h]
  have hn : getLen l = num (l.take 4) + 12 := by unfold getLen; rw [if_pos h]
  unfold getErr at h
  by_cases h4 : l.length < 4
  · rw [if_pos h4] at h; cases h
  · rw [if_neg h4] at h
    by_cases h5 : 65536 < num (l.take 4)
    · rw [if_pos h5] at h; cases h
    · rw [if_neg h5] at h
      by_cases h7 : l.length < num (l.take 4) + 12
      · rw [if_pos h7] at h; cases h
      · rw [hb, hn, List.length_take, List.length_drop]
        omega
/-- All frames, with fuel. -/
def allF : Nat → List UInt8 → List (List UInt8) × Nat
  | 0, _ => ([], 0)
  | f + 1, l => if getErr l = 0 then (getBytes l :: (allF f (l.drop (getLen l))).1, getLen l + (allF f (l.drop (getLen l))).2) else ([], 0)
theorem err_nil : getErr [] = 4 := by decide
theorem allF_fuel : ∀ (f g : Nat) (l : List UInt8), l.length ≤ f → l.length ≤ g → allF f l = allF g l
  | 0, 0, _, _, _ => rfl
  | 0, g + 1, l, h, _ => by
    have hl : l = [] := List.eq_nil_of_length_eq_zero (by omega)
    subst hl
    rw [allF, allF, if_neg (by rw [err_nil]; decide)]
  | f + 1, 0, l, _, h => by
    have hl : l = [] := List.eq_nil_of_length_eq_zero (by omega)
    subst hl
    rw [allF, allF, if_neg (by rw [err_nil]; decide)]
  | f + 1, g + 1, l, h1, h2 => by
    rw [allF, allF]
    by_cases h : getErr l = 0
    · have := get_facts l h
      rw [if_pos h, if_pos h, allF_fuel f g (l.drop (getLen l)) (by rw [List.length_drop]; omega) (by rw [List.length_drop]; omega)]
    · rw [if_neg h, if_neg h]
def allOf (l : List UInt8) : List (List UInt8) × Nat := allF l.length l
theorem allOf_step (l : List UInt8) (h : getErr l = 0) : allOf l = (getBytes l :: (allOf (l.drop (getLen l))).1, getLen l + (allOf (l.drop (getLen l))).2) := by
  have hf := get_facts l h
  obtain ⟨k, hk⟩ : ∃ k, l.length = k + 1 := ⟨l.length - 1, by omega⟩
  unfold allOf
  rw [hk, allF, if_pos h, allF_fuel k (l.drop (getLen l)).length (l.drop (getLen l)) (by rw [List.length_drop]; omega) (Nat.le_refl _)]
theorem allOf_stop (l : List UInt8) (h : getErr l ≠ 0) : allOf l = ([], 0) := by
  unfold allOf
  cases hk : l.length with
  | zero => rfl
  | succ k => rw [allF, if_neg h]
end Go.Proofs.Ytpblpkmlioojiaa
