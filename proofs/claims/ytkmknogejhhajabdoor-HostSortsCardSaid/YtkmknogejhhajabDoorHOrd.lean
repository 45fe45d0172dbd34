/-
  Plain mathematics: host.compare's order on names is a total one.
-/
import Derived.Test.YtkmknogejhhajabDoorHCmp2
import Derived.Test.YtkmknogejhhajabDoorHText
namespace Go.Proofs.YtkmknogejhhajabDoor
open Go.Sort

theorem tri_l (a b : List UInt8) : a < b ∨ a = b ∨ b < a := by
  by_cases h : a < b
  · exact .inl h
  · by_cases k : b < a
    · exact .inr (.inr k)
    · exact .inr (.inl (List.le_antisymm (List.not_lt.1 k) (List.not_lt.1 h)))
theorem cmpS_neg (a b : List UInt8) : cmpS a b < 0 ↔ a < b := by
  unfold cmpS
  split
  · rename_i h; simp [h]
  · rename_i h
    split <;> simp [h]
theorem cmpS_zero (a b : List UInt8) : cmpS a b = 0 ↔ a = b := by
  unfold cmpS
  constructor
  · intro e
    by_cases h : a < b
    · rw [if_pos h] at e; omega
    · by_cases k : b < a
      · rw [if_neg h, if_pos k] at e; omega
      · exact List.le_antisymm (List.not_lt.1 k) (List.not_lt.1 h)
  · rintro rfl
    rw [if_neg (List.lt_irrefl _), if_neg (List.lt_irrefl _)]
theorem cmpI_neg (x y : Int) : Lib.compareInt x y < 0 ↔ x < y := by unfold Lib.compareInt; split <;> (try split) <;> simp <;> omega
theorem cmpI_zero (x y : Int) : Lib.compareInt x y = 0 ↔ x = y := by unfold Lib.compareInt; split <;> (try split) <;> simp <;> omega
theorem or3_neg (x y z : Int) : orI [x, y, z] < 0 ↔ x < 0 ∨ (x = 0 ∧ (y < 0 ∨ (y = 0 ∧ z < 0))) := by
  simp only [orI]
  split
  · split
    · split <;> omega
    · omega
  · omega
/-- Which name comes ahead. -/
def Ahead (a b : List UInt8) : Prop := (number a).1 < (number b).1 ∨ ((number a).1 = (number b).1 ∧ ((number a).2.1 < (number b).2.1 ∨ ((number a).2.1 = (number b).2.1 ∧ (number a).2.2.1 < (number b).2.2.1)))
theorem ahead_iff (a b : List UInt8) : ltOf cmpN a b = true ↔ Ahead a b := by
  unfold ltOf cmpN Ahead
  rw [decide_eq_true_iff, or3_neg, cmpS_neg, cmpS_zero, cmpI_neg, cmpI_neg, cmpI_zero]
  constructor
  · rintro (h | ⟨h, k⟩)
    · exact .inl h
    · exact .inr ⟨h, by omega⟩
  · rintro (h | ⟨h, k⟩)
    · exact .inl h
    · exact .inr ⟨h, by omega⟩
theorem ahead_irr (a : List UInt8) : ¬ Ahead a a := by
  rintro (h | ⟨_, h⟩)
  · exact List.lt_irrefl _ h
  · omega
theorem ahead_trans {a b c : List UInt8} (h : Ahead a b) (k : Ahead b c) : Ahead a c := by
  rcases h with h | ⟨h, h2⟩ <;> rcases k with k | ⟨k, k2⟩
  · exact .inl (List.lt_trans h k)
  · exact .inl (by rw [← k]; exact h)
  · exact .inl (by rw [h]; exact k)
  · exact .inr ⟨h.trans k, by omega⟩
theorem number_inj {a b : List UInt8} (h1 : (number a).1 = (number b).1) (h2 : (number a).2.1 = (number b).2.1) (h3 : (number a).2.2.1 = (number b).2.2.1) : a = b := by
  obtain ⟨p, n, k, x, ha⟩ : ∃ p n k x, number a = (p, n, k, x) := ⟨_, _, _, _, rfl⟩
  obtain ⟨q, m, j, y, hb⟩ : ∃ p n k x, number b = (p, n, k, x) := ⟨_, _, _, _, rfl⟩
  rw [ha, hb] at h1 h2 h3
  simp only at h1 h2 h3
  subst h1 h2 h3
  cases x with
  | true =>
    obtain ⟨e, _, h, _⟩ := number_dig ha
    cases y with
    | true => rw [e, (number_dig hb).1]
    | false => have := (number_no hb).2.2; omega
  | false =>
    obtain ⟨e, _, h⟩ := number_no ha
    cases y with
    | true => have := (number_dig hb).2.2.1; omega
    | false => rw [← e, (number_no hb).1]
theorem ahead_tri (a b : List UInt8) : Ahead a b ∨ a = b ∨ Ahead b a := by
  rcases tri_l (number a).1 (number b).1 with h | h | h
  · exact .inl (.inl h)
  · by_cases k : (number a).2.1 = (number b).2.1 ∧ (number a).2.2.1 = (number b).2.2.1
    · exact .inr (.inl (number_inj h k.1 k.2))
    · by_cases j : (number a).2.1 < (number b).2.1 ∨ ((number a).2.1 = (number b).2.1 ∧ (number a).2.2.1 < (number b).2.2.1)
      · exact .inl (.inr ⟨h, j⟩)
      · exact .inr (.inr (.inr ⟨h.symm, by omega⟩))
  · exact .inr (.inr (.inl h))
theorem not_ahead {a b : List UInt8} (h : ltOf cmpN a b = false) : ¬ Ahead a b := fun e => by
  rw [(ahead_iff a b).2 e] at h
  cases h
theorem ahead_not {a b : List UInt8} (h : ¬ Ahead a b) : ltOf cmpN a b = false := by
  cases e : ltOf cmpN a b with
  | false => rfl
  | true => exact absurd ((ahead_iff a b).1 e) h
/-- What the sort asks of the order. -/
theorem names_order : SWO (ltOf cmpN) where
  irrefl a := ahead_not (ahead_irr a)
  trans a b c h k := (ahead_iff a c).2 (ahead_trans ((ahead_iff a b).1 h) ((ahead_iff b c).1 k))
  ntrans a b c h k := ahead_not fun e => by
    rcases ahead_tri a b with x | rfl | x
    · exact not_ahead h x
    · exact not_ahead k e
    · exact not_ahead k (ahead_trans x e)
theorem names_total (a b : List UInt8) (h : ltOf cmpN a b = false) (k : ltOf cmpN b a = false) : a = b := by
  rcases ahead_tri a b with x | x | x
  · exact absurd x (not_ahead h)
  · exact x
  · exact absurd x (not_ahead k)
end Go.Proofs.YtkmknogejhhajabDoor
