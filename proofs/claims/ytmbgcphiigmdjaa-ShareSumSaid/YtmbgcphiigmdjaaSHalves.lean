/-
  SafeHalves's walk: halves go on.
-/
import Derived.Test.YtmbgcphiigmdjaaSScale
import Derived.ProofKit
import Derived.OpenShut
namespace Go.Proofs.Ytmbgcphiigmdjaa.Ss
open Go.RowKit

theorem tdiv_tdiv (n : Int) (a b : Nat) : (n.tdiv a).tdiv b = n.tdiv ((a * b : Nat) : Int) := by
  by_cases h : 0 ≤ n
  · obtain ⟨q, rfl⟩ : ∃ q : Nat, n = q := ⟨n.toNat, by omega⟩
    show ((q / a / b : Nat) : Int) = ((q / (a * b) : Nat) : Int)
    rw [Nat.div_div_eq_div_mul]
  · obtain ⟨q, rfl⟩ : ∃ q : Nat, n = -q := ⟨n.natAbs, by omega⟩
    rw [Int.neg_tdiv, Int.neg_tdiv, Int.neg_tdiv]
    show -((q / a / b : Nat) : Int) = -((q / (a * b) : Nat) : Int)
    rw [Nat.div_div_eq_div_mul]
theorem halves_fits (n k : Int) (h : Fits n) : Fits (halves n k) := by
  unfold halves
  split
  · exact h
  · split
    · decide
    · rw [cast_pow]; exact tdiv_fits n _ h
/-- None is farther from 0 than before. -/
theorem halves_near (n k : Int) : (0 ≤ n → 0 ≤ halves n k ∧ halves n k ≤ n) ∧ (n < 0 → halves n k ≤ 0 ∧ n ≤ halves n k) := by
  unfold halves
  split
  · omega
  · split
    · omega
    · rw [cast_pow]
      generalize 2 ^ k.toNat = m
      constructor
      · intro h
        obtain ⟨q, rfl⟩ : ∃ q : Nat, n = q := ⟨n.toNat, by omega⟩
        have h2 : q / m ≤ q := Nat.div_le_self _ _
        have h3 : (q : Int).tdiv (m : Int) = ((q / m : Nat) : Int) := rfl
        rw [h3]
        generalize q / m = r at *
        omega
      · intro h
        obtain ⟨q, rfl⟩ : ∃ q : Nat, n = -q := ⟨n.natAbs, by omega⟩
        have h2 : q / m ≤ q := Nat.div_le_self _ _
        have h3 : (-(q : Int)).tdiv (m : Int) = -((q / m : Nat) : Int) := by rw [Int.neg_tdiv]; congr 1
        rw [h3]
        generalize q / m = r at *
        omega
/-- k and then j are k and j. -/
theorem halves_on (n k j : Int) (h : ¬ k + j > 62) (hk : 0 ≤ k) (hj : 0 ≤ j) : halves (halves n k) j = halves n (k + j) := by
  by_cases k0 : k < 1
  · obtain rfl : k = 0 := by omega
    rw [show halves n 0 = n from if_pos (by omega), Int.zero_add]
  · by_cases j0 : j < 1
    · obtain rfl : j = 0 := by omega
      rw [Int.add_zero]; exact if_pos (by omega)
    · obtain ⟨a, rfl⟩ : ∃ q : Nat, k = q := ⟨k.toNat, by omega⟩
      obtain ⟨b, rfl⟩ : ∃ q : Nat, j = q := ⟨j.toNat, by omega⟩
      unfold halves
      rw [if_neg j0, if_neg k0, if_neg (by omega), if_neg (by omega), if_neg (by omega), if_neg (by omega)]
      rw [show ((a : Int)).toNat = a from rfl, show ((b : Int)).toNat = b from rfl, show ((a : Int) + (b : Int)).toNat = a + b from rfl]
      rw [cast_pow, cast_pow, cast_pow, Nat.pow_add]
      exact tdiv_tdiv n _ _

end Go.Proofs.Ytmbgcphiigmdjaa.Ss
