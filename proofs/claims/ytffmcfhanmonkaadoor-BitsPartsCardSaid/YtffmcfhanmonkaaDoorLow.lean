import Derived.Lib.TrailingZeros
/- Plain facts: the lowest bit of a number, and what is left without it. -/
namespace Go.Proofs.YtffmcfhanmonkaaDoor
theorem low_bit (x : Nat) (h0 : x ≠ 0) (hx : x < 18446744073709551616) :
    Lib.ctz 64 x < 64 ∧ x.testBit (Lib.ctz 64 x) = true ∧ (∀ j, j < Lib.ctz 64 x → x.testBit j = false) ∧
    (∀ j, (x &&& (x - 1)).testBit j = (x.testBit j && decide (j ≠ Lib.ctz 64 x))) := by
  have e : Lib.ctz 64 x = Lib.ctzFrom 64 x := by unfold Lib.ctz; rw [if_neg h0]
  rw [e]
  obtain ⟨m, hm, hc⟩ := Lib.ctzFrom_spec 64 x (by omega) hx
  generalize Lib.ctzFrom 64 x = c at *
  have hp : 0 < 2 ^ c := Nat.two_pow_pos c
  have hb : ∀ j, x.testBit j = if j < c then false else (2 * m + 1).testBit (j - c) := by
    intro j
    have := Nat.testBit_two_pow_mul_add (2 * m + 1) (i := c) (b := 0) hp j
    rw [Nat.add_zero, ← hm] at this
    rw [this]; simp
  have hb1 : ∀ j, (x - 1).testBit j = if j < c then (2 ^ c - 1).testBit j else (2 * m).testBit (j - c) := by
    intro j
    have h1 : x - 1 = 2 ^ c * (2 * m) + (2 ^ c - 1) := by
      have : 2 ^ c * (2 * m + 1) = 2 ^ c * (2 * m) + 2 ^ c := by rw [Nat.mul_add, Nat.mul_one]
      omega
    rw [h1]
    exact Nat.testBit_two_pow_mul_add (2 * m) (by omega) j
  refine ⟨hc, by rw [hb]; simp, fun j hj => by rw [hb, if_pos hj], fun j => ?_⟩
  rw [Nat.testBit_and, hb, hb1]
  by_cases h : j < c
  · simp [h]
  · simp only [h, if_false]
    by_cases hj : j = c
    · subst hj; simp
    · obtain ⟨i, hi⟩ : ∃ i, j - c = i + 1 := ⟨j - c - 1, by omega⟩
      rw [hi, Nat.testBit_succ, Nat.testBit_succ]
      rw [show (2 * m + 1) / 2 = m by omega, show 2 * m / 2 = m by omega]
      simp [hj]
end Go.Proofs.YtffmcfhanmonkaaDoor
