/-
  Plain facts under the long division of 128 by 64 bits: one half of the quotient.
-/
namespace Go.Proofs.Ytmbgcphiigmdjaa.Ss
variable {n1 n0 u v q r : Nat}

theorem whole_mul (q n1 n0 : Nat) : q * (n1 * 4294967296 + n0) = q * n1 * 4294967296 + q * n0 := by
  rw [Nat.mul_add, Nat.mul_assoc]
/-- The half is below 2^32. -/
theorem half_lt (hu : u < n1 * 4294967296 + n0) (hv : v < 4294967296) : (u * 4294967296 + v) / (n1 * 4294967296 + n0) < 4294967296 := by
  rw [Nat.div_lt_iff_lt_mul (by omega)]
  omega
/-- What fits is no greater than it. -/
theorem half_le (hy : 0 < n1) (hq : q * n1 + r = u) (h : q * n0 ≤ 4294967296 * r + v) : q ≤ (u * 4294967296 + v) / (n1 * 4294967296 + n0) := by
  rw [Nat.le_div_iff_mul_le (by omega), whole_mul]
  generalize q * n1 = x at *
  generalize q * n0 = y at *
  omega
/-- What does not fit is greater. -/
theorem half_gt (hy : 0 < n1) (hq : q * n1 + r = u) (h : 4294967296 * r + v < q * n0) : (u * 4294967296 + v) / (n1 * 4294967296 + n0) < q := by
  rw [Nat.div_lt_iff_lt_mul (by omega), whole_mul]
  generalize q * n1 = x at *
  generalize q * n0 = y at *
  omega
/-- The first guess is no smaller. -/
theorem half_guess (hy : 0 < n1) (hv : v < 4294967296) : (u * 4294967296 + v) / (n1 * 4294967296 + n0) ≤ u / n1 := by
  rw [Nat.le_div_iff_mul_le hy]
  have h := Nat.div_mul_le_self (u * 4294967296 + v) (n1 * 4294967296 + n0)
  rw [whole_mul] at h
  generalize (u * 4294967296 + v) / (n1 * 4294967296 + n0) = Q at *
  generalize Q * n1 = x at *
  generalize Q * n0 = y at *
  omega
/-- It is at most one above 2^32. -/
theorem half_guess_le (h1 : 2147483648 ≤ n1) (h0 : n0 < 4294967296) (hu : u < n1 * 4294967296 + n0) : u / n1 ≤ 4294967297 := by
  have : u / n1 < 4294967298 := by
    rw [Nat.div_lt_iff_lt_mul (by omega)]
    omega
  omega
/-- One round: what is told of the guess stays, one lower. -/
theorem half_down (hq : q * n1 + r = u) (h0 : 0 < q) : (q - 1) * n1 + (r + n1) = u := by
  obtain ⟨k, rfl⟩ : ∃ k, q = k + 1 := ⟨q - 1, by omega⟩
  rw [Nat.add_mul, Nat.one_mul] at hq
  rw [show k + 1 - 1 = k by omega]
  omega
/-- Behind a stop: what is left is so great that the guess fits. -/
theorem half_stop (h0 : n0 < 4294967296) (hq : q ≤ 4294967296) (hr : 4294967296 ≤ r) : q * n0 ≤ 4294967296 * r + v := by
  have : q * n0 ≤ 4294967296 * 4294967295 := Nat.mul_le_mul hq (by omega)
  omega
/-- What is left of the whole. -/
theorem half_left (K Y : Nat) : K - K / Y * Y = K % Y := by
  have := Nat.div_add_mod' K Y
  generalize K / Y * Y = x at *
  omega
/-- Both halves make the whole quotient and its remainder. -/
theorem halves_join (k v0 Y : Nat) (hY : 0 < Y) :
    k / Y * 4294967296 + (k % Y * 4294967296 + v0) / Y = (k * 4294967296 + v0) / Y ∧ (k % Y * 4294967296 + v0) % Y = (k * 4294967296 + v0) % Y := by
  have h := Nat.div_add_mod' k Y
  have e : k * 4294967296 + v0 = (k % Y * 4294967296 + v0) + Y * (k / Y * 4294967296) := by
    have h2 : k * 4294967296 = (k / Y * Y + k % Y) * 4294967296 := by rw [h]
    rw [h2, Nat.add_mul, Nat.mul_comm Y, Nat.mul_right_comm]
    omega
  rw [e, Nat.add_mul_div_left _ _ hY, Nat.add_mul_mod_self_left]
  exact ⟨Nat.add_comm _ _, rfl⟩
end Go.Proofs.Ytmbgcphiigmdjaa.Ss
