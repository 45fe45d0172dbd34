/-
  The reference's share of a part: long division.
-/
import Derived.Test.YtmbgcphiigmdjaaSScale
import Derived.BigQuiet
namespace Go.Proofs.Ytmbgcphiigmdjaa.Ss
open Go.RowKit

theorem div_of (a b q r n : Nat) (h : a * 2 ^ n = q * b + r) (hr : r < b) : a * 2 ^ n / b = q := by
  rw [h, Nat.mul_comm q b, Nat.mul_add_div (by omega), Nat.div_eq_of_lt hr, Nat.add_zero]
theorem div_big (a b q r k : Nat) (h : a * 2 ^ k = q * b + r) (hb : 0 < b) (hk : k < 32) (hq : 4611686018427387904 ≤ q) : 9223372036854775808 ≤ a * 4294967296 / b := by
  rw [Nat.le_div_iff_mul_le hb]
  have h1 : a * 4294967296 = a * 2 ^ k * 2 ^ (32 - k) := by
    rw [Nat.mul_assoc, ← Nat.pow_add, show k + (32 - k) = 32 by omega]
  have h2 : 2 ^ 1 ≤ 2 ^ (32 - k) := Nat.pow_le_pow_right (by omega) (by omega)
  have h3 : q * b ≤ a * 2 ^ k := by omega
  have h4 : q * b * 2 ^ 1 ≤ a * 2 ^ k * 2 ^ (32 - k) := Nat.mul_le_mul h3 h2
  have h5 : 4611686018427387904 * b ≤ q * b := Nat.mul_le_mul_right b hq
  omega

end Go.Proofs.Ytmbgcphiigmdjaa.Ss
