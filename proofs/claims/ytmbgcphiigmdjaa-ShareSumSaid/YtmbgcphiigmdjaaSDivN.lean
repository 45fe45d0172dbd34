/-
  Plain facts under the long division of 128 by 64 bits: the shift that makes the divisor great, and the words of what is divided.
-/
import Derived.Test.YtmbgcphiigmdjaaSDivM
import Derived.Lib.BitFns
namespace Go.Proofs.Ytmbgcphiigmdjaa.Ss
open Go.RowKit

theorem bitLen_bounds : ∀ (n x : Nat), x ≤ n → x ≠ 0 → x < 2 ^ 64 → 1 ≤ Lib.bitLen x ∧ 2 ^ (Lib.bitLen x - 1) ≤ x ∧ x < 2 ^ Lib.bitLen x
  | 0, x, hn, h0, _ => absurd (Nat.le_zero.1 hn) h0
  | n + 1, x, hn, h0, h => by
    have hb := Lib.bitLen_half x h0 h
    by_cases h1 : x / 2 = 0
    · have hx : x = 1 := by omega
      subst hx
      rw [hb, h1]
      have : Lib.bitLen 0 = 0 := by decide
      rw [this]; decide
    · obtain ⟨a, b, c⟩ := bitLen_bounds n (x / 2) (by omega) h1 (by omega)
      rw [hb]
      obtain ⟨k, hk⟩ : ∃ k, Lib.bitLen (x / 2) = k + 1 := ⟨Lib.bitLen (x / 2) - 1, by omega⟩
      rw [hk] at b c ⊢
      rw [show k + 1 - 1 = k by omega] at b
      rw [show 1 + (k + 1) - 1 = k + 1 by omega, show 1 + (k + 1) = k + 1 + 1 by omega, Nat.pow_succ 2 (k + 1)]
      rw [Nat.pow_succ] at c ⊢
      omega
theorem bitLen_le (x : Nat) (h0 : x ≠ 0) (h : x < 2 ^ 64) : Lib.bitLen x ≤ 64 := by
  have hb := bitLen_bounds x x (Nat.le_refl _) h0 h
  rcases Nat.lt_or_ge 64 (Lib.bitLen x) with hc | hc
  · have h2 : 2 ^ 64 ≤ 2 ^ (Lib.bitLen x - 1) := Nat.pow_le_pow_right (by omega) (by omega)
    omega
  · exact hc
/-- The shift makes the divisor great. -/
theorem shift_great (y : Nat) (h0 : y ≠ 0) (h : y < 18446744073709551616) : ∃ s : Nat, s < 64 ∧ (s : Int) = 64 - (Lib.bitLen y : Int) ∧ 9223372036854775808 ≤ y * 2 ^ s ∧ y * 2 ^ s < 18446744073709551616 := by
  have hb := bitLen_bounds y y (Nat.le_refl _) h0 h
  have hl := bitLen_le y h0 h
  refine ⟨64 - Lib.bitLen y, by omega, by omega, ?_, ?_⟩
  · have h1 : 2 ^ (Lib.bitLen y - 1) * 2 ^ (64 - Lib.bitLen y) ≤ y * 2 ^ (64 - Lib.bitLen y) := Nat.mul_le_mul_right _ hb.2.1
    rw [← Nat.pow_add, show Lib.bitLen y - 1 + (64 - Lib.bitLen y) = 63 by omega] at h1
    omega
  · have h1 : y * 2 ^ (64 - Lib.bitLen y) < 2 ^ Lib.bitLen y * 2 ^ (64 - Lib.bitLen y) := Nat.mul_lt_mul_of_pos_right hb.2.2 (Nat.two_pow_pos _)
    rw [← Nat.pow_add, show Lib.bitLen y + (64 - Lib.bitLen y) = 64 by omega] at h1
    omega
/-- A word, moved up: what goes over, and what stays. -/
theorem moved_up (lo s : Nat) (hs : s < 64) : lo * 2 ^ s = lo / 2 ^ (64 - s) * 18446744073709551616 + lo * 2 ^ s % 18446744073709551616 := by
  have h : lo * 2 ^ s / 18446744073709551616 = lo / 2 ^ (64 - s) := by
    have e : (18446744073709551616 : Nat) = 2 ^ (64 - s) * 2 ^ s := by rw [← Nat.pow_add, show 64 - s + s = 64 by omega]
    rw [e, Nat.mul_div_mul_right _ _ (Nat.two_pow_pos s)]
  have := Nat.div_add_mod' (lo * 2 ^ s) 18446744073709551616
  rw [h] at this
  omega
theorem over_lt (lo s : Nat) (hs : s < 64) (hlo : lo < 18446744073709551616) : lo / 2 ^ (64 - s) < 2 ^ s := by
  rw [Nat.div_lt_iff_lt_mul (Nat.two_pow_pos _), ← Nat.pow_add, show s + (64 - s) = 64 by omega]
  exact hlo
/-- The words: the high one and the low one of what is divided, moved up. -/
theorem words (hi lo y s : Nat) (hl : hi < y) (hlo : lo < 18446744073709551616) (hs : s < 64) (hy : y * 2 ^ s < 18446744073709551616) :
    ∃ u l1 : Nat, u < y * 2 ^ s ∧ l1 < 18446744073709551616 ∧ (hi * 18446744073709551616 + lo) * 2 ^ s = u * 18446744073709551616 + l1 ∧
      IntKind.u64.wrap ((hi : Int) * 2 ^ s) = ((hi * 2 ^ s : Nat) : Int) ∧
      bits .or .u64 ((hi * 2 ^ s : Nat) : Int) ((lo : Int) / 2 ^ (64 - s)) = (u : Int) ∧
      IntKind.u64.wrap ((lo : Int) * 2 ^ s) = (l1 : Int) := by
  have ho := over_lt lo s hs hlo
  have h1 : (hi + 1) * 2 ^ s ≤ y * 2 ^ s := Nat.mul_le_mul_right _ hl
  rw [Nat.add_mul, Nat.one_mul] at h1
  have hm := moved_up lo s hs
  have c1 : (hi : Int) * 2 ^ s = ((hi * 2 ^ s : Nat) : Int) := by rw [Int.natCast_mul, Int.natCast_pow]; rfl
  have c2 : (lo : Int) * 2 ^ s = ((lo * 2 ^ s : Nat) : Int) := by rw [Int.natCast_mul, Int.natCast_pow]; rfl
  have c3 : (lo : Int) / 2 ^ (64 - s) = ((lo / 2 ^ (64 - s) : Nat) : Int) := by rw [Int.natCast_ediv, Int.natCast_pow]; rfl
  refine ⟨hi * 2 ^ s + lo / 2 ^ (64 - s), lo * 2 ^ s % 18446744073709551616, by omega, Nat.mod_lt _ (by omega), ?_, ?_, ?_, ?_⟩
  · rw [Nat.add_mul, Nat.add_mul, Nat.mul_right_comm hi]; omega
  · rw [c1, wrap_mod, Nat.mod_eq_of_lt (by omega)]
  · rw [c3, bits_or_u64_nat _ _ (by omega) (by omega), or_add ho]
  · rw [c2, wrap_mod]
/-- The quotient and the remainder are those of what was not moved. -/
theorem moved_div (n y s : Nat) : n * 2 ^ s / (y * 2 ^ s) = n / y ∧ n * 2 ^ s % (y * 2 ^ s) / 2 ^ s = n % y := by
  refine ⟨Nat.mul_div_mul_right _ _ (Nat.two_pow_pos s), ?_⟩
  rw [Nat.mul_mod_mul_right, Nat.mul_div_cancel _ (Nat.two_pow_pos s)]
theorem cast_lt32 {n : Nat} (h : n < 4294967296) : (n : Int) < 4294967296 := by omega
theorem cast_lt64 {n : Nat} (h : n < 18446744073709551616) : (n : Int) < 18446744073709551616 := by omega
theorem cast_ne0 {n : Nat} (h : n ≠ 0) : ¬ (n : Int) = 0 := by omega
theorem wrap_lt {n : Nat} (h : n < 18446744073709551616) : IntKind.u64.wrap (n : Int) = (n : Int) := by rw [IntKind.wrap_u64]; omega
theorem cast_sub64 {s : Nat} (h : s < 64) : (64 - (s : Int)).toNat = 64 - s ∧ (s : Int) < 64 := by omega
theorem div32 (a b : Nat) (h : b < 4294967296) : ((a * 4294967296 + b : Nat) : Int) / 4294967296 = (a : Int) := by omega
/-- All that the walk asks, at natural numbers: n1, n0 the halves of the moved divisor, v1, v0 of the moved low word. -/
theorem long_facts (n1 n0 u v1 v0 : Nat) (hu : u < n1 * 4294967296 + n0) :
    ∃ Q U2 Q2 : Nat, U2 < n1 * 4294967296 + n0 ∧
      (u * 4294967296 + v1) / (n1 * 4294967296 + n0) = Q ∧ (u * 4294967296 + v1) % (n1 * 4294967296 + n0) = U2 ∧ (U2 * 4294967296 + v0) / (n1 * 4294967296 + n0) = Q2 ∧
      Q * 4294967296 + Q2 = (u * 18446744073709551616 + (v1 * 4294967296 + v0)) / (n1 * 4294967296 + n0) ∧
      (U2 * 4294967296 + v0) % (n1 * 4294967296 + n0) = (u * 18446744073709551616 + (v1 * 4294967296 + v0)) % (n1 * 4294967296 + n0) := by
  obtain ⟨a, b⟩ := halves_join (u * 4294967296 + v1) v0 (n1 * 4294967296 + n0) (by omega)
  rw [show (u * 4294967296 + v1) * 4294967296 + v0 = u * 18446744073709551616 + (v1 * 4294967296 + v0) by clear a b; omega] at a b
  exact ⟨_, _, _, Nat.mod_lt _ (by omega), rfl, rfl, rfl, a, b⟩
end Go.Proofs.Ytmbgcphiigmdjaa.Ss
