/-
  Bytes of numbers: their seven bits, and the eighth.
-/
import Derived.Test.YtbclmgakifmgfaaCBase
import Derived.Laws.BitsAllLaws
namespace Go.Proofs.Ytbclmgakifmgfaa
open Go.RowKit

theorem or_plus {a b k : Nat} (hb : b < 2 ^ k) : b ||| a * 2 ^ k = b + a * 2 ^ k := by
  rw [Nat.or_comm, Nat.mul_comm, ← Nat.two_pow_add_eq_or_of_lt hb a, Nat.add_comm]
theorem shifted_byte (c : UInt8) (k : Nat) (h : k < 8) : IntKind.u64.wrap ((c.toNat : Int) * 2 ^ (8 * k)) = ((256 ^ k * c.toNat : Nat) : Int) := by
  have hc := c.toNat_lt
  rw [pow_256]
  have e : (c.toNat : Int) * 2 ^ (8 * k) = ((2 ^ (8 * k) * c.toNat : Nat) : Int) := by
    rw [Int.natCast_mul, Int.natCast_pow, Int.mul_comm]; rfl
  rw [e]
  have h1 : (2 : Nat) ^ (8 * k) ≤ 2 ^ 56 := Nat.pow_le_pow_right (by omega) (by omega)
  have h2 : 2 ^ (8 * k) * c.toNat ≤ 2 ^ 56 * 255 := Nat.mul_le_mul h1 (by omega)
  generalize 2 ^ (8 * k) * c.toNat = x at *
  rw [IntKind.wrap_u64]; omega
theorem or_byte (l : List UInt8) (k : Nat) (h : k < l.length) (h8 : l.length ≤ 8) :
    bits .or .u64 ((num (l.take k) : Nat) : Int) ((256 ^ k * l[k].toNat : Nat) : Int) = ((num (l.take (k + 1)) : Nat) : Int) := by
  have h1 := num_take_lt l k (by omega)
  have h2 := num_take l k h
  have h3 : num (l.take (k + 1)) < 18446744073709551616 := num_small _ (by rw [List.length_take]; omega)
  rw [bits_or_u64_nat _ _ (by omega) (by omega)]
  rw [pow_256] at h1 h2 ⊢
  rw [Nat.mul_comm, or_plus h1, Nat.mul_comm]
  rw [h2]
theorem fin_and (c : Nat) (h : c < 256) : c &&& 128 = if c < 128 then 0 else 128 := by
  have : ∀ c : Fin 256, c.val &&& 128 = if c.val < 128 then 0 else 128 := by decide +kernel
  exact this ⟨c, h⟩
theorem fin_or (c : Nat) (h : c < 256) : c ||| 128 = 128 + c % 128 := by
  have : ∀ c : Fin 256, c.val ||| 128 = 128 + c.val % 128 := by decide +kernel
  exact this ⟨c, h⟩
theorem low7 (c : UInt8) : bits .andNot .u8 (c.toNat : Int) 128 = ((c.toNat % 128 : Nat) : Int) := by
  have := u8_andNot_nat c.toNat 128 c.toNat_lt (by omega)
  rw [show (255 - 128 : Nat) = 2 ^ 7 - 1 from rfl, Nat.and_two_pow_sub_one_eq_mod] at this
  exact this
theorem more_yes (c : UInt8) (h : 128 ≤ c.toNat) : bits .and .u8 (c.toNat : Int) 128 = 128 := by
  have := u8_and_nat c.toNat 128 c.toNat_lt (by omega)
  rw [fin_and _ c.toNat_lt, if_neg (by omega)] at this
  exact this
theorem more_no (c : UInt8) (h : ¬ 128 ≤ c.toNat) : bits .and .u8 (c.toNat : Int) 128 = 0 := by
  have := u8_and_nat c.toNat 128 c.toNat_lt (by omega)
  rw [fin_and _ c.toNat_lt, if_pos (by omega)] at this
  exact this
theorem put_more (x : Nat) : bits .or .u8 (IntKind.u8.wrap (x : Int)) 128 = ((UInt8.ofNat (128 + x % 128)).toNat : Int) := by
  have e : IntKind.u8.wrap (x : Int) = ((x % 256 : Nat) : Int) := by simp [IntKind.wrap, IntKind.bits, IntKind.signed]
  rw [e]
  have := u8_or_nat (x % 256) 128 (by omega) (by omega)
  rw [fin_or _ (by omega)] at this
  rw [byte_small (128 + x % 128) (by omega), show (x % 128) = x % 256 % 128 by omega]
  exact this
theorem pow_128 (k : Nat) : (128 : Nat) ^ k = 2 ^ (7 * k) := by
  rw [Nat.pow_mul]
theorem shift7 (d k : Nat) (h : d * 128 ^ k < 18446744073709551616) : IntKind.u64.wrap ((d : Int) * 2 ^ (7 * k)) = ((d * 128 ^ k : Nat) : Int) := by
  have e : (d : Int) * 2 ^ (7 * k) = ((d * 128 ^ k : Nat) : Int) := by
    rw [pow_128, Int.natCast_mul, Int.natCast_pow]; rfl
  rw [e]
  generalize d * 128 ^ k = x at *
  rw [IntKind.wrap_u64]; omega
theorem or7 (a d k : Nat) (ha : a < 128 ^ k) (h : a + d * 128 ^ k < 18446744073709551616) : bits .or .u64 (a : Int) ((d * 128 ^ k : Nat) : Int) = ((a + d * 128 ^ k : Nat) : Int) := by
  rw [bits_or_u64_nat _ _ (by omega) (by omega)]
  rw [pow_128] at ha ⊢
  rw [or_plus ha]
end Go.Proofs.Ytbclmgakifmgfaa
