/-
  Plain facts under the long division of 128 by 64 bits: each step's value as a natural number.
-/
import Derived.Test.YtmbgcphiigmdjaaSHalf
import Derived.Laws.Bits64b
import Derived.Below
namespace Go.Proofs.Ytmbgcphiigmdjaa.Ss
open Go.RowKit

theorem or_add {a b k : Nat} (hb : b < 2 ^ k) : a * 2 ^ k ||| b = a * 2 ^ k + b := by
  rw [Nat.mul_comm]; exact (Nat.two_pow_add_eq_or_of_lt hb a).symm
theorem and_low (a : Nat) (ha : a < 18446744073709551616) : bits .and .u64 (a : Int) 4294967295 = ((a % 4294967296 : Nat) : Int) := by
  have h := bits_and_u64_nat a 4294967295 ha (by omega)
  rw [show ((4294967295 : Nat) : Int) = 4294967295 from rfl] at h
  rw [h, show (4294967295 : Nat) = 2 ^ 32 - 1 by decide, Nat.and_two_pow_sub_one_eq_mod]
theorem wrap_mod (a : Nat) : IntKind.u64.wrap (a : Int) = ((a % 18446744073709551616 : Nat) : Int) := by
  rw [IntKind.wrap_u64]; omega
theorem wrap_sub_mul (a b c : Nat) (h : b ≤ a) (hc : a - b = c) (hl : c < 18446744073709551616) (A B : Int) (hA : A % 18446744073709551616 = (a : Int) % 18446744073709551616) (hB : B % 18446744073709551616 = (b : Int) % 18446744073709551616) : IntKind.u64.wrap (A - B) = (c : Int) := by
  rw [IntKind.wrap_u64]; omega
/-- One half's facts, on natural numbers: u below Y, the digit v below 2^32. -/
theorem half_all (n1 n0 u v : Nat) (h1 : 2147483648 ≤ n1) (h1' : n1 < 4294967296) (h0 : n0 < 4294967296) (hu : u < n1 * 4294967296 + n0) (hv : v < 4294967296) (Q : Nat) (hQ : (u * 4294967296 + v) / (n1 * 4294967296 + n0) = Q) :
    (IntKind.u64.wrap ((u : Int).tdiv n1) = ((u / n1 : Nat) : Int)) ∧
    (IntKind.u64.wrap ((u : Int) - IntKind.u64.wrap (((u / n1 : Nat) : Int) * n1)) = ((u % n1 : Nat) : Int)) ∧
    (0 ≤ ((u / n1 : Nat) : Int) ∧ ((u / n1 : Nat) : Int) ≤ 4294967297 ∧ 0 ≤ ((u % n1 : Nat) : Int) ∧ ((u % n1 : Nat) : Int) < 4294967296 ∧ ((u / n1 : Nat) : Int) * n1 + ((u % n1 : Nat) : Int) = u ∧ (Q : Int) ≤ ((u / n1 : Nat) : Int)) ∧
    (∀ q r : Int, 0 ≤ q → 0 ≤ r → q * n1 + r = u → 4294967296 * r + v < q * n0 → (Q : Int) < q) ∧
    (∀ q r : Int, 0 ≤ q → 0 ≤ r → q * n1 + r = u → q * n0 ≤ 4294967296 * r + v → q ≤ (Q : Int)) ∧
    (∀ q r : Int, 0 ≤ q → q ≤ 4294967296 → 4294967296 ≤ r → q * n1 + r = u → q ≤ (Q : Int)) ∧
    (0 ≤ (Q : Int) ∧ (Q : Int) < 4294967296) := by
  subst hQ
  have hg := half_guess (u := u) (n1 := n1) (n0 := n0) (v := v) (by omega) hv
  have hgl := half_guess_le (u := u) (n1 := n1) (n0 := n0) h1 h0 hu
  have hlt := half_lt (u := u) (n1 := n1) (n0 := n0) (v := v) hu hv
  have hdm := Nat.div_add_mod' u n1
  have hm : u % n1 < n1 := Nat.mod_lt _ (by omega)
  have hul : u < 18446744073709551616 := by omega
  have hle : u / n1 ≤ u := Nat.div_le_self _ _
  have hcast : ((u / n1 : Nat) : Int) * n1 = ((u / n1 * n1 : Nat) : Int) := by rw [Int.natCast_mul]
  refine ⟨?_, ?_, ?_, ?_, ?_, ?_, ?_⟩
  · show IntKind.u64.wrap ((u / n1 : Nat) : Int) = _
    rw [wrap_mod]; congr 1; exact Nat.mod_eq_of_lt (by omega)
  · rw [hcast, wrap_mod]
    exact wrap_sub_mul u (u / n1 * n1) (u % n1) (by omega) (by omega) (by omega) _ _ rfl (by omega)
  · clear hcast
    generalize (u * 4294967296 + v) / (n1 * 4294967296 + n0) = Q at *
    generalize u / n1 = q at *
    generalize u % n1 = m at *
    refine ⟨by omega, by omega, by omega, by omega, ?_, by omega⟩
    rw [← Int.natCast_mul]; omega
  · intro q r hq hr he hl
    obtain ⟨q, rfl⟩ := Int.eq_ofNat_of_zero_le hq
    obtain ⟨r, rfl⟩ := Int.eq_ofNat_of_zero_le hr
    have := half_gt (n1 := n1) (n0 := n0) (u := u) (v := v) (q := q) (r := r) (by omega) (by rw [← Int.natCast_mul, ← Int.natCast_add] at he; exact Int.ofNat_inj.1 he) (by rw [← Int.natCast_mul] at hl; omega)
    omega
  · intro q r hq hr he hl
    obtain ⟨q, rfl⟩ := Int.eq_ofNat_of_zero_le hq
    obtain ⟨r, rfl⟩ := Int.eq_ofNat_of_zero_le hr
    have := half_le (n1 := n1) (n0 := n0) (u := u) (v := v) (q := q) (r := r) (by omega) (by rw [← Int.natCast_mul, ← Int.natCast_add] at he; exact Int.ofNat_inj.1 he) (by rw [← Int.natCast_mul] at hl; omega)
    omega
  · intro q r hq hq2 hr he
    obtain ⟨q, rfl⟩ := Int.eq_ofNat_of_zero_le hq
    obtain ⟨r, rfl⟩ := Int.eq_ofNat_of_zero_le (show 0 ≤ r by omega)
    have hs := half_stop (n0 := n0) (v := v) (q := q) (r := r) h0 (by omega) (by omega)
    have := half_le (n1 := n1) (n0 := n0) (u := u) (v := v) (q := q) (r := r) (by omega) (by rw [← Int.natCast_mul, ← Int.natCast_add] at he; exact Int.ofNat_inj.1 he) hs
    omega
  · exact ⟨Int.natCast_nonneg _, by generalize (u * 4294967296 + v) / (n1 * 4294967296 + n0) = Q at *; omega⟩
/-- What is left behind one half. -/
theorem half_rest (u v Y : Nat) (hY : 0 < Y) (hYl : Y < 18446744073709551616) :
    IntKind.u64.wrap (IntKind.u64.wrap (IntKind.u64.wrap ((u : Int) * 4294967296) + (v : Int)) - IntKind.u64.wrap ((((u * 4294967296 + v) / Y : Nat) : Int) * (Y : Int))) = (((u * 4294967296 + v) % Y : Nat) : Int) := by
  have hdm := Nat.div_add_mod' (u * 4294967296 + v) Y
  have hm : (u * 4294967296 + v) % Y < Y := Nat.mod_lt _ hY
  have hcast : (((u * 4294967296 + v) / Y : Nat) : Int) * (Y : Int) = (((u * 4294967296 + v) / Y * Y : Nat) : Int) := by rw [Int.natCast_mul]
  rw [hcast]
  refine wrap_sub_mul (u * 4294967296 + v) ((u * 4294967296 + v) / Y * Y) _ (by omega) (by omega) (by omega) _ _ ?_ ?_
  · rw [IntKind.wrap_u64, IntKind.wrap_u64]; omega
  · rw [IntKind.wrap_u64]; omega
end Go.Proofs.Ytmbgcphiigmdjaa.Ss
