/-
  Plain facts: a number as bytes, the lowest first; a frame.
-/
import Derived.Test.YtbclmgakifmgfaaFMath
namespace Go.Proofs.Ytbclmgakifmgfaa

/-- A number's bytes, so many, the lowest first. -/
def le : Nat → Nat → List UInt8
  | 0, _ => []
  | k + 1, n => UInt8.ofNat n :: le k (n / 256)
theorem le_length (k n : Nat) : (le k n).length = k := by
  induction k generalizing n with
  | zero => rfl
  | succ k ih => simp [le, ih]
theorem le_snoc (k n : Nat) : le (k + 1) n = le k n ++ [UInt8.ofNat (n / 256 ^ k)] := by
  induction k generalizing n with
  | zero => simp [le]
  | succ k ih =>
    rw [le, ih, le, List.cons_append, Nat.div_div_eq_div_mul, Nat.pow_succ, Nat.mul_comm 256]
theorem num_le (k n : Nat) (h : n < 256 ^ k) : num (le k n) = n := by
  induction k generalizing n with
  | zero => simp at h; subst h; rfl
  | succ k ih =>
    rw [Nat.pow_succ] at h
    rw [le, num, ih (n / 256) (by omega), UInt8.toNat_ofNat']
    omega
theorem le_num (l : List UInt8) : le l.length (num l) = l := by
  induction l with
  | nil => rfl
  | cons c r ih =>
    have hc := c.toNat_lt
    rw [List.length_cons, le, num]
    rw [show (c.toNat + 256 * num r) / 256 = num r by omega, ih]
    congr 1
    apply UInt8.toNat_inj.1
    rw [UInt8.toNat_ofNat']
    omega
theorem byte_of (n : Nat) : (UInt8.ofNat n).toNat = n % 256 := by
  rw [UInt8.toNat_ofNat']
/-- A frame. -/
def frame (b : List UInt8) : List UInt8 := le 4 b.length ++ b ++ le 8 (sumOf b)
theorem frame_length (b : List UInt8) : (frame b).length = b.length + 12 := by
  simp [frame, le_length]; omega
end Go.Proofs.Ytbclmgakifmgfaa
