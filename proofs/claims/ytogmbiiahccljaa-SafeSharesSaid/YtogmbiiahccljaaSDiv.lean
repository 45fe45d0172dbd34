/-
  The reference's share of a part: long division.
-/
import Derived.Test.YtogmbiiahccljaaSScale
import Derived.BigQuiet
namespace Go.Proofs.Ytogmbiiahccljaa
open Go.RowKit

theorem div_of (a b q r n : Nat) (h : a * 2 ^ n = q * b + r) (hr : r < b) : a * 2 ^ n / b = q := by
  rw [h, Nat.mul_comm q b, Nat.mul_add_div (by omega), Nat.div_eq_of_lt hr, Nat.add_zero]
theorem div_big (a b q r k : Nat) (h : a * 2 ^ k = q * b + r) (hb : 0 < b) (hk : k < 32) (hq : 4611686018427387904 ≤ q) : 9223372036854775808 ≤ a * 4294967296 / b := by
  rw [Nat.le_div_iff_mul_le hb]
  have h1 : a * 4294967296 = a * 2 ^ k * 2 ^ (32 - k) := by
    rw [Nat.mul_assoc, ← Nat.pow_add, show k + (32 - k) = 32 by omega]
  have h2 : 2 ^ 1 ≤ 2 ^ (32 - k) := Nat.pow_le_pow_right (by omega) (by omega)
  have h3 : q * b ≤ a * 2 ^ k := by omega
  have h4 : q * b * 2 ^ 1 ≤ a * 2 ^ k * 2 ^ (32 - k) := Nat.mul_le_mul h3 h2
  have h5 : 4611686018427387904 * b ≤ q * b := Nat.mul_le_mul_right b hq
  omega

set_option maxRecDepth 100000 in
set_option maxHeartbeats 1600000 in
theorem rShare_nat (a b : Nat) (w : World) (ha : a < 9223372036854775808) (hb0 : 0 < b) (hb : b < 9223372036854775808) :
    Calls Try.prog 23 #[.int .i64 a, .int .i64 b] w fun e w' => e = .returned (.tuple #[.int .i64 (got ((a * 4294967296 / b : Nat) : Int)), .int .i64 (err ((a * 4294967296 / b : Nat) : Int))]) ∧ ∃ n, w' = w.drewN n := by
  have na : ¬ (a : Int) < 0 := by omega
  have nb : ¬ (b : Int) < 1 := by omega
  have nz : ¬ (b : Int) = 0 := by omega
  have e1 : (a : Int).tdiv b = ((a / b : Nat) : Int) := rfl
  have e2 : (a : Int).tmod b = ((a % b : Nat) : Int) := rfl
  have hqa : a / b ≤ a := Nat.div_le_self _ _
  have e3 : wrap64 ((a : Int).tdiv b) = ((a / b : Nat) : Int) := by rw [e1]; generalize a / b = q at *; unfold wrap64; omega
  have e4 : wrap64 ((a : Int) / (b : Int)) = ((a / b : Nat) : Int) := by rw [← Int.natCast_ediv]; generalize a / b = q at *; unfold wrap64; omega
  replace e4 := hid e4
  have hda : a * 2 ^ 0 = a / b * b + a % b := by rw [Nat.pow_zero, Nat.mul_one]; exact (Nat.div_add_mod' a b).symm
  have hra : a % b < b := Nat.mod_lt _ hb0
  replace hb := hid hb
  replace hb0 := hid hb0
  have hst := hid (show a / b < 9223372036854775808 ∧ a * 2 ^ 0 = a / b * b + a % b ∧ a % b < b from ⟨by omega, hda, hra⟩)
  clear e1 hqa hda hra ha
  go_enter Try.func23, Try.ntmps23
  go_wp2_with fail
  go_quiet (fail)
  generalize hw2 : w.drewN _ = w2
  replace hw2 := hid (show ∃ n, w2 = w.drewN n from ⟨_, hw2.symm⟩)
  go_wp2
  go_loop [6, 7, 8] (fun vq vr i => ∃ (k q r : Nat), k ≤ 32 ∧ i = .int .i64 k ∧ vq = .int .i64 q ∧ vr = .int .i64 r ∧ q < 9223372036854775808 ∧ a * 2 ^ k = q * b + r ∧ r < b) (fun _ _ i => 32 - (intOf i).toNat)
  case atStart => exact ⟨0, a / b, a % b, by omega, rfl, by first | rw [e4.out] | rw [e3], by first | rfl | rw [e2], hst.out.1, hst.out.2.1, hst.out.2.2⟩
  case round =>
    obtain ⟨k, q, r, hk, rfl, rfl, rfl, hq, hs, hr⟩ := hrel
    have B := hb.out
    have B0 := hb0.out
    have b1 : (b : Int) ≤ 9223372036854775807 := by omega
    have q1 : (q : Int) ≤ 9223372036854775807 := by omega
    have r1 : (r : Int) < b := by omega
    have b0 : 0 < (b : Int) := by omega
    by_cases hlt : k < 32
    · have h2 : (k : Int) < 32 := by omega
      by_cases hbig : (q : Int) > 4611686018427387903
      · have hg := div_big a b q r k hs B0 hlt (by omega)
        have E := hid (show got ((a * 4294967296 / b : Nat) : Int) = 0 ∧ err ((a * 4294967296 / b : Nat) : Int) = 5 by
          generalize a * 4294967296 / b = x at *
          exact ⟨got_out (by unfold Fits; omega), err_out (by unfold Fits; omega)⟩)
        clear hg hs hq hr B B0
        go_wp2
        go_ret2
        exact ⟨ret2 E.out.1.symm E.out.2.symm, hw2.out⟩
      · have hp : a * 2 ^ (k + 1) = 2 * (q * b) + 2 * r := by rw [Nat.pow_succ, ← Nat.mul_assoc, hs]; omega
        by_cases hge : (r : Int) ≥ (b : Int) - r
        · have hn : a * 2 ^ (k + 1) = (2 * q + 1) * b + (2 * r - b) := by rw [hp, Nat.add_mul, Nat.mul_assoc, Nat.one_mul]; omega
          have F := hid (show 2 * q + 1 < 9223372036854775808 ∧ a * 2 ^ (k + 1) = (2 * q + 1) * b + (2 * r - b) ∧ 2 * r - b < b ∧ ((2 * r - b : Nat) : Int) = (r : Int) - ((b : Int) - r) from ⟨by omega, hn, by omega, by omega⟩)
          clear hn hp hs hq hr B B0
          go_wp2
          go_round
          case rel => exact ⟨k + 1, 2 * q + 1, 2 * r - b, by omega, by go_num, by congr 1; omega, by congr 1; exact F.out.2.2.2.symm, F.out.1, F.out.2.1, F.out.2.2.1⟩
          case measure => simp [intOf]; omega
        · have hn : a * 2 ^ (k + 1) = (2 * q) * b + 2 * r := by rw [hp, Nat.mul_assoc]
          have F := hid (show 2 * q < 9223372036854775808 ∧ a * 2 ^ (k + 1) = (2 * q) * b + 2 * r ∧ 2 * r < b from ⟨by omega, hn, by omega⟩)
          clear hn hp hs hq hr B B0
          go_wp2
          go_round
          case rel => exact ⟨k + 1, 2 * q, 2 * r, by omega, by go_num, by congr 1; omega, by congr 1; omega, F.out.1, F.out.2.1, F.out.2.2⟩
          case measure => simp [intOf]; omega
    · obtain rfl : k = 32 := by omega
      have hd := div_of a b q r 32 hs hr
      rw [show (2 : Nat) ^ 32 = 4294967296 by decide] at hd
      have E := hid (show got ((a * 4294967296 / b : Nat) : Int) = q ∧ err ((a * 4294967296 / b : Nat) : Int) = 0 by
        rw [hd]
        exact ⟨got_in (by unfold Fits; omega), err_in (by unfold Fits; omega)⟩)
      have h2 : ¬ ((32 : Nat) : Int) < 32 := by omega
      clear hd hs hq hr B B0
      go_wp2
      go_ret2
      exact ⟨ret2 E.out.1.symm E.out.2.symm, hw2.out⟩
end Go.Proofs.Ytogmbiiahccljaa
