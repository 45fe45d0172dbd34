/-
  Numbers made small, halved by the reference, and shares by the reference's product.
-/
import Derived.Test.YtogmbiiahccljaaSTimes
import Derived.Test.YtogmbiiahccljaaSHalves
namespace Go.Proofs.Ytogmbiiahccljaa
open Go.RowKit

/-- A number, as a small one. -/
def small (n : Int) : Int := if -2147483648 ≤ n ∧ n ≤ 2147483647 then n else 0
def smallErr (n : Int) : Int := if -2147483648 ≤ n ∧ n ≤ 2147483647 then 0 else 5
set_option maxHeartbeats 400000 in
theorem Int32_any (n : Int) (w : World) :
    Calls Try.prog 26 #[.int .i64 n] w fun e w' => e = .returned (.tuple #[.int .i32 (small n), .int .i64 (smallErr n)]) ∧ w = w' := by
  by_cases h0 : n < -2147483648
  · have E := hid (show small n = 0 ∧ smallErr n = 5 by unfold small smallErr; rw [if_neg (by omega), if_neg (by omega)]; exact ⟨rfl, rfl⟩)
    go_enter Try.func26, Try.ntmps26
    go_wp2
    go_ret2
    exact ⟨ret2 E.out.1.symm E.out.2.symm, rfl⟩
  · by_cases h1 : n > 2147483647
    · have E := hid (show small n = 0 ∧ smallErr n = 5 by unfold small smallErr; rw [if_neg (by omega), if_neg (by omega)]; exact ⟨rfl, rfl⟩)
      go_enter Try.func26, Try.ntmps26
      go_wp2
      go_ret2
      exact ⟨ret2 E.out.1.symm E.out.2.symm, rfl⟩
    · have E := hid (show small n = n ∧ smallErr n = 0 by unfold small smallErr; rw [if_pos (by omega), if_pos (by omega)]; exact ⟨rfl, rfl⟩)
      go_enter Try.func26, Try.ntmps26
      go_wp2
      go_ret2
      exact ⟨ret2 E.out.1.symm E.out.2.symm, rfl⟩
set_option maxHeartbeats 400000 in
theorem rInt32_any (n : Int) (w : World) :
    Calls Try.prog 27 #[.int .i64 n] w fun e w' => e = .returned (.tuple #[.int .i32 (small n), .int .i64 (smallErr n)]) ∧ w = w' := by
  by_cases h0 : n < -2147483648
  · have E := hid (show small n = 0 ∧ smallErr n = 5 by unfold small smallErr; rw [if_neg (by omega), if_neg (by omega)]; exact ⟨rfl, rfl⟩)
    go_enter Try.func27, Try.ntmps27
    go_wp2
    go_ret2
    exact ⟨ret2 E.out.1.symm E.out.2.symm, rfl⟩
  · by_cases h1 : n > 2147483647
    · have E := hid (show small n = 0 ∧ smallErr n = 5 by unfold small smallErr; rw [if_neg (by omega), if_neg (by omega)]; exact ⟨rfl, rfl⟩)
      go_enter Try.func27, Try.ntmps27
      go_wp2
      go_ret2
      exact ⟨ret2 E.out.1.symm E.out.2.symm, rfl⟩
    · have E := hid (show small n = n ∧ smallErr n = 0 by unfold small smallErr; rw [if_pos (by omega), if_pos (by omega)]; exact ⟨rfl, rfl⟩)
      go_enter Try.func27, Try.ntmps27
      go_wp2
      go_ret2
      exact ⟨ret2 E.out.1.symm E.out.2.symm, rfl⟩

theorem wrap_same' (n : Int) (h : Fits n) : wrap64 n = n := by unfold Fits at h; unfold wrap64; omega
theorem halves_next (n : Int) (k : Nat) (hk : k < 62) : (halves n k).tdiv 2 = halves n ((k : Int) + 1) := by
  have h := halves_on n k 1 (by omega) (by omega) (by omega)
  rw [← h]
  show (halves n k).tdiv 2 = halves (halves n k) 1
  unfold halves
  rw [if_neg (by decide : ¬ (1 : Int) < 1), if_neg (by decide : ¬ (1 : Int) > 62)]
  rfl
set_option maxHeartbeats 800000 in
theorem rHalves_any (n k : Int) (w : World) (hn : Fits n) :
    Calls Try.prog 29 #[.int .i64 n, .int .i64 k] w fun e w' => e = .returned (.int .i64 (halves n k)) ∧ w = w' := by
  by_cases h1 : k > 62
  · have E := hid (show halves n k = 0 by unfold halves; rw [if_neg (by omega), if_pos h1])
    go_enter Try.func29, Try.ntmps29
    go_wp2
    go_ret
    exact ⟨ret1 E.out.symm, rfl⟩
  · by_cases h0 : k < 1
    · have E := hid (show halves n k = n by unfold halves; rw [if_pos h0])
      have h2 : ¬ (0 : Int) < k := by omega
      clear h0
      go_enter Try.func29, Try.ntmps29
      go_wp2
      refine wp_loop_rounds 1 ?_
      rw [rounds_succ]
      go_wp2
      go_ret
      exact ⟨ret1 E.out.symm, rfl⟩
    · obtain ⟨m, rfl⟩ : ∃ m : Nat, k = m := ⟨k.toNat, by omega⟩
      have hm : m ≤ 62 := by omega
      clear h0
      go_enter Try.func29, Try.ntmps29
      go_wp2
      go_loop [0, 5] (fun v i => ∃ (j : Nat) (x : Int), j ≤ m ∧ i = .int .i64 j ∧ v = .int .i64 x ∧ Fits x ∧ x = halves n j) (fun _ i => m - (intOf i).toNat)
      case atStart => exact ⟨0, n, by omega, rfl, rfl, hn, by unfold halves; rw [if_pos (by decide)]⟩
      case round =>
        obtain ⟨j, x, hj, rfl, rfl, hx, he⟩ := hrel
        by_cases hlt : j < m
        · have h2 : (j : Int) < m := by omega
          have hn2 := halves_next n j (by omega)
          rw [← he] at hn2
          have ht := tdiv_fits x 2 hx
          have hw : wrap64 (x.tdiv 2) = x.tdiv 2 := wrap_same' _ ht
          replace hn2 := hid hn2
          replace ht := hid ht
          clear he hx
          go_wp2
          go_round
          case rel => exact ⟨j + 1, x.tdiv 2, by omega, by go_num, by first | rfl | rw [hw], ht.out, by rw [hn2.out]; rfl⟩
          case measure => simp [intOf]; omega
        · obtain rfl : j = m := by omega
          have h2 : ¬ (j : Int) < j := by omega
          replace he := hid he
          clear hx
          go_wp2
          go_ret
          exact ⟨ret1 he.out, rfl⟩
end Go.Proofs.Ytogmbiiahccljaa
