/-
  Count: how many a set has.
-/
import Derived.Test.YtffmcfhanmonkaaDoorRList
namespace Go.Proofs.YtffmcfhanmonkaaDoor
open Go.RowKit
theorem cnt_word (p : Nat → Bool) (k : Nat) : cnt p (64 * (k + 1)) = cnt p (64 * k) + cnt (word p k).testBit 64 := by
  rw [show 64 * (k + 1) = 64 * k + 64 by omega, cnt_add]
  congr 1
  exact cnt_congr fun j hj => (word_testBit p k j hj).symm
theorem index_0 (x0 x1 x2 x3 : Int) (w : World) : (Instr.index 26 (.agg #[.int .u64 x0, .int .u64 x1, .int .u64 x2, .int .u64 x3]) (.int .i64 0)).run Tryd.prog w = .ok (.int .u64 x0) w := by kernel_rfl
theorem index_1 (x0 x1 x2 x3 : Int) (w : World) : (Instr.index 26 (.agg #[.int .u64 x0, .int .u64 x1, .int .u64 x2, .int .u64 x3]) (.int .i64 1)).run Tryd.prog w = .ok (.int .u64 x1) w := by kernel_rfl
theorem index_2 (x0 x1 x2 x3 : Int) (w : World) : (Instr.index 26 (.agg #[.int .u64 x0, .int .u64 x1, .int .u64 x2, .int .u64 x3]) (.int .i64 2)).run Tryd.prog w = .ok (.int .u64 x2) w := by kernel_rfl
theorem index_3 (x0 x1 x2 x3 : Int) (w : World) : (Instr.index 26 (.agg #[.int .u64 x0, .int .u64 x1, .int .u64 x2, .int .u64 x3]) (.int .i64 3)).run Tryd.prog w = .ok (.int .u64 x3) w := by kernel_rfl
theorem index_at (p : Nat → Bool) (k : Nat) (h : k < 4) (w : World) : (Instr.index 26 (nodes p) (.int .i64 k)).run Tryd.prog w = .ok (.int .u64 (word p k)) w := by
  have hk : k = 0 ∨ k = 1 ∨ k = 2 ∨ k = 3 := by omega
  rcases hk with rfl | rfl | rfl | rfl
  · exact index_0 _ _ _ _ w
  · exact index_1 _ _ _ _ w
  · exact index_2 _ _ _ _ w
  · exact index_3 _ _ _ _ w
set_option maxRecDepth 100000 in
set_option maxHeartbeats 800000 in
theorem count_any (p : Nat → Bool) (w : World) :
    Calls Tryd.prog 27 #[nodes p] w fun e w' => e = .returned (.int .i64 (cnt p 256 : Nat)) ∧ Below w.heap.size w w' := by
  go_enter Tryd.func27, Tryd.ntmps27
  go_wp2
  go_loop [3, 7] (fun n i => ∃ k : Nat, k ≤ 4 ∧ i = .int .i64 k ∧ n = .int .i64 (cnt p (64 * k) : Nat)) (fun _ i => 4 - (intOf i).toNat)
  case atStart => exact ⟨0, by omega, rfl, rfl⟩
  case round =>
    obtain ⟨k, hk, rfl, rfl⟩ := hrel
    have hc := cnt_le p (64 * k)
    have hc' := cnt_le (word p k).testBit 64
    by_cases hlt : k < 4
    · have hi := index_at p k hlt
      go_wp2_with (go_at_call 42; refine (ones_any (word p k) _ (word_lt p k)).mono ?_; rintro e w1 ⟨rfl, rfl⟩)
      go_round
      case rel => exact ⟨k + 1, by omega, by go_num, by rw [cnt_word, Int.natCast_add]⟩
      case measure => simp [intOf]; omega
    · obtain rfl : k = 4 := by omega
      go_wp2
      go_ret
      exact ⟨rfl, (Below.refl _ _).alloc (Nat.le_refl _) _⟩
end Go.Proofs.YtffmcfhanmonkaaDoor
