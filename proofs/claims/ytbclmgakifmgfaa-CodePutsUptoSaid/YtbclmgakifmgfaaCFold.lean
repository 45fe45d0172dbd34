/-
  A number as one from 0 on, and back.
-/
import Derived.Test.YtbclmgakifmgfaaCBase
namespace Go.Proofs.Ytbclmgakifmgfaa
open Go.RowKit

theorem not_i64 (n : Int) (h : -9223372036854775808 ≤ n) (h' : n ≤ 9223372036854775807) : bits .xor .i64 (-1) n = -n - 1 := by
  show IntKind.i64.wrap ((BitVec.ofInt 64 (-1) ^^^ BitVec.ofInt 64 n).toNat : Int) = _
  rw [show BitVec.ofInt 64 (-1) = BitVec.allOnes 64 by decide, BitVec.allOnes_xor, BitVec.toNat_not, BitVec.toNat_ofInt, IntKind.wrap_i64]
  omega
set_option maxHeartbeats 400000 in
theorem fold_any (n : Int) (w : World) (h : -9223372036854775808 ≤ n) (h' : n ≤ 9223372036854775807) :
    Calls Try.prog 32 #[.int .i64 n] w fun e w' => e = .returned (.int .u64 ((foldN n : Nat) : Int)) ∧ w = w' := by
  by_cases h0 : n < 0
  · have e1 : ((foldN n : Nat) : Int) = 2 * (-n - 1) + 1 := by unfold foldN; rw [if_pos h0]; omega
    rw [e1]
    clear e1
    have e2 := not_i64 n h h'
    have e3 : IntKind.u64.wrap (-n - 1) = -n - 1 := by rw [IntKind.wrap_u64]; omega
    have e4 : IntKind.u64.wrap (2 * (-n - 1)) = 2 * (-n - 1) := by rw [IntKind.wrap_u64]; omega
    have e5 : IntKind.u64.wrap (2 * (-n - 1) + 1) = 2 * (-n - 1) + 1 := by rw [IntKind.wrap_u64]; omega
    clear h h'
    go_enter Try.func32, Try.ntmps32
    go_wp2
    go_ret
    exact ⟨rfl, rfl⟩
  · have e1 : ((foldN n : Nat) : Int) = 2 * n := by unfold foldN; rw [if_neg h0]; omega
    rw [e1]
    clear e1
    have h1 : 0 ≤ n := by omega
    go_enter Try.func32, Try.ntmps32
    go_wp2
    go_ret
    exact ⟨fret1 (by omega), rfl⟩
set_option maxHeartbeats 400000 in
theorem unfold_any (u : Nat) (w : World) (h : u < 18446744073709551616) :
    Calls Try.prog 33 #[.int .u64 u] w fun e w' => e = .returned (.int .i64 (unfoldN u)) ∧ w = w' := by
  by_cases h0 : u % 2 = 1
  · have e1 : unfoldN u = -((u : Int) / 2) - 1 := by unfold unfoldN; rw [if_pos h0]; omega
    have hm : (u : Int) % 2 = 1 := by omega
    have h2 : (u : Int) / 2 ≤ 9223372036854775807 := by omega
    have h3 : 0 ≤ (u : Int) / 2 := by omega
    have hu : (u : Int) < 18446744073709551616 := by omega
    rw [e1]
    have e2 := not_i64 ((u : Int) / 2) (by omega) (by omega)
    clear e1 h h0
    generalize (u : Int) = x at *
    go_enter Try.func33, Try.ntmps33
    go_wp2
    go_ret
    exact ⟨rfl, rfl⟩
  · have e1 : unfoldN u = ((u : Int) / 2) := by unfold unfoldN; rw [if_neg h0]; omega
    have hm : (u : Int) % 2 = 0 := by omega
    have h2 : (u : Int) / 2 ≤ 9223372036854775807 := by omega
    have h3 : 0 ≤ (u : Int) / 2 := by omega
    have hu : (u : Int) < 18446744073709551616 := by omega
    rw [e1]
    clear e1 h h0
    go_enter Try.func33, Try.ntmps33
    go_wp2
    go_ret
    exact ⟨fret1 (by omega), rfl⟩
end Go.Proofs.Ytbclmgakifmgfaa
