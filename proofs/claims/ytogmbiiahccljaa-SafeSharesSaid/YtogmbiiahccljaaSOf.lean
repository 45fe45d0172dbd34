/-
  The reference's share of a number.
-/
import Derived.Test.YtogmbiiahccljaaSTimes
namespace Go.Proofs.Ytogmbiiahccljaa
open Go.RowKit

set_option maxRecDepth 100000 in
set_option maxHeartbeats 1600000 in
theorem rOf_nat (a b : Nat) (w : World) (ha : a < 9223372036854775808) (hb : b < 9223372036854775808) :
    Calls Try.prog 25 #[.int .i64 a, .int .i64 b] w fun e w' => e = .returned (.tuple #[.int .i64 (got ((a * b / 4294967296 : Nat) : Int)), .int .i64 (err ((a * b / 4294967296 : Nat) : Int))]) ∧ Below w.heap.size w w' := by
  have ct := fun w => rtimes_any a b w (by omega) (by omega)
  have hN : a * b ≤ 9223372036854775808 * 9223372036854775808 := Nat.mul_le_mul (by omega) (by omega)
  have cd := fun w => rdown_any (a * b) 32 w (by omega) (by omega)
  have hp : (2 : Nat) ^ 32 = 4294967296 := by decide
  rw [hp, show ((32 : Nat) : Int) = 32 from rfl] at cd
  have ua : IntKind.u64.wrap (a : Int) = a := by rw [IntKind.wrap_u64]; omega
  have ub : IntKind.u64.wrap (b : Int) = b := by rw [IntKind.wrap_u64]; omega
  have na : ¬ (a : Int) < 0 := by omega
  have nb : ¬ (b : Int) < 0 := by omega
  have hf : Fits ((a * b / 4294967296 : Nat) : Int) ↔ a * b / 4294967296 < 9223372036854775808 := by
    generalize a * b / 4294967296 = q; unfold Fits; omega
  generalize a * b / 4294967296 = q at *
  generalize a * b = N at *
  clear hN hp ha hb
  by_cases h1 : q < 18446744073709551616
  · rw [if_pos h1, decide_eq_true h1] at cd
    have hn0 : 0 ≤ (q : Int) := by omega
    by_cases h2 : (q : Int) > 9223372036854775807
    · have hnf : ¬ Fits (q : Int) := fun h => by have := hf.1 h; omega
      rw [got_out hnf, err_out hnf]
      clear hf hnf h1
      generalize (q : Int) = n at *
      go_enter Try.func25, Try.ntmps25
      go_wp2_with (first
        | (go_at_call 31; with_reducible refine (ct _).mono ?_; rintro e w1 ⟨rfl, x1⟩)
        | (go_at_call 30; with_reducible refine (cd _).mono ?_; rintro e w2 ⟨rfl, x2⟩))
      go_ret2
      exact ⟨rfl, x1.trans (x2.mono x1.size)⟩
    · have hnf : Fits (q : Int) := hf.2 (by omega)
      rw [got_in hnf, err_in hnf]
      clear hf hnf h1
      generalize (q : Int) = n at *
      have hlt : n ≤ 9223372036854775807 := by omega
      go_enter Try.func25, Try.ntmps25
      go_wp2_with (first
        | (go_at_call 31; with_reducible refine (ct _).mono ?_; rintro e w1 ⟨rfl, x1⟩)
        | (go_at_call 30; with_reducible refine (cd _).mono ?_; rintro e w2 ⟨rfl, x2⟩))
      go_ret2
      exact ⟨ret2 (by first | rfl | (unfold wrap64; omega)) rfl, x1.trans (x2.mono x1.size)⟩
  · rw [if_neg h1, decide_eq_false h1] at cd
    have hnf : ¬ Fits (q : Int) := fun h => by have := hf.1 h; omega
    rw [got_out hnf, err_out hnf]
    clear hf hnf h1
    go_enter Try.func25, Try.ntmps25
    go_wp2_with (first
      | (go_at_call 31; with_reducible refine (ct _).mono ?_; rintro e w1 ⟨rfl, x1⟩)
      | (go_at_call 30; with_reducible refine (cd _).mono ?_; rintro e w2 ⟨rfl, x2⟩))
    go_ret2
    exact ⟨rfl, x1.trans (x2.mono x1.size)⟩
end Go.Proofs.Ytogmbiiahccljaa
