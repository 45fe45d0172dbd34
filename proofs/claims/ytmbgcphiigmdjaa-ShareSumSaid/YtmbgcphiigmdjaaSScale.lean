/-
  A product over a number: what 'scaled' answers, by the contract of the long division; the short one; shares.
-/
import Derived.Test.YtmbgcphiigmdjaaSLeaf
import Derived.Test.YtmbgcphiigmdjaaSShelf
import Derived.BigQuiet
namespace Go.Proofs.Ytmbgcphiigmdjaa.Ss
open Go.RowKit

theorem wf_bounds {k : IntKind} {a : Int} (h : (Lit.int k a).wf = true) : k.min ≤ a ∧ a ≤ k.max := by simpa [Lit.wf] using h
theorem wf_i64 {a : Int} (h : (Lit.int .i64 a).wf = true) : Fits a := wf_bounds h
theorem wf_u32 {a : Int} (h : (Lit.int .u32 a).wf = true) : 0 ≤ a ∧ a ≤ 4294967295 := wf_bounds h
theorem wf_u8 {a : Int} (h : (Lit.int .u8 a).wf = true) : 0 ≤ a ∧ a ≤ 255 := wf_bounds h

theorem high_low (p c : Nat) (hc : 0 < c) : (c ≤ p / 18446744073709551616 ↔ ¬ p / c < 18446744073709551616) := by
  rw [Nat.div_lt_iff_lt_mul hc, Nat.le_div_iff_mul_le (by decide), Nat.not_lt, Nat.mul_comm c]

/-- The short division. -/
theorem Div64_short (lo y : Nat) (hl : lo < 18446744073709551616) (hy0 : 0 < y) (hy : y < 18446744073709551616) (w : World) :
    Calls Try.prog 55 #[.int .u64 0, .int .u64 lo, .int .u64 y] w
      fun e w' => e = .returned (.tuple #[.int .u64 ((lo / y : Nat) : Int), .int .u64 ((lo % y : Nat) : Int)]) ∧ ∃ n, w' = w.drewN n := by
  have hq : IntKind.u64.wrap ((lo : Int) / (y : Int)) = ((lo / y : Nat) : Int) := by
    have : lo / y ≤ lo := Nat.div_le_self _ _
    rw [← Int.natCast_ediv]
    generalize lo / y = q at *
    rw [IntKind.wrap_u64]; omega
  have E : Hid (Ending.returned (.tuple #[.int .u64 (IntKind.u64.wrap ((lo : Int) / (y : Int))), .int .u64 ((lo : Int) % (y : Int))]) = .returned (.tuple #[.int .u64 ((lo / y : Nat) : Int), .int .u64 ((lo % y : Nat) : Int)])) := hid (by rw [hq, Int.natCast_emod])
  clear hq
  have hy1 : ¬ (y : Int) = 0 := by omega
  go_enter Try.func55, Try.ntmps55
  go_wp2_with fail
  go_quiet (fail)
  go_wp2
  go_ret2
  exact ⟨E.out, ⟨_, rfl⟩⟩

end Go.Proofs.Ytmbgcphiigmdjaa.Ss
