/-
  A product over a number: what 'scaled' answers, by the contract of the long division; the short one; shares.
-/
import Derived.Test.YtogmbiiahccljaaSLeaf
import Derived.Test.YtogmbiiahccljaaSShelf
import Derived.BigQuiet
namespace Go.Proofs.Ytogmbiiahccljaa
open Go.RowKit

theorem wf_bounds {k : IntKind} {a : Int} (h : (Lit.int k a).wf = true) : k.min ≤ a ∧ a ≤ k.max := by simpa [Lit.wf] using h
theorem wf_i64 {a : Int} (h : (Lit.int .i64 a).wf = true) : Fits a := wf_bounds h
theorem wf_u32 {a : Int} (h : (Lit.int .u32 a).wf = true) : 0 ≤ a ∧ a ≤ 4294967295 := wf_bounds h
theorem wf_u8 {a : Int} (h : (Lit.int .u8 a).wf = true) : 0 ≤ a ∧ a ≤ 255 := wf_bounds h

theorem high_low (p c : Nat) (hc : 0 < c) : (c ≤ p / 18446744073709551616 ↔ ¬ p / c < 18446744073709551616) := by
  rw [Nat.div_lt_iff_lt_mul hc, Nat.le_div_iff_mul_le (by decide), Nat.not_lt, Nat.mul_comm c]

set_option maxHeartbeats 400000 in
theorem scaled_of (a b c : Nat) (ha : a < 9223372036854775808) (hb : b < 9223372036854775808) (hc0 : 0 < c) (hc : c < 9223372036854775808)
    (D : a * b / 18446744073709551616 < c → ∀ w, Calls Try.prog 38 #[.int .u64 ((a * b / 18446744073709551616 : Nat) : Int), .int .u64 ((a * b % 18446744073709551616 : Nat) : Int), .int .u64 c] w
      fun e w' => e = .returned (.tuple #[.int .u64 ((a * b / c : Nat) : Int), .int .u64 ((a * b % c : Nat) : Int)]) ∧ ∃ n, w' = w.drewN n) (w : World) :
    Calls Try.prog 33 #[.int .i64 a, .int .i64 b, .int .i64 c] w fun e w' =>
      e = .returned (.tuple #[.int .i64 (got ((a * b / c : Nat) : Int)), .int .i64 (err ((a * b / c : Nat) : Int))]) ∧ ∃ n, w' = w.drewN n := by
  have M := fun w => Try.bits_Mul64 a b (by omega) (by omega) w
  have hh := high_low (a * b) c hc0
  have hHl : a * b / 18446744073709551616 < 18446744073709551616 := by
    have : a * b ≤ 9223372036854775808 * 9223372036854775808 := Nat.mul_le_mul (by omega) (by omega)
    omega
  generalize a * b / c = q at *
  generalize a * b / 18446744073709551616 = H at *
  generalize a * b % 18446744073709551616 = L at *
  generalize a * b % c = r at *
  by_cases h0 : c ≤ H
  · go_enter Try.func33, Try.ntmps33
    go_wp2_with (first
      | (go_at_call 37; refine (M _).mono ?_; rintro e w' ⟨rfl, rfl⟩))
    go_ret2
    exact ⟨ret2 (got_out (by unfold Fits; omega)).symm (err_out (by unfold Fits; omega)).symm, ⟨0, rfl⟩⟩
  · have D' := D (by omega)
    by_cases h1 : q < 9223372036854775808
    all_goals
      go_enter Try.func33, Try.ntmps33
      go_wp2_with (first
        | (go_at_call 37; refine (M _).mono ?_; rintro e w' ⟨rfl, rfl⟩)
        | (go_at_call 38; refine (D' _).mono ?_; rintro e w' ⟨rfl, n, rfl⟩))
      go_ret2
      first
        | exact ⟨ret2 (got_out (by unfold Fits; omega)).symm (err_out (by unfold Fits; omega)).symm, ⟨_, rfl⟩⟩
        | exact ⟨ret2 (got_in (by unfold Fits; omega)).symm (err_in (by unfold Fits; omega)).symm, ⟨_, rfl⟩⟩

/-- The short division. -/
theorem Div64_short (lo y : Nat) (hl : lo < 18446744073709551616) (hy0 : 0 < y) (hy : y < 18446744073709551616) (w : World) :
    Calls Try.prog 38 #[.int .u64 0, .int .u64 lo, .int .u64 y] w
      fun e w' => e = .returned (.tuple #[.int .u64 ((lo / y : Nat) : Int), .int .u64 ((lo % y : Nat) : Int)]) ∧ ∃ n, w' = w.drewN n := by
  have hq : IntKind.u64.wrap ((lo : Int) / (y : Int)) = ((lo / y : Nat) : Int) := by
    have : lo / y ≤ lo := Nat.div_le_self _ _
    rw [← Int.natCast_ediv]
    generalize lo / y = q at *
    rw [IntKind.wrap_u64]; omega
  have E : Hid (Ending.returned (.tuple #[.int .u64 (IntKind.u64.wrap ((lo : Int) / (y : Int))), .int .u64 ((lo : Int) % (y : Int))]) = .returned (.tuple #[.int .u64 ((lo / y : Nat) : Int), .int .u64 ((lo % y : Nat) : Int)])) := hid (by rw [hq, Int.natCast_emod])
  clear hq
  have hy1 : ¬ (y : Int) = 0 := by omega
  go_enter Try.func38, Try.ntmps38
  go_wp2_with fail
  go_quiet (fail)
  go_wp2
  go_ret2
  exact ⟨E.out, ⟨_, rfl⟩⟩

/-- Shares, and numbers of them, that do not need the long division. -/
theorem scaled_short (a b c : Nat) (ha : a < 9223372036854775808) (hb : b < 9223372036854775808) (hc0 : 0 < c) (hc : c < 9223372036854775808)
    (h : a * b < 18446744073709551616) (w : World) :
    Calls Try.prog 33 #[.int .i64 a, .int .i64 b, .int .i64 c] w fun e w' =>
      e = .returned (.tuple #[.int .i64 (got ((a * b / c : Nat) : Int)), .int .i64 (err ((a * b / c : Nat) : Int))]) ∧ ∃ n, w' = w.drewN n :=
  scaled_of a b c ha hb hc0 hc (fun _ w => by
    have h0 : a * b / 18446744073709551616 = 0 := Nat.div_eq_of_lt h
    have h1 : a * b % 18446744073709551616 = a * b := Nat.mod_eq_of_lt h
    rw [h0, h1]
    exact Div64_short (a * b) c h hc0 (by omega) w) w

theorem Share_of (a b : Nat) (ha : a < 9223372036854775808) (hb0 : 0 < b) (w : World)
    (S : ∀ w, Calls Try.prog 33 #[.int .i64 a, .int .i64 (4294967296 : Nat), .int .i64 b] w fun e w' =>
      e = .returned (.tuple #[.int .i64 (got ((a * 4294967296 / b : Nat) : Int)), .int .i64 (err ((a * 4294967296 / b : Nat) : Int))]) ∧ ∃ n, w' = w.drewN n) :
    Calls Try.prog 22 #[.int .i64 a, .int .i64 b] w fun e w' =>
      e = .returned (.tuple #[.int .i64 (got ((a * 4294967296 / b : Nat) : Int)), .int .i64 (err ((a * 4294967296 / b : Nat) : Int))]) ∧ ∃ n, w' = w.drewN n := by
  generalize got ((a * 4294967296 / b : Nat) : Int) = q at *
  generalize err ((a * 4294967296 / b : Nat) : Int) = r at *
  have h0 : ¬ (b : Int) < 1 := by omega
  have h1 : ¬ (a : Int) < 0 := by omega
  go_enter Try.func22, Try.ntmps22
  go_wp2_with (go_at_call 33; refine (S _).mono ?_; rintro e w' ⟨rfl, n, rfl⟩)
  go_ret2
  exact ⟨rfl, ⟨_, rfl⟩⟩
theorem Of_of (a b : Nat) (w : World)
    (S : ∀ w, Calls Try.prog 33 #[.int .i64 a, .int .i64 b, .int .i64 (4294967296 : Nat)] w fun e w' =>
      e = .returned (.tuple #[.int .i64 (got ((a * b / 4294967296 : Nat) : Int)), .int .i64 (err ((a * b / 4294967296 : Nat) : Int))]) ∧ ∃ n, w' = w.drewN n) :
    Calls Try.prog 24 #[.int .i64 a, .int .i64 b] w fun e w' =>
      e = .returned (.tuple #[.int .i64 (got ((a * b / 4294967296 : Nat) : Int)), .int .i64 (err ((a * b / 4294967296 : Nat) : Int))]) ∧ ∃ n, w' = w.drewN n := by
  generalize got ((a * b / 4294967296 : Nat) : Int) = q at *
  generalize err ((a * b / 4294967296 : Nat) : Int) = r at *
  have h0 : ¬ (b : Int) < 0 := by omega
  have h1 : ¬ (a : Int) < 0 := by omega
  go_enter Try.func24, Try.ntmps24
  go_wp2_with (go_at_call 33; refine (S _).mono ?_; rintro e w' ⟨rfl, n, rfl⟩)
  go_ret2
  exact ⟨rfl, ⟨_, rfl⟩⟩
theorem Share_short (a b : Nat) (ha : a < 2147483648) (hb0 : 0 < b) (hb : b < 9223372036854775808) (w : World) :
    Calls Try.prog 22 #[.int .i64 a, .int .i64 b] w fun e w' =>
      e = .returned (.tuple #[.int .i64 ((a * 4294967296 / b : Nat) : Int), .int .i64 0]) ∧ ∃ n, w' = w.drewN n := by
  have h : a * 4294967296 / b ≤ a * 4294967296 := Nat.div_le_self _ _
  have c := Share_of a b (by omega) hb0 w (scaled_short a 4294967296 b (by omega) (by omega) hb0 hb (by omega))
  generalize a * 4294967296 / b = q at *
  rw [got_in (by unfold Fits; omega), err_in (by unfold Fits; omega)] at c
  exact c
theorem Of_short (a b : Nat) (ha : a < 9223372036854775808) (hb : b < 9223372036854775808) (h : a * b < 18446744073709551616) (w : World) :
    Calls Try.prog 24 #[.int .i64 a, .int .i64 b] w fun e w' =>
      e = .returned (.tuple #[.int .i64 ((a * b / 4294967296 : Nat) : Int), .int .i64 0]) ∧ ∃ n, w' = w.drewN n := by
  have c := Of_of a b w (scaled_short a b 4294967296 ha hb (by omega) (by omega) h)
  have h' : a * b / 4294967296 < 4294967296 := by omega
  generalize a * b / 4294967296 = q at *
  rw [got_in (by unfold Fits; omega), err_in (by unfold Fits; omega)] at c
  exact c

/-- The law's own look: it answers true. -/
theorem alive_any (w : World) :
    Calls Try.prog 17 #[] w fun e w' => e = .returned (.bool true) ∧ ∃ n, w' = w.drewN n := by
  have c1 := fun w => Share_short 1 3 (by omega) (by omega) (by omega) w
  have c2 := fun w => Of_short 2147483648 7 (by omega) (by omega) (by omega) w
  have c3 := fun w => Add_any 9223372036854775807 1 w (by decide) (by decide)
  have c4 := fun w => Halves_any (-5) 1 w (by decide)
  rw [got_out (by decide), err_out (by decide)] at c3
  rw [show halves (-5) 1 = -2 by decide] at c4
  go_enter Try.func17, Try.ntmps17
  go_wp2_with (first
    | (go_at_call 22; refine (c1 _).mono ?_; rintro e w' ⟨rfl, n, rfl⟩)
    | (go_at_call 24; refine (c2 _).mono ?_; rintro e w' ⟨rfl, n, rfl⟩)
    | (go_at_call 9; refine (c3 _).mono ?_; rintro e w' ⟨rfl, rfl⟩)
    | (go_at_call 28; refine (c4 _).mono ?_; rintro e w' ⟨rfl, rfl⟩))
  go_ret
  exact ⟨rfl, ⟨_, rfl⟩⟩
end Go.Proofs.Ytogmbiiahccljaa
