/-
  The leaves of package safe and of its reference: what each small function answers, for every argument.
-/
import Derived.Test.YtmbgcphiigmdjaaRows
import Derived.WalkKit
import Derived.WalkSpells
import Derived.WalkLawsBesides
namespace Go.Proofs.Ytmbgcphiigmdjaa.Ss
open Go.RowKit

/-- A number is an int of 64 bits. -/
def Fits (n : Int) : Prop := -9223372036854775808 ≤ n ∧ n ≤ 9223372036854775807
instance (n : Int) : Decidable (Fits n) := inferInstanceAs (Decidable (_ ∧ _))
/-- What is answered, and the error, where n is asked for. -/
def got (n : Int) : Int := if Fits n then n else 0
def err (n : Int) : Int := if Fits n then 0 else 5
theorem got_in {n : Int} (h : Fits n) : got n = n := if_pos h
theorem err_in {n : Int} (h : Fits n) : err n = 0 := if_pos h
theorem got_out {n : Int} (h : ¬ Fits n) : got n = 0 := if_neg h
theorem err_out {n : Int} (h : ¬ Fits n) : err n = 5 := if_neg h
theorem ret2 {a b c d : Int} {k : IntKind} (h : a = b) (h' : c = d) : Ending.returned (.tuple #[.int k a, .int .i64 c]) = .returned (.tuple #[.int k b, .int .i64 d]) := by rw [h, h']
theorem ret1 {k : IntKind} {a b : Int} (h : a = b) : Ending.returned (.int k a) = .returned (.int k b) := by rw [h]
theorem hid {p : Prop} (h : p) : Hid p := h

set_option maxHeartbeats 400000 in
theorem Add_any (a b : Int) (w : World) (ha : Fits a) (hb : Fits b) :
    Calls Try.prog 56 #[.int .i64 a, .int .i64 b] w fun e w' => e = .returned (.tuple #[.int .i64 (got (a + b)), .int .i64 (err (a + b))]) ∧ w = w' := by
  obtain ⟨ha0, ha1⟩ := ha
  obtain ⟨hb0, hb1⟩ := hb
  by_cases h0 : b > 0
  · have h1 : ¬ b < 0 := by omega
    by_cases h2 : a > 9223372036854775807 - b
    all_goals
      go_enter Try.func56, Try.ntmps56
      go_wp2
      go_ret2
      first
        | exact ⟨ret2 (got_out (by unfold Fits; omega)).symm (err_out (by unfold Fits; omega)).symm, rfl⟩
        | exact ⟨ret2 (got_in (by unfold Fits; omega)).symm (err_in (by unfold Fits; omega)).symm, rfl⟩
  · by_cases h1 : b < 0
    · by_cases h2 : a < -9223372036854775808 - b
      all_goals
        go_enter Try.func56, Try.ntmps56
        go_wp2
        go_ret2
        first
          | exact ⟨ret2 (got_out (by unfold Fits; omega)).symm (err_out (by unfold Fits; omega)).symm, rfl⟩
          | exact ⟨ret2 (got_in (by unfold Fits; omega)).symm (err_in (by unfold Fits; omega)).symm, rfl⟩
    · go_enter Try.func56, Try.ntmps56
      go_wp2
      go_ret2
      exact ⟨ret2 (got_in (by unfold Fits; omega)).symm (err_in (by unfold Fits; omega)).symm, rfl⟩
/-- The sum as far as it goes. -/
def most (n : Int) : Int := if Fits n then n else if n < 0 then -9223372036854775808 else 9223372036854775807
set_option maxHeartbeats 400000 in
theorem Most_any (a b : Int) (w : World) (ha : Fits a) (hb : Fits b) :
    Calls Try.prog 35 #[.int .i64 a, .int .i64 b] w fun e w' => e = .returned (.int .i64 (most (a + b))) ∧ w = w' := by
  have c := fun w => Add_any a b w ha hb
  obtain ⟨ha0, ha1⟩ := ha
  obtain ⟨hb0, hb1⟩ := hb
  by_cases h : Fits (a + b)
  · simp only [got_in h, err_in h] at c
    go_enter Try.func35, Try.ntmps35
    go_wp2_with (go_at_call 56; refine (c _).mono ?_; rintro e w' ⟨rfl, rfl⟩)
    go_ret
    exact ⟨ret1 (if_pos h).symm, rfl⟩
  · simp only [got_out h, err_out h] at c
    by_cases h0 : a < 0
    all_goals
      go_enter Try.func35, Try.ntmps35
      go_wp2_with (go_at_call 56; refine (c _).mono ?_; rintro e w' ⟨rfl, rfl⟩)
      go_ret
      exact ⟨ret1 (by unfold Fits at h; unfold most Fits; (repeat' split) <;> omega), rfl⟩
/-- A number between two others. -/
def clamp (a l h : Int) : Int := if a < l then l else if a > h then h else a
/-- A number, halved so often. -/
def halves (n k : Int) : Int := if k < 1 then n else if k > 62 then 0 else n.tdiv (2 ^ k.toNat)
theorem cast_pow (k : Nat) : ((2 : Int) ^ k) = ((2 ^ k : Nat) : Int) := by simp [Int.natCast_pow]
theorem tdiv_fits (n : Int) (m : Nat) (hn : Fits n) : Fits (n.tdiv m) := by
  obtain ⟨h0, h1⟩ := hn
  by_cases hs : 0 ≤ n
  · obtain ⟨k, rfl⟩ : ∃ k : Nat, n = k := ⟨n.toNat, by omega⟩
    have h2 : k / m ≤ k := Nat.div_le_self _ _
    have h3 : (k : Int).tdiv (m : Int) = ((k / m : Nat) : Int) := rfl
    rw [h3]
    generalize k / m = q at *
    unfold Fits; omega
  · obtain ⟨k, rfl⟩ : ∃ k : Nat, n = -k := ⟨n.natAbs, by omega⟩
    have h2 : k / m ≤ k := Nat.div_le_self _ _
    have h3 : (-(k : Int)).tdiv (m : Int) = -((k / m : Nat) : Int) := by rw [Int.neg_tdiv]; congr 1
    rw [h3]
    generalize k / m = q at *
    unfold Fits; omega
set_option maxHeartbeats 400000 in
theorem Halves_any (n k : Int) (w : World) (hn : Fits n) :
    Calls Try.prog 57 #[.int .i64 n, .int .i64 k] w fun e w' => e = .returned (.int .i64 (halves n k)) ∧ w = w' := by
  by_cases h0 : k < 1
  · go_enter Try.func57, Try.ntmps57
    go_wp2
    go_ret
    exact ⟨ret1 (by unfold halves; rw [if_pos (by omega)]), rfl⟩
  · by_cases h1 : k > 62
    · go_enter Try.func57, Try.ntmps57
      go_wp2
      go_ret
      exact ⟨ret1 (by unfold halves; rw [if_neg (by omega), if_pos (by omega)]), rfl⟩
    · obtain ⟨j, rfl⟩ : ∃ j : Nat, k = j := ⟨k.toNat, by omega⟩
      have hp : 2 ^ j < 9223372036854775808 := Nat.lt_of_lt_of_le (Nat.pow_lt_pow_right (by omega) (by omega : j < 63)) (by decide)
      have hp0 : 0 < 2 ^ j := Nat.two_pow_pos j
      have hw0 : wrap64 ((2 : Int) ^ j) = ((2 ^ j : Nat) : Int) := by
        rw [cast_pow]
        generalize 2 ^ j = q at *
        unfold wrap64; omega
      have hz : ¬ wrap64 ((2 : Int) ^ j) = 0 := by
        rw [hw0]; generalize 2 ^ j = q at *; omega
      have ht := tdiv_fits n (2 ^ j) hn
      have hw := hid hw0
      have E := hid (show wrap64 (n.tdiv (wrap64 ((2 : Int) ^ j))) = halves n j by
        rw [hw0]
        unfold halves; rw [if_neg (by omega), if_neg (by omega)]
        rw [show ((j : Int)).toNat = j from rfl, cast_pow]
        unfold Fits at ht
        generalize n.tdiv ((2 ^ j : Nat) : Int) = q at *
        unfold wrap64; omega)
      clear hw0 ht
      go_enter Try.func57, Try.ntmps57
      go_wp2
      go_ret
      exact ⟨ret1 E.out, rfl⟩
end Go.Proofs.Ytmbgcphiigmdjaa.Ss
