/-
  Parts: SLeaf SScale SHalves SHalf SDiv SDivM SDivN.
-/
import Derived.Test.YtmbgcphiigmdjaaRows
import Derived.WalkKit
import Derived.WalkSpells
import Derived.WalkLawsBesides
import Derived.Test.YtmbgcphiigmdjaaSShelf
import Derived.BigQuiet
import Derived.ProofKit
import Derived.OpenShut
import Derived.Laws.Bits64b
import Derived.Below
import Derived.Lib.BitFns
set_option linter.unusedSimpArgs false
set_option linter.unusedVariables false
/-
  The leaves of package safe and of its reference: what each small function answers, for every argument.
-/
namespace Go.Proofs.Ytmbgcphiigmdjaa.Ss
open Go.RowKit

/-- A number is an int of 64 bits. -/
def Fits (n : Int) : Prop := -9223372036854775808 ≤ n ∧ n ≤ 9223372036854775807
instance (n : Int) : Decidable (Fits n) := inferInstanceAs (Decidable (_ ∧ _))
/-- What is answered, and the error, where n is asked for. -/
def got (n : Int) : Int := if Fits n then n else 0
def err (n : Int) : Int := if Fits n then 0 else 5
theorem got_in {n : Int} (h : Fits n) : got n = n := if_pos h
theorem err_in {n : Int} (h : Fits n) : err n = 0 := if_pos h
theorem got_out {n : Int} (h : ¬ Fits n) : got n = 0 := if_neg h
theorem err_out {n : Int} (h : ¬ Fits n) : err n = 5 := if_neg h
theorem ret2 {a b c d : Int} {k : IntKind} (h : a = b) (h' : c = d) : Ending.returned (.tuple #[.int k a, .int .i64 c]) = .returned (.tuple #[.int k b, .int .i64 d]) := by rw [h, h']
theorem ret1 {k : IntKind} {a b : Int} (h : a = b) : Ending.returned (.int k a) = .returned (.int k b) := by rw [h]
theorem hid {p : Prop} (h : p) : Hid p := h

set_option maxHeartbeats 400000 in
theorem Add_any (a b : Int) (w : World) (ha : Fits a) (hb : Fits b) :
    Calls Try.prog 56 #[.int .i64 a, .int .i64 b] w fun e w' => e = .returned (.tuple #[.int .i64 (got (a + b)), .int .i64 (err (a + b))]) ∧ w = w' := by
  obtain ⟨ha0, ha1⟩ := ha
  obtain ⟨hb0, hb1⟩ := hb
  by_cases h0 : b > 0
  · have h1 : ¬ b < 0 := by omega
    by_cases h2 : a > 9223372036854775807 - b
    all_goals
      go_enter Try.func56, Try.ntmps56
      go_wp2
      go_ret2
      first
        | exact ⟨ret2 (got_out (by unfold Fits; omega)).symm (err_out (by unfold Fits; omega)).symm, rfl⟩
        | exact ⟨ret2 (got_in (by unfold Fits; omega)).symm (err_in (by unfold Fits; omega)).symm, rfl⟩
  · by_cases h1 : b < 0
    · by_cases h2 : a < -9223372036854775808 - b
      all_goals
        go_enter Try.func56, Try.ntmps56
        go_wp2
        go_ret2
        first
          | exact ⟨ret2 (got_out (by unfold Fits; omega)).symm (err_out (by unfold Fits; omega)).symm, rfl⟩
          | exact ⟨ret2 (got_in (by unfold Fits; omega)).symm (err_in (by unfold Fits; omega)).symm, rfl⟩
    · go_enter Try.func56, Try.ntmps56
      go_wp2
      go_ret2
      exact ⟨ret2 (got_in (by unfold Fits; omega)).symm (err_in (by unfold Fits; omega)).symm, rfl⟩
/-- The sum as far as it goes. -/
def most (n : Int) : Int := if Fits n then n else if n < 0 then -9223372036854775808 else 9223372036854775807
set_option maxHeartbeats 400000 in
theorem Most_any (a b : Int) (w : World) (ha : Fits a) (hb : Fits b) :
    Calls Try.prog 35 #[.int .i64 a, .int .i64 b] w fun e w' => e = .returned (.int .i64 (most (a + b))) ∧ w = w' := by
  have c := fun w => Add_any a b w ha hb
  obtain ⟨ha0, ha1⟩ := ha
  obtain ⟨hb0, hb1⟩ := hb
  by_cases h : Fits (a + b)
  · simp only [got_in h, err_in h] at c
    go_enter Try.func35, Try.ntmps35
    go_wp2_with (go_at_call 56; refine (c _).mono ?_; rintro e w' ⟨rfl, rfl⟩)
    go_ret
    exact ⟨ret1 (if_pos h).symm, rfl⟩
  · simp only [got_out h, err_out h] at c
    by_cases h0 : a < 0
    all_goals
      go_enter Try.func35, Try.ntmps35
      go_wp2_with (go_at_call 56; refine (c _).mono ?_; rintro e w' ⟨rfl, rfl⟩)
      go_ret
      exact ⟨ret1 (by unfold Fits at h; unfold most Fits; (repeat' split) <;> omega), rfl⟩
/-- A number, halved so often. -/
def halves (n k : Int) : Int := if k < 1 then n else if k > 62 then 0 else n.tdiv (2 ^ k.toNat)
theorem cast_pow (k : Nat) : ((2 : Int) ^ k) = ((2 ^ k : Nat) : Int) := by simp [Int.natCast_pow]
theorem tdiv_fits (n : Int) (m : Nat) (hn : Fits n) : Fits (n.tdiv m) := by
  obtain ⟨h0, h1⟩ := hn
  by_cases hs : 0 ≤ n
  · obtain ⟨k, rfl⟩ : ∃ k : Nat, n = k := ⟨n.toNat, by omega⟩
    have h2 : k / m ≤ k := Nat.div_le_self _ _
    have h3 : (k : Int).tdiv (m : Int) = ((k / m : Nat) : Int) := rfl
    rw [h3]
    generalize k / m = q at *
    unfold Fits; omega
  · obtain ⟨k, rfl⟩ : ∃ k : Nat, n = -k := ⟨n.natAbs, by omega⟩
    have h2 : k / m ≤ k := Nat.div_le_self _ _
    have h3 : (-(k : Int)).tdiv (m : Int) = -((k / m : Nat) : Int) := by rw [Int.neg_tdiv]; congr 1
    rw [h3]
    generalize k / m = q at *
    unfold Fits; omega
set_option maxHeartbeats 400000 in
theorem Halves_any (n k : Int) (w : World) (hn : Fits n) :
    Calls Try.prog 57 #[.int .i64 n, .int .i64 k] w fun e w' => e = .returned (.int .i64 (halves n k)) ∧ w = w' := by
  by_cases h0 : k < 1
  · go_enter Try.func57, Try.ntmps57
    go_wp2
    go_ret
    exact ⟨ret1 (by unfold halves; rw [if_pos (by omega)]), rfl⟩
  · by_cases h1 : k > 62
    · go_enter Try.func57, Try.ntmps57
      go_wp2
      go_ret
      exact ⟨ret1 (by unfold halves; rw [if_neg (by omega), if_pos (by omega)]), rfl⟩
    · obtain ⟨j, rfl⟩ : ∃ j : Nat, k = j := ⟨k.toNat, by omega⟩
      have hp : 2 ^ j < 9223372036854775808 := Nat.lt_of_lt_of_le (Nat.pow_lt_pow_right (by omega) (by omega : j < 63)) (by decide)
      have hp0 : 0 < 2 ^ j := Nat.two_pow_pos j
      have hw0 : wrap64 ((2 : Int) ^ j) = ((2 ^ j : Nat) : Int) := by
        rw [cast_pow]
        generalize 2 ^ j = q at *
        unfold wrap64; omega
      have hz : ¬ wrap64 ((2 : Int) ^ j) = 0 := by
        rw [hw0]; generalize 2 ^ j = q at *; omega
      have ht := tdiv_fits n (2 ^ j) hn
      have hw := hid hw0
      have E := hid (show wrap64 (n.tdiv (wrap64 ((2 : Int) ^ j))) = halves n j by
        rw [hw0]
        unfold halves; rw [if_neg (by omega), if_neg (by omega)]
        rw [show ((j : Int)).toNat = j from rfl, cast_pow]
        unfold Fits at ht
        generalize n.tdiv ((2 ^ j : Nat) : Int) = q at *
        unfold wrap64; omega)
      clear hw0 ht
      go_enter Try.func57, Try.ntmps57
      go_wp2
      go_ret
      exact ⟨ret1 E.out, rfl⟩
end Go.Proofs.Ytmbgcphiigmdjaa.Ss
/-
  A product over a number: what 'scaled' answers, by the contract of the long division; the short one; shares.
-/
namespace Go.Proofs.Ytmbgcphiigmdjaa.Ss
open Go.RowKit

/-- The short division. -/
theorem Div64_short (lo y : Nat) (hl : lo < 18446744073709551616) (hy0 : 0 < y) (hy : y < 18446744073709551616) (w : World) :
    Calls Try.prog 55 #[.int .u64 0, .int .u64 lo, .int .u64 y] w
      fun e w' => e = .returned (.tuple #[.int .u64 ((lo / y : Nat) : Int), .int .u64 ((lo % y : Nat) : Int)]) ∧ ∃ n, w' = w.drewN n := by
  have hq : IntKind.u64.wrap ((lo : Int) / (y : Int)) = ((lo / y : Nat) : Int) := by
    have : lo / y ≤ lo := Nat.div_le_self _ _
    rw [← Int.natCast_ediv]
    generalize lo / y = q at *
    rw [IntKind.wrap_u64]; omega
  have E : Hid (Ending.returned (.tuple #[.int .u64 (IntKind.u64.wrap ((lo : Int) / (y : Int))), .int .u64 ((lo : Int) % (y : Int))]) = .returned (.tuple #[.int .u64 ((lo / y : Nat) : Int), .int .u64 ((lo % y : Nat) : Int)])) := hid (by rw [hq, Int.natCast_emod])
  clear hq
  have hy1 : ¬ (y : Int) = 0 := by omega
  go_enter Try.func55, Try.ntmps55
  go_wp2_with fail
  go_quiet (fail)
  go_wp2
  go_ret2
  exact ⟨E.out, ⟨_, rfl⟩⟩

end Go.Proofs.Ytmbgcphiigmdjaa.Ss
/-
  SafeHalves's walk: halves go on.
-/
namespace Go.Proofs.Ytmbgcphiigmdjaa.Ss
open Go.RowKit

theorem tdiv_tdiv (n : Int) (a b : Nat) : (n.tdiv a).tdiv b = n.tdiv ((a * b : Nat) : Int) := by
  by_cases h : 0 ≤ n
  · obtain ⟨q, rfl⟩ : ∃ q : Nat, n = q := ⟨n.toNat, by omega⟩
    show ((q / a / b : Nat) : Int) = ((q / (a * b) : Nat) : Int)
    rw [Nat.div_div_eq_div_mul]
  · obtain ⟨q, rfl⟩ : ∃ q : Nat, n = -q := ⟨n.natAbs, by omega⟩
    rw [Int.neg_tdiv, Int.neg_tdiv, Int.neg_tdiv]
    show -((q / a / b : Nat) : Int) = -((q / (a * b) : Nat) : Int)
    rw [Nat.div_div_eq_div_mul]
/-- None is farther from 0 than before. -/
theorem halves_near (n k : Int) : (0 ≤ n → 0 ≤ halves n k ∧ halves n k ≤ n) ∧ (n < 0 → halves n k ≤ 0 ∧ n ≤ halves n k) := by
  unfold halves
  split
  · omega
  · split
    · omega
    · rw [cast_pow]
      generalize 2 ^ k.toNat = m
      constructor
      · intro h
        obtain ⟨q, rfl⟩ : ∃ q : Nat, n = q := ⟨n.toNat, by omega⟩
        have h2 : q / m ≤ q := Nat.div_le_self _ _
        have h3 : (q : Int).tdiv (m : Int) = ((q / m : Nat) : Int) := rfl
        rw [h3]
        generalize q / m = r at *
        omega
      · intro h
        obtain ⟨q, rfl⟩ : ∃ q : Nat, n = -q := ⟨n.natAbs, by omega⟩
        have h2 : q / m ≤ q := Nat.div_le_self _ _
        have h3 : (-(q : Int)).tdiv (m : Int) = -((q / m : Nat) : Int) := by rw [Int.neg_tdiv]; congr 1
        rw [h3]
        generalize q / m = r at *
        omega
/-- k and then j are k and j. -/
theorem halves_on (n k j : Int) (h : ¬ k + j > 62) (hk : 0 ≤ k) (hj : 0 ≤ j) : halves (halves n k) j = halves n (k + j) := by
  by_cases k0 : k < 1
  · obtain rfl : k = 0 := by omega
    rw [show halves n 0 = n from if_pos (by omega), Int.zero_add]
  · by_cases j0 : j < 1
    · obtain rfl : j = 0 := by omega
      rw [Int.add_zero]; exact if_pos (by omega)
    · obtain ⟨a, rfl⟩ : ∃ q : Nat, k = q := ⟨k.toNat, by omega⟩
      obtain ⟨b, rfl⟩ : ∃ q : Nat, j = q := ⟨j.toNat, by omega⟩
      unfold halves
      rw [if_neg j0, if_neg k0, if_neg (by omega), if_neg (by omega), if_neg (by omega), if_neg (by omega)]
      rw [show ((a : Int)).toNat = a from rfl, show ((b : Int)).toNat = b from rfl, show ((a : Int) + (b : Int)).toNat = a + b from rfl]
      rw [cast_pow, cast_pow, cast_pow, Nat.pow_add]
      exact tdiv_tdiv n _ _

end Go.Proofs.Ytmbgcphiigmdjaa.Ss
/-
  Plain facts under the long division of 128 by 64 bits: one half of the quotient.
-/
namespace Go.Proofs.Ytmbgcphiigmdjaa.Ss
variable {n1 n0 u v q r : Nat}

theorem whole_mul (q n1 n0 : Nat) : q * (n1 * 4294967296 + n0) = q * n1 * 4294967296 + q * n0 := by
  rw [Nat.mul_add, Nat.mul_assoc]
/-- The half is below 2^32. -/
theorem half_lt (hu : u < n1 * 4294967296 + n0) (hv : v < 4294967296) : (u * 4294967296 + v) / (n1 * 4294967296 + n0) < 4294967296 := by
  rw [Nat.div_lt_iff_lt_mul (by omega)]
  omega
/-- What fits is no greater than it. -/
theorem half_le (hy : 0 < n1) (hq : q * n1 + r = u) (h : q * n0 ≤ 4294967296 * r + v) : q ≤ (u * 4294967296 + v) / (n1 * 4294967296 + n0) := by
  rw [Nat.le_div_iff_mul_le (by omega), whole_mul]
  generalize q * n1 = x at *
  generalize q * n0 = y at *
  omega
/-- What does not fit is greater. -/
theorem half_gt (hy : 0 < n1) (hq : q * n1 + r = u) (h : 4294967296 * r + v < q * n0) : (u * 4294967296 + v) / (n1 * 4294967296 + n0) < q := by
  rw [Nat.div_lt_iff_lt_mul (by omega), whole_mul]
  generalize q * n1 = x at *
  generalize q * n0 = y at *
  omega
/-- The first guess is no smaller. -/
theorem half_guess (hy : 0 < n1) (hv : v < 4294967296) : (u * 4294967296 + v) / (n1 * 4294967296 + n0) ≤ u / n1 := by
  rw [Nat.le_div_iff_mul_le hy]
  have h := Nat.div_mul_le_self (u * 4294967296 + v) (n1 * 4294967296 + n0)
  rw [whole_mul] at h
  generalize (u * 4294967296 + v) / (n1 * 4294967296 + n0) = Q at *
  generalize Q * n1 = x at *
  generalize Q * n0 = y at *
  omega
/-- It is at most one above 2^32. -/
theorem half_guess_le (h1 : 2147483648 ≤ n1) (h0 : n0 < 4294967296) (hu : u < n1 * 4294967296 + n0) : u / n1 ≤ 4294967297 := by
  have : u / n1 < 4294967298 := by
    rw [Nat.div_lt_iff_lt_mul (by omega)]
    omega
  omega
/-- Behind a stop: what is left is so great that the guess fits. -/
theorem half_stop (h0 : n0 < 4294967296) (hq : q ≤ 4294967296) (hr : 4294967296 ≤ r) : q * n0 ≤ 4294967296 * r + v := by
  have : q * n0 ≤ 4294967296 * 4294967295 := Nat.mul_le_mul hq (by omega)
  omega
/-- Both halves make the whole quotient and its remainder. -/
theorem halves_join (k v0 Y : Nat) (hY : 0 < Y) :
    k / Y * 4294967296 + (k % Y * 4294967296 + v0) / Y = (k * 4294967296 + v0) / Y ∧ (k % Y * 4294967296 + v0) % Y = (k * 4294967296 + v0) % Y := by
  have h := Nat.div_add_mod' k Y
  have e : k * 4294967296 + v0 = (k % Y * 4294967296 + v0) + Y * (k / Y * 4294967296) := by
    have h2 : k * 4294967296 = (k / Y * Y + k % Y) * 4294967296 := by rw [h]
    rw [h2, Nat.add_mul, Nat.mul_comm Y, Nat.mul_right_comm]
    omega
  rw [e, Nat.add_mul_div_left _ _ hY, Nat.add_mul_mod_self_left]
  exact ⟨Nat.add_comm _ _, rfl⟩
end Go.Proofs.Ytmbgcphiigmdjaa.Ss
/-
  The reference's share of a part: long division.
-/
namespace Go.Proofs.Ytmbgcphiigmdjaa.Ss
open Go.RowKit

end Go.Proofs.Ytmbgcphiigmdjaa.Ss
/-
  Plain facts under the long division of 128 by 64 bits: each step's value as a natural number.
-/
namespace Go.Proofs.Ytmbgcphiigmdjaa.Ss
open Go.RowKit

theorem or_add {a b k : Nat} (hb : b < 2 ^ k) : a * 2 ^ k ||| b = a * 2 ^ k + b := by
  rw [Nat.mul_comm]; exact (Nat.two_pow_add_eq_or_of_lt hb a).symm
theorem and_low (a : Nat) (ha : a < 18446744073709551616) : bits .and .u64 (a : Int) 4294967295 = ((a % 4294967296 : Nat) : Int) := by
  have h := bits_and_u64_nat a 4294967295 ha (by omega)
  rw [show ((4294967295 : Nat) : Int) = 4294967295 from rfl] at h
  rw [h, show (4294967295 : Nat) = 2 ^ 32 - 1 by decide, Nat.and_two_pow_sub_one_eq_mod]
theorem wrap_mod (a : Nat) : IntKind.u64.wrap (a : Int) = ((a % 18446744073709551616 : Nat) : Int) := by
  rw [IntKind.wrap_u64]; omega
theorem wrap_sub_mul (a b c : Nat) (h : b ≤ a) (hc : a - b = c) (hl : c < 18446744073709551616) (A B : Int) (hA : A % 18446744073709551616 = (a : Int) % 18446744073709551616) (hB : B % 18446744073709551616 = (b : Int) % 18446744073709551616) : IntKind.u64.wrap (A - B) = (c : Int) := by
  rw [IntKind.wrap_u64]; omega
/-- One half's facts, on natural numbers: u below Y, the digit v below 2^32. -/
theorem half_all (n1 n0 u v : Nat) (h1 : 2147483648 ≤ n1) (h1' : n1 < 4294967296) (h0 : n0 < 4294967296) (hu : u < n1 * 4294967296 + n0) (hv : v < 4294967296) (Q : Nat) (hQ : (u * 4294967296 + v) / (n1 * 4294967296 + n0) = Q) :
    (IntKind.u64.wrap ((u : Int).tdiv n1) = ((u / n1 : Nat) : Int)) ∧
    (IntKind.u64.wrap ((u : Int) - IntKind.u64.wrap (((u / n1 : Nat) : Int) * n1)) = ((u % n1 : Nat) : Int)) ∧
    (0 ≤ ((u / n1 : Nat) : Int) ∧ ((u / n1 : Nat) : Int) ≤ 4294967297 ∧ 0 ≤ ((u % n1 : Nat) : Int) ∧ ((u % n1 : Nat) : Int) < 4294967296 ∧ ((u / n1 : Nat) : Int) * n1 + ((u % n1 : Nat) : Int) = u ∧ (Q : Int) ≤ ((u / n1 : Nat) : Int)) ∧
    (∀ q r : Int, 0 ≤ q → 0 ≤ r → q * n1 + r = u → 4294967296 * r + v < q * n0 → (Q : Int) < q) ∧
    (∀ q r : Int, 0 ≤ q → 0 ≤ r → q * n1 + r = u → q * n0 ≤ 4294967296 * r + v → q ≤ (Q : Int)) ∧
    (∀ q r : Int, 0 ≤ q → q ≤ 4294967296 → 4294967296 ≤ r → q * n1 + r = u → q ≤ (Q : Int)) ∧
    (0 ≤ (Q : Int) ∧ (Q : Int) < 4294967296) := by
  subst hQ
  have hg := half_guess (u := u) (n1 := n1) (n0 := n0) (v := v) (by omega) hv
  have hgl := half_guess_le (u := u) (n1 := n1) (n0 := n0) h1 h0 hu
  have hlt := half_lt (u := u) (n1 := n1) (n0 := n0) (v := v) hu hv
  have hdm := Nat.div_add_mod' u n1
  have hm : u % n1 < n1 := Nat.mod_lt _ (by omega)
  have hul : u < 18446744073709551616 := by omega
  have hle : u / n1 ≤ u := Nat.div_le_self _ _
  have hcast : ((u / n1 : Nat) : Int) * n1 = ((u / n1 * n1 : Nat) : Int) := by rw [Int.natCast_mul]
  refine ⟨?_, ?_, ?_, ?_, ?_, ?_, ?_⟩
  · show IntKind.u64.wrap ((u / n1 : Nat) : Int) = _
    rw [wrap_mod]; congr 1; exact Nat.mod_eq_of_lt (by omega)
  · rw [hcast, wrap_mod]
    exact wrap_sub_mul u (u / n1 * n1) (u % n1) (by omega) (by omega) (by omega) _ _ rfl (by omega)
  · clear hcast
    generalize (u * 4294967296 + v) / (n1 * 4294967296 + n0) = Q at *
    generalize u / n1 = q at *
    generalize u % n1 = m at *
    refine ⟨by omega, by omega, by omega, by omega, ?_, by omega⟩
    rw [← Int.natCast_mul]; omega
  · intro q r hq hr he hl
    obtain ⟨q, rfl⟩ := Int.eq_ofNat_of_zero_le hq
    obtain ⟨r, rfl⟩ := Int.eq_ofNat_of_zero_le hr
    have := half_gt (n1 := n1) (n0 := n0) (u := u) (v := v) (q := q) (r := r) (by omega) (by rw [← Int.natCast_mul, ← Int.natCast_add] at he; exact Int.ofNat_inj.1 he) (by rw [← Int.natCast_mul] at hl; omega)
    omega
  · intro q r hq hr he hl
    obtain ⟨q, rfl⟩ := Int.eq_ofNat_of_zero_le hq
    obtain ⟨r, rfl⟩ := Int.eq_ofNat_of_zero_le hr
    have := half_le (n1 := n1) (n0 := n0) (u := u) (v := v) (q := q) (r := r) (by omega) (by rw [← Int.natCast_mul, ← Int.natCast_add] at he; exact Int.ofNat_inj.1 he) (by rw [← Int.natCast_mul] at hl; omega)
    omega
  · intro q r hq hq2 hr he
    obtain ⟨q, rfl⟩ := Int.eq_ofNat_of_zero_le hq
    obtain ⟨r, rfl⟩ := Int.eq_ofNat_of_zero_le (show 0 ≤ r by omega)
    have hs := half_stop (n0 := n0) (v := v) (q := q) (r := r) h0 (by omega) (by omega)
    have := half_le (n1 := n1) (n0 := n0) (u := u) (v := v) (q := q) (r := r) (by omega) (by rw [← Int.natCast_mul, ← Int.natCast_add] at he; exact Int.ofNat_inj.1 he) hs
    omega
  · exact ⟨Int.natCast_nonneg _, by generalize (u * 4294967296 + v) / (n1 * 4294967296 + n0) = Q at *; omega⟩
/-- What is left behind one half. -/
theorem half_rest (u v Y : Nat) (hY : 0 < Y) (hYl : Y < 18446744073709551616) :
    IntKind.u64.wrap (IntKind.u64.wrap (IntKind.u64.wrap ((u : Int) * 4294967296) + (v : Int)) - IntKind.u64.wrap ((((u * 4294967296 + v) / Y : Nat) : Int) * (Y : Int))) = (((u * 4294967296 + v) % Y : Nat) : Int) := by
  have hdm := Nat.div_add_mod' (u * 4294967296 + v) Y
  have hm : (u * 4294967296 + v) % Y < Y := Nat.mod_lt _ hY
  have hcast : (((u * 4294967296 + v) / Y : Nat) : Int) * (Y : Int) = (((u * 4294967296 + v) / Y * Y : Nat) : Int) := by rw [Int.natCast_mul]
  rw [hcast]
  refine wrap_sub_mul (u * 4294967296 + v) ((u * 4294967296 + v) / Y * Y) _ (by omega) (by omega) (by omega) _ _ ?_ ?_
  · rw [IntKind.wrap_u64, IntKind.wrap_u64]; omega
  · rw [IntKind.wrap_u64]; omega
end Go.Proofs.Ytmbgcphiigmdjaa.Ss
/-
  Plain facts under the long division of 128 by 64 bits: the shift that makes the divisor great, and the words of what is divided.
-/
namespace Go.Proofs.Ytmbgcphiigmdjaa.Ss
open Go.RowKit

theorem bitLen_bounds : ∀ (n x : Nat), x ≤ n → x ≠ 0 → x < 2 ^ 64 → 1 ≤ Lib.bitLen x ∧ 2 ^ (Lib.bitLen x - 1) ≤ x ∧ x < 2 ^ Lib.bitLen x
  | 0, x, hn, h0, _ => absurd (Nat.le_zero.1 hn) h0
  | n + 1, x, hn, h0, h => by
    have hb := Lib.bitLen_half x h0 h
    by_cases h1 : x / 2 = 0
    · have hx : x = 1 := by omega
      subst hx
      rw [hb, h1]
      have : Lib.bitLen 0 = 0 := by decide
      rw [this]; decide
    · obtain ⟨a, b, c⟩ := bitLen_bounds n (x / 2) (by omega) h1 (by omega)
      rw [hb]
      obtain ⟨k, hk⟩ : ∃ k, Lib.bitLen (x / 2) = k + 1 := ⟨Lib.bitLen (x / 2) - 1, by omega⟩
      rw [hk] at b c ⊢
      rw [show k + 1 - 1 = k by omega] at b
      rw [show 1 + (k + 1) - 1 = k + 1 by omega, show 1 + (k + 1) = k + 1 + 1 by omega, Nat.pow_succ 2 (k + 1)]
      rw [Nat.pow_succ] at c ⊢
      omega
theorem bitLen_le (x : Nat) (h0 : x ≠ 0) (h : x < 2 ^ 64) : Lib.bitLen x ≤ 64 := by
  have hb := bitLen_bounds x x (Nat.le_refl _) h0 h
  rcases Nat.lt_or_ge 64 (Lib.bitLen x) with hc | hc
  · have h2 : 2 ^ 64 ≤ 2 ^ (Lib.bitLen x - 1) := Nat.pow_le_pow_right (by omega) (by omega)
    omega
  · exact hc
/-- The shift makes the divisor great. -/
theorem shift_great (y : Nat) (h0 : y ≠ 0) (h : y < 18446744073709551616) : ∃ s : Nat, s < 64 ∧ (s : Int) = 64 - (Lib.bitLen y : Int) ∧ 9223372036854775808 ≤ y * 2 ^ s ∧ y * 2 ^ s < 18446744073709551616 := by
  have hb := bitLen_bounds y y (Nat.le_refl _) h0 h
  have hl := bitLen_le y h0 h
  refine ⟨64 - Lib.bitLen y, by omega, by omega, ?_, ?_⟩
  · have h1 : 2 ^ (Lib.bitLen y - 1) * 2 ^ (64 - Lib.bitLen y) ≤ y * 2 ^ (64 - Lib.bitLen y) := Nat.mul_le_mul_right _ hb.2.1
    rw [← Nat.pow_add, show Lib.bitLen y - 1 + (64 - Lib.bitLen y) = 63 by omega] at h1
    omega
  · have h1 : y * 2 ^ (64 - Lib.bitLen y) < 2 ^ Lib.bitLen y * 2 ^ (64 - Lib.bitLen y) := Nat.mul_lt_mul_of_pos_right hb.2.2 (Nat.two_pow_pos _)
    rw [← Nat.pow_add, show Lib.bitLen y + (64 - Lib.bitLen y) = 64 by omega] at h1
    omega
/-- A word, moved up: what goes over, and what stays. -/
theorem moved_up (lo s : Nat) (hs : s < 64) : lo * 2 ^ s = lo / 2 ^ (64 - s) * 18446744073709551616 + lo * 2 ^ s % 18446744073709551616 := by
  have h : lo * 2 ^ s / 18446744073709551616 = lo / 2 ^ (64 - s) := by
    have e : (18446744073709551616 : Nat) = 2 ^ (64 - s) * 2 ^ s := by rw [← Nat.pow_add, show 64 - s + s = 64 by omega]
    rw [e, Nat.mul_div_mul_right _ _ (Nat.two_pow_pos s)]
  have := Nat.div_add_mod' (lo * 2 ^ s) 18446744073709551616
  rw [h] at this
  omega
theorem over_lt (lo s : Nat) (hs : s < 64) (hlo : lo < 18446744073709551616) : lo / 2 ^ (64 - s) < 2 ^ s := by
  rw [Nat.div_lt_iff_lt_mul (Nat.two_pow_pos _), ← Nat.pow_add, show s + (64 - s) = 64 by omega]
  exact hlo
/-- The words: the high one and the low one of what is divided, moved up. -/
theorem words (hi lo y s : Nat) (hl : hi < y) (hlo : lo < 18446744073709551616) (hs : s < 64) (hy : y * 2 ^ s < 18446744073709551616) :
    ∃ u l1 : Nat, u < y * 2 ^ s ∧ l1 < 18446744073709551616 ∧ (hi * 18446744073709551616 + lo) * 2 ^ s = u * 18446744073709551616 + l1 ∧
      IntKind.u64.wrap ((hi : Int) * 2 ^ s) = ((hi * 2 ^ s : Nat) : Int) ∧
      bits .or .u64 ((hi * 2 ^ s : Nat) : Int) ((lo : Int) / 2 ^ (64 - s)) = (u : Int) ∧
      IntKind.u64.wrap ((lo : Int) * 2 ^ s) = (l1 : Int) := by
  have ho := over_lt lo s hs hlo
  have h1 : (hi + 1) * 2 ^ s ≤ y * 2 ^ s := Nat.mul_le_mul_right _ hl
  rw [Nat.add_mul, Nat.one_mul] at h1
  have hm := moved_up lo s hs
  have c1 : (hi : Int) * 2 ^ s = ((hi * 2 ^ s : Nat) : Int) := by rw [Int.natCast_mul, Int.natCast_pow]; rfl
  have c2 : (lo : Int) * 2 ^ s = ((lo * 2 ^ s : Nat) : Int) := by rw [Int.natCast_mul, Int.natCast_pow]; rfl
  have c3 : (lo : Int) / 2 ^ (64 - s) = ((lo / 2 ^ (64 - s) : Nat) : Int) := by rw [Int.natCast_ediv, Int.natCast_pow]; rfl
  refine ⟨hi * 2 ^ s + lo / 2 ^ (64 - s), lo * 2 ^ s % 18446744073709551616, by omega, Nat.mod_lt _ (by omega), ?_, ?_, ?_, ?_⟩
  · rw [Nat.add_mul, Nat.add_mul, Nat.mul_right_comm hi]; omega
  · rw [c1, wrap_mod, Nat.mod_eq_of_lt (by omega)]
  · rw [c3, bits_or_u64_nat _ _ (by omega) (by omega), or_add ho]
  · rw [c2, wrap_mod]
/-- The quotient and the remainder are those of what was not moved. -/
theorem moved_div (n y s : Nat) : n * 2 ^ s / (y * 2 ^ s) = n / y ∧ n * 2 ^ s % (y * 2 ^ s) / 2 ^ s = n % y := by
  refine ⟨Nat.mul_div_mul_right _ _ (Nat.two_pow_pos s), ?_⟩
  rw [Nat.mul_mod_mul_right, Nat.mul_div_cancel _ (Nat.two_pow_pos s)]
theorem cast_lt32 {n : Nat} (h : n < 4294967296) : (n : Int) < 4294967296 := by omega
theorem cast_lt64 {n : Nat} (h : n < 18446744073709551616) : (n : Int) < 18446744073709551616 := by omega
theorem cast_ne0 {n : Nat} (h : n ≠ 0) : ¬ (n : Int) = 0 := by omega
theorem wrap_lt {n : Nat} (h : n < 18446744073709551616) : IntKind.u64.wrap (n : Int) = (n : Int) := by rw [IntKind.wrap_u64]; omega
theorem cast_sub64 {s : Nat} (h : s < 64) : (64 - (s : Int)).toNat = 64 - s ∧ (s : Int) < 64 := by omega
theorem div32 (a b : Nat) (h : b < 4294967296) : ((a * 4294967296 + b : Nat) : Int) / 4294967296 = (a : Int) := by omega
/-- All that the walk asks, at natural numbers: n1, n0 the halves of the moved divisor, v1, v0 of the moved low word. -/
theorem long_facts (n1 n0 u v1 v0 : Nat) (hu : u < n1 * 4294967296 + n0) :
    ∃ Q U2 Q2 : Nat, U2 < n1 * 4294967296 + n0 ∧
      (u * 4294967296 + v1) / (n1 * 4294967296 + n0) = Q ∧ (u * 4294967296 + v1) % (n1 * 4294967296 + n0) = U2 ∧ (U2 * 4294967296 + v0) / (n1 * 4294967296 + n0) = Q2 ∧
      Q * 4294967296 + Q2 = (u * 18446744073709551616 + (v1 * 4294967296 + v0)) / (n1 * 4294967296 + n0) ∧
      (U2 * 4294967296 + v0) % (n1 * 4294967296 + n0) = (u * 18446744073709551616 + (v1 * 4294967296 + v0)) % (n1 * 4294967296 + n0) := by
  obtain ⟨a, b⟩ := halves_join (u * 4294967296 + v1) v0 (n1 * 4294967296 + n0) (by omega)
  rw [show (u * 4294967296 + v1) * 4294967296 + v0 = u * 18446744073709551616 + (v1 * 4294967296 + v0) by clear a b; omega] at a b
  exact ⟨_, _, _, Nat.mod_lt _ (by omega), rfl, rfl, rfl, a, b⟩
end Go.Proofs.Ytmbgcphiigmdjaa.Ss
