/-
  The product.
-/
import Derived.Test.YtdbefcnjoplncaaSScale
namespace Go.Proofs.Ytdbefcnjoplncaa
open Go.RowKit

/-- What goes round is told by the quotient. -/
theorem mul_round (a b N : Int) (hb0 : ¬ b = 0) (hb : Fits b) (hN : Fits N) (hm : ∃ k : Int, a * b = N + 18446744073709551616 * k) (hq : N.tdiv b = a) : a * b = N := by
  obtain ⟨k, hk⟩ := hm
  obtain ⟨b0, b1⟩ := hb
  obtain ⟨n0, n1⟩ := hN
  have h1 := Int.tdiv_mul_add_tmod N b
  rw [hq] at h1
  have h2 := Int.natAbs_tmod N b
  have h3 : N.natAbs % b.natAbs < b.natAbs := Nat.mod_lt _ (by omega)
  omega
theorem wrap_mod (n : Int) : ∃ k : Int, n = wrap64 n + 18446744073709551616 * k :=
  ⟨(n + 9223372036854775808) / 18446744073709551616, by unfold wrap64; omega⟩
theorem wrap_fits (n : Int) : Fits (wrap64 n) := by unfold wrap64 Fits; omega
theorem wrap_same (n : Int) (h : Fits n) : wrap64 n = n := by unfold Fits at h; unfold wrap64; omega

/-- Where it does not go round: the quotient is the factor. -/
theorem quo_in (a b : Int) (ha : Fits a) (hb0 : ¬ b = 0) (h : Fits (a * b)) : wrap64 ((wrap64 (a * b)).tdiv b) = a := by
  rw [wrap_same _ h, Int.mul_tdiv_cancel _ hb0, wrap_same _ ha]
/-- Where it does: it is not, but for the least int over -1. -/
theorem quo_out (a b : Int) (ha : Fits a) (hb : Fits b) (hb0 : ¬ b = 0) (h : ¬ Fits (a * b)) (hs : ¬ (b = -1 ∧ a = -9223372036854775808)) : ¬ wrap64 ((wrap64 (a * b)).tdiv b) = a := by
  intro hq
  have hN := wrap_fits (a * b)
  have hm := wrap_mod (a * b)
  generalize wrap64 (a * b) = N at *
  have hf : Fits (N.tdiv b) := by
    by_cases hb1 : b = -1
    · subst hb1
      rw [Int.tdiv_neg, Int.tdiv_one] at hq ⊢
      unfold Fits wrap64 at *
      omega
    · obtain ⟨n0, n1⟩ := hN
      have h2 : (N.tdiv b).natAbs = N.natAbs / b.natAbs := Int.natAbs_tdiv N b
      by_cases h1 : b = 1
      · subst h1; rw [Int.tdiv_one]; exact ⟨n0, n1⟩
      · have h3 : N.natAbs / b.natAbs ≤ N.natAbs / 2 := Nat.div_le_div_left (by omega) (by omega)
        generalize N.natAbs / b.natAbs = q at *
        unfold Fits; omega
  rw [wrap_same _ hf] at hq
  exact h (mul_round a b N hb0 hb hN hm hq ▸ hN)

set_option maxHeartbeats 400000 in
theorem Mul_any (a b : Int) (w : World) (ha : Fits a) (hb : Fits b) :
    Calls Try.prog 13 #[.int .i64 a, .int .i64 b] w fun e w' => e = .returned (.tuple #[.int .i64 (got (a * b)), .int .i64 (err (a * b))]) ∧ w = w' := by
  by_cases h0 : b = 0
  · subst h0
    rw [Int.mul_zero, got_in (by decide), err_in (by decide)]
    go_enter Try.func13, Try.ntmps13
    go_wp2
    go_ret2
    exact ⟨rfl, rfl⟩
  · by_cases hs : b = -1 ∧ a = -9223372036854775808
    · obtain ⟨rfl, rfl⟩ := hs
      rw [got_out (by decide), err_out (by decide)]
      go_enter Try.func13, Try.ntmps13
      go_wp2
      all_goals
        go_ret2
        exact ⟨rfl, rfl⟩
    · by_cases h : Fits (a * b)
      · have E := quo_in a b ha h0 h
        have F := hid (wrap_same _ h)
        have S := hid hs
        rw [got_in h, err_in h]
        clear h hs
        go_enter Try.func13, Try.ntmps13
        go_wp2
        all_goals
          first
            | (exfalso; exact S.out ⟨‹b = -1›, eq_of_beq ‹(a == -9223372036854775808) = true›⟩)
            | (go_ret2; exact ⟨ret2 F.out rfl, rfl⟩)
            | (go_ret2; exact ⟨ret2 (by rw [← F.out, ‹b = -1›, Int.mul_neg, Int.mul_one]) rfl, rfl⟩)
      · have E := quo_out a b ha hb h0 h hs
        rw [got_out h, err_out h]
        clear h hs
        go_enter Try.func13, Try.ntmps13
        go_wp2
        go_ret2
        exact ⟨rfl, rfl⟩
end Go.Proofs.Ytdbefcnjoplncaa
