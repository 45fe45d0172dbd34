/-
  The reference's product.
-/
import Derived.Test.YtdbefcnjoplncaaSTimes
import Derived.Test.YtdbefcnjoplncaaSMul
namespace Go.Proofs.Ytdbefcnjoplncaa
open Go.RowKit

theorem signs (a b : Int) : (a < 0 ∧ b < 0 ∧ a * b = ((a.natAbs * b.natAbs : Nat) : Int)) ∨ (a < 0 ∧ ¬ b < 0 ∧ a * b = -((a.natAbs * b.natAbs : Nat) : Int)) ∨
    (¬ a < 0 ∧ b < 0 ∧ a * b = -((a.natAbs * b.natAbs : Nat) : Int)) ∨ (¬ a < 0 ∧ ¬ b < 0 ∧ a * b = ((a.natAbs * b.natAbs : Nat) : Int)) := by
  by_cases ha : a < 0
  · have ea : a = -(a.natAbs : Int) := by omega
    by_cases hb : b < 0
    · have eb : b = -(b.natAbs : Int) := by omega
      refine .inl ⟨ha, hb, ?_⟩
      rw [Int.natCast_mul]
      conv => lhs; rw [ea, eb]
      exact Int.neg_mul_neg _ _
    · have eb : b = (b.natAbs : Int) := by omega
      refine .inr (.inl ⟨ha, hb, ?_⟩)
      rw [Int.natCast_mul]
      conv => lhs; rw [ea, eb]
      exact Int.neg_mul _ _
  · have ea : a = (a.natAbs : Int) := by omega
    by_cases hb : b < 0
    · have eb : b = -(b.natAbs : Int) := by omega
      refine .inr (.inr (.inl ⟨ha, hb, ?_⟩))
      rw [Int.natCast_mul]
      conv => lhs; rw [ea, eb]
      exact Int.mul_neg _ _
    · have eb : b = (b.natAbs : Int) := by omega
      refine .inr (.inr (.inr ⟨ha, hb, ?_⟩))
      rw [Int.natCast_mul]
      conv => lhs; rw [ea, eb]

set_option maxRecDepth 100000 in
set_option maxHeartbeats 4000000 in
theorem rMul_any (a b : Int) (w : World) (ha : Fits a) (hb : Fits b) :
    Calls Try.prog 14 #[.int .i64 a, .int .i64 b] w fun e w' => e = .returned (.tuple #[.int .i64 (got (a * b)), .int .i64 (err (a * b))]) ∧ Below w.heap.size w w' := by
  have s1 := fun w => size_any a w ha
  have s2 := fun w => size_any b w hb
  have hs := signs a b
  obtain ⟨a0, a1⟩ := ha
  obtain ⟨b0, b1⟩ := hb
  have ct := fun w => rtimes_any a.natAbs b.natAbs w (by omega) (by omega)
  have hN : a.natAbs * b.natAbs ≤ 9223372036854775808 * 9223372036854775808 := Nat.mul_le_mul (by omega) (by omega)
  have cd := fun w => rdown_any (a.natAbs * b.natAbs) 0 w (by omega) (by omega)
  rw [Nat.pow_zero, Nat.div_one, show ((0 : Nat) : Int) = 0 from rfl] at cd
  generalize a.natAbs * b.natAbs = N at *
  generalize a.natAbs = x at *
  generalize b.natAbs = y at *
  generalize a * b = p at *
  clear hN a0 a1 b0 b1
  have F1 : Fits p → got p = p ∧ err p = 0 := fun h => ⟨got_in h, err_in h⟩
  have F2 : ¬ Fits p → got p = 0 ∧ err p = 5 := fun h => ⟨got_out h, err_out h⟩
  have hn0 : 0 ≤ (N : Int) := by omega
  by_cases h1 : N < 18446744073709551616
  · rw [if_pos h1, decide_eq_true h1] at cd
    clear h1
    generalize (N : Int) = n at *
    by_cases h2 : n > 9223372036854775808
    · obtain ⟨g0, g1⟩ := F2 (by rcases hs with ⟨_, _, h⟩ | ⟨_, _, h⟩ | ⟨_, _, h⟩ | ⟨_, _, h⟩ <;> (unfold Fits; omega))
      rw [g0, g1]
      have h3 : ¬ n = 9223372036854775808 := by omega
      clear F1 F2 g0 g1
      rcases hs with ⟨n1, n2, _⟩ | ⟨n1, n2, _⟩ | ⟨n1, n2, _⟩ | ⟨n1, n2, _⟩
      all_goals
        first | replace n1 := decide_eq_false n1 | replace n1 := decide_eq_true n1
        first | replace n2 := decide_eq_false n2 | replace n2 := decide_eq_true n2
        go_enter Try.func14, Try.ntmps14
        go_wp2_with (first
          | (go_at_call 32; with_reducible refine (s1 _).mono ?_; rintro e w' ⟨rfl, rfl⟩)
          | (go_at_call 32; with_reducible refine (s2 _).mono ?_; rintro e w' ⟨rfl, rfl⟩)
          | (go_at_call 31; with_reducible refine (ct _).mono ?_; rintro e w1 ⟨rfl, x1⟩)
          | (go_at_call 30; with_reducible refine (cd _).mono ?_; rintro e w2 ⟨rfl, x2⟩))
        go_ret2
        exact ⟨rfl, x1.trans (x2.mono x1.size)⟩
    · by_cases h3 : n = 9223372036854775808
      · have G : (a < 0 ∧ b < 0 ∧ got p = 0 ∧ err p = 5) ∨ (a < 0 ∧ ¬ b < 0 ∧ got p = -9223372036854775808 ∧ err p = 0) ∨ (¬ a < 0 ∧ b < 0 ∧ got p = -9223372036854775808 ∧ err p = 0) ∨ (¬ a < 0 ∧ ¬ b < 0 ∧ got p = 0 ∧ err p = 5) := by
          rcases hs with ⟨n1, n2, h⟩ | ⟨n1, n2, h⟩ | ⟨n1, n2, h⟩ | ⟨n1, n2, h⟩
          · exact .inl ⟨n1, n2, F2 (by unfold Fits; omega)⟩
          · have g := F1 (by unfold Fits; omega)
            exact .inr (.inl ⟨n1, n2, by omega, g.2⟩)
          · have g := F1 (by unfold Fits; omega)
            exact .inr (.inr (.inl ⟨n1, n2, by omega, g.2⟩))
          · exact .inr (.inr (.inr ⟨n1, n2, F2 (by unfold Fits; omega)⟩))
        clear F1 F2 hs
        rw [h3] at cd
        rcases G with ⟨n1, n2, g0, g1⟩ | ⟨n1, n2, g0, g1⟩ | ⟨n1, n2, g0, g1⟩ | ⟨n1, n2, g0, g1⟩
        all_goals
          rw [g0, g1]
          clear g0 g1 hn0
          first | replace n1 := decide_eq_false n1 | replace n1 := decide_eq_true n1
          first | replace n2 := decide_eq_false n2 | replace n2 := decide_eq_true n2
          go_enter Try.func14, Try.ntmps14
          go_wp2_with (first
            | (go_at_call 32; with_reducible refine (s1 _).mono ?_; rintro e w' ⟨rfl, rfl⟩)
            | (go_at_call 32; with_reducible refine (s2 _).mono ?_; rintro e w' ⟨rfl, rfl⟩)
            | (go_at_call 31; with_reducible refine (ct _).mono ?_; rintro e w1 ⟨rfl, x1⟩)
            | (go_at_call 30; with_reducible refine (cd _).mono ?_; rintro e w2 ⟨rfl, x2⟩))
          go_ret2
          first
            | exact ⟨rfl, x1.trans (x2.mono x1.size)⟩
            | exact ⟨ret2 (by unfold wrap64; omega) rfl, x1.trans (x2.mono x1.size)⟩
      · rcases hs with ⟨n1, n2, h⟩ | ⟨n1, n2, h⟩ | ⟨n1, n2, h⟩ | ⟨n1, n2, h⟩
        all_goals
          obtain ⟨g0, g1⟩ := F1 (by unfold Fits; omega)
          rw [g0, g1]
          have hp := hid h
          have hlt : n < 9223372036854775808 := by omega
          clear F1 F2 g0 g1 h
          first | replace n1 := decide_eq_false n1 | replace n1 := decide_eq_true n1
          first | replace n2 := decide_eq_false n2 | replace n2 := decide_eq_true n2
          go_enter Try.func14, Try.ntmps14
          go_wp2_with (first
            | (go_at_call 32; with_reducible refine (s1 _).mono ?_; rintro e w' ⟨rfl, rfl⟩)
            | (go_at_call 32; with_reducible refine (s2 _).mono ?_; rintro e w' ⟨rfl, rfl⟩)
            | (go_at_call 31; with_reducible refine (ct _).mono ?_; rintro e w1 ⟨rfl, x1⟩)
            | (go_at_call 30; with_reducible refine (cd _).mono ?_; rintro e w2 ⟨rfl, x2⟩))
          go_ret2
          exact ⟨ret2 (by rw [hp.out]) rfl, x1.trans (x2.mono x1.size)⟩
  · rw [if_neg h1, decide_eq_false h1] at cd
    obtain ⟨g0, g1⟩ := F2 (by rcases hs with ⟨_, _, h⟩ | ⟨_, _, h⟩ | ⟨_, _, h⟩ | ⟨_, _, h⟩ <;> (unfold Fits; omega))
    rw [g0, g1]
    clear F1 F2 g0 g1 h1
    rcases hs with ⟨n1, n2, _⟩ | ⟨n1, n2, _⟩ | ⟨n1, n2, _⟩ | ⟨n1, n2, _⟩
    all_goals
      first | replace n1 := decide_eq_false n1 | replace n1 := decide_eq_true n1
      first | replace n2 := decide_eq_false n2 | replace n2 := decide_eq_true n2
      go_enter Try.func14, Try.ntmps14
      go_wp2_with (first
        | (go_at_call 32; with_reducible refine (s1 _).mono ?_; rintro e w' ⟨rfl, rfl⟩)
        | (go_at_call 32; with_reducible refine (s2 _).mono ?_; rintro e w' ⟨rfl, rfl⟩)
        | (go_at_call 31; with_reducible refine (ct _).mono ?_; rintro e w1 ⟨rfl, x1⟩)
        | (go_at_call 30; with_reducible refine (cd _).mono ?_; rintro e w2 ⟨rfl, x2⟩))
      go_ret2
      exact ⟨rfl, x1.trans (x2.mono x1.size)⟩
end Go.Proofs.Ytdbefcnjoplncaa
