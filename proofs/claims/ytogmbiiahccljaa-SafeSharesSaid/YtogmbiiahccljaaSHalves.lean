/-
  SafeHalves's walk: halves go on.
-/
import Derived.Test.YtogmbiiahccljaaSScale
import Derived.ProofKit
import Derived.OpenShut
namespace Go.Proofs.Ytogmbiiahccljaa
open Go.RowKit

theorem tdiv_tdiv (n : Int) (a b : Nat) : (n.tdiv a).tdiv b = n.tdiv ((a * b : Nat) : Int) := by
  by_cases h : 0 ≤ n
  · obtain ⟨q, rfl⟩ : ∃ q : Nat, n = q := ⟨n.toNat, by omega⟩
    show ((q / a / b : Nat) : Int) = ((q / (a * b) : Nat) : Int)
    rw [Nat.div_div_eq_div_mul]
  · obtain ⟨q, rfl⟩ : ∃ q : Nat, n = -q := ⟨n.natAbs, by omega⟩
    rw [Int.neg_tdiv, Int.neg_tdiv, Int.neg_tdiv]
    show -((q / a / b : Nat) : Int) = -((q / (a * b) : Nat) : Int)
    rw [Nat.div_div_eq_div_mul]
theorem halves_fits (n k : Int) (h : Fits n) : Fits (halves n k) := by
  unfold halves
  split
  · exact h
  · split
    · decide
    · rw [cast_pow]; exact tdiv_fits n _ h
/-- None is farther from 0 than before. -/
theorem halves_near (n k : Int) : (0 ≤ n → 0 ≤ halves n k ∧ halves n k ≤ n) ∧ (n < 0 → halves n k ≤ 0 ∧ n ≤ halves n k) := by
  unfold halves
  split
  · omega
  · split
    · omega
    · rw [cast_pow]
      generalize 2 ^ k.toNat = m
      constructor
      · intro h
        obtain ⟨q, rfl⟩ : ∃ q : Nat, n = q := ⟨n.toNat, by omega⟩
        have h2 : q / m ≤ q := Nat.div_le_self _ _
        have h3 : (q : Int).tdiv (m : Int) = ((q / m : Nat) : Int) := rfl
        rw [h3]
        generalize q / m = r at *
        omega
      · intro h
        obtain ⟨q, rfl⟩ : ∃ q : Nat, n = -q := ⟨n.natAbs, by omega⟩
        have h2 : q / m ≤ q := Nat.div_le_self _ _
        have h3 : (-(q : Int)).tdiv (m : Int) = -((q / m : Nat) : Int) := by rw [Int.neg_tdiv]; congr 1
        rw [h3]
        generalize q / m = r at *
        omega
/-- k and then j are k and j. -/
theorem halves_on (n k j : Int) (h : ¬ k + j > 62) (hk : 0 ≤ k) (hj : 0 ≤ j) : halves (halves n k) j = halves n (k + j) := by
  by_cases k0 : k < 1
  · obtain rfl : k = 0 := by omega
    rw [show halves n 0 = n from if_pos (by omega), Int.zero_add]
  · by_cases j0 : j < 1
    · obtain rfl : j = 0 := by omega
      rw [Int.add_zero]; exact if_pos (by omega)
    · obtain ⟨a, rfl⟩ : ∃ q : Nat, k = q := ⟨k.toNat, by omega⟩
      obtain ⟨b, rfl⟩ : ∃ q : Nat, j = q := ⟨j.toNat, by omega⟩
      unfold halves
      rw [if_neg j0, if_neg k0, if_neg (by omega), if_neg (by omega), if_neg (by omega), if_neg (by omega)]
      rw [show ((a : Int)).toNat = a from rfl, show ((b : Int)).toNat = b from rfl, show ((a : Int) + (b : Int)).toNat = a + b from rfl]
      rw [cast_pow, cast_pow, cast_pow, Nat.pow_add]
      exact tdiv_tdiv n _ _

set_option maxHeartbeats 1000000 in
theorem safeHalves_walk (a0 : Int) (a1 : Int) (a2 : Int) (w0 : (Lit.int .i64 a0).wf = true) (w1 : (Lit.int .u8 a1).wf = true) (w2 : (Lit.int .u8 a2).wf = true) (w : World) :
    Calls Try.prog 8 #[.int .i64 a0, .int .u8 a1, .int .u8 a2] w fun e w' => e = .returned (.bool true) ∧ Grown w w' := by
  have h0 := wf_i64 w0
  obtain ⟨h1, h1'⟩ := wf_u8 w1
  obtain ⟨h2, h2'⟩ := wf_u8 w2
  clear w0 w1 w2
  have c1 := fun w => Halves_any a0 a1 w h0
  have c2 := fun w => Halves_any (halves a0 a1) a2 w (halves_fits _ _ h0)
  have c3 := fun w => Halves_any a0 (a1 + a2) w h0
  obtain ⟨n1, n2⟩ := halves_near a0 (a1 + a2)
  have ho := halves_on a0 a1 a2
  generalize halves (halves a0 a1) a2 = x at *
  generalize halves a0 a1 = z at *
  generalize halves a0 (a1 + a2) = y at *
  have E : ¬ x = y → a1 + a2 > 62 := fun h => by
    by_cases hh : a1 + a2 > 62
    · exact hh
    · exact absurd (ho hh h1 h2) h
  clear ho
  obtain ⟨h3, h3'⟩ := h0
  have W : (x = y ∨ (¬ x = y ∧ a1 + a2 > 62)) ∧ ((a0 ≥ 0 ∧ 0 ≤ y ∧ y ≤ a0) ∨ (¬ a0 ≥ 0 ∧ y ≤ 0 ∧ a0 ≤ y)) := by
    constructor
    · by_cases hx : x = y
      · exact Or.inl hx
      · exact Or.inr ⟨hx, E hx⟩
    · by_cases hn : a0 ≥ 0
      · exact Or.inl ⟨hn, n1 hn⟩
      · exact Or.inr ⟨hn, n2 (by omega)⟩
  clear E n1 n2
  obtain ⟨hx | ⟨hx, hk⟩, ⟨hn, m1, m2⟩ | ⟨hn, m1, m2⟩⟩ := W
  all_goals
    try subst hx
    go_enter Try.func8, Try.ntmps8
    go_wp2_with (first
      | (go_at_call 28; with_reducible refine (c1 _).mono ?_; rintro e w' ⟨rfl, rfl⟩)
      | (go_at_call 28; with_reducible refine (c2 _).mono ?_; rintro e w' ⟨rfl, rfl⟩)
      | (go_at_call 28; with_reducible refine (c3 _).mono ?_; rintro e w' ⟨rfl, rfl⟩)
      | (go_at_call 17; refine (alive_any _).mono ?_; rintro e w' ⟨rfl, n, rfl⟩))
    go_ret
    exact ⟨rfl, Grown.refl w⟩
end Go.Proofs.Ytogmbiiahccljaa
