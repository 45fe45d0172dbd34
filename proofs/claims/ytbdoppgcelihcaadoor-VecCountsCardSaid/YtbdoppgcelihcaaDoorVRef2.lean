/-
  The document's Times; Into, and the document's.
-/
import Derived.Test.YtbdoppgcelihcaaDoorVRef
namespace Go.Proofs.YtbdoppgcelihcaaDoor
open Go.RowKit

def partP (x n : Int) : Int × Bool := if x = 0 then (0, true) else (x * (n % 1073741825), decide (n ≤ 1073741824 / x))
theorem partP_ok {x n : Int} (x0 : 0 ≤ x) (x1 : x ≤ 1073741824) (n0 : 0 ≤ n) : (partP x n).2 = decide (x * n ≤ 1073741824) ∧ (x * n ≤ 1073741824 → (partP x n).1 = x * n) := by
  unfold partP
  by_cases h : x = 0
  · subst h
    rw [if_pos rfl]
    simp
  · rw [if_neg h]
    have hiff : n ≤ 1073741824 / x ↔ x * n ≤ 1073741824 := by
      rw [Int.le_ediv_iff_mul_le (by omega), Int.mul_comm]
    refine ⟨?_, fun hle => ?_⟩
    · exact decide_eq_decide.2 hiff
    · have hn : n ≤ 1073741824 := by
        have h2 := hiff.2 hle
        have := Int.ediv_le_self x (show (0 : Int) ≤ 1073741824 by omega)
        omega
      show x * (n % 1073741825) = x * n
      rw [Int.emod_eq_of_lt n0 (by omega)]
theorem times_ok (a b c n : Int) (h : right a b c = true) (n0 : 0 ≤ n) : okV (a * n) (b * n) (c * n) = if ((partP a n).2 && (partP b n).2 && (partP c n).2) = true then (((partP a n).1, (partP b n).1, (partP c n).1), 0) else ((0, 0, 0), 5) := by
  obtain ⟨⟨a0, a1⟩, ⟨b0, b1⟩, c0, c1⟩ := right_iff.1 h
  obtain ⟨p1, q1⟩ := partP_ok a0 a1 n0
  obtain ⟨p2, q2⟩ := partP_ok b0 b1 n0
  obtain ⟨p3, q3⟩ := partP_ok c0 c1 n0
  have m1 := Int.mul_nonneg a0 n0
  have m2 := Int.mul_nonneg b0 n0
  have m3 := Int.mul_nonneg c0 n0
  unfold okV
  rw [p1, p2, p3]
  by_cases hr : right (a * n) (b * n) (c * n) = true
  · obtain ⟨⟨_, k1⟩, ⟨_, k2⟩, _, k3⟩ := right_iff.1 hr
    rw [if_pos hr, if_pos (by simp; omega), q1 k1, q2 k2, q3 k3]
  · rw [if_neg hr, if_neg]
    intro hx
    apply hr
    rw [right_iff]
    simp at hx
    omega
end Go.Proofs.YtbdoppgcelihcaaDoor
