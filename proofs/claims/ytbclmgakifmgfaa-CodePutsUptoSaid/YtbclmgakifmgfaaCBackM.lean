/-
  What reading comes to where numbers, sets and texts were put.
-/
import Derived.Test.YtbclmgakifmgfaaCBoth
import Derived.Test.YtbclmgakifmgfaaCNodesOk
import Derived.Test.YtbclmgakifmgfaaCWNodes
namespace Go.Proofs.Ytbclmgakifmgfaa
open Go.RowKit

theorem split_at {C P R : List UInt8} (h : C = P ++ R) : C.drop P.length = R ∧ P.length + R.length = C.length := by
  subst h
  exact ⟨List.drop_left, by rw [List.length_append]⟩
theorem read_num {C P R : List UInt8} {n : Int} (low high : Int) (h : C = P ++ (nb n ++ R)) (hn : InR n) (hl : low ≤ n) (hh : n ≤ high) : numRes C P.length low high = (n, P.length + (nb n).length, 0, 0) := by
  unfold numRes
  rw [(split_at h).1, dec_nb n R hn.1 hn.2]
  simp only [unfold_fold]
  rw [if_neg (by omega)]
theorem read_int {C P R : List UInt8} {n : Int} (h : C = P ++ (nb n ++ R)) (hn : InR n) : inStep C P.length 0 0 (-9223372036854775808) 9223372036854775807 = (n, P.length + (nb n).length, 0, 0) := by
  unfold inStep
  rw [read_num _ _ h hn hn.1 hn.2]
  simp
theorem read_text {C P R t : List UInt8} (h : C = P ++ (tb t ++ R)) (ht : t.length ≤ 9223372036854775807) : textStep C P.length 0 0 (t.length : Int) = (t, P.length + (tb t).length, 0, 0) := by
  have h2 : C = P ++ (nb (t.length : Int) ++ (t ++ R)) := by rw [h]; unfold tb; rw [List.append_assoc]
  have h3 : C = (P ++ nb (t.length : Int)) ++ (t ++ R) := by rw [h2, List.append_assoc]
  have hr := read_num (n := (t.length : Int)) 0 (t.length : Int) h2 ⟨by omega, by omega⟩ (by omega) (Int.le_refl _)
  obtain ⟨hd, hl⟩ := split_at h3
  rw [List.length_append] at hd hl
  rw [List.length_append] at hl
  unfold textStep
  rw [hr]
  rw [if_neg (by simp), if_neg (by simp), if_neg (by simp only []; omega)]
  simp only [Int.toNat_natCast]
  rw [hd, List.take_left]
  unfold tb
  rw [List.length_append]
  simp only [Prod.mk.injEq, true_and, and_true]
  omega
theorem read_end {C P : List UInt8} (h : C = P) : endStep C P.length 0 0 = (0, 0) := by
  subst h
  exact if_neg fun h => absurd h.2 (Nat.lt_irrefl _)
theorem drop_sb (f : Nat → Nat) (R : List UInt8) (j : Nat) (hj : j < 4) : ((sb f ++ R).drop (8 * j)).take 8 = le 8 (f j) := by
  have e : sb f = sbN f j ++ (le 8 (f j) ++ ((List.range 4).drop (j + 1)).flatMap fun i => le 8 (f i)) := by
    unfold sb sbN
    obtain rfl | rfl | rfl | rfl : j = 0 ∨ j = 1 ∨ j = 2 ∨ j = 3 := by omega
    all_goals simp [List.range_succ, List.flatMap_cons]
  rw [e, List.append_assoc, ← sbN_len f j, List.drop_left, List.append_assoc]
  have := List.take_left (l₁ := le 8 (f j)) (l₂ := (((List.range 4).drop (j + 1)).flatMap fun i => le 8 (f i)) ++ R)
  rw [le_length] at this
  exact this
theorem read_nodes {C P R : List UInt8} {f : Nat → Nat} (h : C = P ++ (sb f ++ R)) (hf : ∀ j, j < 4 → f j < 18446744073709551616) : nodesStep C P.length 0 0 = (wordsAt C P.length, P.length + 32, 0, 0) ∧ agg4 (wordsAt C P.length) = agg4 f := by
  obtain ⟨hd, hl⟩ := split_at h
  rw [List.length_append, sb_len] at hl
  constructor
  · unfold nodesStep
    rw [if_neg (by simp), if_neg (by omega)]
  · have hw : ∀ j, j < 4 → wordsAt C P.length j = f j := fun j hj => by
      unfold wordsAt
      rw [← List.drop_drop, hd, drop_sb f R j hj, num_le 8 (f j) (by have := hf j hj; omega)]
    unfold agg4
    rw [hw 0 (by omega), hw 1 (by omega), hw 2 (by omega), hw 3 (by omega)]
theorem flat_three {α : Type} (f : α → List UInt8) (ns : List α) (k : Nat) (h : k < ns.length) : ns.flatMap f = (ns.take k).flatMap f ++ (f ns[k] ++ (ns.drop (k + 1)).flatMap f) := by
  conv => lhs; rw [← List.take_append_drop k ns, List.drop_eq_getElem_cons h]
  rw [List.flatMap_append, List.flatMap_cons]
end Go.Proofs.Ytbclmgakifmgfaa
