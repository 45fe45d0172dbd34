/-
  First, in the package and in its reference; the reference's Nth.
-/
import Derived.Test.YtppphpgippchaaaDoorBSpan
import Derived.Test.YtppphpgippchaaaDoorInts
import Derived.Test.YtppphpgippchaaaDoorNth
import Derived.Test.YtppphpgippchaaaDoorHeld
namespace Go.Proofs.YtppphpgippchaaaDoor
open Go.RowKit
/-- Whether a set has as many as n, and its n lowest. -/
def firstB (p : Nat → Bool) (n : Int) : Bool := decide (0 ≤ n) && decide (n ≤ cnt p 256)
def firstP (p : Nat → Bool) (n : Int) : Nat → Bool := fun j => p j && decide ((cnt p j : Int) < n)
theorem cnt_step (p : Nat → Bool) (j : Nat) (h : p j = true) : cnt p (j + 1) = cnt p j + 1 := by simp [cnt, h]
theorem cnt_le_of (p : Nat → Bool) {a b : Nat} (h : a ≤ b) : cnt p a ≤ cnt p b := by
  have := cnt_mono p a (b - a)
  rw [show a + (b - a) = b by omega] at this
  exact this
theorem nth_exists (p : Nat → Bool) (n m : Nat) (h : n < cnt p m) : ∃ c, c < m ∧ p c = true ∧ cnt p c = n := by
  induction m with
  | zero => simp [cnt] at h
  | succ m ih =>
    by_cases hm : n < cnt p m
    · obtain ⟨c, h1, h2, h3⟩ := ih hm
      exact ⟨c, by omega, h2, h3⟩
    · cases hp : p m with
      | true => rw [cnt_step p m hp] at h; exact ⟨m, by omega, hp, by omega⟩
      | false => simp [cnt, hp] at h; omega
theorem nth_is (p : Nat → Bool) (c : Nat) (hc : c < 256) (h : p c = true) : nthB p (cnt p c) = true ∧ nthN p (cnt p c) = c := by
  have e := nth_found p (c / 64) (c % 64) (c % 64) (cnt p c) (by omega) (by omega) (by congr 1; omega)
    (by rw [show 64 * (c / 64) + (c % 64 + 1) = c + 1 by omega, show 64 * (c / 64) + c % 64 = c by omega]; exact lst_in p c h)
  rw [show 64 * (c / 64) + c % 64 = c by omega] at e
  exact e
theorem nth_spec (p : Nat → Bool) (n : Nat) (h : n < cnt p 256) : ∃ c : Nat, c < 256 ∧ p c = true ∧ cnt p c = n ∧ nthB p n = true ∧ nthN p n = c := by
  obtain ⟨c, h1, h2, h3⟩ := nth_exists p n 256 h
  obtain ⟨e1, e2⟩ := nth_is p c h1 h2
  rw [h3] at e1 e2
  exact ⟨c, h1, h2, h3, e1, e2⟩
theorem first_all (p : Nat → Bool) (j : Nat) (hj : j < 256) : p j = firstP p (cnt p 256 : Nat) j := by
  unfold firstP
  cases h : p j with
  | false => rfl
  | true =>
    have := cnt_le_of p (show j + 1 ≤ 256 by omega)
    rw [cnt_step p j h] at this
    rw [decide_eq_true (by omega)]; rfl
theorem first_span (p : Nat → Bool) (c n : Nat) (hn : cnt p c = n) (j : Nat) : (fun j => p j && spanP 0 ((c : Int) - 1) j) j = firstP p n j := by
  show (p j && spanP 0 ((c : Int) - 1) j) = firstP p n j
  unfold firstP spanP
  cases h : p j with
  | false => rfl
  | true =>
    rw [Bool.true_and, Bool.true_and, decide_eq_true (p := (0 : Int) ≤ j) (by omega), Bool.true_and, Bool.eq_iff_iff, decide_eq_true_iff, decide_eq_true_iff]
    constructor
    · intro hj
      have := cnt_le_of p (show j + 1 ≤ c by omega)
      rw [cnt_step p j h] at this
      omega
    · intro hj
      by_cases hcj : c ≤ j
      · have := cnt_le_of p hcj; omega
      · omega
theorem mem_below_lst (p : Nat → Bool) (m n : Nat) : n ∈ lst p m → n < m := by
  unfold lst; intro h; exact List.mem_range.1 (List.mem_filter.1 h).1
theorem mem_range_lst (p : Nat → Bool) (n : Nat) : n ∈ lst p 256 ↔ n < 256 ∧ p n = true := by
  unfold lst; rw [List.mem_filter, List.mem_range]
theorem first_take (p : Nat → Bool) (n : Nat) (j : Nat) (hj : j < 256) : memP (((lst p 256).take n).map fun k : Nat => (k : Int)) j = firstP p n j := by
  unfold memP firstP
  cases h : p j with
  | false =>
    rw [Bool.false_and, decide_eq_false]
    intro hm
    obtain ⟨k, hk, e⟩ := List.mem_map.1 hm
    obtain rfl : k = j := by omega
    have := ((mem_range_lst p k).1 (List.mem_of_mem_take hk)).2
    rw [h] at this; cases this
  | true =>
    obtain ⟨r, hr⟩ := lst_prefix p (j + 1) (256 - (j + 1))
    rw [show j + 1 + (256 - (j + 1)) = 256 by omega, lst_in p j h] at hr
    rw [Bool.true_and, Bool.eq_iff_iff, decide_eq_true_iff, decide_eq_true_iff]
    have hl := lst_count p j
    constructor
    · intro hm
      obtain ⟨k, hk, e⟩ := List.mem_map.1 hm
      obtain rfl : k = j := by omega
      by_cases hc : cnt p k < n
      · omega
      · rw [hr, List.append_assoc, List.take_append_of_le_length (by omega)] at hk
        have := mem_below_lst p k k (List.mem_of_mem_take hk)
        omega
    · intro hc
      refine List.mem_map.2 ⟨j, ?_, rfl⟩
      refine List.mem_of_getElem? (i := cnt p j) ?_
      rw [List.getElem?_take, if_pos (by omega), hr, List.append_assoc, List.getElem?_append_right (by omega), hl, Nat.sub_self]
      rfl
end Go.Proofs.YtppphpgippchaaaDoor
