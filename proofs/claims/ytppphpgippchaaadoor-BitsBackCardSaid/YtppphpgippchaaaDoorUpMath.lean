/-
  Plain facts: words shifted.
-/
import Derived.Test.YtppphpgippchaaaDoorMerge
namespace Go.Proofs.YtppphpgippchaaaDoor
open Go.RowKit
/-- A set moved up, or down, by n. -/
def upP (p : Nat → Bool) (n : Nat) : Nat → Bool := fun j => decide (n ≤ j) && p (j - n)
def downP (p : Nat → Bool) (n : Nat) : Nat → Bool := fun j => decide (j + n < 256) && p (j + n)
/-- The words of u below word k; with a part of word k. -/
def c0 (u : Nat → Bool) (k : Nat) : Nat → Bool := fun j => decide (j < 64 * k) && u j
def c1 (u : Nat → Bool) (k : Nat) (f : Nat → Bool) : Nat → Bool := fun j => (decide (j < 64 * k) || (decide (j < 64 * k + 64) && f (j - 64 * k))) && u j
theorem c0_zero (u : Nat → Bool) (j : Nat) : c0 u 0 j = false := by simp [c0]
theorem c0_all (u : Nat → Bool) (j : Nat) (h : j < 256) : c0 u 4 j = u j := by unfold c0; rw [decide_eq_true (by omega), Bool.true_and]
theorem c01 (u : Nat → Bool) (k : Nat) (f : Nat → Bool) (i : Nat) (h : i ≠ k) : word (c0 u k) i = word (c1 u k f) i :=
  word_congr fun j hj => by
    unfold c0 c1
    by_cases h1 : 64 * i + j < 64 * k
    · simp [h1]
    · have h2 : ¬ 64 * i + j < 64 * k + 64 := by omega
      simp [h1, h2]
theorem c12 (u : Nat → Bool) (k : Nat) (f : Nat → Bool) (i : Nat) (h : i ≠ k) : word (c1 u k f) i = word (c0 u (k + 1)) i :=
  word_congr fun j hj => by
    unfold c0 c1
    by_cases h1 : 64 * i + j < 64 * k
    · have h2 : 64 * i + j < 64 * (k + 1) := by omega
      simp [h1, h2]
    · have h2 : ¬ 64 * i + j < 64 * k + 64 := by omega
      have h3 : ¬ 64 * i + j < 64 * (k + 1) := by omega
      simp [h1, h2, h3]
theorem c02 (u : Nat → Bool) (k : Nat) (i : Nat) (h : i ≠ k) : word (c0 u k) i = word (c0 u (k + 1)) i :=
  (c01 u k (fun _ => true) i h).trans (c12 u k _ i h)
theorem c1_at (u : Nat → Bool) (k : Nat) (f : Nat → Bool) (j : Nat) (hj : j < 64) : c1 u k f (64 * k + j) = (f j && u (64 * k + j)) := by
  unfold c1
  rw [decide_eq_false (by omega), decide_eq_true (by omega), show 64 * k + j - 64 * k = j by omega, Bool.false_or, Bool.true_and]
theorem c0_at (u : Nat → Bool) (k : Nat) (j : Nat) (hj : j < 64) : c0 u (k + 1) (64 * k + j) = u (64 * k + j) := by
  unfold c0
  rw [decide_eq_true (by omega), Bool.true_and]
theorem upP_at (p : Nat → Bool) (n m r k j : Nat) (hn : n = 64 * m + r) (hmk : m ≤ k) (h : r ≤ j) : upP p n (64 * k + j) = p (64 * (k - m) + (j - r)) := by
  unfold upP
  rw [decide_eq_true (by omega), Bool.true_and]
  congr 1; omega
theorem up_1 (p : Nat → Bool) (n m r k : Nat) (hn : n = 64 * m + r) (hmk : m ≤ k) :
    IntKind.u64.wrap (↑(word p (k - m)) * 2 ^ r) = ↑(word (c1 (upP p n) k fun j => decide (r ≤ j)) k) := by
  rw [cast_pow, ← Int.natCast_mul, IntKind.wrap_u64, show (18446744073709551616 : Int) = ((18446744073709551616 : Nat) : Int) by rfl, ← Int.natCast_emod]
  congr 1
  refine word_eq (Nat.mod_lt _ (by omega)) fun j hj => ?_
  rw [c1_at _ _ _ _ hj, show 18446744073709551616 = 2 ^ 64 by rfl, Nat.testBit_mod_two_pow, Nat.testBit_mul_two_pow]
  by_cases h : r ≤ j
  · rw [word_testBit _ _ _ (by omega), upP_at p n m r k j hn hmk h]
    simp [h, hj]
  · simp [h]
theorem up_2 (p : Nat → Bool) (n m r k : Nat) (hn : n = 64 * m + r) (hr : r < 64) (hmk : m < k) :
    bits BinOp.or IntKind.u64 ↑(word (c1 (upP p n) k fun j => decide (r ≤ j)) k) (↑(word p (k - m - 1)) / 2 ^ (64 - r)) = ↑(word (c0 (upP p n) (k + 1)) k) := by
  have hl := word_lt p (k - m - 1)
  have hd : word p (k - m - 1) / 2 ^ (64 - r) ≤ word p (k - m - 1) := Nat.div_le_self _ _
  rw [cast_pow, ← Int.natCast_ediv, bits_or_u64_nat _ _ (word_lt _ _) (by omega)]
  congr 1
  refine word_eq (Nat.or_lt_two_pow (n := 64) (word_lt _ _) (by omega)) fun j hj => ?_
  rw [Nat.testBit_or, word_testBit _ _ _ hj, c1_at _ _ _ _ hj, c0_at _ _ _ hj, Nat.testBit_div_two_pow]
  by_cases h : r ≤ j
  · rw [word_testBit_ge _ _ _ (by omega)]
    simp [h]
  · rw [word_testBit _ _ _ (by omega)]
    simp only [h, decide_false, Bool.false_and, Bool.false_or]
    unfold upP
    rw [decide_eq_true (by omega), Bool.true_and]
    congr 1; omega
theorem up_3 (p : Nat → Bool) (n m r : Nat) (hn : n = 64 * m + r) : word (c1 (upP p n) m fun j => decide (r ≤ j)) m = word (c0 (upP p n) (m + 1)) m :=
  word_congr fun j hj => by
    rw [c1_at _ _ _ _ hj, c0_at _ _ _ hj]
    by_cases h : r ≤ j
    · simp [h]
    · unfold upP
      rw [decide_eq_false (p := n ≤ _) (by omega)]
      simp
theorem up_0 (p : Nat → Bool) (n m r : Nat) (hn : n = 64 * m + r) (j : Nat) : c0 (upP p n) m j = false := by
  unfold c0 upP
  by_cases h : j < 64 * m
  · rw [decide_eq_false (p := n ≤ j) (by omega)]; simp
  · simp [h]
theorem down_1 (p : Nat → Bool) (n m r k : Nat) (hn : n = 64 * m + r) (hk : k + m < 4) :
    (↑(word p (k + m)) / 2 ^ r : Int) = ↑(word (c1 (downP p n) k fun j => decide (j + r < 64)) k) := by
  have hl := word_lt p (k + m)
  have hd : word p (k + m) / 2 ^ r ≤ word p (k + m) := Nat.div_le_self _ _
  rw [cast_pow, ← Int.natCast_ediv]
  congr 1
  refine word_eq (by omega) fun j hj => ?_
  rw [c1_at _ _ _ _ hj, Nat.testBit_div_two_pow]
  by_cases h : j + r < 64
  · rw [word_testBit _ _ _ (by omega), decide_eq_true h, Bool.true_and]
    unfold downP
    rw [decide_eq_true (by omega), Bool.true_and]
    congr 1; omega
  · rw [word_testBit_ge _ _ _ (by omega), decide_eq_false h, Bool.false_and]
theorem down_2 (p : Nat → Bool) (n m r k : Nat) (hn : n = 64 * m + r) (hr : r < 64) (hk : k + m + 1 < 4) :
    bits BinOp.or IntKind.u64 ↑(word (c1 (downP p n) k fun j => decide (j + r < 64)) k) (IntKind.u64.wrap (↑(word p (k + m + 1)) * 2 ^ (64 - r))) = ↑(word (c0 (downP p n) (k + 1)) k) := by
  rw [cast_pow, ← Int.natCast_mul, IntKind.wrap_u64, show (18446744073709551616 : Int) = ((18446744073709551616 : Nat) : Int) by rfl, ← Int.natCast_emod,
    bits_or_u64_nat _ _ (word_lt _ _) (Nat.mod_lt _ (by omega))]
  congr 1
  refine word_eq (Nat.or_lt_two_pow (n := 64) (word_lt _ _) (Nat.mod_lt _ (by omega))) fun j hj => ?_
  rw [Nat.testBit_or, word_testBit _ _ _ hj, c1_at _ _ _ _ hj, c0_at _ _ _ hj, show 18446744073709551616 = 2 ^ 64 by rfl, Nat.testBit_mod_two_pow, Nat.testBit_mul_two_pow]
  by_cases h : j + r < 64
  · rw [decide_eq_true h, decide_eq_false (p := 64 - r ≤ j) (by omega)]
    simp
  · rw [decide_eq_false h, decide_eq_true (p := 64 - r ≤ j) (by omega), decide_eq_true hj, word_testBit _ _ _ (by omega)]
    unfold downP
    rw [decide_eq_true (by omega)]
    simp only [Bool.false_and, Bool.false_or, Bool.true_and]
    congr 1; omega
theorem down_3 (p : Nat → Bool) (n m r k : Nat) (hn : n = 64 * m + r) (hk : 4 ≤ k + m + 1) : word (c1 (downP p n) k fun j => decide (j + r < 64)) k = word (c0 (downP p n) (k + 1)) k :=
  word_congr fun j hj => by
    rw [c1_at _ _ _ _ hj, c0_at _ _ _ hj]
    by_cases h : j + r < 64
    · simp [h]
    · unfold downP
      rw [decide_eq_false (p := _ < 256) (by omega)]
      simp
theorem down_all (p : Nat → Bool) (n m r k : Nat) (hn : n = 64 * m + r) (hk : 4 ≤ k + m) (j : Nat) : c0 (downP p n) k j = downP p n j := by
  unfold c0
  by_cases h : j < 64 * k
  · rw [decide_eq_true h, Bool.true_and]
  · unfold downP
    rw [decide_eq_false (p := _ < 256) (by omega)]
    simp
theorem c12_congr (u : Nat → Bool) (k : Nat) (f : Nat → Bool) (e : word (c1 u k f) k = word (c0 u (k + 1)) k) (j : Nat) : c1 u k f j = c0 u (k + 1) j := by
  have h := c12 u k f (j / 64)
  by_cases hjk : j / 64 = k
  · have := congrArg (fun x => Nat.testBit x (j % 64)) e
    rw [← hjk, word_at, word_at] at this
    rw [← hjk]; exact this
  · have := congrArg (fun x => Nat.testBit x (j % 64)) (h hjk)
    rw [word_at, word_at] at this
    exact this
end Go.Proofs.YtppphpgippchaaaDoor
