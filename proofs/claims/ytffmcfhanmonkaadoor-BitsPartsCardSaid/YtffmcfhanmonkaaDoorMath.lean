/- Plain facts on numbers below 2^64 and their bits. -/
namespace Go.Proofs.YtffmcfhanmonkaaDoor

/-- The first n places of p, as a number. -/
def W (p : Nat → Bool) : Nat → Nat
  | 0 => 0
  | n + 1 => W p n + (if p n then 2 ^ n else 0)

theorem W_lt (p : Nat → Bool) (n : Nat) : W p n < 2 ^ n := by
  induction n with
  | zero => simp [W]
  | succ n ih => unfold W; rw [Nat.pow_succ]; split <;> omega

theorem W_testBit (p : Nat → Bool) (n j : Nat) : (W p n).testBit j = (decide (j < n) && p j) := by
  induction n with
  | zero => simp [W]
  | succ n ih =>
    have hl := W_lt p n
    unfold W
    by_cases hp : p n
    · rw [if_pos hp, Nat.add_comm]
      by_cases hj : j = n
      · subst hj
        rw [Nat.testBit_two_pow_add_eq, ih]
        simp [hp]
      · by_cases hjn : j < n
        · rw [Nat.testBit_two_pow_add_gt hjn, ih]
          simp [hjn]; omega
        · have h1 : 2 ^ n + W p n < 2 ^ j := by
            have : 2 ^ (n+1) ≤ 2 ^ j := Nat.pow_le_pow_right (by omega) (by omega)
            rw [Nat.pow_succ] at this; omega
          rw [Nat.testBit_lt_two_pow h1]
          simp; omega
    · rw [if_neg hp, Nat.add_zero, ih]
      by_cases hj : j = n
      · subst hj; simp [hp]
      · by_cases hjn : j < n
        · simp [hjn]; omega
        · have : ¬ j < n + 1 := by omega
          simp [hjn, this]

theorem W_congr {p q : Nat → Bool} {n : Nat} (h : ∀ j, j < n → p j = q j) : W p n = W q n := by
  induction n with
  | zero => rfl
  | succ n ih => unfold W; rw [ih (fun j hj => h j (by omega)), h n (by omega)]

theorem W_of (x n : Nat) (h : x < 2 ^ n) : W (fun j => x.testBit j) n = x := by
  apply Nat.eq_of_testBit_eq
  intro j
  rw [W_testBit]
  by_cases hj : j < n
  · simp [hj]
  · have : x < 2 ^ j := Nat.lt_of_lt_of_le h (Nat.pow_le_pow_right (by omega) (by omega))
    simp [hj, Nat.testBit_lt_two_pow this]

theorem W_eq {p : Nat → Bool} {n x : Nat} (hx : x < 2 ^ n) (h : ∀ j, j < n → x.testBit j = p j) : x = W p n := by
  rw [← W_of x n hx]; exact W_congr h

/-- Word k of the set p. -/
def word (p : Nat → Bool) (k : Nat) : Nat := W (fun j => p (64 * k + j)) 64
theorem word_lt (p : Nat → Bool) (k : Nat) : word p k < 18446744073709551616 := W_lt _ 64
theorem word_testBit (p : Nat → Bool) (k j : Nat) (hj : j < 64) : (word p k).testBit j = p (64 * k + j) := by
  unfold word; rw [W_testBit]; simp [hj]
theorem word_testBit_ge (p : Nat → Bool) (k j : Nat) (hj : 64 ≤ j) : (word p k).testBit j = false := by
  unfold word; rw [W_testBit]; simp; omega
theorem word_congr {p q : Nat → Bool} {k : Nat} (h : ∀ j, j < 64 → p (64 * k + j) = q (64 * k + j)) : word p k = word q k := W_congr h
theorem word_eq {p : Nat → Bool} {k x : Nat} (hx : x < 18446744073709551616) (h : ∀ j, j < 64 → x.testBit j = p (64 * k + j)) : x = word p k :=
  W_eq (n := 64) hx h

theorem word_and (p q : Nat → Bool) (k : Nat) : word p k &&& word q k = word (fun i => p i && q i) k := by
  refine word_eq (Nat.and_lt_two_pow (n := 64) _ (word_lt q k)) ?_
  intro j hj; rw [Nat.testBit_and, word_testBit _ _ _ hj, word_testBit _ _ _ hj]
theorem word_or (p q : Nat → Bool) (k : Nat) : word p k ||| word q k = word (fun i => p i || q i) k := by
  refine word_eq (Nat.or_lt_two_pow (n := 64) (word_lt p k) (word_lt q k)) ?_
  intro j hj; rw [Nat.testBit_or, word_testBit _ _ _ hj, word_testBit _ _ _ hj]
theorem word_not (p q : Nat → Bool) (k : Nat) : word p k &&& (18446744073709551615 - word q k) = word (fun i => p i && !q i) k := by
  refine word_eq (Nat.lt_of_le_of_lt Nat.and_le_left (word_lt p k)) ?_
  intro j hj
  have := Nat.testBit_two_pow_sub_succ (n := 64) (word_lt q k) j
  rw [show 2 ^ 64 - (word q k + 1) = 18446744073709551615 - word q k by omega] at this
  rw [Nat.testBit_and, word_testBit _ _ _ hj, this, word_testBit _ _ _ hj]
  simp [hj]
theorem and_pow_ne (x k : Nat) : ((x &&& 2 ^ k) ≠ 0) ↔ x.testBit k = true := by
  constructor
  · intro h
    cases hb : x.testBit k with
    | true => rfl
    | false =>
      exact absurd (Nat.eq_of_testBit_eq fun j => by
        rw [Nat.testBit_and, Nat.testBit_two_pow, Nat.zero_testBit]
        by_cases hj : k = j
        · subst hj; simp [hb]
        · simp [hj]) h
  · intro h e
    have := congrArg (fun y => Nat.testBit y k) e
    simp [Nat.testBit_and, h] at this
theorem word_at (p : Nat → Bool) (n : Nat) : (word p (n / 64)).testBit (n % 64) = p n := by
  rw [word_testBit _ _ _ (by omega)]; congr 1; omega
/-- A number in the set p: any integer. -/
def hasB (p : Nat → Bool) (i : Int) : Bool := decide (0 ≤ i) && decide (i < 256) && p i.toNat
end Go.Proofs.YtffmcfhanmonkaaDoor
