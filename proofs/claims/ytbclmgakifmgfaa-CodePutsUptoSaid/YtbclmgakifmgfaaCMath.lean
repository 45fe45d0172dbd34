/-
  Plain facts: a number as one from 0 on; its bytes; how bytes are read as a number.
-/
import Derived.Test.YtbclmgakifmgfaaFLe
namespace Go.Proofs.Ytbclmgakifmgfaa

/-- A number as one from 0 on. -/
def foldN (n : Int) : Nat := if n < 0 then (2 * (-(n + 1)) + 1).toNat else (2 * n).toNat
/-- And back. -/
def unfoldN (u : Nat) : Int := if u % 2 = 1 then -((u / 2 : Nat) : Int) - 1 else ((u / 2 : Nat) : Int)
theorem unfold_fold (n : Int) : unfoldN (foldN n) = n := by
  unfold foldN unfoldN
  split <;> split <;> omega
theorem fold_unfold (u : Nat) : foldN (unfoldN u) = u := by
  unfold foldN unfoldN
  split <;> split <;> omega
theorem fold_lt (n : Int) (h : -9223372036854775808 ≤ n) (h' : n ≤ 9223372036854775807) : foldN n < 18446744073709551616 := by
  unfold foldN
  split <;> omega
theorem unfold_range (u : Nat) (h : u < 18446744073709551616) : -9223372036854775808 ≤ unfoldN u ∧ unfoldN u ≤ 9223372036854775807 := by
  unfold unfoldN
  split <;> omega

/-- A number's bytes, seven bits each. -/
def vb (u : Nat) : List UInt8 := if u < 128 then [UInt8.ofNat u] else UInt8.ofNat (128 + u % 128) :: vb (u / 128)
termination_by u
decreasing_by omega
theorem vb_small (u : Nat) (h : u < 128) : vb u = [UInt8.ofNat u] := by rw [vb, if_pos h]
theorem vb_big (u : Nat) (h : ¬ u < 128) : vb u = UInt8.ofNat (128 + u % 128) :: vb (u / 128) := by rw [vb, if_neg h]
theorem vb_pos (u : Nat) : 0 < (vb u).length := by
  by_cases h : u < 128
  · rw [vb_small u h]; exact Nat.one_pos
  · rw [vb_big u h]; exact Nat.succ_pos _
theorem vb_len (k u : Nat) (h : u < 128 ^ (k + 1)) : (vb u).length ≤ k + 1 := by
  induction k generalizing u with
  | zero => rw [vb_small u (by simpa using h)]; exact Nat.le_refl _
  | succ k ih =>
    by_cases h1 : u < 128
    · rw [vb_small u h1]; simp
    · rw [vb_big u h1, List.length_cons]
      have := ih (u / 128) (by rw [Nat.pow_succ] at h; omega)
      omega
theorem vb_ten (u : Nat) (h : u < 18446744073709551616) : (vb u).length ≤ 10 := vb_len 9 u (by omega)
/-- An int's bytes. -/
def nb (n : Int) : List UInt8 := vb (foldN n)
theorem nb_pos (n : Int) : 0 < (nb n).length := vb_pos _
theorem nb_ten (n : Int) (h : -9223372036854775808 ≤ n) (h' : n ≤ 9223372036854775807) : (nb n).length ≤ 10 := vb_ten _ (fold_lt n h h')

/-- What reading a number comes to. -/
inductive Out where
  | got (u k : Nat)
  | bad (k : Nat)
  | short
/-- Behind i bytes that tell u: the next ones. -/
def dec : Nat → Nat → List UInt8 → Out
  | _, _, [] => .short
  | i, u, c :: r =>
    if (i = 9 ∧ 1 < c.toNat) ∨ (0 < i ∧ c.toNat = 0) then .bad i
    else if 128 ≤ c.toNat then dec (i + 1) (u + c.toNat % 128 * 128 ^ i) r
    else .got (u + c.toNat % 128 * 128 ^ i) (i + 1)
theorem dec_nil (i u : Nat) : dec i u [] = .short := rfl
theorem dec_bad (i u : Nat) (c : UInt8) (r : List UInt8) (h : (i = 9 ∧ 1 < c.toNat) ∨ (0 < i ∧ c.toNat = 0)) : dec i u (c :: r) = .bad i := by
  rw [dec, if_pos h]
theorem dec_more (i u : Nat) (c : UInt8) (r : List UInt8) (h : ¬ ((i = 9 ∧ 1 < c.toNat) ∨ (0 < i ∧ c.toNat = 0))) (h1 : 128 ≤ c.toNat) : dec i u (c :: r) = dec (i + 1) (u + c.toNat % 128 * 128 ^ i) r := by
  rw [dec, if_neg h, if_pos h1]
theorem dec_got (i u : Nat) (c : UInt8) (r : List UInt8) (h : ¬ ((i = 9 ∧ 1 < c.toNat) ∨ (0 < i ∧ c.toNat = 0))) (h1 : ¬ 128 ≤ c.toNat) : dec i u (c :: r) = .got (u + c.toNat % 128 * 128 ^ i) (i + 1) := by
  rw [dec, if_neg h, if_neg h1]
theorem pow_9 : (128 : Nat) ^ 9 = 9223372036854775808 := by decide
theorem pow_le_9 (i : Nat) (h : i ≤ 9) : (128 : Nat) ^ i ≤ 9223372036854775808 := by
  rw [← pow_9]; exact Nat.pow_le_pow_right (by omega) h
theorem pow_pos7 (i : Nat) : 0 < (128 : Nat) ^ i := Nat.pow_pos (by omega)
theorem byte_small (x : Nat) (h : x < 256) : (UInt8.ofNat x).toNat = x := by
  rw [byte_of]; omega
/-- What was put is read. -/
theorem dec_vb (x : Nat) : ∀ (i a : Nat) (r : List UInt8), i ≤ 9 → x * 128 ^ i < 18446744073709551616 → (0 < i → 0 < x) → dec i a (vb x ++ r) = .got (a + x * 128 ^ i) (i + (vb x).length) := by
  induction x using Nat.strongRecOn with
  | ind x ih =>
    intro i a r hi hx hz
    have h9 : i = 9 → x < 2 := by
      rintro rfl
      rw [pow_9] at hx
      omega
    by_cases h : x < 128
    · have hc := byte_small x (by omega)
      rw [vb_small x h, List.singleton_append, dec_got i a _ r (by rw [hc]; omega) (by rw [hc]; omega), hc, Nat.mod_eq_of_lt h]
      rfl
    · have hc := byte_small (128 + x % 128) (by omega)
      rw [vb_big x h, List.cons_append, dec_more i a _ _ (by rw [hc]; omega) (by rw [hc]; omega), hc]
      have e1 : (128 + x % 128) % 128 = x % 128 := by omega
      have e2 : (x / 128) * 128 ^ (i + 1) + x % 128 * 128 ^ i = x * 128 ^ i := by
        rw [Nat.pow_succ, Nat.mul_comm (128 ^ i) 128, ← Nat.mul_assoc, ← Nat.add_mul, Nat.div_add_mod' x 128]
      rw [e1, ih (x / 128) (by omega) (i + 1) _ r (by omega) (by omega) (fun _ => by omega), List.length_cons]
      congr 1 <;> omega
theorem dec_nb (n : Int) (r : List UInt8) (h : -9223372036854775808 ≤ n) (h' : n ≤ 9223372036854775807) : dec 0 0 (nb n ++ r) = .got (foldN n) (nb n).length := by
  have := dec_vb (foldN n) 0 0 r (by omega) (by rw [Nat.pow_zero, Nat.mul_one]; exact fold_lt n h h') (fun h => absurd h (Nat.lt_irrefl 0))
  rw [Nat.pow_zero, Nat.mul_one, Nat.zero_add, Nat.zero_add] at this
  exact this
/-- What is read was put. -/
theorem dec_inv (l : List UInt8) : ∀ (i a u k : Nat), dec i a l = .got u k → ∃ x r, l = vb x ++ r ∧ u = a + x * 128 ^ i ∧ k = i + (vb x).length ∧ (0 < i → 0 < x) := by
  induction l with
  | nil => intro i a u k h; cases h
  | cons c r ih =>
    intro i a u k h
    have hc := c.toNat_lt
    by_cases hb : (i = 9 ∧ 1 < c.toNat) ∨ (0 < i ∧ c.toNat = 0)
    · rw [dec_bad i a c r hb] at h; cases h
    · by_cases h1 : 128 ≤ c.toNat
      · rw [dec_more i a c r hb h1] at h
        obtain ⟨x, s, rfl, hu, hk, hx⟩ := ih _ _ _ _ h
        have hx0 := hx (Nat.succ_pos i)
        refine ⟨c.toNat % 128 + 128 * x, s, ?_, ?_, ?_, fun _ => by omega⟩
        · rw [vb_big (c.toNat % 128 + 128 * x) (by omega), List.cons_append]
          congr 1
          · apply UInt8.toNat_inj.1
            rw [byte_small _ (by omega)]
            omega
          · congr 2; omega
        · rw [hu, Nat.add_mul, Nat.pow_succ, Nat.add_assoc, Nat.mul_comm (128 ^ i) 128, ← Nat.mul_assoc, Nat.mul_comm x 128]
        · rw [hk, vb_big (c.toNat % 128 + 128 * x) (by omega), List.length_cons, show (c.toNat % 128 + 128 * x) / 128 = x by omega]
          omega
      · rw [dec_got i a c r hb h1] at h
        injection h with h2 h3
        refine ⟨c.toNat, r, ?_, ?_, ?_, fun _ => by omega⟩
        · rw [vb_small _ (by omega), List.singleton_append]
          congr 1
          apply UInt8.toNat_inj.1
          rw [byte_small _ (by omega)]
        · rw [← h2, Nat.mod_eq_of_lt (by omega)]
        · rw [vb_small _ (by omega)]; exact h3.symm
theorem dec_lt (l : List UInt8) : ∀ (i a u k : Nat), i ≤ 9 → a < 128 ^ i → dec i a l = .got u k → u < 18446744073709551616 ∧ k ≤ i + l.length ∧ i < k := by
  induction l with
  | nil => intro i a u k _ _ h; cases h
  | cons c r ih =>
    intro i a u k hi ha h
    have hc := c.toNat_lt
    have hp := pow_pos7 i
    by_cases hb : (i = 9 ∧ 1 < c.toNat) ∨ (0 < i ∧ c.toNat = 0)
    · rw [dec_bad i a c r hb] at h; cases h
    · have hm : c.toNat % 128 * 128 ^ i ≤ 127 * 128 ^ i := Nat.mul_le_mul_right _ (by omega)
      by_cases h1 : 128 ≤ c.toNat
      · rw [dec_more i a c r hb h1] at h
        have := ih _ _ _ _ (by omega) (by rw [Nat.pow_succ]; omega) h
        rw [List.length_cons]
        omega
      · rw [dec_got i a c r hb h1] at h
        injection h with h2 h3
        rw [List.length_cons]
        refine ⟨?_, by omega, by omega⟩
        by_cases h9 : i = 9
        · subst h9
          have hc1 : c.toNat ≤ 1 := by omega
          rw [← h2, Nat.mod_eq_of_lt (by omega)]
          rw [pow_9] at ha ⊢
          omega
        · have := pow_le_9 (i + 1) (by omega)
          rw [Nat.pow_succ] at this
          omega
theorem dec_bad_le (l : List UInt8) : ∀ (i a k : Nat), dec i a l = .bad k → i ≤ k ∧ k < i + l.length := by
  induction l with
  | nil => intro i a k h; cases h
  | cons c r ih =>
    intro i a k h
    by_cases hb : (i = 9 ∧ 1 < c.toNat) ∨ (0 < i ∧ c.toNat = 0)
    · rw [dec_bad i a c r hb] at h
      injection h with h
      rw [List.length_cons]; omega
    · by_cases h1 : 128 ≤ c.toNat
      · rw [dec_more i a c r hb h1] at h
        have := ih _ _ _ h
        rw [List.length_cons]; omega
      · rw [dec_got i a c r hb h1] at h; cases h
end Go.Proofs.Ytbclmgakifmgfaa
