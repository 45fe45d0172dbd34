/-
  Plain facts: bytes as numbers, the lowest first; the sum of bytes.
-/
namespace Go.Proofs.Ytbclmgakifmgfaa

/-- Bytes, the lowest first, as a number. -/
def num : List UInt8 → Nat
  | [] => 0
  | c :: r => c.toNat + 256 * num r
theorem num_lt (l : List UInt8) : num l < 256 ^ l.length := by
  induction l with
  | nil => simp [num]
  | cons c r ih =>
    have := c.toNat_lt
    simp only [num, List.length_cons, Nat.pow_succ]
    omega
theorem num_snoc (l : List UInt8) (c : UInt8) : num (l ++ [c]) = num l + 256 ^ l.length * c.toNat := by
  induction l with
  | nil => simp [num]
  | cons d r ih =>
    simp only [List.cons_append, num, ih, List.length_cons, Nat.pow_succ]
    rw [Nat.mul_add, Nat.mul_comm (256 ^ r.length) 256, Nat.mul_assoc]
    omega
theorem take_one_more (l : List UInt8) (k : Nat) (h : k < l.length) : l.take (k + 1) = l.take k ++ [l[k]] := by
  rw [List.take_succ_eq_append_getElem h]
theorem num_take (l : List UInt8) (k : Nat) (h : k < l.length) : num (l.take (k + 1)) = num (l.take k) + 256 ^ k * l[k].toNat := by
  rw [take_one_more l k h, num_snoc, List.length_take, Nat.min_eq_left (by omega)]
theorem num_take_lt (l : List UInt8) (k : Nat) (h : k ≤ l.length) : num (l.take k) < 256 ^ k := by
  have := num_lt (l.take k)
  rwa [List.length_take, Nat.min_eq_left h] at this
theorem pow_256 (k : Nat) : (256 : Nat) ^ k = 2 ^ (8 * k) := by
  rw [Nat.pow_mul]
theorem pow_le_8 (k : Nat) (h : k ≤ 8) : (256 : Nat) ^ k ≤ 18446744073709551616 := by
  have : (256 : Nat) ^ k ≤ 256 ^ 8 := Nat.pow_le_pow_right (by omega) h
  omega
theorem num_small (l : List UInt8) (h : l.length ≤ 8) : num l < 18446744073709551616 := by
  have := num_lt l
  have := pow_le_8 l.length h
  omega
theorem num_word (l : List UInt8) (h : l.length ≤ 4) : num l < 4294967296 := by
  have h1 := num_lt l
  have : (256 : Nat) ^ l.length ≤ 256 ^ 4 := Nat.pow_le_pow_right (by omega) h
  omega

/-- The k-th word. -/
def word (l : List UInt8) (k : Nat) : List UInt8 := (l.drop (4 * k)).take 4
theorem word_le (l : List UInt8) (k : Nat) : (word l k).length ≤ 4 := by
  unfold word; rw [List.length_take]; omega
theorem word_len (l : List UInt8) (k : Nat) : (word l k).length = min 4 (l.length - 4 * k) := by
  unfold word; rw [List.length_take, List.length_drop]
theorem word_get (l : List UInt8) (k m j : Nat) (hm : m = 4 * k) (h : j < (word l k).length) : ∃ h' : m + j < l.length, l[m + j] = (word l k)[j] := by
  have hl := word_len l k
  subst hm
  have h1 : 4 * k + j < l.length := by omega
  refine ⟨h1, ?_⟩
  have e : (word l k)[j]? = l[4 * k + j]? := by
    unfold word
    rw [List.getElem?_take, if_pos (by omega), List.getElem?_drop]
  rw [List.getElem?_eq_getElem h, List.getElem?_eq_getElem h1] at e
  exact (Option.some.inj e).symm
/-- a and b behind k words. -/
def fa (l : List UInt8) : Nat → Nat
  | 0 => l.length
  | k + 1 => (fa l k + num (word l k)) % 4294967295
def fb (l : List UInt8) : Nat → Nat
  | 0 => 0
  | k + 1 => (fb l k + fa l (k + 1)) % 4294967295
def rounds4 (l : List UInt8) : Nat := (l.length + 3) / 4
def sumOf (l : List UInt8) : Nat := fb l (rounds4 l) * 4294967296 + fa l (rounds4 l)
theorem fb_lt (l : List UInt8) (k : Nat) : fb l k < 4294967295 := by
  cases k with
  | zero => show (0 : Nat) < 4294967295; omega
  | succ k => exact Nat.mod_lt _ (by decide)
theorem fa_lt (l : List UInt8) (k : Nat) : fa l (k + 1) < 4294967295 := Nat.mod_lt _ (by decide)
theorem fa_end (l : List UInt8) : fa l (rounds4 l) < 4294967295 := by
  cases h : rounds4 l with
  | zero => unfold rounds4 at h; show l.length < _; omega
  | succ k => exact fa_lt l k
theorem fa_le (l : List UInt8) (k : Nat) : fa l k ≤ l.length + 4294967295 := by
  cases k with
  | zero => show l.length ≤ _; omega
  | succ k => have := fa_lt l k; omega
theorem sumOf_lt (l : List UInt8) : sumOf l < 18446744073709551616 := by
  have := fb_lt l (rounds4 l)
  have := fa_end l
  unfold sumOf
  omega
theorem fa_mod (l : List UInt8) (k : Nat) : fa l (k + 1) = (fa l k % 4294967295 + num (word l k)) % 4294967295 := by
  show (fa l k + num (word l k)) % 4294967295 = _
  omega
end Go.Proofs.Ytbclmgakifmgfaa
