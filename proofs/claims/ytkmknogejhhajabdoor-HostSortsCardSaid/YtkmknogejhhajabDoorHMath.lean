/-
  Plain mathematics: digits, names with numbers, what a list's text tells. No model in it.
-/
import Derived.Lib.ItoaNum
import Derived.Lib.Join
namespace Go.Proofs.YtkmknogejhhajabDoor

def isDig (c : UInt8) : Bool := 48 ≤ c && c ≤ 57
def isBare (c : UInt8) : Bool := isDig c || (97 ≤ c && c ≤ 122) || (65 ≤ c && c ≤ 90) || c == 45 || c == 95 || c == 46
/-- A byte that is a digit, as a number. -/
def dv (c : UInt8) : Nat := c.toNat - 48
/-- The number of digits. -/
def dval (l : List UInt8) : Nat := l.foldl (fun n c => 10 * n + dv c) 0
theorem dval_snoc (l : List UInt8) (c : UInt8) : dval (l ++ [c]) = 10 * dval l + dv c := by simp [dval, List.foldl_append]
theorem isDig_iff (c : UInt8) : isDig c = true ↔ 48 ≤ c.toNat ∧ c.toNat ≤ 57 := by
  unfold isDig
  simp [UInt8.le_iff_toNat_le]
theorem dv_lt {c : UInt8} (h : isDig c = true) : dv c ≤ 9 := by
  have := (isDig_iff c).1 h
  unfold dv; omega
theorem dv_inj {c d : UInt8} (h : isDig c = true) (h' : isDig d = true) (he : dv c = dv d) : c = d := by
  have := (isDig_iff c).1 h
  have := (isDig_iff d).1 h'
  unfold dv at he
  exact UInt8.toNat_inj.1 (by omega)
theorem all_snoc {p : UInt8 → Bool} {l : List UInt8} {c : UInt8} : (l ++ [c]).all p = true ↔ l.all p = true ∧ p c = true := by simp
theorem dval_lt : ∀ (k : Nat) (l : List UInt8), l.length = k → l.all isDig = true → dval l < 10 ^ k
  | 0, l, h, _ => by
    have := List.eq_nil_of_length_eq_zero h
    subst this; decide
  | k + 1, l, h, ha => by
    rcases List.eq_nil_or_concat l with rfl | ⟨m, c, rfl⟩
    · simp at h
    · rw [List.concat_eq_append] at *
      rw [dval_snoc, Nat.pow_succ]
      obtain ⟨a1, a2⟩ := all_snoc.1 ha
      have := dval_lt k m (by simpa using h) a1
      have := dv_lt a2
      omega
theorem dval_inj : ∀ (k : Nat) (l m : List UInt8), l.length = k → m.length = k → l.all isDig = true → m.all isDig = true → dval l = dval m → l = m
  | 0, l, m, h, h', _, _, _ => by rw [List.eq_nil_of_length_eq_zero h, List.eq_nil_of_length_eq_zero h']
  | k + 1, l, m, h, h', ha, ha', he => by
    rcases List.eq_nil_or_concat l with rfl | ⟨l1, c, rfl⟩
    · simp at h
    rcases List.eq_nil_or_concat m with rfl | ⟨m1, d, rfl⟩
    · simp at h'
    rw [List.concat_eq_append, List.concat_eq_append] at *
    rw [dval_snoc, dval_snoc] at he
    obtain ⟨a1, a2⟩ := all_snoc.1 ha
    obtain ⟨b1, b2⟩ := all_snoc.1 ha'
    have := dv_lt a2
    have := dv_lt b2
    rw [dval_inj k l1 m1 (by simpa using h) (by simpa using h') a1 b1 (by omega), dv_inj a2 b2 (by omega)]

/-- The decimal digits of a number, by themselves. -/
abbrev dec (u : Nat) : List UInt8 := Go.Lib.decDigits u
theorem dig_ofNat (k : Nat) (h : k < 10) : isDig (UInt8.ofNat (48 + k)) = true ∧ dv (UInt8.ofNat (48 + k)) = k := by
  have e : (UInt8.ofNat (48 + k)).toNat = 48 + k := by rw [UInt8.toNat_ofNat']; omega
  exact ⟨(isDig_iff _).2 (by omega), by unfold dv; omega⟩
theorem dec_small {u : Nat} (h : u < 10) : dec u = [UInt8.ofNat (48 + u)] := by unfold dec; rw [Go.Lib.decDigits, dif_pos h]
theorem dec_big {u : Nat} (h : ¬ u < 10) : dec u = dec (u / 10) ++ [UInt8.ofNat (48 + u % 10)] := by unfold dec; rw [Go.Lib.decDigits, dif_neg h]
theorem dec_facts (u : Nat) : (dec u).all isDig = true ∧ dval (dec u) = u ∧ 1 ≤ (dec u).length := by
  induction u using Nat.strongRecOn with
  | _ u ih =>
    by_cases h : u < 10
    · rw [dec_small h]
      have := dig_ofNat u h
      refine ⟨by rw [List.all_cons, this.1]; rfl, ?_, by simp⟩
      show dval ([] ++ [_]) = u
      rw [dval_snoc, this.2]; simp [dval]
    · rw [dec_big h]
      obtain ⟨h1, h2, _⟩ := ih (u / 10) (by omega)
      have := dig_ofNat (u % 10) (by omega)
      refine ⟨all_snoc.2 ⟨h1, this.1⟩, ?_, by simp⟩
      rw [dval_snoc, h2, this.2]; omega
theorem dec_len_mono (u v : Nat) (h : u ≤ v) : (dec u).length ≤ (dec v).length := by
  induction v using Nat.strongRecOn generalizing u with
  | _ v ih =>
    by_cases hv : v < 10
    · rw [dec_small hv, dec_small (by omega : u < 10)]; simp
    · by_cases hu : u < 10
      · rw [dec_small hu]
        exact (dec_facts v).2.2
      · rw [dec_big hv, dec_big hu]
        have := ih (v / 10) (by omega) (u / 10) (by omega)
        simp; omega
theorem dec_len_le (k u : Nat) (hk : 1 ≤ k) (h : u < 10 ^ k) : (dec u).length ≤ k := by
  induction k generalizing u with
  | zero => omega
  | succ k ih =>
    by_cases hu : u < 10
    · rw [dec_small hu]; simp
    · rw [dec_big hu]
      rw [Nat.pow_succ] at h
      by_cases hk0 : k = 0
      · subst hk0; simp at h; omega
      · have := ih (u / 10) (by omega) (by omega)
        simp; omega
/-- A number's digits, with noughts ahead up to a width. -/
def dig (u w : Nat) : List UInt8 := List.replicate (w - (dec u).length) 48 ++ dec u
theorem dig_len (u w : Nat) : (dig u w).length = max w (dec u).length := by
  unfold dig
  rw [List.length_append, List.length_replicate]; omega
theorem dval_pad (k : Nat) (l : List UInt8) : dval (List.replicate k 48 ++ l) = dval l := by
  unfold dval
  rw [List.foldl_append]
  congr 1
  induction k with
  | zero => rfl
  | succ k ih => rw [List.replicate_succ', List.foldl_append, ih]; rfl
theorem dig_facts (u w : Nat) : (dig u w).all isDig = true ∧ dval (dig u w) = u := by
  obtain ⟨h1, h2, _⟩ := dec_facts u
  refine ⟨?_, by unfold dig; rw [dval_pad, h2]⟩
  unfold dig
  rw [List.all_append, h1, Bool.and_true, List.all_eq_true]
  intro x hx
  rw [List.eq_of_mem_replicate hx]; rfl
theorem dig_of {d : List UInt8} {u w : Nat} (ha : d.all isDig = true) (hv : dval d = u) (hl : d.length = (dig u w).length) : d = dig u w :=
  dval_inj _ d _ rfl hl.symm ha (dig_facts u w).1 (hv.trans (dig_facts u w).2.symm)
theorem dig_zero (u : Nat) : dig u 0 = dec u := by unfold dig; rw [Nat.zero_sub]; rfl

/-- How many digits at a name's end its number has. -/
def ndig (l : List UInt8) : Nat := ((l.reverse.take 6).takeWhile isDig).length
/-- A name's prefix, number, how many digits, and whether it has one. -/
def number (l : List UInt8) : List UInt8 × Nat × Nat × Bool :=
  if ndig l = 0 ∨ ndig l = l.length then (l, 0, 0, false) else (l.take (l.length - ndig l), dval (l.drop (l.length - ndig l)), ndig l, true)
theorem takeWhile_len {p : UInt8 → Bool} (l : List UInt8) (j : Nat) (hj : j ≤ l.length) (ha : ∀ i (h : i < l.length), i < j → p l[i] = true) (hs : ∀ h : j < l.length, p l[j] = false) : (l.takeWhile p).length = j := by
  induction l generalizing j with
  | nil => simp at hj; subst hj; rfl
  | cons x r ih =>
    cases j with
    | zero =>
      have := hs (by simp)
      simp at this
      simp [this]
    | succ j =>
      have h0 := ha 0 (by simp) (by omega)
      simp at h0
      rw [List.takeWhile_cons, if_pos h0, List.length_cons, ih j (by simpa using hj) (fun i h hi => by have := ha (i + 1) (by rw [List.length_cons]; omega) (by omega); rwa [List.getElem_cons_succ] at this) (fun h => by have := hs (by rw [List.length_cons]; omega); rwa [List.getElem_cons_succ] at this)]
theorem ndig_le (l : List UInt8) : ndig l ≤ 6 ∧ ndig l ≤ l.length := by
  have h : ndig l ≤ (l.reverse.take 6).length := (List.takeWhile_prefix isDig (l := l.reverse.take 6)).length_le
  rw [List.length_take, List.length_reverse] at h
  omega
theorem takeWhile_pre {p : UInt8 → Bool} (l : List UInt8) (i : Nat) (h : i < (l.takeWhile p).length) (h' : i < l.length) : p l[i] = true := by
  have hp := List.takeWhile_prefix p (l := l)
  have : (l.takeWhile p)[i] = l[i] := List.IsPrefix.getElem hp h
  rw [← this]
  exact List.all_eq_true.1 (List.all_takeWhile) _ (List.getElem_mem h)
theorem ndig_all (l : List UInt8) (i : Nat) (h : i < l.length) (hi : l.length - ndig l ≤ i) : isDig l[i] = true := by
  have hn := ndig_le l
  have hk : l.length - 1 - i < ndig l := by omega
  have := takeWhile_pre (p := isDig) (l.reverse.take 6) (l.length - 1 - i) hk (by rw [List.length_take, List.length_reverse]; omega)
  rw [List.getElem_take, List.getElem_reverse] at this
  simpa [show l.length - 1 - (l.length - 1 - i) = i by omega] using this
theorem ndig_eq (l : List UInt8) (j : Nat) (h6 : j ≤ 6) (hj : j ≤ l.length) (ha : ∀ i (h : i < l.length), l.length - j ≤ i → isDig l[i] = true) (hs : j = 6 ∨ j = l.length ∨ ∃ h : l.length - j - 1 < l.length, isDig l[l.length - j - 1] = false) : ndig l = j := by
  unfold ndig
  refine takeWhile_len _ j (by rw [List.length_take, List.length_reverse]; omega) (fun i h hi => ?_) (fun h => ?_)
  · rw [List.length_take, List.length_reverse] at h
    rw [List.getElem_take, List.getElem_reverse]
    exact ha _ (by omega) (by omega)
  · rw [List.length_take, List.length_reverse] at h
    rw [List.getElem_take, List.getElem_reverse]
    rcases hs with h1 | h1 | ⟨h1, h2⟩
    · omega
    · omega
    · simpa [show l.length - 1 - j = l.length - j - 1 by omega] using h2
theorem number_yes {l : List UInt8} {p : List UInt8} {n k : Nat} (h : number l = (p, n, k, true)) : ∃ d, l = p ++ d ∧ d.length = k ∧ 1 ≤ k ∧ k ≤ 6 ∧ d.all isDig = true ∧ dval d = n ∧ p ≠ [] := by
  unfold number at h
  split at h
  · simp at h
  · rename_i hn
    have hle := ndig_le l
    injection h with h1 h2
    injection h2 with h2 h3
    injection h3 with h3 _
    have hl : (l.drop (l.length - ndig l)).length = ndig l := by rw [List.length_drop]; omega
    refine ⟨l.drop (l.length - ndig l), by rw [← h1, List.take_append_drop], by rw [hl, h3], by omega, by omega, ?_, h2, ?_⟩
    · rw [List.all_eq_true]
      intro x hx
      obtain ⟨i, hi, rfl⟩ := List.getElem_of_mem hx
      rw [List.getElem_drop]
      exact ndig_all l _ (by rw [List.length_drop] at hi; omega) (by omega)
    · rw [← h1]
      intro h0
      have := congrArg List.length h0
      rw [List.length_take] at this
      simp at this
      omega
theorem number_no {l : List UInt8} {p : List UInt8} {n k : Nat} (h : number l = (p, n, k, false)) : p = l ∧ n = 0 ∧ k = 0 := by
  unfold number at h
  split at h
  · simp at h
    exact ⟨h.1.symm, h.2.1.symm, h.2.2.symm⟩
  · simp at h
end Go.Proofs.YtkmknogejhhajabDoor
