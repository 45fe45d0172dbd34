/-
  Plain mathematics: the numbers that stand in a text, and which vector they make. No model in it.
-/
import Derived.Test.YtkmknogejhhajaaDoorVMath
namespace Go.Proofs.YtkmknogejhhajaaDoor

/-- The number that begins there, up to the limit. -/
def numAt : List UInt8 → Nat → Nat
  | [], n => n
  | c :: r, n => if isDig c = true ∧ n ≤ 1073741824 then numAt r (10 * n + dv c) else n
/-- The numbers behind each '='. -/
def nums : List UInt8 → List Nat
  | [] => []
  | c :: r => if c = 61 then numAt r 0 :: nums r else nums r
/-- Behind a number stands no digit. -/
def Stop (r : List UInt8) : Prop := r = [] ∨ ∃ c t, r = c :: t ∧ isDig c = false
theorem numAt_stop {r : List UInt8} (h : Stop r) (n : Nat) : numAt r n = n := by
  rcases h with rfl | ⟨c, t, rfl, hc⟩
  · rfl
  · unfold numAt; rw [if_neg (by simp [hc])]
theorem numAt_digits : ∀ (l r : List UInt8) (n : Nat), l.all isDig = true → l.foldl (fun n c => 10 * n + dv c) n ≤ 1073741824 → numAt (l ++ r) n = numAt r (l.foldl (fun n c => 10 * n + dv c) n)
  | [], _, _, _, _ => rfl
  | c :: t, r, n, ha, hb => by
    rw [List.all_cons, Bool.and_eq_true] at ha
    rw [List.foldl_cons] at hb
    have hl := fold_le t (10 * n + dv c)
    rw [List.foldl_cons, List.cons_append]
    conv => lhs; unfold numAt
    rw [if_pos ⟨ha.1, by omega⟩]
    exact numAt_digits t r _ ha.2 hb
theorem nums_no : ∀ (l r : List UInt8), 61 ∉ l → nums (l ++ r) = nums r
  | [], _, _ => rfl
  | c :: t, r, h => by
    rw [List.cons_append]
    conv => lhs; unfold nums
    rw [if_neg (fun e => h (by rw [e]; simp))]
    exact nums_no t r (fun e => h (by simp [e]))
theorem dec_no61 (u : Nat) : 61 ∉ dec u := fun hm => by
  have := List.all_eq_true.1 (dec_facts u).1 61 hm
  revert this; decide
theorem nums_pc (k : List UInt8) (n : Int) (r : List UInt8) (hk : 61 ∉ k) (h0 : 0 ≤ n) (h1 : n ≤ 1073741824) (hr : Stop r) : nums (pc k n ++ r) = n.toNat :: nums r := by
  have e : pc k n ++ r = k ++ (61 :: (dec n.toNat ++ r)) := by unfold pc; rw [num_pos h0]; simp
  obtain ⟨d1, d2, _⟩ := dec_facts n.toNat
  have hd := numAt_digits (dec n.toNat) r 0 d1 (by show dval (dec n.toNat) ≤ _; rw [d2]; omega)
  rw [show List.foldl (fun n c => 10 * n + dv c) 0 (dec n.toNat) = n.toNat from d2, numAt_stop hr] at hd
  rw [e, nums_no k _ hk]
  conv => lhs; unfold nums
  rw [if_pos rfl, hd, nums_no _ r (dec_no61 _)]
def nz (n : Int) : List Nat := if n = 0 then [] else [n.toNat]
theorem stop_comma (r : List UInt8) : Stop (44 :: r) := .inr ⟨44, r, rfl, by decide⟩
theorem nums_fmt (v : V3) (h : right v.1 v.2.1 v.2.2 = true) : nums (fmt v) = nz v.1 ++ nz v.2.1 ++ nz v.2.2 := by
  obtain ⟨a, b, c⟩ := v
  obtain ⟨⟨a0, a1⟩, ⟨b0, b1⟩, ⟨c0, c1⟩⟩ := right_iff.1 h
  simp only at a0 a1 b0 b1 c0 c1
  have one := fun (k : List UInt8) (n : Int) (hk : 61 ∉ k) (h0 : 0 ≤ n) (h1 : n ≤ 1073741824) => by
    have := nums_pc k n [] hk h0 h1 (.inl rfl)
    rw [List.append_nil] at this
    exact this
  have more := fun (k : List UInt8) (n : Int) (r : List UInt8) (hk : 61 ∉ k) (h0 : 0 ≤ n) (h1 : n ≤ 1073741824) => by
    have := nums_pc k n (44 :: r) hk h0 h1 (stop_comma r)
    rw [show nums (44 :: r) = nums r from rfl] at this
    exact this
  unfold fmt allPcs pcs nz
  simp only
  by_cases ha : a = 0 <;> by_cases hb : b = 0 <;> by_cases hc : c = 0
  · subst ha hb hc; rfl
  all_goals
    rw [if_neg (by omega)]
    simp only [ha, hb, hc, if_true, if_false, List.nil_append, List.append_nil, List.cons_append, Go.Lib.join_one, join_two, join_three]
  · exact one kGpu c (by decide) c0 c1
  · exact one kMem b (by decide) b0 b1
  · rw [more kMem b _ (by decide) b0 b1, one kGpu c (by decide) c0 c1]; rfl
  · exact one kCpu a (by decide) a0 a1
  · rw [more kCpu a _ (by decide) a0 a1, one kGpu c (by decide) c0 c1]; rfl
  · rw [more kCpu a _ (by decide) a0 a1, one kMem b (by decide) b0 b1]; rfl
  · rw [more kCpu a _ (by decide) a0 a1, more kMem b _ (by decide) b0 b1, one kGpu c (by decide) c0 c1]; rfl
theorem dec_len : ∀ (k u : Nat), u < 10 ^ (k + 1) → (dec u).length ≤ k + 1
  | 0, u, h => by rw [dec_small (by simpa using h)]; simp
  | k + 1, u, h => by
    by_cases hu : u < 10
    · rw [dec_small hu]; simp
    · rw [dec_big hu, List.length_append, List.length_singleton]
      have := dec_len k (u / 10) (by rw [Nat.pow_succ] at h; omega)
      omega
theorem fmt_short (v : V3) (h : right v.1 v.2.1 v.2.2 = true) : (fmt v).length ≤ 60 := by
  obtain ⟨a, b, c⟩ := v
  obtain ⟨⟨a0, a1⟩, ⟨b0, b1⟩, ⟨c0, c1⟩⟩ := right_iff.1 h
  simp only at a0 a1 b0 b1 c0 c1
  have one := fun (k : List UInt8) (n : Int) (hk : k.length = 3) (h0 : 0 ≤ n) (h1 : n ≤ 1073741824) => (show (pc k n).length ≤ 14 by
    have := dec_len 9 n.toNat (by have : (10 : Nat) ^ (9 + 1) = 10000000000 := by decide
                                  omega)
    unfold pc
    rw [num_pos h0, List.length_append, List.length_append, List.length_singleton]
    omega)
  have q1 := one kCpu a rfl a0 a1
  have q2 := one kMem b rfl b0 b1
  have q3 := one kGpu c rfl c0 c1
  unfold fmt allPcs pcs
  simp only
  by_cases ha : a = 0 <;> by_cases hb : b = 0 <;> by_cases hc : c = 0
  · subst ha hb hc; decide
  all_goals
    rw [if_neg (by omega)]
    simp only [ha, hb, hc, if_true, if_false, List.nil_append, List.append_nil, List.cons_append, Go.Lib.join_one, join_two, join_three, List.length_append, List.length_cons]
    omega
/-- One part of the three: of the numbers the next one, if it is its turn. -/
def pick (b : Bool) (k : Nat) (ls : List Nat) : Int × Nat := if b = true ∧ k < ls.length then ((ls.getD k 0 : Nat), k + 1) else (0, k)
def cand (b1 b2 b3 : Bool) (ls : List Nat) : V3 × Nat :=
  (((pick b1 0 ls).1, (pick b2 (pick b1 0 ls).2 ls).1, (pick b3 (pick b2 (pick b1 0 ls).2 ls).2 ls).1), (pick b3 (pick b2 (pick b1 0 ls).2 ls).2 ls).2)
def bit1 (m : Nat) : Bool := decide (m % 2 = 1)
def bit2 (m : Nat) : Bool := decide (m / 2 % 2 = 1)
def bit3 (m : Nat) : Bool := decide (m / 4 = 1)
/-- What is taken. -/
def Good (s : List UInt8) (ls : List Nat) (m : Nat) : Prop := (cand (bit1 m) (bit2 m) (bit3 m) ls).2 = ls.length ∧ right (cand (bit1 m) (bit2 m) (bit3 m) ls).1.1 (cand (bit1 m) (bit2 m) (bit3 m) ls).1.2.1 (cand (bit1 m) (bit2 m) (bit3 m) ls).1.2.2 = true ∧ fmt (cand (bit1 m) (bit2 m) (bit3 m) ls).1 = s
theorem parse_good {s : List UInt8} {ls : List Nat} {m : Nat} (h : Good s ls m) : parseP s = ((cand (bit1 m) (bit2 m) (bit3 m) ls).1, 0) := parse_iff s _ h.2.1 h.2.2
def bitsOf (v : V3) : Nat := (if v.1 = 0 then 0 else 1) + (if v.2.1 = 0 then 0 else 2) + (if v.2.2 = 0 then 0 else 4)
theorem cand_of (v : V3) (h : right v.1 v.2.1 v.2.2 = true) : bitsOf v < 8 ∧ cand (bit1 (bitsOf v)) (bit2 (bitsOf v)) (bit3 (bitsOf v)) (nz v.1 ++ nz v.2.1 ++ nz v.2.2) = (v, (nz v.1 ++ nz v.2.1 ++ nz v.2.2).length) := by
  obtain ⟨a, b, c⟩ := v
  obtain ⟨⟨a0, _⟩, ⟨b0, _⟩, ⟨c0, _⟩⟩ := right_iff.1 h
  simp only at a0 b0 c0
  unfold bitsOf nz cand pick
  simp only
  by_cases ha : a = 0 <;> by_cases hb : b = 0 <;> by_cases hc : c = 0
  all_goals
    simp [ha, hb, hc, bit1, bit2, bit3]
  all_goals omega
theorem parse_none {s : List UInt8} (h : ∀ m, m < 8 → ¬ Good s (nums s) m) : parseP s = ((0, 0, 0), 3) := parse_not s fun v hv e => by
  obtain ⟨h8, hc⟩ := cand_of v hv
  rw [← nums_fmt v hv, e] at hc
  refine h _ h8 ?_
  unfold Good
  rw [hc]
  exact ⟨rfl, hv, e⟩
theorem parse_long {s : List UInt8} (h : 60 < s.length) : parseP s = ((0, 0, 0), 3) := parse_not s fun v hv e => by
  have := fmt_short v hv
  rw [e] at this
  omega
theorem parse_many {s : List UInt8} (h : 3 < (nums s).length) : parseP s = ((0, 0, 0), 3) := parse_not s fun v hv e => by
  have := congrArg List.length (nums_fmt v hv)
  rw [e, List.length_append, List.length_append] at this
  have q := fun n => (show (nz n).length ≤ 1 by unfold nz; split <;> simp)
  have := q v.1
  have := q v.2.1
  have := q v.2.2
  omega
end Go.Proofs.YtkmknogejhhajaaDoor
