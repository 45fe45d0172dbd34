/-
  Plain mathematics: numbers' digits, a vector's text, what a text's parts tell. No model in it.
-/
import Derived.Lib.ItoaNum
import Derived.Lib.Join
import Derived.Lib.AtoiAllCases
import Derived.Test.YtkmknogejhhajaaDoorVBase
namespace Go.Proofs.YtkmknogejhhajaaDoor

def isDig (c : UInt8) : Bool := 48 ≤ c && c ≤ 57
/-- A byte that is a digit, as a number. -/
def dv (c : UInt8) : Nat := c.toNat - 48
/-- The number of digits. -/
def dval (l : List UInt8) : Nat := l.foldl (fun n c => 10 * n + dv c) 0
theorem dval_snoc (l : List UInt8) (c : UInt8) : dval (l ++ [c]) = 10 * dval l + dv c := by simp [dval, List.foldl_append]
theorem isDig_iff (c : UInt8) : isDig c = true ↔ 48 ≤ c.toNat ∧ c.toNat ≤ 57 := by
  unfold isDig
  simp [UInt8.le_iff_toNat_le]
theorem dv_lt {c : UInt8} (h : isDig c = true) : dv c ≤ 9 := by
  have := (isDig_iff c).1 h
  unfold dv; omega
theorem dv_inj {c d : UInt8} (h : isDig c = true) (h' : isDig d = true) (he : dv c = dv d) : c = d := by
  have := (isDig_iff c).1 h
  have := (isDig_iff d).1 h'
  unfold dv at he
  exact UInt8.toNat_inj.1 (by omega)
theorem all_snoc {p : UInt8 → Bool} {l : List UInt8} {c : UInt8} : (l ++ [c]).all p = true ↔ l.all p = true ∧ p c = true := by simp
theorem dval_lt : ∀ (k : Nat) (l : List UInt8), l.length = k → l.all isDig = true → dval l < 10 ^ k
  | 0, l, h, _ => by
    have := List.eq_nil_of_length_eq_zero h
    subst this; decide
  | k + 1, l, h, ha => by
    rcases List.eq_nil_or_concat l with rfl | ⟨m, c, rfl⟩
    · simp at h
    · rw [List.concat_eq_append] at *
      rw [dval_snoc, Nat.pow_succ]
      obtain ⟨a1, a2⟩ := all_snoc.1 ha
      have := dval_lt k m (by simpa using h) a1
      have := dv_lt a2
      omega
/-- The decimal digits of a number, by themselves. -/
abbrev dec (u : Nat) : List UInt8 := Go.Lib.decDigits u
theorem dig_ofNat (k : Nat) (h : k < 10) : isDig (UInt8.ofNat (48 + k)) = true ∧ dv (UInt8.ofNat (48 + k)) = k := by
  have e : (UInt8.ofNat (48 + k)).toNat = 48 + k := by rw [UInt8.toNat_ofNat']; omega
  exact ⟨(isDig_iff _).2 (by omega), by unfold dv; omega⟩
theorem dec_small {u : Nat} (h : u < 10) : dec u = [UInt8.ofNat (48 + u)] := by unfold dec; rw [Go.Lib.decDigits, dif_pos h]
theorem dec_big {u : Nat} (h : ¬ u < 10) : dec u = dec (u / 10) ++ [UInt8.ofNat (48 + u % 10)] := by unfold dec; rw [Go.Lib.decDigits, dif_neg h]
theorem dec_facts (u : Nat) : (dec u).all isDig = true ∧ dval (dec u) = u ∧ 1 ≤ (dec u).length := by
  induction u using Nat.strongRecOn with
  | _ u ih =>
    by_cases h : u < 10
    · rw [dec_small h]
      have := dig_ofNat u h
      refine ⟨by rw [List.all_cons, this.1]; rfl, ?_, by simp⟩
      show dval ([] ++ [_]) = u
      rw [dval_snoc, this.2]; simp [dval]
    · rw [dec_big h]
      obtain ⟨h1, h2, _⟩ := ih (u / 10) (by omega)
      have := dig_ofNat (u % 10) (by omega)
      refine ⟨all_snoc.2 ⟨h1, this.1⟩, ?_, by simp⟩
      rw [dval_snoc, h2, this.2]; omega

theorem fold_le : ∀ (l : List UInt8) (n : Nat), n ≤ l.foldl (fun n c => 10 * n + dv c) n
  | [], n => Nat.le_refl n
  | c :: r, n => Nat.le_trans (by omega) (fold_le r (10 * n + dv c))
theorem uint_digits : ∀ (l : List UInt8) (n : Nat), l.all isDig = true → l.foldl (fun n c => 10 * n + dv c) n < 18446744073709551616 → Go.Lib.parseUint10 n l = .ok (l.foldl (fun n c => 10 * n + dv c) n)
  | [], n, _, _ => rfl
  | c :: r, n, ha, hb => by
    rw [List.all_cons, Bool.and_eq_true] at ha
    have hc := (isDig_iff c).1 ha.1
    have hl := fold_le r (10 * n + dv c)
    rw [List.foldl_cons] at hb
    have hd : dv c = c.toNat - 48 := rfl
    have e : n * 10 + (c.toNat - 48) = 10 * n + dv c := by omega
    rw [List.foldl_cons]
    unfold Go.Lib.parseUint10
    rw [if_pos hc, if_neg (by omega), e, if_neg (by omega)]
    exact uint_digits r _ ha.2 hb
theorem mag_dec (u : Nat) (h : u < 18446744073709551616) : Go.Lib.parseMag (dec u) = .ok u := by
  obtain ⟨h1, h2, h3⟩ := dec_facts u
  unfold Go.Lib.parseMag
  rw [if_neg (by intro e; rw [e] at h3; simp at h3)]
  have := uint_digits (dec u) 0 h1 (by show dval (dec u) < _; rw [h2]; exact h)
  rw [this]
  exact congrArg _ h2
/-- A number's text, with its sign. -/
abbrev num (n : Int) : List UInt8 := Go.Lib.itoa n
theorem num_pos {n : Int} (h : 0 ≤ n) : num n = dec n.toNat := by unfold num Go.Lib.itoa; rw [if_neg (by omega)]
theorem num_neg {n : Int} (h : n < 0) : num n = 45 :: dec n.natAbs := by unfold num Go.Lib.itoa; rw [if_pos h]
theorem dec_head (u : Nat) : ∃ c r, dec u = c :: r ∧ isDig c = true ∧ r.all isDig = true := by
  obtain ⟨h1, _, h3⟩ := dec_facts u
  cases h : dec u with
  | nil => rw [h] at h3; simp at h3
  | cons c r => rw [h, List.all_cons, Bool.and_eq_true] at h1; exact ⟨c, r, rfl, h1.1, h1.2⟩
theorem atoi_num (n : Int) (h : I64 n) : Go.Lib.atoiAll (num n) = .ok n := by
  obtain ⟨h0, h1⟩ := h
  by_cases hn : 0 ≤ n
  · rw [num_pos hn]
    obtain ⟨c, r, e, hc, _⟩ := dec_head n.toNat
    have hd := (isDig_iff c).1 hc
    rw [e, Go.Lib.atoiAll_plain c r (by omega) (by omega), ← e, mag_dec _ (by omega)]
    show (if 9223372036854775808 ≤ n.toNat then _ else _) = _
    rw [if_neg (by omega)]
    exact congrArg _ (by omega)
  · rw [num_neg (by omega), Go.Lib.atoiAll_minus, mag_dec _ (by omega)]
    show (if 9223372036854775808 < n.natAbs then _ else _) = _
    rw [if_neg (by omega)]
    exact congrArg _ (by omega)
/-- No byte of a number's text is c, where c is no digit and no sign. -/
theorem num_no (n : Int) (c : UInt8) (hc : isDig c = false) (h45 : c ≠ 45) : c ∉ num n := by
  have hd : ∀ u, c ∉ dec u := fun u hm => by
    have := List.all_eq_true.1 (dec_facts u).1 c hm
    rw [hc] at this; cases this
  by_cases hn : 0 ≤ n
  · rw [num_pos hn]; exact hd _
  · rw [num_neg (by omega)]
    intro hm
    rcases List.mem_cons.1 hm with e | e
    · exact h45 e
    · exact hd _ e
theorem num_ne (n : Int) : num n ≠ [] := by
  by_cases hn : 0 ≤ n
  · rw [num_pos hn]
    obtain ⟨c, r, e, _⟩ := dec_head n.toNat
    rw [e]; exact List.cons_ne_nil _ _
  · rw [num_neg (by omega)]; exact List.cons_ne_nil _ _

/-! ### A text's pieces, with ',' between -/
def pieces : List UInt8 → List (List UInt8)
  | [] => [[]]
  | c :: r => if c = 44 then [] :: pieces r else match pieces r with
    | [] => [[c]]
    | x :: xs => (c :: x) :: xs
def upTo (c : UInt8) (l : List UInt8) : List UInt8 := l.takeWhile (fun x => x != c)
def behind (c : UInt8) (l : List UInt8) : List UInt8 := l.drop ((upTo c l).length + 1)
theorem upTo_cons (c x : UInt8) (r : List UInt8) : upTo c (x :: r) = if x = c then [] else x :: upTo c r := by
  unfold upTo
  rw [List.takeWhile_cons]
  by_cases h : x = c
  · rw [if_pos h, if_neg (by simp [h])]
  · rw [if_neg h, if_pos (by simp [h])]
theorem pieces_step (l : List UInt8) : pieces l = upTo 44 l :: (if 44 ∈ l then pieces (behind 44 l) else []) := by
  induction l with
  | nil => rfl
  | cons c r ih =>
    by_cases h : c = 44
    · subst h
      rw [if_pos (by simp)]
      simp [pieces, upTo, behind]
    · have hm : (44 ∈ c :: r) ↔ 44 ∈ r := by
        simp only [List.mem_cons]
        exact ⟨fun hh => hh.resolve_left (fun e => h e.symm), .inr⟩
      have hu : upTo 44 (c :: r) = c :: upTo 44 r := by rw [upTo_cons, if_neg h]
      have hb : behind 44 (c :: r) = behind 44 r := by unfold behind; rw [hu]; rfl
      conv => lhs; unfold pieces
      rw [if_neg h, ih, hu, hb]
      by_cases h2 : 44 ∈ r
      · rw [if_pos h2, if_pos (hm.2 h2)]
      · rw [if_neg h2, if_neg (fun e => h2 (hm.1 e))]
theorem upTo_no {c : UInt8} {l : List UInt8} (h : c ∉ l) : upTo c l = l := by
  induction l with
  | nil => rfl
  | cons x r ih =>
    rw [upTo_cons, if_neg (fun e => h (by rw [e]; simp)), ih (fun e => h (by simp [e]))]
theorem upTo_app {c : UInt8} {l r : List UInt8} (h : c ∉ l) : upTo c (l ++ c :: r) = l := by
  induction l with
  | nil => rw [List.nil_append, upTo_cons, if_pos rfl]
  | cons x t ih =>
    rw [List.cons_append, upTo_cons, if_neg (fun e => h (by rw [e]; simp)), ih (fun e => h (by simp [e]))]
theorem behind_app {c : UInt8} {l r : List UInt8} (h : c ∉ l) : behind c (l ++ c :: r) = r := by
  unfold behind
  rw [upTo_app h, List.drop_append]
  simp
theorem pieces_one {l : List UInt8} (h : 44 ∉ l) : pieces l = [l] := by rw [pieces_step, if_neg h, upTo_no h]
theorem pieces_more {l r : List UInt8} (h : 44 ∉ l) : pieces (l ++ 44 :: r) = l :: pieces r := by rw [pieces_step, if_pos (by simp), upTo_app h, behind_app h]

/-! ### A vector's text -/
def kCpu : List UInt8 := [99, 112, 117]
def kMem : List UInt8 := [109, 101, 109]
def kGpu : List UInt8 := [103, 112, 117]
def noneT : List UInt8 := [110, 111, 110, 101]
def pc (k : List UInt8) (n : Int) : List UInt8 := k ++ [61] ++ num n
def pcs (k : List UInt8) (n : Int) : List (List UInt8) := if n = 0 then [] else [pc k n]
def allPcs (v : V3) : List (List UInt8) := pcs kCpu v.1 ++ pcs kMem v.2.1 ++ pcs kGpu v.2.2
def fmt (v : V3) : List UInt8 := if v.1 = 0 ∧ v.2.1 = 0 ∧ v.2.2 = 0 then noneT else Go.Lib.join (allPcs v) [44]
/-- One piece's part. -/
def step (v : V3) (p : List UInt8) : Option V3 :=
  match Go.Lib.atoiAll (behind 61 p) with
  | .ok n => if upTo 61 p = kCpu then some (n, v.2.1, v.2.2) else if upTo 61 p = kMem then some (v.1, n, v.2.2) else if upTo 61 p = kGpu then some (v.1, v.2.1, n) else none
  | _ => none
def foldP : V3 → List (List UInt8) → Option V3
  | v, [] => some v
  | v, p :: r => (step v p).bind (fun v' => foldP v' r)
theorem foldP_snoc (v : V3) (l : List (List UInt8)) (p : List UInt8) : foldP v (l ++ [p]) = (foldP v l).bind (fun v' => step v' p) := by
  induction l generalizing v with
  | nil => simp [foldP]
  | cons x r ih =>
    simp only [List.cons_append, foldP]
    cases step v x with
    | none => rfl
    | some v' => exact ih v'
def readP (s : List UInt8) : Option V3 := if s = noneT then some (0, 0, 0) else foldP (0, 0, 0) (pieces s)
theorem pc_cut (k : List UInt8) (n : Int) (h : 61 ∉ k) : upTo 61 (pc k n) = k ∧ behind 61 (pc k n) = num n := by
  have e : pc k n = k ++ 61 :: num n := by unfold pc; simp
  rw [e]
  exact ⟨upTo_app h, behind_app h⟩
theorem step_cpu (v : V3) (n : Int) (h : I64 n) : step v (pc kCpu n) = some (n, v.2.1, v.2.2) := by
  obtain ⟨h1, h2⟩ := pc_cut kCpu n (by decide)
  unfold step
  rw [h1, h2, atoi_num n h]
  rfl
theorem step_mem (v : V3) (n : Int) (h : I64 n) : step v (pc kMem n) = some (v.1, n, v.2.2) := by
  obtain ⟨h1, h2⟩ := pc_cut kMem n (by decide)
  unfold step
  rw [h1, h2, atoi_num n h]
  rfl
theorem step_gpu (v : V3) (n : Int) (h : I64 n) : step v (pc kGpu n) = some (v.1, v.2.1, n) := by
  obtain ⟨h1, h2⟩ := pc_cut kGpu n (by decide)
  unfold step
  rw [h1, h2, atoi_num n h]
  rfl
theorem pc_no (k : List UInt8) (n : Int) (c : UInt8) (hk : c ∉ k) (hc : isDig c = false) (h45 : c ≠ 45) (h61 : c ≠ 61) : c ∉ pc k n := by
  unfold pc
  intro h
  rcases List.mem_append.1 h with h | h
  · rcases List.mem_append.1 h with h | h
    · exact hk h
    · exact h61 (by simpa using h)
  · exact num_no n c hc h45 h
theorem join_two (x y : List UInt8) : Go.Lib.join [x, y] [44] = x ++ 44 :: y := by rw [Go.Lib.join_cons]; simp [Go.Lib.joinTail]
theorem join_three (x y z : List UInt8) : Go.Lib.join [x, y, z] [44] = x ++ 44 :: (y ++ 44 :: z) := by rw [Go.Lib.join_cons]; simp [Go.Lib.joinTail]
theorem c44 (n : Int) : 44 ∉ pc kCpu n ∧ 44 ∉ pc kMem n ∧ 44 ∉ pc kGpu n :=
  ⟨pc_no _ n 44 (by decide) (by decide) (by decide) (by decide), pc_no _ n 44 (by decide) (by decide) (by decide) (by decide), pc_no _ n 44 (by decide) (by decide) (by decide) (by decide)⟩
theorem no_none (k : List UInt8) (n : Int) (t : List UInt8) (c : UInt8) (r : List UInt8) (hk : k = c :: r) (hc : c ≠ 110) : pc k n ++ t ≠ noneT := by
  subst hk
  unfold pc noneT
  intro h
  injection h with h1 _
  exact hc h1
theorem read_fmt (v : V3) (h1 : I64 v.1) (h2 : I64 v.2.1) (h3 : I64 v.2.2) : readP (fmt v) = some v := by
  obtain ⟨a, b, c⟩ := v
  simp only at h1 h2 h3
  unfold fmt allPcs pcs
  simp only
  by_cases ha : a = 0 <;> by_cases hb : b = 0 <;> by_cases hc : c = 0
  · subst ha hb hc; rfl
  all_goals
    rw [if_neg (by omega)]
    simp only [ha, hb, hc, if_true, if_false, List.nil_append, List.append_nil, List.cons_append, Go.Lib.join_one, join_two, join_three]
  · unfold readP
    rw [if_neg (by have := no_none kGpu c [] 103 _ rfl (by decide); rwa [List.append_nil] at this), pieces_one (c44 c).2.2]
    simp [foldP, step_gpu _ c h3]
  · unfold readP
    rw [if_neg (by have := no_none kMem b [] 109 _ rfl (by decide); rwa [List.append_nil] at this), pieces_one (c44 b).2.1]
    simp [foldP, step_mem _ b h2]
  · unfold readP
    rw [if_neg (no_none kMem b _ 109 _ rfl (by decide)), pieces_more (c44 b).2.1, pieces_one (c44 c).2.2]
    simp [foldP, step_mem _ b h2, step_gpu _ c h3]
  · unfold readP
    rw [if_neg (by have := no_none kCpu a [] 99 _ rfl (by decide); rwa [List.append_nil] at this), pieces_one (c44 a).1]
    simp [foldP, step_cpu _ a h1]
  · unfold readP
    rw [if_neg (no_none kCpu a _ 99 _ rfl (by decide)), pieces_more (c44 a).1, pieces_one (c44 c).2.2]
    simp [foldP, step_cpu _ a h1, step_gpu _ c h3]
  · unfold readP
    rw [if_neg (no_none kCpu a _ 99 _ rfl (by decide)), pieces_more (c44 a).1, pieces_one (c44 b).2.1]
    simp [foldP, step_cpu _ a h1, step_mem _ b h2]
  · unfold readP
    rw [if_neg (no_none kCpu a _ 99 _ rfl (by decide)), pieces_more (c44 a).1, pieces_more (c44 b).2.1, pieces_one (c44 c).2.2]
    simp [foldP, step_cpu _ a h1, step_mem _ b h2, step_gpu _ c h3]
/-- A text's vector, or the fault. -/
def parseP (s : List UInt8) : V3 × Int := match readP s with
  | some v => if right v.1 v.2.1 v.2.2 = true ∧ fmt v = s then (v, 0) else ((0, 0, 0), 3)
  | none => ((0, 0, 0), 3)
theorem parse_fmt (v : V3) (h1 : I64 v.1) (h2 : I64 v.2.1) (h3 : I64 v.2.2) : parseP (fmt v) = if right v.1 v.2.1 v.2.2 = true then (v, 0) else ((0, 0, 0), 3) := by
  unfold parseP
  rw [read_fmt v h1 h2 h3]
  by_cases h : right v.1 v.2.1 v.2.2 = true
  · simp [h]
  · simp [h]
theorem right_I64 {v : V3} (h : right v.1 v.2.1 v.2.2 = true) : I64 v.1 ∧ I64 v.2.1 ∧ I64 v.2.2 := by
  have := right_iff.1 h
  exact ⟨⟨by omega, by omega⟩, ⟨by omega, by omega⟩, ⟨by omega, by omega⟩⟩
theorem parse_iff (s : List UInt8) (v : V3) (h : right v.1 v.2.1 v.2.2 = true) (hs : fmt v = s) : parseP s = (v, 0) := by
  obtain ⟨h1, h2, h3⟩ := right_I64 h
  rw [← hs, parse_fmt v h1 h2 h3, if_pos h]
theorem parse_not (s : List UInt8) (h : ∀ v : V3, right v.1 v.2.1 v.2.2 = true → fmt v ≠ s) : parseP s = ((0, 0, 0), 3) := by
  unfold parseP
  cases readP s with
  | none => rfl
  | some v =>
    simp only
    rw [if_neg (fun hh => h v hh.1 hh.2)]
end Go.Proofs.YtkmknogejhhajaaDoor
