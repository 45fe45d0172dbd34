/-
  Plain mathematics: a dependency's text, and what reading one comes to. No model in it.
-/
import Derived.Test.YtmbgcphiigmdjaaDMath
import Derived.Lib.ItoaNum
import Derived.Lib.Join
namespace Go.Proofs.Ytmbgcphiigmdjaa.Ds

def isDig (c : UInt8) : Bool := 48 ≤ c && c ≤ 57
def isSm (c : UInt8) : Bool := 97 ≤ c && c ≤ 122
/-- A byte that is a digit, as a number. -/
def dv (c : UInt8) : Nat := c.toNat - 48
/-- The number of digits. -/
def dval (l : List UInt8) : Nat := l.foldl (fun n c => 10 * n + dv c) 0
theorem dval_snoc (l : List UInt8) (c : UInt8) : dval (l ++ [c]) = 10 * dval l + dv c := by simp [dval, List.foldl_append]
theorem isDig_iff (c : UInt8) : isDig c = true ↔ 48 ≤ c.toNat ∧ c.toNat ≤ 57 := by
  unfold isDig
  simp [UInt8.le_iff_toNat_le]
theorem isSm_iff (c : UInt8) : isSm c = true ↔ 97 ≤ c.toNat ∧ c.toNat ≤ 122 := by
  unfold isSm
  simp [UInt8.le_iff_toNat_le]
theorem dv_lt {c : UInt8} (h : isDig c = true) : dv c ≤ 9 := by
  have := (isDig_iff c).1 h
  unfold dv; omega
theorem all_snoc {p : UInt8 → Bool} {l : List UInt8} {c : UInt8} : (l ++ [c]).all p = true ↔ l.all p = true ∧ p c = true := by simp
theorem dval_lt : ∀ (k : Nat) (l : List UInt8), l.length = k → l.all isDig = true → dval l < 10 ^ k
  | 0, l, h, _ => by
    have := List.eq_nil_of_length_eq_zero h
    subst this; decide
  | k + 1, l, h, ha => by
    rcases List.eq_nil_or_concat l with rfl | ⟨m, c, rfl⟩
    · simp at h
    · rw [List.concat_eq_append] at *
      rw [dval_snoc, Nat.pow_succ]
      obtain ⟨a1, a2⟩ := all_snoc.1 ha
      have := dval_lt k m (by simpa using h) a1
      have := dv_lt a2
      omega
/-- The decimal digits of a number. -/
abbrev dec (u : Nat) : List UInt8 := Go.Lib.decDigits u
theorem dec_small {u : Nat} (h : u < 10) : dec u = [UInt8.ofNat (48 + u)] := by unfold dec; rw [Go.Lib.decDigits, dif_pos h]
theorem dec_big {u : Nat} (h : ¬ u < 10) : dec u = dec (u / 10) ++ [UInt8.ofNat (48 + u % 10)] := by unfold dec; rw [Go.Lib.decDigits, dif_neg h]
theorem byte_of {c : UInt8} (h : isDig c = true) : UInt8.ofNat (48 + dv c) = c := by
  have := (isDig_iff c).1 h
  apply UInt8.toNat_inj.1
  rw [UInt8.toNat_ofNat']
  unfold dv
  omega
theorem dec_dval : ∀ (k : Nat) (l : List UInt8), l.length = k → 1 ≤ k → l.all isDig = true → l.head? ≠ some 48 → dec (dval l) = l
  | 0, _, _, h, _, _ => absurd h (by decide)
  | 1, l, h, _, ha, _ => by
    match l, h with
    | [c], _ =>
      have hc : isDig c = true := by simpa using ha
      have e : dval [c] = dv c := by simp [dval]
      have := dv_lt hc
      rw [e, dec_small (by omega), byte_of hc]
  | k + 2, l, h, _, ha, h0 => by
    rcases List.eq_nil_or_concat l with rfl | ⟨m, c, rfl⟩
    · simp at h
    · rw [List.concat_eq_append] at *
      obtain ⟨a1, a2⟩ := all_snoc.1 ha
      have hl : m.length = k + 1 := by simpa using h
      have hm0 : m.head? ≠ some 48 := by
        cases m with
        | nil => simp at hl
        | cons x r => simpa using h0
      have ih := dec_dval (k + 1) m hl (by omega) a1 hm0
      have hd := dv_lt a2
      have hpos : 0 < dval m := by
        cases m with
        | nil => simp at hl
        | cons x r =>
          rcases Nat.eq_zero_or_pos (dval (x :: r)) with e | e
          · rw [e, dec_small (by decide)] at ih
            have : x = 48 := by
              have := congrArg List.head? ih
              simpa using this.symm
            subst this
            exact absurd rfl hm0
          · exact e
      rw [dval_snoc, dec_big (by omega), show (10 * dval m + dv c) / 10 = dval m by omega, show (10 * dval m + dv c) % 10 = dv c by omega, ih, byte_of a2]

/-- The words of the kinds. -/
def word (k : Int) : List UInt8 :=
  if k = 1 then [97, 102, 116, 101, 114] else if k = 2 then [97, 102, 116, 101, 114, 111, 107] else if k = 3 then [97, 102, 116, 101, 114, 110, 111, 116, 111, 107]
  else if k = 4 then [97, 102, 116, 101, 114, 97, 110, 121] else if k = 5 then [115, 105, 110, 103, 108, 101, 116, 111, 110] else [63]
def kindOf (s : List UInt8) : Int := if s = word 1 then 1 else if s = word 2 then 2 else if s = word 3 then 3 else if s = word 4 then 4 else if s = word 5 then 5 else 0
theorem kindOf_word {s : List UInt8} (h : kindOf s ≠ 0) : s = word (kindOf s) := by
  unfold kindOf at h ⊢
  split
  · assumption
  · split
    · assumption
    · split
      · assumption
      · split
        · assumption
        · split
          · assumption
          · rename_i h1 h2 h3 h4 h5
            rw [if_neg h1, if_neg h2, if_neg h3, if_neg h4, if_neg h5] at h
            exact absurd rfl h
theorem kindOf_range (s : List UInt8) : 0 ≤ kindOf s ∧ kindOf s ≤ 5 := by
  unfold kindOf
  repeat (first | omega | split)
/-- A job's number, as text: 45 and 48 of one below 0. -/
def numT (n : Int) : List UInt8 := 58 :: ((if n < 0 then [45] else []) ++ dec (max n 0).toNat)
def itemT (x : Itm) : List UInt8 := if 1 ≤ x.1 ∧ x.1 ≤ 4 then word x.1 ++ x.2.flatMap numT else word x.1
def sepT (any : Bool) : UInt8 := if any = true then 63 else 44
def depT (any : Bool) (l : List Itm) : List UInt8 := Go.Lib.join (l.map itemT) [sepT any]

/-- A job's number, read, and what is left. -/
def pJob (t : List UInt8) : Option (Int × List UInt8) :=
  if t.head? = some 48 then none
  else if (t.takeWhile isDig).length = 0 ∨ 6 < (t.takeWhile isDig).length then none
  else some ((dval (t.takeWhile isDig) : Nat), t.drop (t.takeWhile isDig).length)
def pJobs : Nat → List Int → List UInt8 → Option (List Int × List UInt8)
  | 0, _, _ => none
  | f + 1, js, t => if t.head? = some 58 then (if js.length = 32 then none else match pJob t.tail with
      | none => none
      | some (n, r) => pJobs f (js ++ [n]) r)
    else some (js, t)
def pItem (t : List UInt8) : Option (Itm × List UInt8) :=
  let k := kindOf (t.takeWhile isSm)
  let r := t.drop (t.takeWhile isSm).length
  if k = 5 then some ((5, []), r)
  else if ¬ (1 ≤ k ∧ k ≤ 4) then none
  else if r.head? ≠ some 58 then none
  else match pJobs 33 [] r with
    | none => none
    | some (js, r') => some ((k, js), r')
/-- What stands behind an item. -/
def anyOf (any : Bool) (l : List Itm) (r : List UInt8) : Bool := if l.length = 1 then decide (r.head? = some 63) else any
def pItems : Nat → Bool → List Itm → List UInt8 → Option (Bool × List Itm)
  | 0, _, _, _ => none
  | f + 1, any, l, t => if l.length = 32 then none else match pItem t with
    | none => none
    | some (x, r) => if r = [] then some (any, l ++ [x])
      else if r.head? ≠ some (sepT (anyOf any (l ++ [x]) r)) then none
      else pItems f (anyOf any (l ++ [x]) r) (l ++ [x]) r.tail
def pDep (s : List UInt8) : Option (Bool × List Itm) := if s = [] then some (false, []) else pItems 33 false [] s

theorem take_tw {p : UInt8 → Bool} (t : List UInt8) : t.takeWhile p ++ t.drop (t.takeWhile p).length = t := by
  conv => rhs; rw [← List.takeWhile_append_dropWhile (p := p) (l := t)]
  congr 1
  conv => lhs; rw [← List.takeWhile_append_dropWhile (p := p) (l := t)]
  rw [List.drop_left']
  · rw [List.takeWhile_append_dropWhile]
theorem pJob_text {t r : List UInt8} {n : Int} (h : pJob t = some (n, r)) : t = dec n.toNat ++ r ∧ 0 ≤ n ∧ n < 1000000 ∧ r.length < t.length := by
  unfold pJob at h
  split at h
  · cases h
  · rename_i h0
    split at h
    · cases h
    · rename_i hl
      injection h with h
      injection h with hn hr
      subst hn hr
      have hall : (t.takeWhile isDig).all isDig = true := List.all_takeWhile
      have hh : (t.takeWhile isDig).head? ≠ some 48 := by
        cases t with
        | nil => simp
        | cons c m =>
          simp only [List.head?_cons] at h0
          rw [List.takeWhile_cons]
          split
          · simpa using h0
          · simp
      have hb := dval_lt _ _ rfl hall
      have h6 : 10 ^ (t.takeWhile isDig).length ≤ 10 ^ 6 := Nat.pow_le_pow_right (by decide) (by omega)
      have e := take_tw (p := isDig) t
      have el := congrArg List.length e
      rw [List.length_append] at el
      refine ⟨?_, by omega, ?_, by omega⟩
      · rw [Int.toNat_natCast, dec_dval _ _ rfl (by omega) hall hh]
        exact e.symm
      · have : (10 : Nat) ^ 6 = 1000000 := by decide
        omega
/-- Numbers of jobs as texts have them. -/
def jobOk (n : Int) : Prop := 0 ≤ n ∧ n < 1000000
theorem numT_of {n : Int} (h : 0 ≤ n) : numT n = 58 :: dec n.toNat := by
  unfold numT
  rw [if_neg (by omega), show max n 0 = n by omega]
  rfl
theorem head_tail {t : List UInt8} {c : UInt8} (h : t.head? = some c) : t = c :: t.tail := by
  cases t with
  | nil => cases h
  | cons x r =>
    have : x = c := by simpa using h
    subst this
    rfl
theorem pJobs_text : ∀ (f : Nat) (js : List Int) (t : List UInt8) (js' : List Int) (r : List UInt8), pJobs f js t = some (js', r) → (∀ n ∈ js, jobOk n) →
    js.flatMap numT ++ t = js'.flatMap numT ++ r ∧ (∀ n ∈ js', jobOk n) ∧ js.length ≤ js'.length ∧ r.length ≤ t.length ∧ (js.length ≤ 32 → js'.length ≤ 32)
  | 0, _, _, _, _, h, _ => by cases h
  | f + 1, js, t, js', r, h, hj => by
    unfold pJobs at h
    split at h
    · rename_i hc
      split at h
      · cases h
      · split at h
        · cases h
        · rename_i h32 _ n r1 hp
          obtain ⟨e, n0, n1, hl⟩ := pJob_text hp
          have ht := head_tail hc
          have hjn : ∀ m ∈ js ++ [n], jobOk m := by
            intro m hm
            rcases List.mem_append.1 hm with hm | hm
            · exact hj m hm
            · rw [List.mem_singleton.1 hm]; exact ⟨n0, n1⟩
          obtain ⟨a, b, c, d, k⟩ := pJobs_text f (js ++ [n]) r1 js' r h hjn
          rw [List.length_append, List.length_singleton] at c k
          have tl : t.length = t.tail.length + 1 := by rw [ht]; simp
          refine ⟨?_, b, by omega, by omega, fun q => k (by omega)⟩
          rw [← a, List.flatMap_append, List.flatMap_cons, List.flatMap_nil, List.append_nil, numT_of n0, List.append_assoc]
          conv => lhs; rw [ht, e]
          rfl
    · injection h with h
      injection h with h1 h2
      subst h1 h2
      exact ⟨rfl, hj, Nat.le_refl _, Nat.le_refl _, fun q => q⟩
theorem pItem_text {t r : List UInt8} {x : Itm} (h : pItem t = some (x, r)) : t = itemT x ++ r ∧ r.length < t.length ∧ x.2.length ≤ 32 := by
  unfold pItem at h
  have e := take_tw (p := isSm) t
  simp only at h
  have hw : ∀ k : Int, kindOf (t.takeWhile isSm) = k → k ≠ 0 → t.takeWhile isSm = word k ∧ 1 ≤ (t.takeWhile isSm).length := fun k hk h0 => by
    have hh := kindOf_word (s := t.takeWhile isSm) (by rw [hk]; exact h0)
    rw [hk] at hh
    refine ⟨hh, ?_⟩
    rw [hh]
    unfold word
    repeat (first | decide | split)
  have el := congrArg List.length e
  rw [List.length_append] at el
  split at h
  · rename_i h5
    injection h with h
    injection h with hx hr
    subst hx
    obtain ⟨w1, w2⟩ := hw 5 h5 (by decide)
    refine ⟨?_, by rw [← hr]; omega, by simp⟩
    rw [show itemT (5, []) = word 5 from rfl, ← w1, ← hr]
    exact e.symm
  · split at h
    · cases h
    · rename_i h5 hk
      split at h
      · cases h
      · split at h
        · cases h
        · rename_i _ _ js r' hj
          injection h with h
          injection h with hx hr
          subst hx hr
          obtain ⟨w1, w2⟩ := hw _ rfl (by omega)
          obtain ⟨a, _, _, d, k32⟩ := pJobs_text _ _ _ _ _ hj (fun n hn => by cases hn)
          refine ⟨?_, by omega, k32 (by simp)⟩
          have ht : itemT (kindOf (t.takeWhile isSm), js) = word (kindOf (t.takeWhile isSm)) ++ js.flatMap numT := if_pos (by omega)
          rw [ht, ← w1, List.append_assoc, ← a]
          exact e.symm
theorem joinTail_snoc (s : List UInt8) : ∀ (l : List (List UInt8)) (x : List UInt8), Go.Lib.joinTail s (l ++ [x]) = Go.Lib.joinTail s l ++ (s ++ x)
  | [], x => by simp [Go.Lib.joinTail]
  | y :: r, x => by
    have := joinTail_snoc s r x
    simp [Go.Lib.joinTail] at this ⊢
theorem join_snoc (s : List UInt8) (l : List (List UInt8)) (x : List UInt8) (h : l ≠ []) : Go.Lib.join (l ++ [x]) s = Go.Lib.join l s ++ (s ++ x) := by
  cases l with
  | nil => exact absurd rfl h
  | cons y r => rw [List.cons_append, Go.Lib.join_cons, Go.Lib.join_cons, joinTail_snoc, List.append_assoc]
theorem depT_one (any : Bool) (x : Itm) : depT any [x] = itemT x := by
  unfold depT
  rw [List.map_cons, List.map_nil, Go.Lib.join_cons]
  simp [Go.Lib.joinTail]
theorem depT_snoc (any : Bool) (l : List Itm) (x : Itm) (h : l ≠ []) : depT any (l ++ [x]) = depT any l ++ (sepT any :: itemT x) := by
  unfold depT
  rw [List.map_append, List.map_cons, List.map_nil, join_snoc _ _ _ (by simpa using h)]
  rfl
/-- What has been read so far, and what is left, are the text. -/
def soFar (any : Bool) (l : List Itm) (t : List UInt8) : List UInt8 := if l = [] then t else depT any l ++ (sepT any :: t)
theorem pItems_text : ∀ (f : Nat) (any : Bool) (l : List Itm) (t : List UInt8) (any' : Bool) (l' : List Itm), pItems f any l t = some (any', l') → (l = [] → any = false) → l.length ≤ 32 →
    soFar any l t = depT any' l' ∧ l'.length ≤ 32 ∧ l' ≠ []
  | 0, _, _, _, _, _, h, _, _ => by cases h
  | f + 1, any, l, t, any', l', h, h0, hl => by
    unfold pItems at h
    split at h
    · cases h
    · rename_i h32
      split at h
      · cases h
      · rename_i _ x r hp
        obtain ⟨e, _⟩ := pItem_text hp
        have hdep : ∀ b, (l ≠ [] → b = any) → soFar any l t = depT b (l ++ [x]) ++ r := fun b hb => by
          unfold soFar
          by_cases hn : l = []
          · subst hn
            rw [if_pos rfl, List.nil_append, depT_one]
            exact e
          · rw [if_neg hn, hb hn, depT_snoc any l x hn, e, List.append_assoc]
            rfl
        split at h
        · rename_i hr
          injection h with h
          injection h with h1 h2
          subst h1 h2
          refine ⟨?_, by rw [List.length_append, List.length_singleton]; omega, by simp⟩
          rw [hdep any (fun _ => rfl), hr, List.append_nil]
        · split at h
          · cases h
          · rename_i hs
            have hs' := Decidable.not_not.1 hs
            have hb : l ≠ [] → anyOf any (l ++ [x]) r = any := fun hn => by
              unfold anyOf
              rw [if_neg]
              rw [List.length_append, List.length_singleton]
              have := List.length_pos_iff.2 hn
              omega
            generalize anyOf any (l ++ [x]) r = b at *
            obtain ⟨a, c, d⟩ := pItems_text f b (l ++ [x]) r.tail any' l' h (fun q => by simp at q) (by rw [List.length_append, List.length_singleton]; omega)
            refine ⟨?_, c, d⟩
            rw [hdep b hb, ← a]
            unfold soFar
            rw [if_neg (by simp)]
            rw [← head_tail hs']
/-- What is formatted is what was read. -/
theorem pDep_text {s : List UInt8} {any : Bool} {l : List Itm} (h : pDep s = some (any, l)) : depT any l = s ∧ l.length ≤ 32 := by
  unfold pDep at h
  split at h
  · rename_i hs
    injection h with h
    injection h with h1 h2
    subst h1 h2
    exact ⟨by rw [hs]; rfl, by simp⟩
  · obtain ⟨a, b, _⟩ := pItems_text _ _ _ _ _ _ h (fun _ => rfl) (by simp)
    exact ⟨a.symm, b⟩
end Go.Proofs.Ytmbgcphiigmdjaa.Ds
