/-
  Parts: DMath DText DBase DLeaf DJob DSettle DItem DItem2 DApp DParse.
-/
import Derived.Lib.ItoaNum
import Derived.Lib.Join
import Derived.Test.YtjpihophigjbpaaGreatDoorProg
import Derived.WalkKit
import Derived.Below
import Derived.IntWalk
import Derived.Laws.DeepStrings4
import Derived.Outline
import Derived.Deep.Draws
import Derived.Sort.Grow
import Derived.Lib.Hide
import Derived.MapKept
import Derived.ChangeMaps5
import Derived.Maps.Own
import Derived.Maps.OwnOps
import Derived.Maps.AppendAt
import Derived.Laws.AppendOwnNone
import Derived.OwnWalk
import Derived.Maps.RangeWalk
import Derived.Deep.QuietTactic
import Derived.BigQuiet
import Derived.Deep.DeepCutAuto
set_option linter.unusedSimpArgs false
set_option linter.unusedVariables false
/-
  Plain mathematics: what items, and dependencies, are at; which order they stand in does not count. No model in it.
-/
namespace Go.Proofs.YtjpihophigjbpaaGreatDoor.Ds

/-- An item: its kind, its jobs. -/
abbrev Itm := Int × List Int
/-- What stands first in a list at a key. -/
def look {α : Type} : List (Int × α) → Int → Option α
  | [], _ => none
  | x :: r, k => if x.1 = k then some x.2 else look r k
end Go.Proofs.YtjpihophigjbpaaGreatDoor.Ds
/-
  Plain mathematics: a dependency's text, and what reading one comes to. No model in it.
-/
namespace Go.Proofs.YtjpihophigjbpaaGreatDoor.Ds

def isDig (c : UInt8) : Bool := 48 ≤ c && c ≤ 57
def isSm (c : UInt8) : Bool := 97 ≤ c && c ≤ 122
/-- A byte that is a digit, as a number. -/
def dv (c : UInt8) : Nat := c.toNat - 48
/-- The number of digits. -/
def dval (l : List UInt8) : Nat := l.foldl (fun n c => 10 * n + dv c) 0
theorem dval_snoc (l : List UInt8) (c : UInt8) : dval (l ++ [c]) = 10 * dval l + dv c := by simp [dval, List.foldl_append]
theorem isDig_iff (c : UInt8) : isDig c = true ↔ 48 ≤ c.toNat ∧ c.toNat ≤ 57 := by
  unfold isDig
  simp [UInt8.le_iff_toNat_le]
theorem isSm_iff (c : UInt8) : isSm c = true ↔ 97 ≤ c.toNat ∧ c.toNat ≤ 122 := by
  unfold isSm
  simp [UInt8.le_iff_toNat_le]
theorem dv_lt {c : UInt8} (h : isDig c = true) : dv c ≤ 9 := by
  have := (isDig_iff c).1 h
  unfold dv; omega
theorem all_snoc {p : UInt8 → Bool} {l : List UInt8} {c : UInt8} : (l ++ [c]).all p = true ↔ l.all p = true ∧ p c = true := by simp
theorem dval_lt : ∀ (k : Nat) (l : List UInt8), l.length = k → l.all isDig = true → dval l < 10 ^ k
  | 0, l, h, _ => by
    have := List.eq_nil_of_length_eq_zero h
    subst this; decide
  | k + 1, l, h, ha => by
    rcases List.eq_nil_or_concat l with rfl | ⟨m, c, rfl⟩
    · simp at h
    · rw [List.concat_eq_append] at *
      rw [dval_snoc, Nat.pow_succ]
      obtain ⟨a1, a2⟩ := all_snoc.1 ha
      have := dval_lt k m (by simpa using h) a1
      have := dv_lt a2
      omega
/-- The decimal digits of a number. -/
abbrev dec (u : Nat) : List UInt8 := Go.Lib.decDigits u
theorem dec_small {u : Nat} (h : u < 10) : dec u = [UInt8.ofNat (48 + u)] := by unfold dec; rw [Go.Lib.decDigits, dif_pos h]
theorem dec_big {u : Nat} (h : ¬ u < 10) : dec u = dec (u / 10) ++ [UInt8.ofNat (48 + u % 10)] := by unfold dec; rw [Go.Lib.decDigits, dif_neg h]
theorem byte_of {c : UInt8} (h : isDig c = true) : UInt8.ofNat (48 + dv c) = c := by
  have := (isDig_iff c).1 h
  apply UInt8.toNat_inj.1
  rw [UInt8.toNat_ofNat']
  unfold dv
  omega
theorem dec_dval : ∀ (k : Nat) (l : List UInt8), l.length = k → 1 ≤ k → l.all isDig = true → l.head? ≠ some 48 → dec (dval l) = l
  | 0, _, _, h, _, _ => absurd h (by decide)
  | 1, l, h, _, ha, _ => by
    match l, h with
    | [c], _ =>
      have hc : isDig c = true := by simpa using ha
      have e : dval [c] = dv c := by simp [dval]
      have := dv_lt hc
      rw [e, dec_small (by omega), byte_of hc]
  | k + 2, l, h, _, ha, h0 => by
    rcases List.eq_nil_or_concat l with rfl | ⟨m, c, rfl⟩
    · simp at h
    · rw [List.concat_eq_append] at *
      obtain ⟨a1, a2⟩ := all_snoc.1 ha
      have hl : m.length = k + 1 := by simpa using h
      have hm0 : m.head? ≠ some 48 := by
        cases m with
        | nil => simp at hl
        | cons x r => simpa using h0
      have ih := dec_dval (k + 1) m hl (by omega) a1 hm0
      have hd := dv_lt a2
      have hpos : 0 < dval m := by
        cases m with
        | nil => simp at hl
        | cons x r =>
          rcases Nat.eq_zero_or_pos (dval (x :: r)) with e | e
          · rw [e, dec_small (by decide)] at ih
            have : x = 48 := by
              have := congrArg List.head? ih
              simpa using this.symm
            subst this
            exact absurd rfl hm0
          · exact e
      rw [dval_snoc, dec_big (by omega), show (10 * dval m + dv c) / 10 = dval m by omega, show (10 * dval m + dv c) % 10 = dv c by omega, ih, byte_of a2]

/-- The words of the kinds. -/
def word (k : Int) : List UInt8 :=
  if k = 1 then [97, 102, 116, 101, 114] else if k = 2 then [97, 102, 116, 101, 114, 111, 107] else if k = 3 then [97, 102, 116, 101, 114, 110, 111, 116, 111, 107]
  else if k = 4 then [97, 102, 116, 101, 114, 97, 110, 121] else if k = 5 then [115, 105, 110, 103, 108, 101, 116, 111, 110] else [63]
def kindOf (s : List UInt8) : Int := if s = word 1 then 1 else if s = word 2 then 2 else if s = word 3 then 3 else if s = word 4 then 4 else if s = word 5 then 5 else 0
theorem kindOf_word {s : List UInt8} (h : kindOf s ≠ 0) : s = word (kindOf s) := by
  unfold kindOf at h ⊢
  split
  · assumption
  · split
    · assumption
    · split
      · assumption
      · split
        · assumption
        · split
          · assumption
          · rename_i h1 h2 h3 h4 h5
            rw [if_neg h1, if_neg h2, if_neg h3, if_neg h4, if_neg h5] at h
            exact absurd rfl h
theorem kindOf_range (s : List UInt8) : 0 ≤ kindOf s ∧ kindOf s ≤ 5 := by
  unfold kindOf
  repeat (first | omega | split)
/-- A job's number, as text: 45 and 48 of one below 0. -/
def numT (n : Int) : List UInt8 := 58 :: ((if n < 0 then [45] else []) ++ dec (max n 0).toNat)
def itemT (x : Itm) : List UInt8 := if 1 ≤ x.1 ∧ x.1 ≤ 4 then word x.1 ++ x.2.flatMap numT else word x.1
def sepT (any : Bool) : UInt8 := if any = true then 63 else 44
def depT (any : Bool) (l : List Itm) : List UInt8 := Go.Lib.join (l.map itemT) [sepT any]

/-- A job's number, read, and what is left. -/
def pJob (t : List UInt8) : Option (Int × List UInt8) :=
  if t.head? = some 48 then none
  else if (t.takeWhile isDig).length = 0 ∨ 6 < (t.takeWhile isDig).length then none
  else some ((dval (t.takeWhile isDig) : Nat), t.drop (t.takeWhile isDig).length)
def pJobs : Nat → List Int → List UInt8 → Option (List Int × List UInt8)
  | 0, _, _ => none
  | f + 1, js, t => if t.head? = some 58 then (if js.length = 32 then none else match pJob t.tail with
      | none => none
      | some (n, r) => pJobs f (js ++ [n]) r)
    else some (js, t)
def pItem (t : List UInt8) : Option (Itm × List UInt8) :=
  let k := kindOf (t.takeWhile isSm)
  let r := t.drop (t.takeWhile isSm).length
  if k = 5 then some ((5, []), r)
  else if ¬ (1 ≤ k ∧ k ≤ 4) then none
  else if r.head? ≠ some 58 then none
  else match pJobs 33 [] r with
    | none => none
    | some (js, r') => some ((k, js), r')
/-- What stands behind an item. -/
def anyOf (any : Bool) (l : List Itm) (r : List UInt8) : Bool := if l.length = 1 then decide (r.head? = some 63) else any
def pItems : Nat → Bool → List Itm → List UInt8 → Option (Bool × List Itm)
  | 0, _, _, _ => none
  | f + 1, any, l, t => if l.length = 32 then none else match pItem t with
    | none => none
    | some (x, r) => if r = [] then some (any, l ++ [x])
      else if r.head? ≠ some (sepT (anyOf any (l ++ [x]) r)) then none
      else pItems f (anyOf any (l ++ [x]) r) (l ++ [x]) r.tail
def pDep (s : List UInt8) : Option (Bool × List Itm) := if s = [] then some (false, []) else pItems 33 false [] s

theorem take_tw {p : UInt8 → Bool} (t : List UInt8) : t.takeWhile p ++ t.drop (t.takeWhile p).length = t := by
  conv => rhs; rw [← List.takeWhile_append_dropWhile (p := p) (l := t)]
  congr 1
  conv => lhs; rw [← List.takeWhile_append_dropWhile (p := p) (l := t)]
  rw [List.drop_left']
  · rw [List.takeWhile_append_dropWhile]
theorem pJob_text {t r : List UInt8} {n : Int} (h : pJob t = some (n, r)) : t = dec n.toNat ++ r ∧ 0 ≤ n ∧ n < 1000000 ∧ r.length < t.length := by
  unfold pJob at h
  split at h
  · cases h
  · rename_i h0
    split at h
    · cases h
    · rename_i hl
      injection h with h
      injection h with hn hr
      subst hn hr
      have hall : (t.takeWhile isDig).all isDig = true := List.all_takeWhile
      have hh : (t.takeWhile isDig).head? ≠ some 48 := by
        cases t with
        | nil => simp
        | cons c m =>
          simp only [List.head?_cons] at h0
          rw [List.takeWhile_cons]
          split
          · simpa using h0
          · simp
      have hb := dval_lt _ _ rfl hall
      have h6 : 10 ^ (t.takeWhile isDig).length ≤ 10 ^ 6 := Nat.pow_le_pow_right (by decide) (by omega)
      have e := take_tw (p := isDig) t
      have el := congrArg List.length e
      rw [List.length_append] at el
      refine ⟨?_, by omega, ?_, by omega⟩
      · rw [Int.toNat_natCast, dec_dval _ _ rfl (by omega) hall hh]
        exact e.symm
      · have : (10 : Nat) ^ 6 = 1000000 := by decide
        omega
/-- Numbers of jobs as texts have them. -/
def jobOk (n : Int) : Prop := 0 ≤ n ∧ n < 1000000
theorem numT_of {n : Int} (h : 0 ≤ n) : numT n = 58 :: dec n.toNat := by
  unfold numT
  rw [if_neg (by omega), show max n 0 = n by omega]
  rfl
theorem head_tail {t : List UInt8} {c : UInt8} (h : t.head? = some c) : t = c :: t.tail := by
  cases t with
  | nil => cases h
  | cons x r =>
    have : x = c := by simpa using h
    subst this
    rfl
theorem pJobs_text : ∀ (f : Nat) (js : List Int) (t : List UInt8) (js' : List Int) (r : List UInt8), pJobs f js t = some (js', r) → (∀ n ∈ js, jobOk n) →
    js.flatMap numT ++ t = js'.flatMap numT ++ r ∧ (∀ n ∈ js', jobOk n) ∧ js.length ≤ js'.length ∧ r.length ≤ t.length ∧ (js.length ≤ 32 → js'.length ≤ 32)
  | 0, _, _, _, _, h, _ => by cases h
  | f + 1, js, t, js', r, h, hj => by
    unfold pJobs at h
    split at h
    · rename_i hc
      split at h
      · cases h
      · split at h
        · cases h
        · rename_i h32 _ n r1 hp
          obtain ⟨e, n0, n1, hl⟩ := pJob_text hp
          have ht := head_tail hc
          have hjn : ∀ m ∈ js ++ [n], jobOk m := by
            intro m hm
            rcases List.mem_append.1 hm with hm | hm
            · exact hj m hm
            · rw [List.mem_singleton.1 hm]; exact ⟨n0, n1⟩
          obtain ⟨a, b, c, d, k⟩ := pJobs_text f (js ++ [n]) r1 js' r h hjn
          rw [List.length_append, List.length_singleton] at c k
          have tl : t.length = t.tail.length + 1 := by rw [ht]; simp
          refine ⟨?_, b, by omega, by omega, fun q => k (by omega)⟩
          rw [← a, List.flatMap_append, List.flatMap_cons, List.flatMap_nil, List.append_nil, numT_of n0, List.append_assoc]
          conv => lhs; rw [ht, e]
          rfl
    · injection h with h
      injection h with h1 h2
      subst h1 h2
      exact ⟨rfl, hj, Nat.le_refl _, Nat.le_refl _, fun q => q⟩
theorem pItem_text {t r : List UInt8} {x : Itm} (h : pItem t = some (x, r)) : t = itemT x ++ r ∧ r.length < t.length ∧ x.2.length ≤ 32 := by
  unfold pItem at h
  have e := take_tw (p := isSm) t
  simp only at h
  have hw : ∀ k : Int, kindOf (t.takeWhile isSm) = k → k ≠ 0 → t.takeWhile isSm = word k ∧ 1 ≤ (t.takeWhile isSm).length := fun k hk h0 => by
    have hh := kindOf_word (s := t.takeWhile isSm) (by rw [hk]; exact h0)
    rw [hk] at hh
    refine ⟨hh, ?_⟩
    rw [hh]
    unfold word
    repeat (first | decide | split)
  have el := congrArg List.length e
  rw [List.length_append] at el
  split at h
  · rename_i h5
    injection h with h
    injection h with hx hr
    subst hx
    obtain ⟨w1, w2⟩ := hw 5 h5 (by decide)
    refine ⟨?_, by rw [← hr]; omega, by simp⟩
    rw [show itemT (5, []) = word 5 from rfl, ← w1, ← hr]
    exact e.symm
  · split at h
    · cases h
    · rename_i h5 hk
      split at h
      · cases h
      · split at h
        · cases h
        · rename_i _ _ js r' hj
          injection h with h
          injection h with hx hr
          subst hx hr
          obtain ⟨w1, w2⟩ := hw _ rfl (by omega)
          obtain ⟨a, _, _, d, k32⟩ := pJobs_text _ _ _ _ _ hj (fun n hn => by cases hn)
          refine ⟨?_, by omega, k32 (by simp)⟩
          have ht : itemT (kindOf (t.takeWhile isSm), js) = word (kindOf (t.takeWhile isSm)) ++ js.flatMap numT := if_pos (by omega)
          rw [ht, ← w1, List.append_assoc, ← a]
          exact e.symm
theorem joinTail_snoc (s : List UInt8) : ∀ (l : List (List UInt8)) (x : List UInt8), Go.Lib.joinTail s (l ++ [x]) = Go.Lib.joinTail s l ++ (s ++ x)
  | [], x => by simp [Go.Lib.joinTail]
  | y :: r, x => by
    have := joinTail_snoc s r x
    simp [Go.Lib.joinTail] at this ⊢
theorem join_snoc (s : List UInt8) (l : List (List UInt8)) (x : List UInt8) (h : l ≠ []) : Go.Lib.join (l ++ [x]) s = Go.Lib.join l s ++ (s ++ x) := by
  cases l with
  | nil => exact absurd rfl h
  | cons y r => rw [List.cons_append, Go.Lib.join_cons, Go.Lib.join_cons, joinTail_snoc, List.append_assoc]
theorem depT_one (any : Bool) (x : Itm) : depT any [x] = itemT x := by
  unfold depT
  rw [List.map_cons, List.map_nil, Go.Lib.join_cons]
  simp [Go.Lib.joinTail]
theorem depT_snoc (any : Bool) (l : List Itm) (x : Itm) (h : l ≠ []) : depT any (l ++ [x]) = depT any l ++ (sepT any :: itemT x) := by
  unfold depT
  rw [List.map_append, List.map_cons, List.map_nil, join_snoc _ _ _ (by simpa using h)]
  rfl
/-- What has been read so far, and what is left, are the text. -/
def soFar (any : Bool) (l : List Itm) (t : List UInt8) : List UInt8 := if l = [] then t else depT any l ++ (sepT any :: t)
theorem pItems_text : ∀ (f : Nat) (any : Bool) (l : List Itm) (t : List UInt8) (any' : Bool) (l' : List Itm), pItems f any l t = some (any', l') → (l = [] → any = false) → l.length ≤ 32 →
    soFar any l t = depT any' l' ∧ l'.length ≤ 32 ∧ l' ≠ []
  | 0, _, _, _, _, _, h, _, _ => by cases h
  | f + 1, any, l, t, any', l', h, h0, hl => by
    unfold pItems at h
    split at h
    · cases h
    · rename_i h32
      split at h
      · cases h
      · rename_i _ x r hp
        obtain ⟨e, _⟩ := pItem_text hp
        have hdep : ∀ b, (l ≠ [] → b = any) → soFar any l t = depT b (l ++ [x]) ++ r := fun b hb => by
          unfold soFar
          by_cases hn : l = []
          · subst hn
            rw [if_pos rfl, List.nil_append, depT_one]
            exact e
          · rw [if_neg hn, hb hn, depT_snoc any l x hn, e, List.append_assoc]
            rfl
        split at h
        · rename_i hr
          injection h with h
          injection h with h1 h2
          subst h1 h2
          refine ⟨?_, by rw [List.length_append, List.length_singleton]; omega, by simp⟩
          rw [hdep any (fun _ => rfl), hr, List.append_nil]
        · split at h
          · cases h
          · rename_i hs
            have hs' := Decidable.not_not.1 hs
            have hb : l ≠ [] → anyOf any (l ++ [x]) r = any := fun hn => by
              unfold anyOf
              rw [if_neg]
              rw [List.length_append, List.length_singleton]
              have := List.length_pos_iff.2 hn
              omega
            generalize anyOf any (l ++ [x]) r = b at *
            obtain ⟨a, c, d⟩ := pItems_text f b (l ++ [x]) r.tail any' l' h (fun q => by simp at q) (by rw [List.length_append, List.length_singleton]; omega)
            refine ⟨?_, c, d⟩
            rw [hdep b hb, ← a]
            unfold soFar
            rw [if_neg (by simp)]
            rw [← head_tail hs']
/-- What is formatted is what was read. -/
theorem pDep_text {s : List UInt8} {any : Bool} {l : List Itm} (h : pDep s = some (any, l)) : depT any l = s ∧ l.length ≤ 32 := by
  unfold pDep at h
  split at h
  · rename_i hs
    injection h with h
    injection h with h1 h2
    subst h1 h2
    exact ⟨by rw [hs]; rfl, by simp⟩
  · obtain ⟨a, b, _⟩ := pItems_text _ _ _ _ _ _ h (fun _ => rfl) (by simp)
    exact ⟨a.symm, b⟩
end Go.Proofs.YtjpihophigjbpaaGreatDoor.Ds
/-
  Strings as bytes; worlds that only grow; rows of cells; maps by whole numbers.
-/
namespace Go.Proofs.YtjpihophigjbpaaGreatDoor.Ds
open Go.RowKit

theorem fhid {p : Prop} (h : p) : Hid p := h
theorem fret1 {k : IntKind} {a b : Int} (h : a = b) : Ending.returned (.int k a) = .returned (.int k b) := by rw [h]
theorem fretb {a b : Bool} (h : a = b) : Ending.returned (.bool a) = .returned (.bool b) := by rw [h]
theorem frets {a b : ByteArray} (h : a = b) : Ending.returned (.string a) = .returned (.string b) := by rw [h]
theorem below_drewN {B : Nat} {a w : World} (h : Below B a w) (n : Nat) : Below B a (w.drewN n) := ⟨h.os, h.tape, h.output, h.size, h.block⟩
/-- Bytes, as a string; a string, as bytes. -/
def str (l : List UInt8) : ByteArray := ⟨l.toArray⟩
def bl (s : ByteArray) : List UInt8 := s.data.toList
theorem bl_str (l : List UInt8) : bl (str l) = l := by simp [bl, str]
theorem str_bl (s : ByteArray) : str (bl s) = s := by unfold str bl; simp
theorem bl_inj {s t : ByteArray} (h : bl s = bl t) : s = t := by rw [← str_bl s, h, str_bl]
theorem bl_len (s : ByteArray) : (bl s).length = s.size := by unfold bl; rw [Array.length_toList]; rfl
theorem str_size (l : List UInt8) : (str l).size = l.length := by simp [str, ByteArray.size]
theorem bl_get (s : ByteArray) (k : Nat) (h : k < s.size) (h' : k < (bl s).length) : (bl s)[k] = s[k]'h := by
  unfold bl; rfl
theorem ext_str (s : ByteArray) (a b : Nat) : s.extract a b = str (((bl s).drop a).take (b - a)) := by
  obtain ⟨⟨l⟩⟩ := s
  rw [show (⟨⟨l⟩⟩ : ByteArray) = ByteArray.mk l.toArray from rfl, ByteArray.extract_mk]
  rfl
theorem str_eq (s t : ByteArray) : (s.toList == t.toList) = decide (bl s = bl t) := by
  rw [ByteArray.toList_eq, ByteArray.toList_eq, Bool.eq_iff_iff]
  simp [bl]
theorem str_app (a b : List UInt8) : str a ++ str b = str (a ++ b) := by
  apply ByteArray.ext
  simp [str]
theorem heap_alloc_new (w : World) (o : Obj) : (w.alloc o).heap[w.heap.size]? = some o := by
  show (w.heap.push o)[w.heap.size]? = _
  simp
theorem lt_of_block {w : World} {b : Nat} {o : Obj} (h : w.heap[b]? = some o) : b < w.heap.size := (Array.getElem?_eq_some_iff.1 h).1
theorem below_grow (w : World) (k : Nat) (os : Array Obj) : Below w.heap.size w (Go.Sort.grow (w.drewN k) os) :=
  ⟨rfl, rfl, rfl, by show _ ≤ (w.heap ++ os).size; rw [Array.size_append]; omega, fun j hj => by
    show (w.heap ++ os)[j]? = _
    rw [Array.getElem?_append_left hj]⟩

/-- The cells at address A are these; the block they lie in is one of ok's. -/
def SegP (w : World) (ok : Nat → Prop) (A : Option Addr) (vs : List Value) : Prop :=
  0 < vs.length → ∃ b o, A = some ⟨b, o, none⟩ ∧ ok b ∧ ∀ j (h : j < vs.length), w.cell? ⟨b, o + j, none⟩ = some vs[j]
/-- The slice at address A holds these cells, in a block below B. -/
abbrev SegC (w : World) (B : Nat) (A : Option Addr) (vs : List Value) : Prop := SegP w (fun b => b < B) A vs
section
variable {w w' : World} {B B' : Nat} {ok ok' : Nat → Prop} {A : Option Addr} {vs : List Value}
theorem SegP.nil (w : World) (ok : Nat → Prop) (A : Option Addr) : SegP w ok A [] := fun h => absurd h (Nat.lt_irrefl 0)
theorem SegP.keep (h : SegP w ok A vs) (hk : ∀ b, ok b → w'.heap[b]? = w.heap[b]?) : SegP w' ok A vs := fun h0 => by
  obtain ⟨b, o, e, hb, hc⟩ := h h0
  refine ⟨b, o, e, hb, fun j hj => ?_⟩
  rw [← hc j hj]
  unfold World.cell?
  rw [hk b hb]
theorem SegP.imp (h : SegP w ok A vs) (hi : ∀ b, b < w.heap.size → ok b → ok' b) : SegP w ok' A vs := fun h0 => by
  obtain ⟨b, o, e, hb, hc⟩ := h h0
  refine ⟨b, o, e, hi b ?_ hb, hc⟩
  have := hc 0 h0
  by_cases hl : b < w.heap.size
  · exact hl
  · simp only [World.cell?] at this
    rw [Array.getElem?_eq_none (by omega)] at this
    cases this
theorem SegC.more (h : SegC w B A vs) (hB : B ≤ B') : SegC w B' A vs := h.imp fun b _ hb => by omega
theorem SegC.below (h : SegC w B A vs) (hb : Below B w w') : SegC w' B A vs := h.keep fun b h => hb.block b h
theorem SegC.take (h : SegC w B A vs) (k : Nat) : SegC w B A (vs.take k) := fun h0 => by
  rw [List.length_take] at h0
  obtain ⟨b, o, e, hb, hc⟩ := h (by omega)
  refine ⟨b, o, e, hb, fun j hj => ?_⟩
  rw [List.length_take] at hj
  rw [List.getElem_take]
  exact hc j (by omega)
theorem SegC.drop (h : SegC w B A vs) {k cap : Nat} (hk : k ≤ vs.length) (hc : vs.length ≤ cap) : SegC w B (if cap = k then A else A.map (·.add k)) (vs.drop k) := fun h0 => by
  rw [List.length_drop] at h0
  obtain ⟨b, o, rfl, hb, hcell⟩ := h (by omega)
  rw [if_neg (by omega)]
  refine ⟨b, o + k, ?_, hb, fun j hj => ?_⟩
  · show some (Addr.add _ _) = _
    unfold Addr.add
    by_cases h0 : k = 0
    · rw [if_pos h0, h0, Nat.add_zero]
    · rw [if_neg h0]
  · rw [List.getElem_drop, Nat.add_assoc]
    exact hcell (k + j) (by rw [List.length_drop] at hj; omega)
end
theorem ownsRow_below {w w' : World} {base : Nat} {e : TypeId} {size n : Nat} {v : Value} {xs : List Value} (h : w.ownsRow base e size v n xs) (hb : Below w.heap.size w w') : w'.ownsRow base e size v n xs := by
  refine ⟨h.1, ?_⟩
  rcases h.2 with ⟨rfl, hn⟩ | ⟨g, cap, cur, rfl, hg, hh, rest⟩
  · exact .inl ⟨rfl, hn⟩
  · exact .inr ⟨g, cap, cur, rfl, hg, (hb.block g (Array.getElem?_eq_some_iff.1 hh).1).trans hh, rest⟩
theorem ownsRow_base {w : World} {base base' : Nat} {e : TypeId} {size n : Nat} {v : Value} {xs : List Value} (h : w.ownsRow base e size v n xs) (hb : base' ≤ base) : w.ownsRow base' e size v n xs := by
  refine ⟨h.1, ?_⟩
  rcases h.2 with ⟨rfl, hn⟩ | ⟨g, cap, cur, rfl, hg, hh, rest⟩
  · exact .inl ⟨rfl, hn⟩
  · exact .inr ⟨g, cap, cur, rfl, by omega, hh, rest⟩
theorem ownsRow_shape {w : World} {base : Nat} {e : TypeId} {size n : Nat} {v : Value} {xs : List Value} (h : w.ownsRow base e size v n xs) : ∃ A cap, v = .slice A n cap ∧ n ≤ cap ∧ cap ≤ maxLen ∧ SegC w w.heap.size A xs := by
  obtain ⟨hl, ⟨rfl, rfl⟩ | ⟨g, cap, cur, rfl, _, hg, hle, hcm, hsz, ht⟩⟩ := h
  · rw [Nat.zero_mul] at hl
    rw [List.eq_nil_of_length_eq_zero hl]
    exact ⟨none, 0, rfl, Nat.le_refl _, by unfold maxLen; omega, SegP.nil _ _ _⟩
  · refine ⟨some ⟨g, 0, none⟩, cap, rfl, hle, hcm, fun h0 => ⟨g, 0, rfl, (Array.getElem?_eq_some_iff.1 hg).1, fun j hj => ?_⟩⟩
    have e : (cur.toList.take (n * size))[j]? = some xs[j] := by rw [ht, List.getElem?_eq_getElem hj]
    rw [List.getElem?_take, if_pos (by omega), Array.getElem?_toList] at e
    simp only [World.cell?, hg, Nat.zero_add]
    simpa using e
theorem ownsRow_ge {w : World} {base : Nat} {e : TypeId} {size n : Nat} {v : Value} {xs : List Value} (h : w.ownsRow base e size v n xs) (k : Nat) (hk : v.ownBlock = some k) : base ≤ k := by
  obtain ⟨_, ⟨rfl, _⟩ | ⟨g, cap, cur, rfl, hg, _⟩⟩ := h
  · simp [Value.ownBlock] at hk
  · simp [Value.ownBlock] at hk; omega
theorem ownsRow_nil (w : World) (base : Nat) (e : TypeId) (size : Nat) : w.ownsRow base e size (.slice none 0 0) 0 [] := ⟨by simp, .inl ⟨rfl, rfl⟩⟩
/-- A block with another tag than the row's is not the row's. -/
theorem own_tag {w : World} {base b : Nat} {e T : TypeId} {size n : Nat} {v : Value} {xs : List Value} {cs : Array Value} {fr : Nat × Nat} (h : w.ownsRow base e size v n xs) (hb : w.heap[b]? = some (.cells cs T fr)) (hT : T ≠ e) : some b ≠ v.ownBlock := by
  obtain ⟨_, ⟨rfl, _⟩ | ⟨g, cap, cur, rfl, _, hg, _⟩⟩ := h
  · simp [Value.ownBlock]
  · intro he
    have : b = g := by simpa [Value.ownBlock] using he
    subst this
    rw [hb] at hg
    injection hg with hg
    injection hg with _ ht
    exact hT ht
theorem one_cells (w : World) (cs : List Value) (T : TypeId) : SegC (w.alloc (.cells cs.toArray T)) (w.heap.size + 1) (some ⟨w.heap.size, 0, none⟩) cs := fun _ => by
  refine ⟨w.heap.size, 0, rfl, Nat.lt_succ_self _, fun j hj => ?_⟩
  have h := heap_alloc_new w (.cells cs.toArray T)
  simp only [World.cell?, h, Nat.zero_add]
  simp [List.getElem?_eq_getElem hj]

/-- Values put behind a row of the call's own. -/
theorem app_own {w : World} {ops : Array Oper} {rest : List Oper} {o : Oper} {a : Act} {Q : Exit → Act → World → Prop} (T e : TypeId) (z : Value) (size bytes : Nat)
    (hT : Tryz.prog.underlying T = some (.slice e)) (hinfo : (Tryz.prog.info? e).map (fun i => (i.zero, i.size, i.bytes)) = some (some z, size, bytes)) (hzs : z.cells.size = size) (hsz : 0 < size)
    (hgd : o.guard = none) (s x : Operand) (ho : o.op = .call { callee := .builtin .append, args := #[s, x], argTypes := #[T, T] })
    (base : Nat) (v : Value) (n : Nat) (xs : List Value) (hs : a.eval s = v) (hown : w.ownsRow base e size v n xs)
    (B : Nat) (A : Option Addr) (m c : Nat) (us : List Value) (hx : a.eval x = .slice A m c) (hr : SegC w B A us) (hl : us.length = m * size) (h1 : ∀ u ∈ us, u.oneCell' = true) (hA : A = none → m = 0)
    (hlen : (n + m) * bytes ≤ 140737488355328) (hnm : n + m ≤ 140737488355328) (hbase : base ≤ w.heap.size)
    (h : ∀ v' w', w'.ownsRow base e size v' (n + m) (xs ++ us) → w.grownBy w' v.ownBlock → Below base w w' → (v'.ownBlock = v.ownBlock ∨ v'.ownBlock = some w.heap.size) → wpList Tryz.prog ops Q rest (a.put o.dst v') w') : wpList Tryz.prog ops Q (o :: rest) a w := by
  obtain ⟨i0, hi, hz0, hz1, hz2⟩ := info_parts hinfo
  have hrun : ∃ v' w', (Builtin.append_ #[T, T] o.type #[v, .slice A m c]).run Tryz.prog w = .ok v' w' ∧ w'.ownsRow base e size v' (n + m) (xs ++ us) ∧ w.grownBy w' v.ownBlock ∧ (v'.ownBlock = v.ownBlock ∨ v'.ownBlock = some w.heap.size) := by
    by_cases h0 : 0 < m
    · obtain ⟨b, of, rfl, _, hc⟩ := hr (by rw [hl]; exact Nat.mul_pos h0 hsz)
      obtain ⟨v', w', hrun, h2, h3, _, h5⟩ := run_append_own_at (P := Tryz.prog) w base T o.type e i0 z size bytes hT hi hz0 hz1 hz2 hzs hsz v n xs hown ⟨b, of, none⟩ m c us hl (fun j u hu => by
          obtain ⟨hj, rfl⟩ := List.getElem?_eq_some_iff.1 hu
          have := hc j hj
          unfold Addr.add
          by_cases hz : j = 0
          · subst hz; rw [if_pos rfl]; exact this
          · rw [if_neg hz]; exact this) h1 (by unfold maxLen; omega) hlen hbase
      exact ⟨v', w', hrun, h2, h3, h5⟩
    · have hm : m = 0 := by omega
      subst hm
      have hu : us = [] := List.eq_nil_of_length_eq_zero (by omega)
      subst hu
      cases A with
      | none =>
        refine ⟨v, w, ?_, by simpa using hown, ⟨rfl, rfl, rfl, Nat.le_refl _, fun _ _ _ => rfl⟩, .inl rfl⟩
        rcases hown.2 with ⟨rfl, rfl⟩ | ⟨g, cap, cur, rfl, _, _, hnc, _⟩
        · simp [Builtin.append_, run_underlying hT, sizeOf, typeInfo, hi, Builtin.lenOf, Builtin.firstCells]
        · simp [Builtin.append_, run_underlying hT, sizeOf, typeInfo, hi, Builtin.lenOf, Builtin.firstCells, hnc, storeCells]
      | some ad =>
        obtain ⟨v', w', hrun, h2, h3, _, h5⟩ := run_append_own_at (P := Tryz.prog) w base T o.type e i0 z size bytes hT hi hz0 hz1 hz2 hzs hsz v n xs hown ad 0 c [] (by simp) (fun j u hu => by simp at hu) (fun u hu => by simp at hu) (by unfold maxLen; omega) hlen hbase
        exact ⟨v', w', hrun, h2, h3, h5⟩
  obtain ⟨v', w', hrun, h2, h3, h4⟩ := hrun
  refine wpList_plain hgd fun K hK => ?_
  unfold Oper.wp execOp
  simp only [ho, resolve, invoke, builtin, Sem.run_bind, Sem.run_pure, Result.andThen_ok, List.map_toArray, List.map_cons, List.map_nil, hs, hx, hrun]
  exact hK _ _ (h v' w' h2 h3 ((Below.refl _ _).grown h3 hbase (fun k hk => ownsRow_ge hown k hk)) h4)

/-- Whole numbers, as cells. -/
def IV (ns : List Int) : List Value := ns.map fun n => .int .i64 n
theorem IV_len (ns : List Int) : (IV ns).length = ns.length := List.length_map _
theorem IV_get (ns : List Int) (j : Nat) (h : j < ns.length) (h' : j < (IV ns).length) : (IV ns)[j] = .int .i64 ns[j] := by simp [IV]
theorem IV_app (a b : List Int) : IV (a ++ b) = IV a ++ IV b := List.map_append
theorem infoInt : (Tryz.prog.info? 3).map (fun i => (i.zero, i.size, i.bytes)) = some (some (.int .i64 0), 1, 8) := by kernel_rfl
/-- The slice at address A reads as these numbers. -/
abbrev Ints (w : World) (B : Nat) (A : Option Addr) (ns : List Int) : Prop := SegC w B A (IV ns)
theorem Ints.at_ {w : World} {ok : Nat → Prop} {A : Option Addr} {ns : List Int} (h : SegP w ok A (IV ns)) {k : Nat} (hk : k < ns.length) : ∃ b o, A = some ⟨b, o, none⟩ ∧ ok b ∧ w.cell? ⟨b, o + k, none⟩ = some (.int .i64 ns[k]) := by
  obtain ⟨b, o, e, hb, hc⟩ := h (by rw [IV_len]; omega)
  refine ⟨b, o, e, hb, ?_⟩
  have := hc k (by rw [IV_len]; exact hk)
  rwa [IV_get ns k hk] at this
/-- A slice of the call's own holds these numbers. -/
def OwnI (w : World) (base : Nat) (v : Value) (ns : List Int) : Prop := w.ownsRow base 3 1 v ns.length (IV ns)
section
variable {w : World} {ops : Array Oper} {rest : List Oper} {o : Oper} {a : Act} {Q : Exit → Act → World → Prop}
theorem app_int (hgd : o.guard = none) (s x : Operand) (ho : o.op = .call { callee := .builtin .append, args := #[s, x], argTypes := #[27, 27] })
    (base : Nat) (v : Value) (ns : List Int) (n : Int) (w0 : World) (hs : a.eval s = v) (hown : OwnI w0 base v ns)
    (hw : w = w0.alloc (.cells #[.int .i64 n] 3)) (g : Nat) (hg : g = w0.heap.size) (hx : a.eval x = .slice (some ⟨g, 0, none⟩) 1 1) (hlen : ns.length ≤ 1048576) (hbase : base ≤ w0.heap.size)
    (h : ∀ v' w', OwnI w' base v' (ns ++ [n]) → w0.grownBy w' v.ownBlock → Below base w0 w' → wpList Tryz.prog ops Q rest (a.put o.dst v') w') : wpList Tryz.prog ops Q (o :: rest) a w := by
  subst hw
  subst hg
  refine app_own 27 3 (.int .i64 0) 1 8 Tryz.underlying27 infoInt rfl (by decide) hgd s x ho base v ns.length (IV ns) hs (World.ownsRow.alloc hown _) (w0.heap.size + 1) (some ⟨w0.heap.size, 0, none⟩) 1 1 [.int .i64 n] hx (one_cells w0 _ _) rfl (fun u hu => by simp at hu; rcases hu with rfl; rfl) (fun h => by cases h) (by omega) (by omega) (by rw [World.size_alloc]; omega) ?_
  intro v' w' h1 h2 h3 _
  refine h v' w' ?_ ⟨h2.os, h2.tape, h2.output, Nat.le_trans (by rw [World.size_alloc]; omega) h2.size, fun k hk hne => (h2.block k (by rw [World.size_alloc]; omega) hne).trans (Below.heap_alloc _ _ _ hk)⟩ (((Below.refl _ _).alloc hbase _).trans h3)
  unfold OwnI
  rw [IV_app, List.length_append]
  exact h1
end
theorem OwnI.below {w w' : World} {base : Nat} {v : Value} {ns : List Int} (h : OwnI w base v ns) (hb : Below w.heap.size w w') : OwnI w' base v ns := ownsRow_below h hb
theorem OwnI.base {w : World} {base base' : Nat} {v : Value} {ns : List Int} (h : OwnI w base v ns) (hb : base' ≤ base) : OwnI w base' v ns := ownsRow_base h hb
theorem OwnI.nil (w : World) (base : Nat) : OwnI w base (.slice none 0 0) [] := ownsRow_nil _ _ _ _
theorem OwnI.shape {w : World} {base : Nat} {v : Value} {ns : List Int} (h : OwnI w base v ns) : ∃ A cap, v = .slice A ns.length cap ∧ ns.length ≤ cap ∧ cap ≤ maxLen ∧ Ints w w.heap.size A ns := ownsRow_shape h

/-- Items, as cells: a kind, and a slice of jobs in blocks of ok. -/
def ItC (w : World) (ok : Nat → Prop) (xs : List Value) (l : List Itm) : Prop :=
  xs.length = l.length * 2 ∧ ∀ k (h : k < l.length), xs[k * 2]? = some (.int .i64 l[k].1) ∧ ∃ A c, xs[k * 2 + 1]? = some (.slice A l[k].2.length c) ∧ l[k].2.length ≤ c ∧ c ≤ maxLen ∧ SegP w ok A (IV l[k].2)
section
variable {w w' : World} {ok ok' : Nat → Prop} {xs ys : List Value} {l m : List Itm}
theorem ItC.nil (w : World) (ok : Nat → Prop) : ItC w ok [] [] := ⟨rfl, fun _ h => absurd h (Nat.not_lt_zero _)⟩
theorem ItC.keep (h : ItC w ok xs l) (hk : ∀ b, ok b → w'.heap[b]? = w.heap[b]?) : ItC w' ok xs l :=
  ⟨h.1, fun k hl => by
    obtain ⟨a, A, c, b, d, e, f⟩ := h.2 k hl
    exact ⟨a, A, c, b, d, e, f.keep hk⟩⟩
theorem ItC.imp (h : ItC w ok xs l) (hi : ∀ b, b < w.heap.size → ok b → ok' b) : ItC w ok' xs l :=
  ⟨h.1, fun k hl => by
    obtain ⟨a, A, c, b, d, e, f⟩ := h.2 k hl
    exact ⟨a, A, c, b, d, e, f.imp hi⟩⟩
theorem ItC.app (h : ItC w ok xs l) (g : ItC w ok ys m) : ItC w ok (xs ++ ys) (l ++ m) := by
  refine ⟨by rw [List.length_append, List.length_append, h.1, g.1]; omega, fun k hl => ?_⟩
  by_cases hk : k < l.length
  · obtain ⟨a, A, c, b, d⟩ := h.2 k hk
    have h1 := h.1
    rw [List.getElem_append_left hk, List.getElem?_append_left (by omega), List.getElem?_append_left (by omega)]
    exact ⟨a, A, c, b, d⟩
  · rw [List.length_append] at hl
    obtain ⟨a, A, c, b, d⟩ := g.2 (k - l.length) (by omega)
    have h1 := h.1
    rw [List.getElem_append_right (by omega), List.getElem?_append_right (by omega), List.getElem?_append_right (by omega), h1,
      show k * 2 - l.length * 2 = (k - l.length) * 2 by omega, show k * 2 + 1 - l.length * 2 = (k - l.length) * 2 + 1 by omega]
    exact ⟨a, A, c, b, d⟩
theorem ItC.one {A : Option Addr} {c : Nat} {kd : Int} {js : List Int} (h1 : js.length ≤ c) (h2 : c ≤ maxLen) (h : SegP w ok A (IV js)) : ItC w ok [.int .i64 kd, .slice A js.length c] [(kd, js)] :=
  ⟨rfl, fun k hk => by
    have : k = 0 := by simpa using hk
    subst this
    exact ⟨rfl, A, c, rfl, h1, h2, h⟩⟩
theorem ItC.one_cells (h : ItC w ok xs l) : ∀ u ∈ xs, u.oneCell' = true := by
  intro u hu
  obtain ⟨j, hj, rfl⟩ := List.getElem_of_mem hu
  have hl := h.1
  obtain ⟨a, A, c, b, _⟩ := h.2 (j / 2) (by omega)
  rcases Nat.mod_two_eq_zero_or_one j with e | e
  · rw [show j / 2 * 2 = j by omega, List.getElem?_eq_getElem hj] at a
    injection a with a
    rw [a]; rfl
  · rw [show j / 2 * 2 + 1 = j by omega, List.getElem?_eq_getElem hj] at b
    injection b with b
    rw [b]; rfl
end
/-- The slice at address A reads as these items, all below block B. -/
def Its (w : World) (B : Nat) (A : Option Addr) (l : List Itm) : Prop := ∃ xs, SegC w B A xs ∧ ItC w (fun b => b < B) xs l
section
variable {w w' : World} {B B' : Nat} {A : Option Addr} {l : List Itm}
theorem Its.below (h : Its w B A l) (hb : Below B w w') : Its w' B A l := by
  obtain ⟨xs, h1, h2⟩ := h
  exact ⟨xs, h1.below hb, h2.keep fun b h => hb.block b h⟩
theorem Its.more (h : Its w B A l) (hB : B ≤ B') : Its w B' A l := by
  obtain ⟨xs, h1, h2⟩ := h
  exact ⟨xs, h1.more hB, h2.imp fun b _ hb => by omega⟩
theorem Its.nil (w : World) (B : Nat) (A : Option Addr) : Its w B A [] := ⟨[], SegP.nil _ _ _, ItC.nil _ _⟩
theorem Its.none_ (h : Its w B none l) : l.length = 0 := by
  obtain ⟨xs, h1, h2⟩ := h
  by_cases h0 : 0 < l.length
  · obtain ⟨b, o, e, _⟩ := h1 (by rw [h2.1]; omega)
    cases e
  · omega
theorem Its.at_ (h : Its w B A l) {k : Nat} (hk : k < l.length) : ∃ b o, A = some ⟨b, o, none⟩ ∧ b < B ∧ w.cell? ⟨b, o + k * 2, none⟩ = some (.int .i64 l[k].1) ∧
    ∃ A' c, w.cell? ⟨b, o + k * 2 + 1, none⟩ = some (.slice A' l[k].2.length c) ∧ l[k].2.length ≤ c ∧ c ≤ maxLen ∧ Ints w B A' l[k].2 := by
  obtain ⟨xs, h1, h2⟩ := h
  have hl := h2.1
  obtain ⟨b, o, rfl, hb, hc⟩ := h1 (by omega)
  obtain ⟨a, A', c, e, d, f, g⟩ := h2.2 k hk
  refine ⟨b, o, rfl, hb, ?_, A', c, ?_, d, f, g⟩
  · obtain ⟨hj, e0⟩ := List.getElem?_eq_some_iff.1 a
    rw [hc _ hj, e0]
  · obtain ⟨hj, e0⟩ := List.getElem?_eq_some_iff.1 e
    rw [Nat.add_assoc, hc _ hj, e0]
end
/-- A slice of the call's own holds these items; their jobs lie in blocks of ok. -/
def OwnIt (w : World) (T : TypeId) (base : Nat) (ok : Nat → Prop) (v : Value) (l : List Itm) : Prop := ∃ xs, w.ownsRow base T 2 v l.length xs ∧ ItC w ok xs l
theorem OwnIt.nil (w : World) (T : TypeId) (base : Nat) (ok : Nat → Prop) : OwnIt w T base ok (.slice none 0 0) [] := ⟨[], ownsRow_nil _ _ _ _, ItC.nil _ _⟩
theorem OwnIt.shape {w : World} {T : TypeId} {base : Nat} {ok : Nat → Prop} {v : Value} {l : List Itm} (h : OwnIt w T base ok v l) : ∃ A cap, v = .slice A l.length cap ∧ l.length ≤ cap ∧ cap ≤ maxLen ∧ Its w w.heap.size A l := by
  obtain ⟨xs, h1, h2⟩ := h
  obtain ⟨A, cap, e, a, b, c⟩ := ownsRow_shape h1
  exact ⟨A, cap, e, a, b, xs, c, h2.imp fun b hb _ => hb⟩

/-! Maps by whole numbers. -/
/-- The map in block b has these entries, each key once, in the order in which they came. -/
def IMap (w : World) (b : Nat) (l : List (Int × Value)) : Prop := ∃ es clock, w.heap[b]? = some (.map es clock) ∧ es.toList.map (fun e => (e.key, e.val)) = l.map fun x => (Value.int .i64 x.1, x.2)
theorem IMap.new (w : World) : IMap (w.alloc (.map #[] 0)) w.heap.size [] := ⟨#[], 0, heap_alloc_new w _, rfl⟩
theorem IMap.keep {w w' : World} {b : Nat} {l : List (Int × Value)} (h : IMap w b l) (hk : w'.heap[b]? = w.heap[b]?) : IMap w' b l := by
  obtain ⟨es, c, a, e⟩ := h
  exact ⟨es, c, hk.trans a, e⟩
theorem IMap.lt {w : World} {b : Nat} {l : List (Int × Value)} (h : IMap w b l) : b < w.heap.size := by
  obtain ⟨es, c, a, _⟩ := h
  exact lt_of_block a
theorem IMap.below {w w' : World} {b B : Nat} {l : List (Int × Value)} (h : IMap w b l) (hb : Below B w w') (hB : b < B) : IMap w' b l := h.keep (hb.block b hB)
theorem findNow_look (k : Int) : ∀ (es : List MapEntry) (l : List (Int × Value)) (i : Nat), es.map (fun e => (e.key, e.val)) = l.map (fun x => (Value.int .i64 x.1, x.2)) → ∃ j, Instr.findNow (.int .i64) (.int .i64 k) es i = some ((look l k).map fun v => (j, v))
  | [], [], i, _ => ⟨i, rfl⟩
  | [], _ :: _, _, h => by simp at h
  | _ :: _, [], _, h => by simp at h
  | e :: es, x :: l, i, h => by
    simp only [List.map_cons, List.cons.injEq, Prod.mk.injEq] at h
    obtain ⟨⟨hk, hv⟩, hr⟩ := h
    have hs : Instr.sameNow (.int .i64) (.int .i64 k) e.key = some (k == x.1) := by rw [hk]; rfl
    unfold Instr.findNow
    rw [hs]
    by_cases hx : x.1 = k
    · refine ⟨i, ?_⟩
      have : (k == x.1) = true := by rw [hx]; simp
      rw [this, show look (x :: l) k = some x.2 from if_pos hx, hv]
      rfl
    · obtain ⟨j, hj⟩ := findNow_look k es l (i + 1) hr
      refine ⟨j, ?_⟩
      have : (k == x.1) = false := by simpa using fun h : k = x.1 => hx h.symm
      rw [this, show look (x :: l) k = look l k from if_neg hx]
      exact hj
theorem isKey_int (k : Int) : MapKept.IsKey (.int .i64) (.int .i64 k) := by simp [MapKept.IsKey]
section
variable {w : World} {ops : Array Oper} {rest : List Oper} {o : Oper} {a : Act} {Q : Exit → Act → World → Prop}
theorem run_imap_look (c : Bool) {T K E : TypeId} (hT : Tryz.prog.underlying T = some (.map K E)) (hK : Tryz.prog.underlying K = some (.int .i64)) {z : Value} (hz : (zeroValue E).run Tryz.prog w = .ok z w) {b : Nat} {l : List (Int × Value)} (h : IMap w b l) (k : Int) :
    (Instr.lookup T (.map (some b)) (.int .i64 k) c).run Tryz.prog w = .ok (if c then .tuple #[(look l k).getD z, .bool (look l k).isSome] else (look l k).getD z) w := by
  obtain ⟨es, clock, hb, he⟩ := h
  obtain ⟨j, hj⟩ := findNow_look k es.toList l 0 he
  have hf := MapKept.run_findKey (w := w) hK hj
  have hc := fun e => MapKept.run_checkKey (P := Tryz.prog) (w := w) hK (isKey_int k) e 9999
  cases hl : look l k with
  | none =>
    rw [hl] at hf
    simp [Instr.lookup, run_underlying hT, MapKept.run_getObj_map hb, hc, hf, hz, Result.andThen]
  | some v =>
    rw [hl] at hf
    simp [Instr.lookup, run_underlying hT, MapKept.run_getObj_map hb, hc, hf, Result.andThen]
/-- A look-up that tells whether there is one. -/
theorem imap_look_ok (hg : o.guard = none) (m x : Operand) (T K E : TypeId) (hop : o.op = Op.lookup T m x true) (hT : Tryz.prog.underlying T = some (.map K E)) (hK : Tryz.prog.underlying K = some (.int .i64)) (z : Value) (hz : (zeroValue E).run Tryz.prog w = .ok z w)
    (b : Nat) (l : List (Int × Value)) (hm : a.eval m = .map (some b)) (h : IMap w b l) (k : Int) (hx : a.eval x = .int .i64 k)
    (hq : wpList Tryz.prog ops Q rest (a.put o.dst (.tuple #[(look l k).getD z, .bool (look l k).isSome])) w) : wpList Tryz.prog ops Q (o :: rest) a w := by
  refine wpList_plain hg fun K' hK' => ?_
  have hrun := run_imap_look true hT hK hz h k
  unfold Oper.wp
  simp [execOp, hop, hm, hx, hrun, Result.andThen]
  exact hK' _ _ hq
end
end Go.Proofs.YtjpihophigjbpaaGreatDoor.Ds
/-
  The smallest calls.
-/
namespace Go.Proofs.YtjpihophigjbpaaGreatDoor.Ds
open Go.RowKit

set_option maxHeartbeats 400000 in
theorem isDigit_any (c : UInt8) (w : World) : Calls Tryz.prog 138 #[.int .u8 (c.toNat : Int)] w fun e w' => e = .returned (.bool (isDig c)) ∧ w = w' := by
  have h := isDig_iff c
  generalize isDig c = r at *
  generalize c.toNat = n at *
  by_cases h1 : (48 : Int) ≤ n <;> by_cases h2 : (n : Int) ≤ 57
  all_goals
    first
      | (have e : r = true := h.2 (by omega)
         subst e
         clear h
         go_enter Tryz.func138, Tryz.ntmps138
         go_wp2
         go_ret
         exact ⟨rfl, rfl⟩)
      | (have e : r = false := by cases r with | false => rfl | true => exact absurd (h.1 rfl) (by omega)
         subst e
         clear h
         go_enter Tryz.func138, Tryz.ntmps138
         go_wp2
         go_ret
         exact ⟨rfl, rfl⟩)
set_option maxHeartbeats 400000 in
theorem isSmall_any (c : UInt8) (w : World) : Calls Tryz.prog 100 #[.int .u8 (c.toNat : Int)] w fun e w' => e = .returned (.bool (isSm c)) ∧ w = w' := by
  have h := isSm_iff c
  generalize isSm c = r at *
  generalize c.toNat = n at *
  by_cases h1 : (97 : Int) ≤ n <;> by_cases h2 : (n : Int) ≤ 122
  all_goals
    first
      | (have e : r = true := h.2 (by omega)
         subst e
         clear h
         go_enter Tryz.func100, Tryz.ntmps100
         go_wp2
         go_ret
         exact ⟨rfl, rfl⟩)
      | (have e : r = false := by cases r with | false => rfl | true => exact absurd (h.1 rfl) (by omega)
         subst e
         clear h
         go_enter Tryz.func100, Tryz.ntmps100
         go_wp2
         go_ret
         exact ⟨rfl, rfl⟩)
/-- A fault at a byte, or at the end: some fault there is. -/
def Wrong (i : Int) (w : World) (e : Ending) (w' : World) : Prop := ∃ y : Int, y ≠ 0 ∧ e = .returned (.agg #[.int .i64 y, .int .i64 i]) ∧ Below w.heap.size w w'
set_option maxHeartbeats 400000 in
theorem wrong_any (s : ByteArray) (i : Int) (w : World) : Calls Tryz.prog 73 #[.string s, .int .i64 i] w (Wrong i w) := by
  by_cases hk : i = (s.size : Int)
  · subst hk
    go_enter Tryz.func73, Tryz.ntmps73
    go_wp2
    exact bodyPost_ret (v := .agg #[.int .i64 4, .int .i64 s.size]) (by simp [results, Tryz.results73, go_sem]) rfl ⟨4, by decide, rfl, (Below.refl _ _).alloc (Nat.le_refl _) _⟩
  · have h1 : (i == (s.size : Int)) = false := by simpa using hk
    go_enter Tryz.func73, Tryz.ntmps73
    go_wp2
    exact bodyPost_ret (v := .agg #[.int .i64 3, .int .i64 i]) (by simp [results, Tryz.results73, go_sem]) rfl ⟨3, by decide, rfl, (Below.refl _ _).alloc (Nat.le_refl _) _⟩
set_option maxHeartbeats 400000 in
theorem stands_any (s : ByteArray) (k : Nat) (i m : Int) (c : UInt8) (w : World) (hi : i = k) (hm : m = (c.toNat : Int)) : Calls Tryz.prog 71 #[.string s, .int .i64 i, .int .u8 m] w fun e w' => e = .returned (.bool (decide ((bl s)[k]? = some c))) ∧ w = w' := by
  subst hi
  subst hm
  by_cases h : k < s.size
  · have e : decide ((bl s)[k]? = some c) = ((s[k].toNat : Int) == (c.toNat : Int)) := by
      rw [List.getElem?_eq_getElem (by rw [bl_len]; exact h), bl_get s k h]
      rw [Bool.eq_iff_iff]
      simp [← UInt8.toNat_inj]
      omega
    rw [e]
    have h1 : (k : Int) < s.size := by omega
    have h0 : (0 : Int) ≤ k := by omega
    go_enter Tryz.func71, Tryz.ntmps71
    go_wp2
    go_ret
    exact ⟨rfl, rfl⟩
  · have e : decide ((bl s)[k]? = some c) = false := by
      rw [List.getElem?_eq_none (by rw [bl_len]; omega)]; rfl
    rw [e]
    have h1 : ¬ (k : Int) < s.size := by omega
    go_enter Tryz.func71, Tryz.ntmps71
    go_wp2
    go_ret
    exact ⟨rfl, rfl⟩
theorem between_any (a : Bool) (w : World) : Calls Tryz.prog 72 #[.bool a] w fun e w' => e = .returned (.int .u8 ((sepT a).toNat : Int)) ∧ w = w' := by
  cases a with
  | true =>
    go_enter Tryz.func72, Tryz.ntmps72
    go_wp2
    go_ret
    exact ⟨rfl, rfl⟩
  | false =>
    go_enter Tryz.func72, Tryz.ntmps72
    go_wp2
    go_ret
    exact ⟨rfl, rfl⟩
set_option maxHeartbeats 400000 in
theorem word_any (k : Int) (w : World) : Calls Tryz.prog 104 #[.int .i64 k] w fun e w' => e = .returned (.string (str (word k))) ∧ w = w' := by
  by_cases h1 : k = 1
  · subst h1; go_enter Tryz.func104, Tryz.ntmps104
    go_wp2
    go_ret
    exact ⟨rfl, rfl⟩
  by_cases h2 : k = 2
  · subst h2; go_enter Tryz.func104, Tryz.ntmps104
    go_wp2
    go_ret
    exact ⟨rfl, rfl⟩
  by_cases h3 : k = 3
  · subst h3; go_enter Tryz.func104, Tryz.ntmps104
    go_wp2
    go_ret
    exact ⟨rfl, rfl⟩
  by_cases h4 : k = 4
  · subst h4; go_enter Tryz.func104, Tryz.ntmps104
    go_wp2
    go_ret
    exact ⟨rfl, rfl⟩
  by_cases h5 : k = 5
  · subst h5; go_enter Tryz.func104, Tryz.ntmps104
    go_wp2
    go_ret
    exact ⟨rfl, rfl⟩
  have e : word k = [63] := by unfold word; rw [if_neg h1, if_neg h2, if_neg h3, if_neg h4, if_neg h5]
  rw [e]
  clear e
  have b1 : (k == 1) = false := by simpa using h1
  have b2 : (k == 2) = false := by simpa using h2
  have b3 : (k == 3) = false := by simpa using h3
  have b4 : (k == 4) = false := by simpa using h4
  have b5 : (k == 5) = false := by simpa using h5
  go_enter Tryz.func104, Tryz.ntmps104
  go_wp2
  go_ret
  exact ⟨rfl, rfl⟩
theorem word_at (s : ByteArray) (k : Nat) : ((str (word k)).toList == s.toList) = decide (bl s = word k) := by
  rw [str_eq, bl_str]
  exact decide_eq_decide.2 eq_comm
theorem kindOf_at {s : List UInt8} {k : Nat} (h0 : 1 ≤ k) (h1 : k ≤ 5) (h : ∀ j : Nat, 1 ≤ j → j < k → s ≠ word j) (hk : s = word k) : kindOf s = k := by
  unfold kindOf
  match k, h0, h1, h, hk with
  | 1, _, _, _, hk => exact if_pos hk
  | 2, _, _, h, hk => rw [if_neg (show s ≠ word 1 from h 1 (by decide) (by decide))]; exact if_pos hk
  | 3, _, _, h, hk => rw [if_neg (show s ≠ word 1 from h 1 (by decide) (by decide)), if_neg (show s ≠ word 2 from h 2 (by decide) (by decide))]; exact if_pos hk
  | 4, _, _, h, hk => rw [if_neg (show s ≠ word 1 from h 1 (by decide) (by decide)), if_neg (show s ≠ word 2 from h 2 (by decide) (by decide)), if_neg (show s ≠ word 3 from h 3 (by decide) (by decide))]; exact if_pos hk
  | 5, _, _, h, hk => rw [if_neg (show s ≠ word 1 from h 1 (by decide) (by decide)), if_neg (show s ≠ word 2 from h 2 (by decide) (by decide)), if_neg (show s ≠ word 3 from h 3 (by decide) (by decide)), if_neg (show s ≠ word 4 from h 4 (by decide) (by decide))]; exact if_pos hk
theorem kindOf_none {s : List UInt8} (h : ∀ j : Nat, 1 ≤ j → j < 6 → s ≠ word j) : kindOf s = 0 := by
  unfold kindOf
  rw [if_neg (show s ≠ word 1 from h 1 (by decide) (by decide)), if_neg (show s ≠ word 2 from h 2 (by decide) (by decide)), if_neg (show s ≠ word 3 from h 3 (by decide) (by decide)), if_neg (show s ≠ word 4 from h 4 (by decide) (by decide)), if_neg (show s ≠ word 5 from h 5 (by decide) (by decide))]
set_option maxHeartbeats 1000000 in
theorem kindOf_any (s : ByteArray) (w : World) : Calls Tryz.prog 101 #[.string s] w fun e w' => e = .returned (.int .i64 (kindOf (bl s))) ∧ w = w' := by
  go_enter Tryz.func101, Tryz.ntmps101
  go_wp2_with fail
  go_loop [3] (fun i => ∃ k : Nat, 1 ≤ k ∧ k ≤ 6 ∧ i = .int .i64 (k : Int) ∧ Hid (∀ j : Nat, 1 ≤ j → j < k → bl s ≠ word j)) (fun i => 6 - (intOf i).toNat)
  case atStart => exact ⟨1, by decide, by decide, rfl, fhid fun j h h' => by omega⟩
  case round =>
    obtain ⟨k, h0, h6, rfl, hj⟩ := hrel
    by_cases hlt : k ≤ 5
    · have hw := fun W => word_any (k : Int) W
      have hq := word_at s k
      have q1 : (k : Int) ≤ 5 := by omega
      have q0 : (1 : Int) ≤ k := by omega
      obtain ⟨S, hS⟩ : ∃ S, str (word k) = S := ⟨_, rfl⟩
      rw [hS] at hw hq
      by_cases hk : bl s = word k
      · rw [decide_eq_true hk] at hq
        have hE := fhid (kindOf_at h0 hlt hj.out hk)
        clear hk hS hj
        go_wp2_with (go_at_call 104; (with_reducible refine (hw _).mono ?_); rintro e w1 ⟨rfl, rfl⟩)
        go_ret
        exact ⟨fret1 hE.out.symm, rfl⟩
      · rw [decide_eq_false hk] at hq
        have hE := fhid (show ∀ j : Nat, 1 ≤ j → j < k + 1 → bl s ≠ word j from fun j h h' => by
          by_cases e : j = k
          · subst e; exact hk
          · exact hj.out j h (by omega))
        clear hk hS hj
        go_wp2_with (go_at_call 104; (with_reducible refine (hw _).mono ?_); rintro e w1 ⟨rfl, rfl⟩)
        go_round
        case rel => exact ⟨k + 1, by omega, by omega, by go_num, hE⟩
        case measure => simp [intOf]; omega
    · obtain rfl : k = 6 := by omega
      have hE := fhid (kindOf_none hj.out)
      clear hj
      go_wp2_with fail
      go_ret
      exact ⟨fret1 hE.out.symm, rfl⟩
theorem namesJobs_any (k : Int) (w : World) : Calls Tryz.prog 102 #[.int .i64 k] w fun e w' => e = .returned (.bool (decide (1 ≤ k ∧ k ≤ 4))) ∧ w = w' := by
  by_cases h1 : 1 ≤ k <;> by_cases h2 : k ≤ 4
  all_goals
    go_enter Tryz.func102, Tryz.ntmps102
    go_wp2
    go_ret
    exact ⟨fretb (by simp [h1, h2]), rfl⟩
end Go.Proofs.YtjpihophigjbpaaGreatDoor.Ds
/-
  A job's number, read.
-/
namespace Go.Proofs.YtjpihophigjbpaaGreatDoor.Ds
open Go.RowKit

theorem fault_facts {w w' : World} {a b : Int} (hb : Below (w.alloc (.cells #[.int .i64 a, .int .i64 b] 88)).heap.size (w.alloc (.cells #[.int .i64 a, .int .i64 b] 88)) w') :
    w'.cell? ⟨w.heap.size, 0, none⟩ = some (.int .i64 a) ∧ w'.cell? ⟨w.heap.size, 1, none⟩ = some (.int .i64 b) ∧ w'.frozen? ⟨w.heap.size, 0, none⟩ = false ∧ w'.frozen? ⟨w.heap.size, 1, none⟩ = false ∧ w.heap.size < w'.heap.size := by
  have h := (hb.block w.heap.size (by rw [World.size_alloc]; omega)).trans (heap_alloc_new w _)
  exact ⟨by simp [World.cell?, h], by simp [World.cell?, h], by simp [World.frozen?, h], by simp [World.frozen?, h], lt_of_block h⟩
theorem takeWhile_len {p : UInt8 → Bool} (l : List UInt8) (j : Nat) (hj : j ≤ l.length) (ha : ∀ i (h : i < l.length), i < j → p l[i] = true) (hs : ∀ h : j < l.length, p l[j] = false) : (l.takeWhile p).length = j := by
  induction l generalizing j with
  | nil => simp at hj; subst hj; rfl
  | cons x r ih =>
    cases j with
    | zero =>
      have := hs (by simp)
      simp at this
      simp [this]
    | succ j =>
      have h0 := ha 0 (by simp) (by omega)
      simp at h0
      rw [List.takeWhile_cons, if_pos h0, List.length_cons, ih j (by simpa using hj) (fun i h hi => by have := ha (i + 1) (by rw [List.length_cons]; omega) (by omega); rwa [List.getElem_cons_succ] at this) (fun h => by have := hs (by rw [List.length_cons]; omega); rwa [List.getElem_cons_succ] at this)]
def AllTo (r : List UInt8) (j : Nat) : Prop := ∀ i (h : i < r.length), i < j → isDig r[i] = true
theorem AllTo.zero (r : List UInt8) : AllTo r 0 := fun _ _ h => absurd h (Nat.not_lt_zero _)
theorem AllTo.succ {r : List UInt8} {j : Nat} (h : AllTo r j) (hj : j < r.length) (hd : isDig r[j] = true) : AllTo r (j + 1) := fun i hi hlt => by
  by_cases he : i = j
  · subst he; exact hd
  · exact h i hi (by omega)
theorem dval_take_succ (r : List UInt8) (j : Nat) (hj : j < r.length) : dval (r.take (j + 1)) = 10 * dval (r.take j) + dv r[j] := by
  rw [List.take_succ_eq_append_getElem hj, dval_snoc]
theorem dval_take_le {r : List UInt8} {j : Nat} (h : AllTo r j) (hj : j ≤ r.length) (h6 : j ≤ 6) : dval (r.take j) < 1000000 := by
  have hl : (r.take j).length = j := by rw [List.length_take]; omega
  have := dval_lt j (r.take j) hl (by
    rw [List.all_eq_true]
    intro x hx
    obtain ⟨i, hi, rfl⟩ := List.getElem_of_mem hx
    rw [List.getElem_take]
    exact h i (by omega) (by omega))
  have : (10 : Nat) ^ j ≤ 10 ^ 6 := Nat.pow_le_pow_right (by decide) h6
  omega
theorem tw_stop {r : List UInt8} {j : Nat} (h : AllTo r j) (hj : j ≤ r.length) (hs : ∀ h : j < r.length, isDig r[j] = false) : (r.takeWhile isDig).length = j ∧ r.takeWhile isDig = r.take j := by
  have hl := takeWhile_len (p := isDig) r j hj h hs
  refine ⟨hl, ?_⟩
  have := List.prefix_iff_eq_take.1 (List.takeWhile_prefix isDig (l := r))
  rw [this, hl]
theorem tw_more {r : List UInt8} {j : Nat} (h : AllTo r (j + 1)) (hj : j < r.length) : j < (r.takeWhile isDig).length := by
  have : ∀ (r : List UInt8) (j : Nat), AllTo r (j + 1) → j < r.length → j < (r.takeWhile isDig).length := by
    intro r
    induction r with
    | nil => intro j _ h; exact absurd h (Nat.not_lt_zero _)
    | cons x r ih =>
      intro j h hj
      have h0 := h 0 (by simp) (by omega)
      rw [List.getElem_cons_zero] at h0
      rw [List.takeWhile_cons, if_pos h0, List.length_cons]
      cases j with
      | zero => omega
      | succ j =>
        have := ih j (fun i hi hlt => by have := h (i + 1) (by rw [List.length_cons]; omega) (by omega); rwa [List.getElem_cons_succ] at this) (by simpa using hj)
        omega
  exact this r j h hj
theorem drop_get (s : ByteArray) (a j : Nat) (h : a + j < s.size) (h' : j < ((bl s).drop a).length) : ((bl s).drop a)[j] = s[a + j]'h := by
  rw [List.getElem_drop, bl_get]
theorem pJob_nought {r : List UInt8} (h : r.head? = some 48) : pJob r = none := by unfold pJob; rw [if_pos h]
theorem pJob_many {r : List UInt8} (h : AllTo r 7) (hj : 6 < r.length) : pJob r = none := by
  have := tw_more h hj
  unfold pJob
  rw [if_pos (show (r.takeWhile isDig).length = 0 ∨ 6 < (r.takeWhile isDig).length from .inr this)]
  split <;> rfl
theorem pJob_none {r : List UInt8} (hs : ∀ h : 0 < r.length, isDig r[0] = false) : pJob r = none := by
  have := (tw_stop (AllTo.zero r) (Nat.zero_le _) hs).1
  unfold pJob
  rw [if_pos (show (r.takeWhile isDig).length = 0 ∨ 6 < (r.takeWhile isDig).length from .inl this)]
  split <;> rfl
theorem pJob_some {r : List UInt8} {j : Nat} (h0 : r.head? ≠ some 48) (h : AllTo r j) (hj : j ≤ r.length) (h1 : 1 ≤ j) (h6 : j ≤ 6) (hs : ∀ h : j < r.length, isDig r[j] = false) : pJob r = some (((dval (r.take j) : Nat) : Int), r.drop j) := by
  obtain ⟨a, b⟩ := tw_stop h hj hs
  unfold pJob
  rw [if_neg h0, if_neg (by omega), a, b]
/-- What a call that reads a job hands back. -/
def JobPost (w : World) (s : ByteArray) (a : Nat) (e : Ending) (w' : World) : Prop := Below w.heap.size w w' ∧ match pJob ((bl s).drop a) with
  | none => ∃ y i : Int, y ≠ 0 ∧ e = .returned (.tuple #[.int .i64 0, .int .i64 0, .agg #[.int .i64 y, .int .i64 i]])
  | some (n, r) => ∃ c : Nat, a < c ∧ c ≤ s.size ∧ r = (bl s).drop c ∧ e = .returned (.tuple #[.int .i64 n, .int .i64 c, .agg #[.int .i64 0, .int .i64 0]])
theorem JobPost.bad {w : World} {s : ByteArray} {a : Nat} {e : Ending} {w' : World} (hb : Below w.heap.size w w') (h : pJob ((bl s).drop a) = none) {y i : Int} (hy : y ≠ 0) (he : e = .returned (.tuple #[.int .i64 0, .int .i64 0, .agg #[.int .i64 y, .int .i64 i]])) : JobPost w s a e w' := by
  refine ⟨hb, ?_⟩
  rw [h]
  exact ⟨y, i, hy, he⟩
theorem JobPost.good {w : World} {s : ByteArray} {a : Nat} {e : Ending} {w' : World} (hb : Below w.heap.size w w') {n : Int} {j : Nat} (h : pJob ((bl s).drop a) = some (n, ((bl s).drop a).drop j)) (h1 : 1 ≤ j) (hj : a + j ≤ s.size) (he : e = .returned (.tuple #[.int .i64 n, .int .i64 ((a : Int) + j), .agg #[.int .i64 0, .int .i64 0]])) : JobPost w s a e w' := by
  refine ⟨hb, ?_⟩
  rw [h]
  exact ⟨a + j, by omega, hj, by rw [List.drop_drop], by rw [he]; push_cast; rfl⟩
theorem set2 {B : Nat} {a w : World} (h : Below B a w) (b : Nat) (hb : B ≤ b) (u v : Value) : Below B a ((w.setCell ⟨b, 0, none⟩ u).setCell ⟨b, 1, none⟩ v) := (h.setCell hb _).setCell hb _
set_option maxRecDepth 100000 in
set_option maxHeartbeats 2000000 in
theorem readJob_any (s : ByteArray) (a : Nat) (ai : Int) (w : World) (hai : ai = a) (hs : s.size ≤ 140737488355328) (ha : a ≤ s.size) :
    Calls Tryz.prog 103 #[.string s, .int .i64 ai] w (JobPost w s a) := by
  subst hai
  obtain ⟨r, hr⟩ : ∃ r, (bl s).drop a = r := ⟨_, rfl⟩
  have hrl : r.length = s.size - a := by rw [← hr, List.length_drop, bl_len]
  have hget : ∀ j (h : a + j < s.size) (h' : j < r.length), r[j] = s[a + j] := fun j h h' => by subst hr; exact drop_get s a j h h'
  have hhd : r.head? = (bl s)[a]? := by rw [← hr, List.head?_drop]
  have hbad := fun w' (hb : Below w.heap.size w w') (h : pJob r = none) e => @JobPost.bad w s a e w' hb (by rw [hr]; exact h)
  have hgood := fun w' (hb : Below w.heap.size w w') (n : Int) (j : Nat) (h : pJob r = some (n, r.drop j)) e => @JobPost.good w s a e w' hb n j (by rw [hr]; exact h)
  have hst := fun W => stands_any s a a 48 48 W rfl rfl
  have hai0 : (0 : Int) ≤ a := by omega
  have hai1 : (a : Int) ≤ s.size := by omega
  have hsi : (s.size : Int) ≤ 140737488355328 := by omega
  replace hr := fhid hr
  replace hrl := fhid hrl
  replace hget := fhid hget
  by_cases h48 : (bl s)[a]? = some 48
  · rw [decide_eq_true h48] at hst
    have hp := fhid (pJob_nought (hhd.trans h48))
    clear hhd h48
    go_enter Tryz.func103, Tryz.ntmps103
    go_wp2_with (first
      | (go_at_call 71; (with_reducible refine (hst _).mono ?_); rintro e w1 ⟨rfl, rfl⟩)
      | (go_at_call 73; (with_reducible refine (wrong_any s a _).mono ?_); rintro e w1 ⟨y, hy, rfl, b1⟩
         replace hy := fhid hy
         obtain ⟨c0, c1, f0, f1, hz⟩ := fault_facts b1))
    exact bodyPost_ret (v := .tuple #[.int .i64 0, .int .i64 0, .agg #[.int .i64 y, .int .i64 (a : Int)]]) (by simp [results, Tryz.results103, go_sem, c0, c1]) rfl
      (hbad _ (set2 (((Below.refl _ _).alloc (Nat.le_refl _) _).trans (b1.mono (by rw [World.size_alloc]; omega))) _ (Nat.le_refl _) _ _) hp.out _ hy.out rfl)
  · rw [decide_eq_false h48] at hst
    have h48' := fhid (show r.head? ≠ some 48 by rw [hhd]; exact h48)
    clear hhd h48
    go_enter Tryz.func103, Tryz.ntmps103
    go_wp2_with (go_at_call 71; (with_reducible refine (hst _).mono ?_); rintro e w1 ⟨rfl, rfl⟩)
    go_loop [7, 8] (fun n i => ∃ j : Nat, j ≤ 6 ∧ j ≤ r.length ∧ i = .int .i64 ((a : Int) + (j : Int)) ∧ AllTo r j ∧ n = .int .i64 ((dval (r.take j) : Nat) : Int)) (fun _ i => s.size - (intOf i).toNat)
    case atStart => exact ⟨0, Nat.zero_le _, Nat.zero_le _, by simp, AllTo.zero r, rfl⟩
    case round =>
      obtain ⟨j, hj6, hjl, rfl, hall, rfl⟩ := hrel
      replace hall := fhid hall
      have hn := dval_take_le hall.out hjl hj6
      have hj0 : (0 : Int) ≤ j := by omega
      have hji : (j : Int) ≤ 6 := by omega
      have hsub : (a : Int) + j - a = j := by omega
      by_cases hlt : a + j < s.size
      · have hjr : j < r.length := by rw [hrl.out]; omega
        have hg := hget.out j hlt hjr
        have hd := isDigit_any s[a + j]
        have hix : ∀ (h : ((a : Int) + j).toNat < s.size), s[((a : Int) + j).toNat] = s[a + j] := fun h => by congr 1
        have htn : ((a : Int) + j).toNat = a + j := by omega
        have i1 : (a : Int) + j < s.size := by omega
        have i0 : (0 : Int) ≤ (a : Int) + j := by omega
        by_cases hdg : isDig s[a + j] = true
        · have hrange := (isDig_iff _).1 hdg
          rw [hdg] at hd
          have hall' := fhid (hall.out.succ hjr (by rw [hg]; exact hdg))
          by_cases h6 : j = 6
          · subst h6
            have hp := fhid (pJob_many hall'.out (by omega))
            clear hrange
            go_wp2_with (first
              | (go_at_call 138; (with_reducible refine (hd _).mono ?_); rintro e w1 ⟨rfl, rfl⟩)
              | (go_at_call 73; (with_reducible refine (wrong_any s _ _).mono ?_); rintro e w1 ⟨y, hy, rfl, b1⟩
                 replace hy := fhid hy
                 obtain ⟨c0, c1, f0, f1, hz⟩ := fault_facts b1))
            exact bodyPost_ret (v := .tuple #[.int .i64 0, .int .i64 0, .agg #[.int .i64 y, .int .i64 ((a : Int) + 6)]]) (by simp [results, Tryz.results103, go_sem, c0, c1]) rfl
              (hbad _ (set2 (((Below.refl _ _).alloc (Nat.le_refl _) _).trans (b1.mono (by rw [World.size_alloc]; omega))) _ (Nat.le_refl _) _ _) hp.out _ hy.out rfl)
          · have e6 : ((j : Int) == 6) = false := by simp; omega
            have e7 : ¬ (j : Int) = 6 := by omega
            have hds := fhid (show ((dval (r.take (j + 1)) : Nat) : Int) = 10 * ((dval (r.take j) : Nat) : Int) + ((s[a + j].toNat : Int) - 48) by
              rw [dval_take_succ r j hjr, hg]; unfold dv; omega)
            generalize dval (r.take j) = d at *
            obtain ⟨h3, h4⟩ := hrange
            have i3 : (48 : Int) ≤ s[a + j].toNat := by omega
            have i4 : (s[a + j].toNat : Int) ≤ 57 := by omega
            have i5 : (d : Int) ≤ 1000000 := by omega
            have i6 : (0 : Int) ≤ d := by omega
            clear hg
            go_wp2_with (first
              | (go_at_call 138; (with_reducible refine (hd _).mono ?_); rintro e w1 ⟨rfl, rfl⟩))
            go_round
            case rel => exact ⟨j + 1, by omega, by omega, by rw [show (a : Int) + j + 1 = (a : Int) + ((j + 1 : Nat) : Int) by omega], hall'.out, by rw [hds.out]⟩
            case measure => simp [intOf]; omega
        · have hdf : isDig s[a + j] = false := by simpa using hdg
          rw [hdf] at hd
          have hst : ∀ h : j < r.length, isDig r[j] = false := fun h => by rw [hg]; exact hdf
          by_cases h0 : j = 0
          · subst h0
            have hp := fhid (pJob_none hst)
            have hd0 := hd
            rw [show s[a + 0] = s[a] from rfl] at hd0
            have i2 : (a : Int) < s.size := by omega
            clear hd
            go_wp2_with (first
              | (go_at_call 138; (with_reducible refine (hd0 _).mono ?_); rintro e w1 ⟨rfl, rfl⟩)
              | (go_at_call 73; (with_reducible refine (wrong_any s _ _).mono ?_); rintro e w1 ⟨y, hy, rfl, b1⟩
                 replace hy := fhid hy
                 obtain ⟨c0, c1, f0, f1, hz⟩ := fault_facts b1))
            exact bodyPost_ret (v := .tuple #[.int .i64 0, .int .i64 0, .agg #[.int .i64 y, .int .i64 (a : Int)]]) (by simp [results, Tryz.results103, go_sem, c0, c1]) rfl
              (hbad _ (set2 (((Below.refl _ _).alloc (Nat.le_refl _) _).trans (b1.mono (by rw [World.size_alloc]; omega))) _ (Nat.le_refl _) _ _) hp.out _ hy.out rfl)
          · have hp := fhid (pJob_some h48'.out hall.out hjl (by omega) hj6 hst)
            have e6 : ((a : Int) + j == a) = false := by simp; omega
            have e7 : ¬ (a : Int) + j = a := by omega
            go_wp2_with (first
              | (go_at_call 138; (with_reducible refine (hd _).mono ?_); rintro e w1 ⟨rfl, rfl⟩))
            exact bodyPost_ret (v := .tuple #[.int .i64 (dval (r.take j) : Nat), .int .i64 ((a : Int) + j), .agg #[.int .i64 0, .int .i64 0]]) (by simp [results, Tryz.results103, go_sem]) rfl
              (hgood _ ((Below.refl _ _).alloc (Nat.le_refl _) _) _ _ hp.out _ (by omega) (by omega) rfl)
      · have hjl2 : j = r.length := by rw [hrl.out] at *; omega
        have hjs : a + j ≤ s.size := by have := hrl.out; omega
        have i1 : ¬ (a : Int) + j < s.size := by omega
        have hst : ∀ h : j < r.length, isDig r[j] = false := fun h => absurd h (by omega)
        clear hjl2
        by_cases h0 : j = 0
        · subst h0
          have hp := fhid (pJob_none hst)
          go_wp2_with (first
            | (go_at_call 73; (with_reducible refine (wrong_any s _ _).mono ?_); rintro e w1 ⟨y, hy, rfl, b1⟩
               replace hy := fhid hy
               obtain ⟨c0, c1, f0, f1, hz⟩ := fault_facts b1))
          exact bodyPost_ret (v := .tuple #[.int .i64 0, .int .i64 0, .agg #[.int .i64 y, .int .i64 (a : Int)]]) (by simp [results, Tryz.results103, go_sem, c0, c1]) rfl
            (hbad _ (set2 (((Below.refl _ _).alloc (Nat.le_refl _) _).trans (b1.mono (by rw [World.size_alloc]; omega))) _ (Nat.le_refl _) _ _) hp.out _ hy.out rfl)
        · have hp := fhid (pJob_some h48'.out hall.out hjl (by omega) hj6 hst)
          have e6 : ((a : Int) + j == a) = false := by simp; omega
          have e7 : ¬ (a : Int) + j = a := by omega
          go_wp2
          exact bodyPost_ret (v := .tuple #[.int .i64 (dval (r.take j) : Nat), .int .i64 ((a : Int) + j), .agg #[.int .i64 0, .int .i64 0]]) (by simp [results, Tryz.results103, go_sem]) rfl
            (hgood _ ((Below.refl _ _).alloc (Nat.le_refl _) _) _ _ hp.out _ (by omega) hjs rfl)
end Go.Proofs.YtjpihophigjbpaaGreatDoor.Ds
/-
  What several things are at as one; what an item is at, by the program and by the document.
-/
namespace Go.Proofs.YtjpihophigjbpaaGreatDoor.Ds
open Go.RowKit

/-- A map's whole numbers. -/
def SV (m : List (Int × Int)) : List (Int × Value) := m.map fun x => (x.1, .int .i64 x.2)
/-- The map in block b has these states. -/
def SMap (w : World) (b : Nat) (m : List (Int × Int)) : Prop := IMap w b (SV m)
theorem SMap.below {w w' : World} {b B : Nat} {l : List (Int × Int)} (h : SMap w b l) (hb : Below B w w') (hB : b < B) : SMap w' b l := IMap.below h hb hB
theorem SMap.lt {w : World} {b : Nat} {l : List (Int × Int)} (h : SMap w b l) : b < w.heap.size := IMap.lt h
section
variable {w : World} {ops : Array Oper} {rest : List Oper} {o : Oper} {a : Act} {Q : Exit → Act → World → Prop}
end
/-- An item, in memory; a dependency. -/
def IB (w : World) (b : Nat) (T : TypeId) (k : Int) (v : Value) : Prop := w.heap[b]? = some (.cells #[.int .i64 k, v] T (0, 0))
def DB (w : World) (b : Nat) (T : TypeId) (a : Bool) (v : Value) : Prop := w.heap[b]? = some (.cells #[.bool a, v] T (0, 0))
theorem IB.facts {w : World} {b : Nat} {T : TypeId} {k : Int} {v : Value} (h : IB w b T k v) : w.cell? ⟨b, 0, none⟩ = some (.int .i64 k) ∧ w.cell? ⟨b, 1, none⟩ = some v ∧ w.frozen? ⟨b, 0, none⟩ = false ∧ w.frozen? ⟨b, 1, none⟩ = false ∧ b < w.heap.size := by
  unfold IB at h
  exact ⟨by simp [World.cell?, h], by simp [World.cell?, h], by simp [World.frozen?, h], by simp [World.frozen?, h], lt_of_block h⟩
theorem DB.facts {w : World} {b : Nat} {T : TypeId} {a : Bool} {v : Value} (h : DB w b T a v) : w.cell? ⟨b, 0, none⟩ = some (.bool a) ∧ w.cell? ⟨b, 1, none⟩ = some v ∧ w.frozen? ⟨b, 0, none⟩ = false ∧ w.frozen? ⟨b, 1, none⟩ = false ∧ b < w.heap.size := by
  unfold DB at h
  exact ⟨by simp [World.cell?, h], by simp [World.cell?, h], by simp [World.frozen?, h], by simp [World.frozen?, h], lt_of_block h⟩
theorem IB.below {w w' : World} {B b : Nat} {T : TypeId} {k : Int} {v : Value} (h : IB w b T k v) (hb : Below B w w') (hB : b < B) : IB w' b T k v := (hb.block b hB).trans h
theorem DB.below {w w' : World} {B b : Nat} {T : TypeId} {k : Bool} {v : Value} (h : DB w b T k v) (hb : Below B w w') (hB : b < B) : DB w' b T k v := (hb.block b hB).trans h
/-- A call that answers a number, and makes memory. -/
def NP (w : World) (n : Int) (e : Ending) (w' : World) : Prop := e = .returned (.int .i64 n) ∧ Below w.heap.size w w'
end Go.Proofs.YtjpihophigjbpaaGreatDoor.Ds
/-
  An item, read.
-/
namespace Go.Proofs.YtjpihophigjbpaaGreatDoor.Ds
open Go.RowKit

theorem block_set {w : World} {b : Nat} {cs : Array Value} {t : TypeId} (i : Nat) (u : Value) (h : w.heap[b]? = some (.cells cs t (0, 0))) : (w.setCell ⟨b, i, none⟩ u).heap[b]? = some (.cells (cs.setIfInBounds i u) t (0, 0)) := by
  have hlt := lt_of_block h
  have h' : w.heap[b] = .cells cs t (0, 0) := by simpa [Array.getElem?_eq_getElem hlt] using h
  show (w.heap.modify b _)[b]? = _
  rw [Array.getElem?_eq_getElem (by simpa using hlt), Array.getElem_modify_self, h']
  rfl
theorem block_other {w : World} {b c : Nat} {o : Option Obj} (i : Nat) (u : Value) (h : w.heap[b]? = o) (hne : b ≠ c) : (w.setCell ⟨c, i, none⟩ u).heap[b]? = o := (Below.heap_setCell _ _ _ _ hne).trans h
theorem new_at (w : World) (o : Obj) (b : Nat) (hb : b = w.heap.size) : (w.alloc o).heap[b]? = some o := by subst hb; exact heap_alloc_new w o
theorem old_at (w : World) (o : Obj) (b : Nat) {x : Option Obj} (h : w.heap[b]? = x) (hb : b < w.heap.size) : (w.alloc o).heap[b]? = x := (Below.heap_alloc _ _ _ hb).trans h
/-- A fault's block. -/
def FB (w : World) (b : Nat) (e f : Int) : Prop := w.heap[b]? = some (.cells #[.int .i64 e, .int .i64 f] 88 (0, 0))
theorem FB.facts {w : World} {b : Nat} {e f : Int} (h : FB w b e f) : w.cell? ⟨b, 0, none⟩ = some (.int .i64 e) ∧ w.cell? ⟨b, 1, none⟩ = some (.int .i64 f) ∧ w.frozen? ⟨b, 0, none⟩ = false ∧ w.frozen? ⟨b, 1, none⟩ = false ∧ b < w.heap.size := by
  unfold FB at h
  exact ⟨by simp [World.cell?, h], by simp [World.cell?, h], by simp [World.frozen?, h], by simp [World.frozen?, h], lt_of_block h⟩
theorem FB.below {w w' : World} {B b : Nat} {e f : Int} (h : FB w b e f) (hb : Below B w w') (hB : b < B) : FB w' b e f := (hb.block b hB).trans h
/-- A block of whole numbers. -/
def TagI (w : World) (b : Nat) : Prop := ∃ cs fr, w.heap[b]? = some (.cells cs 3 fr)
theorem TagI.lt {w : World} {b : Nat} (h : TagI w b) : b < w.heap.size := by
  obtain ⟨cs, fr, h⟩ := h
  exact lt_of_block h
theorem TagI.same {w w' : World} {b : Nat} (h : TagI w b) (hb : w'.heap[b]? = w.heap[b]?) : TagI w' b := by
  obtain ⟨cs, fr, h⟩ := h
  exact ⟨cs, fr, hb.trans h⟩
theorem TagI.ne {w : World} {b c : Nat} {cs : Array Value} {T : TypeId} {fr : Nat × Nat} (h : TagI w b) (hc : w.heap[c]? = some (.cells cs T fr)) (hT : T ≠ 3) : b ≠ c := by
  rintro rfl
  obtain ⟨cs', fr', h⟩ := h
  rw [h] at hc
  injection hc with hc
  injection hc with _ ht
  exact hT ht.symm
theorem OwnI.tag {w : World} {base : Nat} {v : Value} {ns : List Int} (h : OwnI w base v ns) : ∃ A cap, v = .slice A ns.length cap ∧ ns.length ≤ cap ∧ cap ≤ maxLen ∧ SegP w (TagI w) A (IV ns) := by
  obtain ⟨hl, ⟨rfl, h0⟩ | ⟨g, cap, cur, rfl, _, hg, hle, hcm, hsz, ht⟩⟩ := h
  · have : ns = [] := List.eq_nil_of_length_eq_zero h0
    subst this
    exact ⟨none, 0, rfl, Nat.le_refl _, by unfold maxLen; omega, SegP.nil _ _ _⟩
  · refine ⟨some ⟨g, 0, none⟩, cap, rfl, hle, hcm, fun h0 => ⟨g, 0, rfl, ⟨_, _, hg⟩, fun j hj => ?_⟩⟩
    have hj' : j < ns.length * 1 := by rw [← hl]; exact hj
    have e : (cur.toList.take (ns.length * 1))[j]? = some (IV ns)[j] := by rw [ht, List.getElem?_eq_getElem hj]
    rw [List.getElem?_take, if_pos hj', Array.getElem?_toList] at e
    simp only [World.cell?, hg, Nat.zero_add]
    simpa using e
theorem OwnI.setCell {w : World} {base : Nat} {v : Value} {ns : List Int} (h : OwnI w base v ns) {b : Nat} {cs : Array Value} {T : TypeId} {fr : Nat × Nat} (hb : w.heap[b]? = some (.cells cs T fr)) (hT : T ≠ 3) (i : Nat) (u : Value) : OwnI (w.setCell ⟨b, i, none⟩ u) base v ns := by
  have hne := own_tag h hb hT
  refine ⟨h.1, ?_⟩
  rcases h.2 with ⟨rfl, hn⟩ | ⟨g, cap, cur, rfl, hg, hh, rest⟩
  · exact .inl ⟨rfl, hn⟩
  · refine .inr ⟨g, cap, cur, rfl, hg, ?_, rest⟩
    exact block_other _ _ hh (fun e => hne (by rw [e]; rfl))

def AllSm (r : List UInt8) (j : Nat) : Prop := ∀ i (h : i < r.length), i < j → isSm r[i] = true
theorem AllSm.zero (r : List UInt8) : AllSm r 0 := fun _ _ h => absurd h (Nat.not_lt_zero _)
theorem AllSm.succ {r : List UInt8} {j : Nat} (h : AllSm r j) (hj : j < r.length) (hd : isSm r[j] = true) : AllSm r (j + 1) := fun i hi hlt => by
  by_cases he : i = j
  · subst he; exact hd
  · exact h i hi (by omega)
theorem sm_stop {r : List UInt8} {j : Nat} (h : AllSm r j) (hj : j ≤ r.length) (hs : ∀ h : j < r.length, isSm r[j] = false) : (r.takeWhile isSm).length = j ∧ r.takeWhile isSm = r.take j := by
  have hl := takeWhile_len (p := isSm) r j hj h hs
  refine ⟨hl, ?_⟩
  have := List.prefix_iff_eq_take.1 (List.takeWhile_prefix isSm (l := r))
  rw [this, hl]
theorem pJobs_stop {f : Nat} {js : List Int} {t : List UInt8} (h : t.head? ≠ some 58) : pJobs (f + 1) js t = some (js, t) := by
  rw [pJobs, if_neg h]
theorem pJobs_full {f : Nat} {js : List Int} {t : List UInt8} (h : t.head? = some 58) (hl : js.length = 32) : pJobs (f + 1) js t = none := by
  rw [pJobs, if_pos h, if_pos hl]
theorem pJobs_bad {f : Nat} {js : List Int} {t : List UInt8} (h : t.head? = some 58) (hl : js.length ≠ 32) (hj : pJob t.tail = none) : pJobs (f + 1) js t = none := by
  rw [pJobs, if_pos h, if_neg hl, hj]
theorem pJobs_go {f : Nat} {js : List Int} {t r : List UInt8} {n : Int} (h : t.head? = some 58) (hl : js.length ≠ 32) (hj : pJob t.tail = some (n, r)) : pJobs (f + 1) js t = pJobs f (js ++ [n]) r := by
  rw [pJobs, if_pos h, if_neg hl, hj]
/-- What a call that reads an item hands back. -/
def ItemPost (w : World) (s : ByteArray) (a : Nat) (e : Ending) (w' : World) : Prop := Below w.heap.size w w' ∧ match pItem ((bl s).drop a) with
  | none => ∃ y i : Int, y ≠ 0 ∧ e = .returned (.tuple #[.agg #[.int .i64 0, .slice none 0 0], .int .i64 0, .agg #[.int .i64 y, .int .i64 i]])
  | some (x, r) => ∃ (c : Nat) (A : Option Addr) (cap : Nat), c ≤ s.size ∧ r = (bl s).drop c ∧ x.2.length ≤ cap ∧ cap ≤ maxLen ∧ SegP w' (TagI w') A (IV x.2) ∧ e = .returned (.tuple #[.agg #[.int .i64 x.1, .slice A x.2.length cap], .int .i64 c, .agg #[.int .i64 0, .int .i64 0]])
theorem ItemPost.bad {w : World} {s : ByteArray} {a : Nat} {e : Ending} {w' : World} (h : pItem ((bl s).drop a) = none) (hb : Below w.heap.size w w') {y i : Int} (hy : y ≠ 0) (he : e = .returned (.tuple #[.agg #[.int .i64 0, .slice none 0 0], .int .i64 0, .agg #[.int .i64 y, .int .i64 i]])) : ItemPost w s a e w' := by
  refine ⟨hb, ?_⟩
  rw [h]
  exact ⟨y, i, hy, he⟩
theorem ItemPost.good {w : World} {s : ByteArray} {a : Nat} {e : Ending} {w' : World} {k : Int} {js : List Int} {c : Nat} (h : pItem ((bl s).drop a) = some ((k, js), (bl s).drop c)) (hb : Below w.heap.size w w') (hc : c ≤ s.size) {A : Option Addr} {cap : Nat} (h1 : js.length ≤ cap) (h2 : cap ≤ maxLen) (hs : SegP w' (TagI w') A (IV js))
    (he : e = .returned (.tuple #[.agg #[.int .i64 k, .slice A js.length cap], .int .i64 c, .agg #[.int .i64 0, .int .i64 0]])) : ItemPost w s a e w' := by
  refine ⟨hb, ?_⟩
  rw [h]
  exact ⟨c, A, cap, hc, rfl, h1, h2, hs, he⟩
abbrev TIt : TypeId := 57
abbrev TFa : TypeId := 88
theorem item_start (w : World) (K : Int) : 
    let W := ((w.alloc (.cells #[.int .i64 0, .slice none 0 0] TIt)).alloc (.cells #[.int .i64 0, .int .i64 0] TFa)).alloc (.cells #[.int .i64 K, .slice none 0 0] TIt)
    IB W w.heap.size TIt 0 (.slice none 0 0) ∧ FB W (w.heap.size + 1) 0 0 ∧ IB W (w.heap.size + 1 + 1) TIt K (.slice none 0 0) ∧ Below w.heap.size w W ∧ w.heap.size + 1 + 1 + 1 ≤ W.heap.size :=
  ⟨old_at _ _ _ (old_at _ _ _ (heap_alloc_new w _) (by simp)) (by simp; omega), old_at _ _ _ (new_at _ _ _ (by simp)) (by simp), new_at _ _ _ (by simp), (((Below.refl _ _).alloc (Nat.le_refl _) _).alloc (by simp) _).alloc (by simp; omega) _, by simp⟩
end Go.Proofs.YtjpihophigjbpaaGreatDoor.Ds
/-
  An item, read: the walk.
-/
namespace Go.Proofs.YtjpihophigjbpaaGreatDoor.Ds
open Go.RowKit

/-- Where the loop over the jobs is. -/
def JobsRel (w : World) (s : ByteArray) (a j : Nat) (K : Int) (e : Value) (wr : World) : Prop := ∃ (c : Nat) (js : List Int) (v : Value), c ≤ s.size ∧ e = .int .i64 (c : Int) ∧ js.length ≤ 32 ∧ pJobs 33 [] ((bl s).drop (a + j)) = pJobs (33 - js.length) js ((bl s).drop c) ∧
  OwnI wr (w.heap.size + 1 + 1 + 1) v js ∧ IB wr (w.heap.size + 1 + 1) TIt K v ∧ IB wr w.heap.size TIt 0 (.slice none 0 0) ∧ FB wr (w.heap.size + 1) 0 0 ∧ Below w.heap.size w wr
theorem jobs_start {w W : World} (s : ByteArray) {a j : Nat} {K : Int} (p0 : IB W w.heap.size TIt 0 (.slice none 0 0)) (p1 : FB W (w.heap.size + 1) 0 0) (p2 : IB W (w.heap.size + 1 + 1) TIt K (.slice none 0 0)) (g0 : Below w.heap.size w W) (_ : w.heap.size + 1 + 1 + 1 ≤ W.heap.size) (hj : a + j ≤ s.size) : JobsRel w s a j K (.int .i64 ((a : Int) + j)) W :=
  ⟨a + j, [], .slice none 0 0, hj, by push_cast; rfl, by simp, rfl, OwnI.nil _ _, p2, p0, p1, g0⟩
theorem tag_It : TIt ≠ 3 := by decide
theorem tag_Fa : TFa ≠ 3 := by decide
theorem jobs_step {w W : World} {K : Int} {v v' : Value} {js : List Int} (h2 : IB W (w.heap.size + 1 + 1) TIt K v) (h0 : IB W w.heap.size TIt 0 (.slice none 0 0)) (h1 : FB W (w.heap.size + 1) 0 0) (ho : OwnI W (w.heap.size + 1 + 1 + 1) v' js) (hb : Below w.heap.size w W) :
    OwnI (W.setCell ⟨w.heap.size + 1 + 1, 1, none⟩ v') (w.heap.size + 1 + 1 + 1) v' js ∧ IB (W.setCell ⟨w.heap.size + 1 + 1, 1, none⟩ v') (w.heap.size + 1 + 1) TIt K v' ∧ IB (W.setCell ⟨w.heap.size + 1 + 1, 1, none⟩ v') w.heap.size TIt 0 (.slice none 0 0) ∧ FB (W.setCell ⟨w.heap.size + 1 + 1, 1, none⟩ v') (w.heap.size + 1) 0 0 ∧ Below w.heap.size w (W.setCell ⟨w.heap.size + 1 + 1, 1, none⟩ v') :=
  ⟨ho.setCell h2 tag_It _ _, block_set 1 _ h2, block_other _ _ h0 (by omega), block_other _ _ h1 (by omega), hb.setCell (show w.heap.size ≤ w.heap.size + 1 + 1 by omega) _⟩
theorem tagI_set {w : World} {b c : Nat} (i : Nat) (u : Value) {cs : Array Value} {T : TypeId} {fr : Nat × Nat} (hc : w.heap[c]? = some (.cells cs T fr)) (hT : T ≠ 3) (h : TagI w b) : TagI (w.setCell ⟨c, i, none⟩ u) b ∧ (w.setCell ⟨c, i, none⟩ u).heap[b]? = w.heap[b]? := by
  have e := block_other i u (w := w) (o := w.heap[b]?) rfl (h.ne hc hT)
  exact ⟨h.same e, e⟩
theorem seg_set {w : World} {c : Nat} (i : Nat) (u : Value) {cs : Array Value} {T : TypeId} {fr : Nat × Nat} (hc : w.heap[c]? = some (.cells cs T fr)) (hT : T ≠ 3) {A : Option Addr} {vs : List Value} (h : SegP w (TagI w) A vs) : SegP (w.setCell ⟨c, i, none⟩ u) (TagI (w.setCell ⟨c, i, none⟩ u)) A vs := by
  have k := h.keep (w' := w.setCell ⟨c, i, none⟩ u) (fun b hb => (tagI_set i u hc hT hb).2)
  exact k.imp fun b _ hb => (tagI_set i u hc hT hb).1
theorem seg_sets4 {w : World} {b c : Nat} {K : Int} {v0 : Value} {x0 y0 : Int} {A : Option Addr} {vs : List Value} (h : SegP w (TagI w) A vs) (hb : IB w b TIt K v0) (hc : FB w c x0 y0) (u v x y : Value) : 
    SegP ((((w.setCell ⟨b, 0, none⟩ u).setCell ⟨b, 1, none⟩ v).setCell ⟨c, 0, none⟩ x).setCell ⟨c, 1, none⟩ y) (TagI ((((w.setCell ⟨b, 0, none⟩ u).setCell ⟨b, 1, none⟩ v).setCell ⟨c, 0, none⟩ x).setCell ⟨c, 1, none⟩ y)) A vs := by
  have hne : b ≠ c := by
    rintro rfl
    have := Option.some.inj (hb.symm.trans hc)
    injection this with _ ht
    revert ht
    decide
  have k1 := block_set 0 u hb
  have k2 := block_set 1 v k1
  have d1 := block_other 0 u hc hne.symm
  have d2 := block_other 1 v d1 hne.symm
  have d3 := block_set 0 x d2
  exact seg_set 1 y d3 tag_Fa (seg_set 0 x d2 tag_Fa (seg_set 1 v k1 tag_It (seg_set 0 u hb tag_It h)))
theorem sets4 {B : Nat} {a w : World} (h : Below B a w) (b c : Nat) (hb : B ≤ b) (hc : B ≤ c) (u v x y : Value) : Below B a ((((w.setCell ⟨b, 0, none⟩ u).setCell ⟨b, 1, none⟩ v).setCell ⟨c, 0, none⟩ x).setCell ⟨c, 1, none⟩ y) := set2 (set2 h b hb u v) c hc x y
set_option maxRecDepth 100000 in
set_option maxHeartbeats 8000000 in
theorem readItem_any (s : ByteArray) (a : Nat) (ai : Int) (w : World) (hai : ai = a) (hs : s.size ≤ 140737488355328) (ha : a ≤ s.size) :
    Calls Tryz.prog 70 #[.string s, .int .i64 ai] w (ItemPost w s a) := by
  subst hai
  obtain ⟨r, hr⟩ : ∃ r, (bl s).drop a = r := ⟨_, rfl⟩
  have hrl : r.length = s.size - a := by rw [← hr, List.length_drop, bl_len]
  have hget : ∀ j (h : a + j < s.size) (h' : j < r.length), r[j] = s[a + j] := fun j h h' => by subst hr; exact drop_get s a j h h'
  have hbad := fun (h : pItem r = none) w' (hb : Below w.heap.size w w') y i (hy : y ≠ 0) e => @ItemPost.bad w s a e w' (by rw [hr]; exact h) hb y i hy
  have hgood := fun (k : Int) (js : List Int) (c : Nat) (h : pItem r = some ((k, js), (bl s).drop c)) w' (hb : Below w.heap.size w w') (hc : c ≤ s.size) e A cap => @ItemPost.good w s a e w' k js c (by rw [hr]; exact h) hb hc A cap
  have hdr : ∀ j, r.drop j = (bl s).drop (a + j) := fun j => by rw [← hr, List.drop_drop]
  have hai0 : (0 : Int) ≤ a := by omega
  have hai1 : (a : Int) ≤ s.size := by omega
  have hsi : (s.size : Int) ≤ 140737488355328 := by omega
  replace hr := fhid hr
  replace hrl := fhid hrl
  replace hget := fhid hget
  go_enter Tryz.func70, Tryz.ntmps70
  go_wp2_with fail
  go_loop [7] (fun i => ∃ j : Nat, j ≤ r.length ∧ i = .int .i64 ((a : Int) + (j : Int)) ∧ AllSm r j) (fun i => s.size - (intOf i).toNat)
  case atStart => exact ⟨0, Nat.zero_le _, by simp, AllSm.zero r⟩
  case round =>
    obtain ⟨j, hjl, rfl, hall⟩ := hrel
    replace hall := fhid hall
    have hjs : a + j ≤ s.size := by have := hrl.out; omega
    have hj0 : (0 : Int) ≤ j := by omega
    have hji : (a : Int) + j ≤ s.size := by omega
    have i0 : (0 : Int) ≤ (a : Int) + j := by omega
    have hle : (a : Int) ≤ (a : Int) + j := by omega
    have htn : ((a : Int) + j).toNat = a + j := by omega
    have hstp : ∀ (hs : ∀ h : j < r.length, isSm r[j] = false), bl (s.extract a (a + j)) = r.takeWhile isSm ∧ (r.takeWhile isSm).length = j := fun hs => by
      obtain ⟨e1, e2⟩ := sm_stop hall.out hjl hs
      refine ⟨?_, e1⟩
      rw [e2, ext_str, bl_str, ← hr.out, show a + j - a = j by omega]
    by_cases hlt : a + j < s.size
    · have hjr : j < r.length := by rw [hrl.out]; omega
      have hg := hget.out j hlt hjr
      have hd := isSmall_any s[a + j]
      have hix : ∀ (h : ((a : Int) + j).toNat < s.size), s[((a : Int) + j).toNat] = s[a + j] := fun h => by congr 1
      have i1 : (a : Int) + j < s.size := by omega
      by_cases hdg : isSm s[a + j] = true
      · rw [hdg] at hd
        have hall' := fhid (hall.out.succ hjr (by rw [hg]; exact hdg))
        clear hstp
        go_wp2_with (first
          | (go_at_call 100; (with_reducible refine (hd _).mono ?_); rintro e w1 ⟨rfl, rfl⟩))
        go_round
        case rel => exact ⟨j + 1, by omega, by rw [show (a : Int) + j + 1 = (a : Int) + ((j + 1 : Nat) : Int) by omega], hall'.out⟩
        case measure => simp [intOf]; omega
      · have hdf : isSm s[a + j] = false := by simpa using hdg
        rw [hdf] at hd
        obtain ⟨hbw, hlw⟩ := hstp (fun h => by rw [hg]; exact hdf)
        clear hstp hg
        have hpI := fhid (show pItem r = (if kindOf (r.takeWhile isSm) = 5 then some ((5, []), r.drop (r.takeWhile isSm).length) else if ¬ (1 ≤ kindOf (r.takeWhile isSm) ∧ kindOf (r.takeWhile isSm) ≤ 4) then none
          else if (r.drop (r.takeWhile isSm).length).head? ≠ some 58 then none else match pJobs 33 [] (r.drop (r.takeWhile isSm).length) with
            | none => none
            | some (js, r') => some ((kindOf (r.takeWhile isSm), js), r')) from rfl)
        have hkw := fun W => kindOf_any (s.extract a (a + j)) W
        obtain ⟨K0, hK0⟩ : ∃ K, kindOf (r.takeWhile isSm) = K := ⟨_, rfl⟩
        rw [hbw, hK0] at hkw
        have hK0h := fhid hK0
        have hpI' := hpI.out
        rw [hK0, hlw, hdr j] at hpI'
        have hkr := kindOf_range (r.takeWhile isSm)
        rw [hK0] at hkr
        clear hpI hbw hlw hK0 hK0h hdr
        replace hall := fhid True.intro
        replace hpI' := fhid hpI'
        have hnj := fun W => namesJobs_any K0 W
        have hst := fun W => stands_any s (a + j) ((a : Int) + j) 58 58 W (by omega) rfl
        have hhd : ((bl s).drop (a + j)).head? = (bl s)[a + j]? := by rw [List.head?_drop]
        obtain ⟨p0, p1, p2, g0, gz⟩ := item_start w K0
        by_cases h5 : K0 = 5
        · subst h5
          have hp := fhid (hpI'.out.trans (if_pos rfl))
          clear hpI' hnj hst hhd
          replace p0 := fhid p0
          replace p1 := fhid p1
          replace p2 := fhid p2
          go_upto_region 5 with (first
            | (go_at_call 100; (with_reducible refine (hd _).mono ?_); rintro e w1 ⟨rfl, rfl⟩)
            | (go_at_call 101; (with_reducible refine (hkw _).mono ?_); rintro e w1 ⟨rfl, rfl⟩))
          generalize World.alloc _ _ = W at *
          obtain ⟨c0, c1, f0, f1, z0⟩ := p0.out.facts
          obtain ⟨c2, c3, f2, f3, z1⟩ := p1.out.facts
          obtain ⟨c4, c5, f4, f5, z2⟩ := p2.out.facts
          go_wp2_with fail
          exact bodyPost_ret (v := .tuple #[.agg #[.int .i64 5, .slice none 0 0], .int .i64 ((a : Int) + j), .agg #[.int .i64 0, .int .i64 0]]) (by simp [results, Tryz.results70, go_sem, c0, c1, c2, c3]) rfl
            (hgood 5 [] (a + j) hp.out _ (sets4 g0 _ _ (Nat.le_refl _) (by omega) _ _ _ _) hjs _ none 0 (Nat.le_refl _) (by unfold maxLen; omega) (SegP.nil _ _ _) (by push_cast; rfl))
        have b5 : (K0 == 5) = false := by simpa using h5
        have hp5 := fhid (hpI'.out.trans (if_neg h5))
        clear hpI'
        by_cases h14 : 1 ≤ K0 ∧ K0 ≤ 4
        · rw [decide_eq_true h14] at hnj
          have hp14 := fhid (hp5.out.trans (if_neg (fun h => h h14)))
          clear hp5 h14 hkr
          by_cases h58 : (bl s)[a + j]? = some 58
          · rw [decide_eq_true h58] at hst
            have hp58 := fhid (hp14.out.trans (if_neg (fun h => h (hhd.trans h58))))
            clear hp14 hhd
            replace p0 := fhid p0
            replace p1 := fhid p1
            replace p2 := fhid p2
            go_upto_region 5 with (first
              | (go_at_call 100; (with_reducible refine (hd _).mono ?_); rintro e w1 ⟨rfl, rfl⟩)
              | (go_at_call 101; (with_reducible refine (hkw _).mono ?_); rintro e w1 ⟨rfl, rfl⟩))
            generalize World.alloc _ _ = W at *
            obtain ⟨c4, c5, f4, f5, z2⟩ := p2.out.facts
            go_wp2_with (first
              | (go_at_call 102; (with_reducible refine (hnj _).mono ?_); rintro e w1 ⟨rfl, rfl⟩)
              | (go_at_call 71; (with_reducible refine (hst _).mono ?_); rintro e w1 ⟨rfl, rfl⟩))
            clear hst hnj hkw hd c4 c5 f4 f5 z2
            go_loopw [7] (fun e wr => JobsRel w s a j K0 e wr) (fun e _ => s.size + 1 - (intOf e).toNat)
            case atStart => exact jobs_start s p0.out p1.out p2.out g0 gz hjs
            case round =>
              obtain ⟨c, js, v, hc, rfl, h32, hP, hO, q2, q0, q1, hB⟩ := hrel
              obtain ⟨A, cap, rfl, hcap1, hcap2, hsg⟩ := hO.tag
              have hnB := hB.size
              have hst := fun W => stands_any s c c 58 58 W rfl rfl
              have hhd : ((bl s).drop c).head? = (bl s)[c]? := by rw [List.head?_drop]
              have hc0 : (0 : Int) ≤ c := by omega
              have hcs : (c : Int) ≤ s.size := by omega
              replace hO := fhid hO
              replace q0 := fhid q0
              replace q1 := fhid q1
              replace q2 := fhid q2
              have hP0 := fhid hP
              replace hP := fhid (hp58.out.trans (by rw [hP]))
              replace hp58 := fhid True.intro
              obtain ⟨f, hf⟩ : ∃ f, 33 - js.length = f + 1 := ⟨32 - js.length, by omega⟩
              have hf2 : f = 32 - js.length := by omega
              obtain ⟨c4, c5, f4, f5, z2⟩ := q2.out.facts
              replace hsg := fhid hsg
              by_cases h58 : (bl s)[c]? = some 58
              · rw [decide_eq_true h58] at hst
                have hh : ((bl s).drop c).head? = some 58 := hhd.trans h58
                have hcl : c < s.size := by
                  have := (List.getElem?_eq_some_iff.1 h58).1
                  rw [bl_len] at this
                  exact this
                have htl : ((bl s).drop c).tail = (bl s).drop (c + 1) := by rw [List.tail_drop]
                by_cases hfull : js.length = 32
                · have hp := fhid (hP.out.trans (by rw [hf, pJobs_full hh hfull]))
                  have e32 : (js.length : Int) = 32 := by omega
                  clear hP hf hf2 hhd
                  obtain ⟨c0, c1, f0, f1, z0⟩ := q0.out.facts
                  obtain ⟨c2, c3, f2, f3, z1⟩ := q1.out.facts
                  go_wp2_with (first
                    | (go_at_call 71; (with_reducible refine (hst _).mono ?_); rintro e w1 ⟨rfl, rfl⟩))
                  exact bodyPost_ret (v := .tuple #[.agg #[.int .i64 0, .slice none 0 0], .int .i64 0, .agg #[.int .i64 5, .int .i64 (a : Int)]]) (by simp [results, Tryz.results70, go_sem, c0, c1, c2, c3]) rfl
                    (hbad hp.out _ (sets4 hB _ _ (Nat.le_refl _) (by omega) _ _ _ _) _ _ (by decide) _ rfl)
                · have e32 : ((js.length : Int) == 32) = false := by simp; omega
                  have hjb := fun W => readJob_any s (c + 1) ((c : Int) + 1) W (by omega) hs (by omega)
                  unfold JobPost at hjb
                  cases hpj : pJob ((bl s).drop (c + 1)) with
                  | none =>
                    rw [hpj] at hjb
                    simp only at hjb
                    have hp := fhid (hP.out.trans (by rw [hf, pJobs_bad hh hfull (by rw [htl]; exact hpj)]))
                    clear hP hf hf2 hhd hpj
                    go_wp2_with (first
                      | (go_at_call 71; (with_reducible refine (hst _).mono ?_); rintro e w1 ⟨rfl, rfl⟩)
                      | (go_at_call 103; (with_reducible refine (hjb _).mono ?_); rintro e w2 ⟨b1, y, i, hy, rfl⟩
                         have hy1 : ¬ y = 0 := hy
                         have hy2 : (y != 0) = true := by simpa using hy
                         have zb := b1.size
                         have q3 := fhid (new_at w2 (.cells #[.int .i64 y, .int .i64 i] TFa) _ rfl)
                         have r0 := fhid (old_at w2 (.cells #[.int .i64 y, .int .i64 i] TFa) _ (q0.out.below b1 (by omega)) (by omega))
                         have r1 := fhid (old_at w2 (.cells #[.int .i64 y, .int .i64 i] TFa) _ (q1.out.below b1 (by omega)) (by omega))))
                    obtain ⟨c0, c1, f0, f1, z0⟩ := IB.facts r0.out
                    obtain ⟨c2, c3, f2, f3, z1⟩ := FB.facts r1.out
                    have bz := (hB.trans (b1.mono hB.size)).alloc (by omega) (.cells #[.int .i64 y, .int .i64 i] TFa)
                    obtain ⟨c6, c7, f6, f7, z3⟩ := FB.facts q3.out
                    go_region
                    go_wp2_with fail
                    refine bodyPost_ret (v := .tuple #[.agg #[.int .i64 0, .slice none 0 0], .int .i64 0, .agg #[.int .i64 y, .int .i64 i]]) (by simp [results, Tryz.results70, go_sem, c0, c1, c2, c3]) rfl
                      (hbad hp.out _ ?_ _ _ hy _ rfl)
                    repeat' (first | (with_reducible exact bz) | (with_reducible apply Below.drew) | (with_reducible apply Below.setCell) | (with_reducible apply below_drewN))
                    all_goals (first | omega | (simp; done) | (simp; omega))
                  | some x =>
                    obtain ⟨n, r1⟩ := x
                    rw [hpj] at hjb
                    simp only at hjb
                    have hp := fhid (hP0.out.trans (by rw [hf, pJobs_go hh hfull (by rw [htl]; exact hpj), hf2, show 32 - js.length = 33 - (js.length + 1) by omega]))
                    clear hf hf2 hhd hpj hP
                    go_wp2_with (first
                      | (go_at_call 71; (with_reducible refine (hst _).mono ?_); rintro e w1 ⟨rfl, rfl⟩)
                      | (go_at_call 103; (with_reducible refine (hjb _).mono ?_); rintro e w2 ⟨b1, c', hc', hc2, rfl, rfl⟩
                         have zb := b1.size
                         have q3 := fhid (new_at w2 (.cells #[.int .i64 0, .int .i64 0] TFa) _ rfl)
                         have r0 := fhid (old_at w2 (.cells #[.int .i64 0, .int .i64 0] TFa) _ (q0.out.below b1 (by omega)) (by omega))
                         have r1 := fhid (old_at w2 (.cells #[.int .i64 0, .int .i64 0] TFa) _ (q1.out.below b1 (by omega)) (by omega))
                         have r2 := fhid (old_at w2 (.cells #[.int .i64 0, .int .i64 0] TFa) _ (q2.out.below b1 (by omega)) (by omega))
                         have o2 := fhid (World.ownsRow.alloc (hO.out.below b1) (.cells #[.int .i64 0, .int .i64 0] TFa))
                         have bz := (hB.trans (b1.mono hB.size)).alloc (by omega) (.cells #[.int .i64 0, .int .i64 0] TFa)
                         clear c4 c5 f4 f5
                         obtain ⟨c4, c5, f4, f5, z3⟩ := IB.facts r2.out
                         have z4 : w.heap.size + 1 + 1 + 1 ≤ (w2.alloc (.cells #[.int .i64 0, .int .i64 0] TFa)).heap.size := by rw [World.size_alloc]; omega)
                      | (at_builtin; (refine app_int rfl _ _ rfl (w.heap.size + 1 + 1 + 1) _ js n (w2.alloc (.cells #[.int .i64 0, .int .i64 0] TFa)) rfl o2.out rfl (w2.heap.size + 1) (by rw [World.size_alloc]) rfl (by omega) z4 ?_; intro v3 w3 o3 _ b3)
                         obtain ⟨A3, m3, cap3, rfl⟩ : ∃ A m c, v3 = .slice A m c := by obtain ⟨A, cap, e, _⟩ := o3.tag; exact ⟨A, _, cap, e⟩
                         replace o3 := fhid o3
                         obtain ⟨_, _, g4, g5, _⟩ := IB.facts (IB.below r2.out b3 (by omega))))
                    go_roundw
                    case rel => exact ⟨c', js ++ [n], _, hc2, rfl, by rw [List.length_append, List.length_singleton]; omega, by rw [List.length_append, List.length_singleton]; exact hp.out, jobs_step (IB.below r2.out b3 (by omega)) (IB.below r0.out b3 (by omega)) (FB.below r1.out b3 (by omega)) o3.out (bz.trans (b3.mono (by omega)))⟩
                    case measure => simp [intOf]; omega
              · rw [decide_eq_false h58] at hst
                have hp := fhid (hP.out.trans (by rw [hf, pJobs_stop (fun h => h58 (hhd.symm.trans h))]))
                clear hP hf hf2 hhd
                obtain ⟨c0, c1, f0, f1, z0⟩ := q0.out.facts
                obtain ⟨c2, c3, f2, f3, z1⟩ := q1.out.facts
                go_wp2_with (first
                  | (go_at_call 71; (with_reducible refine (hst _).mono ?_); rintro e w1 ⟨rfl, rfl⟩))
                exact bodyPost_ret (v := .tuple #[.agg #[.int .i64 K0, .slice A js.length cap], .int .i64 (c : Int), .agg #[.int .i64 0, .int .i64 0]]) (by simp [results, Tryz.results70, go_sem, c0, c1, c2, c3]) rfl
                  (hgood K0 js c hp.out _ (sets4 hB _ _ (Nat.le_refl _) (by omega) _ _ _ _) hc _ A cap hcap1 hcap2 (seg_sets4 hsg.out q0.out q1.out _ _ _ _) rfl)
          · rw [decide_eq_false h58] at hst
            have hp := fhid (hp14.out.trans (if_pos (fun h => h58 (hhd.symm.trans h))))
            clear hp14 hhd
            replace p0 := fhid p0
            replace p1 := fhid p1
            replace p2 := fhid p2
            go_upto_region 5 with (first
              | (go_at_call 100; (with_reducible refine (hd _).mono ?_); rintro e w1 ⟨rfl, rfl⟩)
              | (go_at_call 101; (with_reducible refine (hkw _).mono ?_); rintro e w1 ⟨rfl, rfl⟩))
            generalize World.alloc _ _ = W at *
            obtain ⟨c4, c5, f4, f5, z2⟩ := p2.out.facts
            go_wp2_with (first
              | (go_at_call 102; (with_reducible refine (hnj _).mono ?_); rintro e w1 ⟨rfl, rfl⟩)
              | (go_at_call 71; (with_reducible refine (hst _).mono ?_); rintro e w1 ⟨rfl, rfl⟩)
              | (go_at_call 73; (with_reducible refine (wrong_any s _ _).mono ?_); rintro e w2 ⟨y, hy, rfl, b1⟩
                 replace hy := fhid hy
                 obtain ⟨c0, c1, f0, f1, z0⟩ := (p0.out.below b1 (by omega)).facts
                 obtain ⟨c2, c3, f2, f3, z1⟩ := (p1.out.below b1 (by omega)).facts))
            exact bodyPost_ret (v := .tuple #[.agg #[.int .i64 0, .slice none 0 0], .int .i64 0, .agg #[.int .i64 y, .int .i64 ((a : Int) + j)]]) (by simp [results, Tryz.results70, go_sem, c0, c1, c2, c3]) rfl
              (hbad hp.out _ (sets4 (g0.trans (b1.mono g0.size)) _ _ (Nat.le_refl _) (by omega) _ _ _ _) _ _ hy.out _ rfl)
        · rw [decide_eq_false h14] at hnj
          have hp := fhid (hp5.out.trans (if_pos h14))
          clear hp5 h14 hkr hst hhd
          replace p0 := fhid p0
          replace p1 := fhid p1
          replace p2 := fhid p2
          go_upto_region 5 with (first
            | (go_at_call 100; (with_reducible refine (hd _).mono ?_); rintro e w1 ⟨rfl, rfl⟩)
            | (go_at_call 101; (with_reducible refine (hkw _).mono ?_); rintro e w1 ⟨rfl, rfl⟩))
          generalize World.alloc _ _ = W at *
          obtain ⟨c4, c5, f4, f5, z2⟩ := p2.out.facts
          go_wp2_with (first
            | (go_at_call 102; (with_reducible refine (hnj _).mono ?_); rintro e w1 ⟨rfl, rfl⟩)
            | (go_at_call 73; (with_reducible refine (wrong_any s _ _).mono ?_); rintro e w2 ⟨y, hy, rfl, b1⟩
               replace hy := fhid hy
               obtain ⟨c0, c1, f0, f1, z0⟩ := (p0.out.below b1 (by omega)).facts
               obtain ⟨c2, c3, f2, f3, z1⟩ := (p1.out.below b1 (by omega)).facts))
          exact bodyPost_ret (v := .tuple #[.agg #[.int .i64 0, .slice none 0 0], .int .i64 0, .agg #[.int .i64 y, .int .i64 (a : Int)]]) (by simp [results, Tryz.results70, go_sem, c0, c1, c2, c3]) rfl
            (hbad hp.out _ (sets4 (g0.trans (b1.mono g0.size)) _ _ (Nat.le_refl _) (by omega) _ _ _ _) _ _ hy.out _ rfl)
    · have i1 : ¬ (a : Int) + j < s.size := by omega
      obtain ⟨hbw, hlw⟩ := hstp (fun h => absurd h (by have := hrl.out; omega))
      clear hstp
      have hd : True := trivial
      have hpI := fhid (show pItem r = (if kindOf (r.takeWhile isSm) = 5 then some ((5, []), r.drop (r.takeWhile isSm).length) else if ¬ (1 ≤ kindOf (r.takeWhile isSm) ∧ kindOf (r.takeWhile isSm) ≤ 4) then none
        else if (r.drop (r.takeWhile isSm).length).head? ≠ some 58 then none else match pJobs 33 [] (r.drop (r.takeWhile isSm).length) with
          | none => none
          | some (js, r') => some ((kindOf (r.takeWhile isSm), js), r')) from rfl)
      have hkw := fun W => kindOf_any (s.extract a (a + j)) W
      obtain ⟨K0, hK0⟩ : ∃ K, kindOf (r.takeWhile isSm) = K := ⟨_, rfl⟩
      rw [hbw, hK0] at hkw
      have hK0h := fhid hK0
      have hpI' := hpI.out
      rw [hK0, hlw, hdr j] at hpI'
      have hkr := kindOf_range (r.takeWhile isSm)
      rw [hK0] at hkr
      clear hpI hbw hlw hK0 hK0h hdr
      replace hall := fhid True.intro
      replace hpI' := fhid hpI'
      have hnj := fun W => namesJobs_any K0 W
      have hst := fun W => stands_any s (a + j) ((a : Int) + j) 58 58 W (by omega) rfl
      have hhd : ((bl s).drop (a + j)).head? = (bl s)[a + j]? := by rw [List.head?_drop]
      obtain ⟨p0, p1, p2, g0, gz⟩ := item_start w K0
      by_cases h5 : K0 = 5
      · subst h5
        have hp := fhid (hpI'.out.trans (if_pos rfl))
        clear hpI' hnj hst hhd
        replace p0 := fhid p0
        replace p1 := fhid p1
        replace p2 := fhid p2
        go_upto_region 5 with (go_at_call 101; (with_reducible refine (hkw _).mono ?_); rintro e w1 ⟨rfl, rfl⟩)
        generalize World.alloc _ _ = W at *
        obtain ⟨c0, c1, f0, f1, z0⟩ := p0.out.facts
        obtain ⟨c2, c3, f2, f3, z1⟩ := p1.out.facts
        obtain ⟨c4, c5, f4, f5, z2⟩ := p2.out.facts
        go_wp2_with fail
        exact bodyPost_ret (v := .tuple #[.agg #[.int .i64 5, .slice none 0 0], .int .i64 ((a : Int) + j), .agg #[.int .i64 0, .int .i64 0]]) (by simp [results, Tryz.results70, go_sem, c0, c1, c2, c3]) rfl
          (hgood 5 [] (a + j) hp.out _ (sets4 g0 _ _ (Nat.le_refl _) (by omega) _ _ _ _) hjs _ none 0 (Nat.le_refl _) (by unfold maxLen; omega) (SegP.nil _ _ _) (by push_cast; rfl))
      have b5 : (K0 == 5) = false := by simpa using h5
      have hp5 := fhid (hpI'.out.trans (if_neg h5))
      clear hpI'
      by_cases h14 : 1 ≤ K0 ∧ K0 ≤ 4
      · rw [decide_eq_true h14] at hnj
        have hp14 := fhid (hp5.out.trans (if_neg (fun h => h h14)))
        clear hp5 h14 hkr
        by_cases h58 : (bl s)[a + j]? = some 58
        · rw [decide_eq_true h58] at hst
          have hp58 := fhid (hp14.out.trans (if_neg (fun h => h (hhd.trans h58))))
          clear hp14 hhd
          replace p0 := fhid p0
          replace p1 := fhid p1
          replace p2 := fhid p2
          go_upto_region 5 with (go_at_call 101; (with_reducible refine (hkw _).mono ?_); rintro e w1 ⟨rfl, rfl⟩)
          generalize World.alloc _ _ = W at *
          obtain ⟨c4, c5, f4, f5, z2⟩ := p2.out.facts
          go_wp2_with (first
            | (go_at_call 102; (with_reducible refine (hnj _).mono ?_); rintro e w1 ⟨rfl, rfl⟩)
            | (go_at_call 71; (with_reducible refine (hst _).mono ?_); rintro e w1 ⟨rfl, rfl⟩))
          clear hst hnj hkw hd c4 c5 f4 f5 z2
          go_loopw [7] (fun e wr => JobsRel w s a j K0 e wr) (fun e _ => s.size + 1 - (intOf e).toNat)
          case atStart => exact jobs_start s p0.out p1.out p2.out g0 gz hjs
          case round =>
            obtain ⟨c, js, v, hc, rfl, h32, hP, hO, q2, q0, q1, hB⟩ := hrel
            obtain ⟨A, cap, rfl, hcap1, hcap2, hsg⟩ := hO.tag
            have hnB := hB.size
            have hst := fun W => stands_any s c c 58 58 W rfl rfl
            have hhd : ((bl s).drop c).head? = (bl s)[c]? := by rw [List.head?_drop]
            have hc0 : (0 : Int) ≤ c := by omega
            have hcs : (c : Int) ≤ s.size := by omega
            replace hO := fhid hO
            replace q0 := fhid q0
            replace q1 := fhid q1
            replace q2 := fhid q2
            have hP0 := fhid hP
            replace hP := fhid (hp58.out.trans (by rw [hP]))
            replace hp58 := fhid True.intro
            obtain ⟨f, hf⟩ : ∃ f, 33 - js.length = f + 1 := ⟨32 - js.length, by omega⟩
            have hf2 : f = 32 - js.length := by omega
            obtain ⟨c4, c5, f4, f5, z2⟩ := q2.out.facts
            replace hsg := fhid hsg
            by_cases h58 : (bl s)[c]? = some 58
            · rw [decide_eq_true h58] at hst
              have hh : ((bl s).drop c).head? = some 58 := hhd.trans h58
              have hcl : c < s.size := by
                have := (List.getElem?_eq_some_iff.1 h58).1
                rw [bl_len] at this
                exact this
              have htl : ((bl s).drop c).tail = (bl s).drop (c + 1) := by rw [List.tail_drop]
              by_cases hfull : js.length = 32
              · have hp := fhid (hP.out.trans (by rw [hf, pJobs_full hh hfull]))
                have e32 : (js.length : Int) = 32 := by omega
                clear hP hf hf2 hhd
                obtain ⟨c0, c1, f0, f1, z0⟩ := q0.out.facts
                obtain ⟨c2, c3, f2, f3, z1⟩ := q1.out.facts
                go_wp2_with (first
                  | (go_at_call 71; (with_reducible refine (hst _).mono ?_); rintro e w1 ⟨rfl, rfl⟩))
                exact bodyPost_ret (v := .tuple #[.agg #[.int .i64 0, .slice none 0 0], .int .i64 0, .agg #[.int .i64 5, .int .i64 (a : Int)]]) (by simp [results, Tryz.results70, go_sem, c0, c1, c2, c3]) rfl
                  (hbad hp.out _ (sets4 hB _ _ (Nat.le_refl _) (by omega) _ _ _ _) _ _ (by decide) _ rfl)
              · have e32 : ((js.length : Int) == 32) = false := by simp; omega
                have hjb := fun W => readJob_any s (c + 1) ((c : Int) + 1) W (by omega) hs (by omega)
                unfold JobPost at hjb
                cases hpj : pJob ((bl s).drop (c + 1)) with
                | none =>
                  rw [hpj] at hjb
                  simp only at hjb
                  have hp := fhid (hP.out.trans (by rw [hf, pJobs_bad hh hfull (by rw [htl]; exact hpj)]))
                  clear hP hf hf2 hhd hpj
                  go_wp2_with (first
                    | (go_at_call 71; (with_reducible refine (hst _).mono ?_); rintro e w1 ⟨rfl, rfl⟩)
                    | (go_at_call 103; (with_reducible refine (hjb _).mono ?_); rintro e w2 ⟨b1, y, i, hy, rfl⟩
                       have hy1 : ¬ y = 0 := hy
                       have hy2 : (y != 0) = true := by simpa using hy
                       have zb := b1.size
                       have q3 := fhid (new_at w2 (.cells #[.int .i64 y, .int .i64 i] TFa) _ rfl)
                       have r0 := fhid (old_at w2 (.cells #[.int .i64 y, .int .i64 i] TFa) _ (q0.out.below b1 (by omega)) (by omega))
                       have r1 := fhid (old_at w2 (.cells #[.int .i64 y, .int .i64 i] TFa) _ (q1.out.below b1 (by omega)) (by omega))))
                  obtain ⟨c0, c1, f0, f1, z0⟩ := IB.facts r0.out
                  obtain ⟨c2, c3, f2, f3, z1⟩ := FB.facts r1.out
                  have bz := (hB.trans (b1.mono hB.size)).alloc (by omega) (.cells #[.int .i64 y, .int .i64 i] TFa)
                  obtain ⟨c6, c7, f6, f7, z3⟩ := FB.facts q3.out
                  go_region
                  go_wp2_with fail
                  refine bodyPost_ret (v := .tuple #[.agg #[.int .i64 0, .slice none 0 0], .int .i64 0, .agg #[.int .i64 y, .int .i64 i]]) (by simp [results, Tryz.results70, go_sem, c0, c1, c2, c3]) rfl
                    (hbad hp.out _ ?_ _ _ hy _ rfl)
                  repeat' (first | (with_reducible exact bz) | (with_reducible apply Below.drew) | (with_reducible apply Below.setCell) | (with_reducible apply below_drewN))
                  all_goals (first | omega | (simp; done) | (simp; omega))
                | some x =>
                  obtain ⟨n, r1⟩ := x
                  rw [hpj] at hjb
                  simp only at hjb
                  have hp := fhid (hP0.out.trans (by rw [hf, pJobs_go hh hfull (by rw [htl]; exact hpj), hf2, show 32 - js.length = 33 - (js.length + 1) by omega]))
                  clear hf hf2 hhd hpj hP
                  go_wp2_with (first
                    | (go_at_call 71; (with_reducible refine (hst _).mono ?_); rintro e w1 ⟨rfl, rfl⟩)
                    | (go_at_call 103; (with_reducible refine (hjb _).mono ?_); rintro e w2 ⟨b1, c', hc', hc2, rfl, rfl⟩
                       have zb := b1.size
                       have q3 := fhid (new_at w2 (.cells #[.int .i64 0, .int .i64 0] TFa) _ rfl)
                       have r0 := fhid (old_at w2 (.cells #[.int .i64 0, .int .i64 0] TFa) _ (q0.out.below b1 (by omega)) (by omega))
                       have r1 := fhid (old_at w2 (.cells #[.int .i64 0, .int .i64 0] TFa) _ (q1.out.below b1 (by omega)) (by omega))
                       have r2 := fhid (old_at w2 (.cells #[.int .i64 0, .int .i64 0] TFa) _ (q2.out.below b1 (by omega)) (by omega))
                       have o2 := fhid (World.ownsRow.alloc (hO.out.below b1) (.cells #[.int .i64 0, .int .i64 0] TFa))
                       have bz := (hB.trans (b1.mono hB.size)).alloc (by omega) (.cells #[.int .i64 0, .int .i64 0] TFa)
                       clear c4 c5 f4 f5
                       obtain ⟨c4, c5, f4, f5, z3⟩ := IB.facts r2.out
                       have z4 : w.heap.size + 1 + 1 + 1 ≤ (w2.alloc (.cells #[.int .i64 0, .int .i64 0] TFa)).heap.size := by rw [World.size_alloc]; omega)
                    | (at_builtin; (refine app_int rfl _ _ rfl (w.heap.size + 1 + 1 + 1) _ js n (w2.alloc (.cells #[.int .i64 0, .int .i64 0] TFa)) rfl o2.out rfl (w2.heap.size + 1) (by rw [World.size_alloc]) rfl (by omega) z4 ?_; intro v3 w3 o3 _ b3)
                       obtain ⟨A3, m3, cap3, rfl⟩ : ∃ A m c, v3 = .slice A m c := by obtain ⟨A, cap, e, _⟩ := o3.tag; exact ⟨A, _, cap, e⟩
                       replace o3 := fhid o3
                       obtain ⟨_, _, g4, g5, _⟩ := IB.facts (IB.below r2.out b3 (by omega))))
                  go_roundw
                  case rel => exact ⟨c', js ++ [n], _, hc2, rfl, by rw [List.length_append, List.length_singleton]; omega, by rw [List.length_append, List.length_singleton]; exact hp.out, jobs_step (IB.below r2.out b3 (by omega)) (IB.below r0.out b3 (by omega)) (FB.below r1.out b3 (by omega)) o3.out (bz.trans (b3.mono (by omega)))⟩
                  case measure => simp [intOf]; omega
            · rw [decide_eq_false h58] at hst
              have hp := fhid (hP.out.trans (by rw [hf, pJobs_stop (fun h => h58 (hhd.symm.trans h))]))
              clear hP hf hf2 hhd
              obtain ⟨c0, c1, f0, f1, z0⟩ := q0.out.facts
              obtain ⟨c2, c3, f2, f3, z1⟩ := q1.out.facts
              go_wp2_with (first
                | (go_at_call 71; (with_reducible refine (hst _).mono ?_); rintro e w1 ⟨rfl, rfl⟩))
              exact bodyPost_ret (v := .tuple #[.agg #[.int .i64 K0, .slice A js.length cap], .int .i64 (c : Int), .agg #[.int .i64 0, .int .i64 0]]) (by simp [results, Tryz.results70, go_sem, c0, c1, c2, c3]) rfl
                (hgood K0 js c hp.out _ (sets4 hB _ _ (Nat.le_refl _) (by omega) _ _ _ _) hc _ A cap hcap1 hcap2 (seg_sets4 hsg.out q0.out q1.out _ _ _ _) rfl)
        · rw [decide_eq_false h58] at hst
          have hp := fhid (hp14.out.trans (if_pos (fun h => h58 (hhd.symm.trans h))))
          clear hp14 hhd
          replace p0 := fhid p0
          replace p1 := fhid p1
          replace p2 := fhid p2
          go_upto_region 5 with (go_at_call 101; (with_reducible refine (hkw _).mono ?_); rintro e w1 ⟨rfl, rfl⟩)
          generalize World.alloc _ _ = W at *
          obtain ⟨c4, c5, f4, f5, z2⟩ := p2.out.facts
          go_wp2_with (first
            | (go_at_call 102; (with_reducible refine (hnj _).mono ?_); rintro e w1 ⟨rfl, rfl⟩)
            | (go_at_call 71; (with_reducible refine (hst _).mono ?_); rintro e w1 ⟨rfl, rfl⟩)
            | (go_at_call 73; (with_reducible refine (wrong_any s _ _).mono ?_); rintro e w2 ⟨y, hy, rfl, b1⟩
               replace hy := fhid hy
               obtain ⟨c0, c1, f0, f1, z0⟩ := (p0.out.below b1 (by omega)).facts
               obtain ⟨c2, c3, f2, f3, z1⟩ := (p1.out.below b1 (by omega)).facts))
          exact bodyPost_ret (v := .tuple #[.agg #[.int .i64 0, .slice none 0 0], .int .i64 0, .agg #[.int .i64 y, .int .i64 ((a : Int) + j)]]) (by simp [results, Tryz.results70, go_sem, c0, c1, c2, c3]) rfl
            (hbad hp.out _ (sets4 (g0.trans (b1.mono g0.size)) _ _ (Nat.le_refl _) (by omega) _ _ _ _) _ _ hy.out _ rfl)
      · rw [decide_eq_false h14] at hnj
        have hp := fhid (hp5.out.trans (if_pos h14))
        clear hp5 h14 hkr hst hhd
        replace p0 := fhid p0
        replace p1 := fhid p1
        replace p2 := fhid p2
        go_upto_region 5 with (go_at_call 101; (with_reducible refine (hkw _).mono ?_); rintro e w1 ⟨rfl, rfl⟩)
        generalize World.alloc _ _ = W at *
        obtain ⟨c4, c5, f4, f5, z2⟩ := p2.out.facts
        go_wp2_with (first
          | (go_at_call 102; (with_reducible refine (hnj _).mono ?_); rintro e w1 ⟨rfl, rfl⟩)
          | (go_at_call 73; (with_reducible refine (wrong_any s _ _).mono ?_); rintro e w2 ⟨y, hy, rfl, b1⟩
             replace hy := fhid hy
             obtain ⟨c0, c1, f0, f1, z0⟩ := (p0.out.below b1 (by omega)).facts
             obtain ⟨c2, c3, f2, f3, z1⟩ := (p1.out.below b1 (by omega)).facts))
        exact bodyPost_ret (v := .tuple #[.agg #[.int .i64 0, .slice none 0 0], .int .i64 0, .agg #[.int .i64 y, .int .i64 (a : Int)]]) (by simp [results, Tryz.results70, go_sem, c0, c1, c2, c3]) rfl
          (hbad hp.out _ (sets4 (g0.trans (b1.mono g0.size)) _ _ (Nat.le_refl _) (by omega) _ _ _ _) _ _ hy.out _ rfl)
end Go.Proofs.YtjpihophigjbpaaGreatDoor.Ds
/-
  Rows of items: one put behind them; a store elsewhere.
-/
namespace Go.Proofs.YtjpihophigjbpaaGreatDoor.Ds
open Go.RowKit

abbrev TDep : TypeId := 37
abbrev TRIt : TypeId := 56
theorem infoIt : (Tryz.prog.info? TIt).map (fun i => (i.zero, i.size, i.bytes)) = some (some (.agg #[.int .i64 0, .slice none 0 0]), 2, 32) := by kernel_rfl
theorem infoRIt : (Tryz.prog.info? TRIt).map (fun i => (i.zero, i.size, i.bytes)) = some (some (.agg #[.int .i64 0, .slice none 0 0]), 2, 32) := by kernel_rfl
/-- One item put behind a row of the call's own. -/
theorem app_it {w : World} {ops : Array Oper} {rest : List Oper} {o : Oper} {a : Act} {Q : Exit → Act → World → Prop} (T e : TypeId)
    (hT : Tryz.prog.underlying T = some (.slice e)) (hinfo : (Tryz.prog.info? e).map (fun i => (i.zero, i.size, i.bytes)) = some (some (.agg #[.int .i64 0, .slice none 0 0]), 2, 32))
    (hgd : o.guard = none) (s x : Operand) (ho : o.op = .call { callee := .builtin .append, args := #[s, x], argTypes := #[T, T] })
    (base : Nat) (ok : Nat → Prop) (v : Value) (l : List Itm) (k : Int) (js : List Int) (A : Option Addr) (c : Nat) (h1 : js.length ≤ c) (h2 : c ≤ maxLen) (w0 : World) (hs : a.eval s = v) (hown : OwnIt w0 e base ok v l)
    (hok : ∀ b, ok b → b < w0.heap.size ∧ some b ≠ v.ownBlock) (hj : SegP w0 ok A (IV js))
    (hw : w = w0.alloc (.cells #[.int .i64 k, .slice A js.length c] e)) (g : Nat) (hg : g = w0.heap.size) (hx : a.eval x = .slice (some ⟨g, 0, none⟩) 1 1) (hlen : l.length ≤ 1048576) (hbase : base ≤ w0.heap.size)
    (h : ∀ v' w', OwnIt w' e base ok v' (l ++ [(k, js)]) → (∀ b, ok b → w'.heap[b]? = w0.heap[b]?) → Below base w0 w' → wpList Tryz.prog ops Q rest (a.put o.dst v') w') : wpList Tryz.prog ops Q (o :: rest) a w := by
  subst hw
  subst hg
  obtain ⟨xs, hr, hi⟩ := hown
  refine app_own T e _ 2 32 hT hinfo rfl (by decide) hgd s x ho base v l.length xs hs (World.ownsRow.alloc hr _) (w0.heap.size + 1) (some ⟨w0.heap.size, 0, none⟩) 1 1 [.int .i64 k, .slice A js.length c] hx (one_cells w0 _ _) rfl (fun u hu => by simp at hu; rcases hu with rfl | rfl <;> rfl) (fun h => by cases h) (by omega) (by omega) (by rw [World.size_alloc]; omega) ?_
  intro v' w' a1 a2 a3 _
  have hk : ∀ b, ok b → w'.heap[b]? = w0.heap[b]? := fun b hb => by
    obtain ⟨p, q⟩ := hok b hb
    exact (a2.block b (by rw [World.size_alloc]; omega) q).trans (Below.heap_alloc _ _ _ p)
  refine h v' w' ⟨xs ++ [.int .i64 k, .slice A js.length c], ?_, (hi.keep hk).app (ItC.one h1 h2 (hj.keep hk))⟩ hk (((Below.refl _ _).alloc hbase _).trans a3)
  rw [List.length_append, List.length_singleton]
  exact a1
/-- Items of the call's own, whose jobs lie in blocks of whole numbers. -/
abbrev OwnT (w : World) (e : TypeId) (base : Nat) (v : Value) (l : List Itm) : Prop := OwnIt w e base (TagI w) v l
theorem OwnIt.tags {w : World} {e : TypeId} {base : Nat} {ok : Nat → Prop} {v : Value} {l : List Itm} (h : OwnIt w e base ok v l) (hk : ∀ b, b < w.heap.size → ok b → TagI w b) : OwnT w e base v l := by
  obtain ⟨xs, h1, h2⟩ := h
  exact ⟨xs, h1, h2.imp hk⟩
theorem OwnIt.ne {w : World} {e : TypeId} {base b : Nat} {v : Value} {l : List Itm} (h : OwnT w e base v l) (he : e ≠ 3) (hb : TagI w b) : some b ≠ v.ownBlock := by
  obtain ⟨xs, h1, _⟩ := h
  obtain ⟨cs, fr, hb⟩ := hb
  exact own_tag h1 hb he.symm
theorem OwnIt.below {w w' : World} {e : TypeId} {base : Nat} {v : Value} {l : List Itm} (h : OwnT w e base v l) (hb : Below w.heap.size w w') : OwnT w' e base v l := by
  obtain ⟨xs, h1, h2⟩ := h
  have k := h2.keep (w' := w') (fun b h => hb.block b h.lt)
  exact ⟨xs, ownsRow_below h1 hb, k.imp fun b _ h => h.same (hb.block b h.lt)⟩
theorem OwnIt.set {w : World} {e : TypeId} {base b : Nat} {v : Value} {l : List Itm} (h : OwnT w e base v l) {cs : Array Value} {T : TypeId} {fr : Nat × Nat} (hb : w.heap[b]? = some (.cells cs T fr)) (hT : T ≠ 3) (hTe : T ≠ e) (i : Nat) (u : Value) : OwnT (w.setCell ⟨b, i, none⟩ u) e base v l := by
  obtain ⟨xs, h1, h2⟩ := h
  have hne := own_tag h1 hb hTe
  have k := h2.keep (w' := w.setCell ⟨b, i, none⟩ u) (fun c hc => (tagI_set i u hb hT hc).2)
  refine ⟨xs, ⟨h1.1, ?_⟩, k.imp fun c _ hc => (tagI_set i u hb hT hc).1⟩
  rcases h1.2 with ⟨rfl, hn⟩ | ⟨g, cap, cur, rfl, hg, hh, rest⟩
  · exact .inl ⟨rfl, hn⟩
  · exact .inr ⟨g, cap, cur, rfl, hg, block_other _ _ hh (fun e => hne (by rw [e]; rfl)), rest⟩
theorem tag_It_int : TIt ≠ 3 := by decide
theorem tag_Dep_int : TDep ≠ 3 := by decide
theorem tag_Dep_It : TDep ≠ TIt := by decide
theorem tag_Fa_It : TFa ≠ TIt := by decide
end Go.Proofs.YtjpihophigjbpaaGreatDoor.Ds
/-
  A dependency, read.
-/
namespace Go.Proofs.YtjpihophigjbpaaGreatDoor.Ds
open Go.RowKit

theorem pItems_full {f : Nat} {any : Bool} {l : List Itm} {t : List UInt8} (hl : l.length = 32) : pItems (f + 1) any l t = none := by rw [pItems, if_pos hl]
theorem pItems_bad {f : Nat} {any : Bool} {l : List Itm} {t : List UInt8} (h : pItem t = none) : pItems (f + 1) any l t = none := by
  rw [pItems, h]
  split <;> rfl
theorem pItems_end {f : Nat} {any : Bool} {l : List Itm} {t : List UInt8} {x : Itm} (hl : l.length ≠ 32) (h : pItem t = some (x, [])) : pItems (f + 1) any l t = some (any, l ++ [x]) := by
  rw [pItems, h, if_neg hl]
  exact if_pos rfl
theorem pItems_sep {f : Nat} {any : Bool} {l : List Itm} {t r : List UInt8} {x : Itm} (h : pItem t = some (x, r)) (h0 : r ≠ []) (hs : r.head? ≠ some (sepT (anyOf any (l ++ [x]) r))) : pItems (f + 1) any l t = none := by
  rw [pItems, h]
  split
  · rfl
  · show (if r = [] then _ else _) = _
    rw [if_neg h0, if_pos hs]
theorem pItems_go {f : Nat} {any : Bool} {l : List Itm} {t r : List UInt8} {x : Itm} (hl : l.length ≠ 32) (h : pItem t = some (x, r)) (h0 : r ≠ []) (hs : r.head? = some (sepT (anyOf any (l ++ [x]) r))) : pItems (f + 1) any l t = pItems f (anyOf any (l ++ [x]) r) (l ++ [x]) r.tail := by
  rw [pItems, h, if_neg hl]
  show (if r = [] then _ else _) = _
  rw [if_neg h0, if_neg (fun k => k hs)]
theorem OwnIt.base {w : World} {T : TypeId} {base base' : Nat} {ok : Nat → Prop} {v : Value} {l : List Itm} (h : OwnIt w T base ok v l) (hb : base' ≤ base) : OwnIt w T base' ok v l := by
  obtain ⟨xs, h1, h2⟩ := h
  exact ⟨xs, ownsRow_base h1 hb, h2⟩
/-- What a call that reads a dependency hands back; its items lie in a block that is new. -/
def DepPost0 (w : World) (s : ByteArray) (e : Ending) (w' : World) : Prop := Below w.heap.size w w' ∧ match pDep (bl s) with
  | none => ∃ y i : Int, y ≠ 0 ∧ e = .returned (.tuple #[.agg #[.bool false, .slice none 0 0], .agg #[.int .i64 y, .int .i64 i]])
  | some (any, l) => ∃ v, OwnT w' TIt w.heap.size v l ∧ e = .returned (.tuple #[.agg #[.bool any, v], .agg #[.int .i64 0, .int .i64 0]])
/-- The same, wherever its items lie. -/
def DepPost (w : World) (s : ByteArray) (e : Ending) (w' : World) : Prop := Below w.heap.size w w' ∧ match pDep (bl s) with
  | none => ∃ y i : Int, y ≠ 0 ∧ e = .returned (.tuple #[.agg #[.bool false, .slice none 0 0], .agg #[.int .i64 y, .int .i64 i]])
  | some (any, l) => ∃ (A : Option Addr) (cap : Nat), l.length ≤ cap ∧ cap ≤ maxLen ∧ Its w' w'.heap.size A l ∧ e = .returned (.tuple #[.agg #[.bool any, .slice A l.length cap], .agg #[.int .i64 0, .int .i64 0]])
theorem DepPost.bad {w : World} {s : ByteArray} {e : Ending} {w' : World} (h : pDep (bl s) = none) (hb : Below w.heap.size w w') {y i : Int} (hy : y ≠ 0) (he : e = .returned (.tuple #[.agg #[.bool false, .slice none 0 0], .agg #[.int .i64 y, .int .i64 i]])) : DepPost0 w s e w' := by
  refine ⟨hb, ?_⟩
  rw [h]
  exact ⟨y, i, hy, he⟩
theorem DepPost.good {w : World} {s : ByteArray} {e : Ending} {w' : World} {any : Bool} {l : List Itm} (h : pDep (bl s) = some (any, l)) (hb : Below w.heap.size w w') {v : Value} {base : Nat} (hbs : w.heap.size ≤ base) (ho : OwnT w' TIt base v l)
    (he : e = .returned (.tuple #[.agg #[.bool any, v], .agg #[.int .i64 0, .int .i64 0]])) : DepPost0 w s e w' := by
  refine ⟨hb, ?_⟩
  rw [h]
  exact ⟨v, ho.base hbs, he⟩
theorem dep_start (w : World) :
    let W := ((w.alloc (.cells #[.bool false, .slice none 0 0] TDep)).alloc (.cells #[.int .i64 0, .int .i64 0] TFa)).alloc (.cells #[.bool false, .slice none 0 0] TDep)
    DB W w.heap.size TDep false (.slice none 0 0) ∧ FB W (w.heap.size + 1) 0 0 ∧ DB W (w.heap.size + 1 + 1) TDep false (.slice none 0 0) ∧ Below w.heap.size w W ∧ w.heap.size + 1 + 1 + 1 ≤ W.heap.size :=
  ⟨old_at _ _ _ (old_at _ _ _ (heap_alloc_new w _) (by simp)) (by simp; omega), old_at _ _ _ (new_at _ _ _ (by simp)) (by simp), new_at _ _ _ (by simp), (((Below.refl _ _).alloc (Nat.le_refl _) _).alloc (by simp) _).alloc (by simp; omega) _, by simp⟩
/-- Where the loop over the items is. -/
def ItemsRel (w : World) (s : ByteArray) (e : Value) (wr : World) : Prop := ∃ (c : Nat) (any : Bool) (l : List Itm) (v : Value), c ≤ s.size ∧ e = .int .i64 (c : Int) ∧ l.length ≤ 32 ∧ (l = [] → any = false) ∧ pItems 33 false [] (bl s) = pItems (33 - l.length) any l ((bl s).drop c) ∧
  OwnT wr TIt (w.heap.size + 1 + 1 + 1) v l ∧ DB wr (w.heap.size + 1 + 1) TDep any v ∧ DB wr w.heap.size TDep false (.slice none 0 0) ∧ FB wr (w.heap.size + 1) 0 0 ∧ Below w.heap.size w wr
theorem items_start {w W : World} (s : ByteArray) (p0 : DB W w.heap.size TDep false (.slice none 0 0)) (p1 : FB W (w.heap.size + 1) 0 0) (p2 : DB W (w.heap.size + 1 + 1) TDep false (.slice none 0 0)) (g0 : Below w.heap.size w W) : ItemsRel w s (.int .i64 0) W :=
  ⟨0, false, [], .slice none 0 0, Nat.zero_le _, rfl, by simp, fun _ => rfl, rfl, OwnIt.nil _ _ _ _, p2, p0, p1, g0⟩
theorem str_empty (s : ByteArray) : s.toList.isEmpty = decide (bl s = []) := by
  rw [ByteArray.toList_eq]
  show (bl s).isEmpty = _
  cases bl s <;> simp
theorem dep_step {w W : World} {any any' : Bool} {v v' : Value} {l : List Itm} (i : Nat) (u : Value) (h2 : DB W (w.heap.size + 1 + 1) TDep any v) (hu : DB (W.setCell ⟨w.heap.size + 1 + 1, i, none⟩ u) (w.heap.size + 1 + 1) TDep any' v') (h0 : DB W w.heap.size TDep false (.slice none 0 0)) (h1 : FB W (w.heap.size + 1) 0 0) (ho : OwnT W TIt (w.heap.size + 1 + 1 + 1) v' l) (hb : Below w.heap.size w W) :
    OwnT (W.setCell ⟨w.heap.size + 1 + 1, i, none⟩ u) TIt (w.heap.size + 1 + 1 + 1) v' l ∧ DB (W.setCell ⟨w.heap.size + 1 + 1, i, none⟩ u) (w.heap.size + 1 + 1) TDep any' v' ∧ DB (W.setCell ⟨w.heap.size + 1 + 1, i, none⟩ u) w.heap.size TDep false (.slice none 0 0) ∧ FB (W.setCell ⟨w.heap.size + 1 + 1, i, none⟩ u) (w.heap.size + 1) 0 0 ∧ Below w.heap.size w (W.setCell ⟨w.heap.size + 1 + 1, i, none⟩ u) :=
  ⟨OwnIt.set ho h2 tag_Dep_int tag_Dep_It _ _, hu, block_other _ _ h0 (by omega), block_other _ _ h1 (by omega), hb.setCell (show w.heap.size ≤ w.heap.size + 1 + 1 by omega) _⟩
theorem dep_sets4 {w : World} {b c base : Nat} {any : Bool} {v0 v1 : Value} {x0 y0 : Int} {l : List Itm} (h : OwnT w TIt base v1 l) (hb : DB w b TDep any v0) (hc : FB w c x0 y0) (u v x y : Value) : OwnT ((((w.setCell ⟨b, 0, none⟩ u).setCell ⟨b, 1, none⟩ v).setCell ⟨c, 0, none⟩ x).setCell ⟨c, 1, none⟩ y) TIt base v1 l := by
  have hne : b ≠ c := by
    rintro rfl
    have := Option.some.inj (hb.symm.trans hc)
    injection this with _ ht
    revert ht
    decide
  have k1 := block_set 0 u hb
  have k2 := block_set 1 v k1
  have d1 := block_other 0 u hc hne.symm
  have d2 := block_other 1 v d1 hne.symm
  have d3 := block_set 0 x d2
  exact OwnIt.set (OwnIt.set (OwnIt.set (OwnIt.set h hb tag_Dep_int tag_Dep_It _ _) k1 tag_Dep_int tag_Dep_It _ _) d2 tag_Fa tag_Fa_It _ _) d3 tag_Fa tag_Fa_It _ _
set_option maxRecDepth 100000 in
set_option maxHeartbeats 8000000 in
theorem Parse0_any (s : ByteArray) (w : World) (hs : s.size ≤ 140737488355328) : Calls Tryz.prog 48 #[.string s] w (DepPost0 w s) := by
  have hbad := fun (h : pDep (bl s) = none) w' (hb : Below w.heap.size w w') y i (hy : y ≠ 0) e => @DepPost.bad w s e w' h hb y i hy
  have hgood := fun (any : Bool) (l : List Itm) (h : pDep (bl s) = some (any, l)) w' (hb : Below w.heap.size w w') e v base hbs => @DepPost.good w s e w' any l h hb v base hbs
  obtain ⟨p0, p1, p2, g0, gz⟩ := dep_start w
  have hemp := str_empty s
  by_cases h0 : bl s = []
  · have hp := fhid (show pDep (bl s) = some (false, []) from if_pos h0)
    rw [decide_eq_true h0] at hemp
    have h00 : s = ⟨#[]⟩ := bl_inj h0
    subst h00
    clear h0 p0 p1 p2 g0 gz
    go_enter Tryz.func48, Tryz.ntmps48
    go_wp2_with fail
    exact bodyPost_ret (v := .tuple #[.agg #[.bool false, .slice none 0 0], .agg #[.int .i64 0, .int .i64 0]]) (by simp [results, Tryz.results48, go_sem]) rfl
      (hgood false [] hp.out _ (((Below.refl _ _).alloc (Nat.le_refl _) _).alloc (by simp) _) _ _ w.heap.size (Nat.le_refl _) (OwnIt.nil _ _ _ _) rfl)
  · have hpd := fhid (show pDep (bl s) = pItems 33 false [] (bl s) from if_neg h0)
    rw [decide_eq_false h0] at hemp
    clear h0
    replace p0 := fhid p0
    replace p1 := fhid p1
    replace p2 := fhid p2
    go_enter Tryz.func48, Tryz.ntmps48
    go_upto_region 4 with fail
    generalize World.alloc _ _ = W at *
    go_wp2_with fail
    go_loopw [5] (fun e wr => ItemsRel w s e wr) (fun e _ => s.size + 1 - (intOf e).toNat)
    case atStart => exact items_start s p0.out p1.out p2.out g0
    case round =>
      obtain ⟨c, any, l, v, hc, rfl, h32, hany, hP, hO, q2, q0, q1, hB⟩ := hrel
      obtain ⟨A, cap, rfl, hcap1, hcap2, _⟩ := hO.shape
      have hnB := hB.size
      have hc0 : (0 : Int) ≤ c := by omega
      have hcs : (c : Int) ≤ s.size := by omega
      replace hO := fhid hO
      replace q0 := fhid q0
      replace q1 := fhid q1
      replace q2 := fhid q2
      have hP0 := fhid hP
      replace hP := fhid (hpd.out.trans hP)
      obtain ⟨f, hf⟩ : ∃ f, 33 - l.length = f + 1 := ⟨32 - l.length, by omega⟩
      have hf2 : f = 32 - l.length := by omega
      have hll : l = [] ↔ l.length = 0 := List.length_eq_zero_iff.symm
      replace hf := fhid hf
      replace hf2 := fhid hf2
      replace hany := fhid hany
      replace hll := fhid hll
      obtain ⟨c4, c5, f4, f5, z2⟩ := q2.out.facts
      obtain ⟨c0, c1, f0, f1, z0⟩ := q0.out.facts
      obtain ⟨c2, c3, f2, f3, z1⟩ := q1.out.facts
      by_cases hfull : l.length = 32
      · have hp := fhid (hP.out.trans (by rw [hf.out, pItems_full hfull]))
        have e32 : (l.length : Int) = 32 := by omega
        go_wp2_with fail
        exact bodyPost_ret (v := .tuple #[.agg #[.bool false, .slice none 0 0], .agg #[.int .i64 5, .int .i64 (c : Int)]]) (by simp [results, Tryz.results48, go_sem, c0, c1, c2, c3]) rfl
          (hbad hp.out _ (sets4 hB _ _ (Nat.le_refl _) (by omega) _ _ _ _) _ _ (by decide) _ rfl)
      · have e32 : ((l.length : Int) == 32) = false := by simp; omega
        have hri := fun W => readItem_any s c c W rfl hs hc
        unfold ItemPost at hri
        cases hpi : pItem ((bl s).drop c) with
        | none =>
          rw [hpi] at hri
          simp only at hri
          have hp := fhid (hP.out.trans (by rw [hf.out, pItems_bad hpi]))
          clear c0 c1 f0 f1 z0 c2 c3 f2 f3 z1
          go_wp2_with (first
            | (go_at_call 70; (with_reducible refine (hri _).mono ?_); rintro e w2 ⟨b1, y, i, hy, rfl⟩
               have hy1 : ¬ y = 0 := hy
               have hy2 : (y != 0) = true := by simpa using hy
               have zb := b1.size
               have q3 := fhid (new_at (w2.alloc (.cells #[.int .i64 0, .slice none 0 0] TIt)) (.cells #[.int .i64 y, .int .i64 i] TFa) _ rfl)
               have r0 := fhid (old_at (w2.alloc (.cells #[.int .i64 0, .slice none 0 0] TIt)) (.cells #[.int .i64 y, .int .i64 i] TFa) _ (old_at w2 (.cells #[.int .i64 0, .slice none 0 0] TIt) _ (q0.out.below b1 (by omega)) (by omega)) (by rw [World.size_alloc]; omega))
               have r1 := fhid (old_at (w2.alloc (.cells #[.int .i64 0, .slice none 0 0] TIt)) (.cells #[.int .i64 y, .int .i64 i] TFa) _ (old_at w2 (.cells #[.int .i64 0, .slice none 0 0] TIt) _ (q1.out.below b1 (by omega)) (by omega)) (by rw [World.size_alloc]; omega))))
          obtain ⟨c0, c1, f0, f1, z0⟩ := DB.facts r0.out
          obtain ⟨c2, c3, f2, f3, z1⟩ := FB.facts r1.out
          have bz := ((hB.trans (b1.mono hB.size)).alloc (by omega) (.cells #[.int .i64 0, .slice none 0 0] TIt)).alloc (by rw [World.size_alloc]; omega) (.cells #[.int .i64 y, .int .i64 i] TFa)
          obtain ⟨c6, c7, f6, f7, z3⟩ := FB.facts q3.out
          rw [World.size_alloc] at c6 c7 f6 f7
          go_region
          go_wp2_with fail
          refine bodyPost_ret (v := .tuple #[.agg #[.bool false, .slice none 0 0], .agg #[.int .i64 y, .int .i64 i]]) (by simp [results, Tryz.results48, go_sem, c0, c1, c2, c3]) rfl
            (hbad hp.out _ ?_ _ _ hy _ rfl)
          repeat' (first | (with_reducible exact bz) | (with_reducible apply Below.drew) | (with_reducible apply Below.setCell) | (with_reducible apply below_drewN))
          all_goals (first | omega | (simp; done) | (simp; omega))
        | some x =>
          obtain ⟨⟨k, js⟩, r⟩ := x
          have htx := (pItem_text hpi).2.1
          rw [hpi] at hri
          simp only at hri
          replace hpi := fhid hpi
          rw [List.length_drop, bl_len] at htx
          clear c0 c1 f0 f1 z0 c2 c3 f2 f3 z1
          go_upto_region 8 with (go_at_call 70; (with_reducible refine (hri _).mono ?_); rintro e w2 ⟨b1, c', A', cap', hc', rfl, hj1, hj2, hsj, rfl⟩)
          rw [List.length_drop, bl_len] at htx
          have bW : Below w2.heap.size w2 ((w2.alloc (.cells #[.int .i64 k, .slice A' js.length cap'] TIt)).alloc (.cells #[.int .i64 0, .int .i64 0] TFa)) := ((Below.refl _ _).alloc (Nat.le_refl _) _).alloc (by simp) _
          have zb := b1.size
          have q3 : IB ((w2.alloc (.cells #[.int .i64 k, .slice A' js.length cap'] TIt)).alloc (.cells #[.int .i64 0, .int .i64 0] TFa)) w2.heap.size TIt k (.slice A' js.length cap') := old_at _ _ _ (heap_alloc_new w2 _) (by simp)
          have q4 : FB ((w2.alloc (.cells #[.int .i64 k, .slice A' js.length cap'] TIt)).alloc (.cells #[.int .i64 0, .int .i64 0] TFa)) (w2.heap.size + 1) 0 0 := new_at _ _ _ (by simp)
          have r2 := (q2.out.below b1 (by omega)).below bW (by omega)
          have r0 := (q0.out.below b1 (by omega)).below bW (by omega)
          have r1 := (q1.out.below b1 (by omega)).below bW (by omega)
          have o2 := OwnIt.below (OwnIt.below hO.out b1) bW
          have hsj' := (hsj.keep fun b hb => bW.block b hb.lt).imp (ok' := TagI ((w2.alloc (.cells #[.int .i64 k, .slice A' js.length cap'] TIt)).alloc (.cells #[.int .i64 0, .int .i64 0] TFa))) fun b _ hb => hb.same (bW.block b hb.lt)
          have bB := (hB.trans (b1.mono hB.size)).trans (bW.mono (by omega))
          have z4 : w.heap.size + 1 + 1 + 1 ≤ ((w2.alloc (.cells #[.int .i64 k, .slice A' js.length cap'] TIt)).alloc (.cells #[.int .i64 0, .int .i64 0] TFa)).heap.size := by
            have := bW.size
            omega
          clear hsj bW c4 c5 f4 f5 z2
          generalize (w2.alloc (.cells #[.int .i64 k, .slice A' js.length cap'] TIt)).alloc (.cells #[.int .i64 0, .int .i64 0] TFa) = W3 at *
          obtain ⟨c4, c5, f4, f5, z2⟩ := DB.facts r2
          obtain ⟨c6, c7, _, _, _⟩ := IB.facts q3
          obtain ⟨c8, c9, _, _, _⟩ := FB.facts q4
          replace r0 := fhid r0
          replace r1 := fhid r1
          replace r2 := fhid r2
          replace o2 := fhid o2
          replace hsj' := fhid hsj'
          go_upto_region 11 with (at_builtin; (refine app_it 35 TIt Tryz.underlying35 infoIt rfl _ _ rfl (w.heap.size + 1 + 1 + 1) (TagI W3) _ l k js A' cap' hj1 hj2 W3 rfl o2.out (fun b hb => ⟨hb.lt, OwnIt.ne o2.out tag_It_int hb⟩) hsj'.out rfl _ rfl rfl (by omega) z4 ?_; intro v3 w3 o3 hk3 b3)
                                  obtain ⟨A3, cap3, rfl⟩ : ∃ A cap, v3 = .slice A (l.length + 1) cap := (by obtain ⟨A, cap, e, _⟩ := o3.shape; exact ⟨A, cap, by rw [e, List.length_append, List.length_singleton]⟩)
                                  replace o3 := fhid o3
                                  replace hk3 := fhid hk3
                                  obtain ⟨_, _, g4, g5, _⟩ := (DB.below r2.out b3 (by omega)).facts)
          have r2b := DB.below r2.out b3 (by omega)
          have stp := dep_step 1 (.slice A3 (l.length + 1) cap3) r2b (block_set 1 _ r2b) (DB.below r0.out b3 (by omega)) (FB.below r1.out b3 (by omega)) (o3.out.tags fun b _ h => h.same (hk3.out b h)) (bB.trans (b3.mono (by omega)))
          clear r2b g4 g5 c4 c5 f4 f5 z2 c6 c7 c8 c9
          generalize World.setCell _ _ _ = w4 at *
          obtain ⟨o4, s2, s0, s1, b4⟩ := stp
          obtain ⟨c4, c5, f4, f5, z2⟩ := s2.facts
          obtain ⟨c0, c1, f0, f1, z0⟩ := s0.facts
          obtain ⟨c2, c3, f2, f3, z1⟩ := s1.facts
          have hcc0 : (0 : Int) ≤ c' := by omega
          have hcc1 : (c' : Int) ≤ s.size := by omega
          replace s0 := fhid s0
          replace s1 := fhid s1
          replace s2 := fhid s2
          replace o4 := fhid o4
          clear r0 r1 r2 o2 hsj' o3 hk3 q3 q4
          have hnl : (l ++ [(k, js)]) ≠ [] := by simp
          by_cases hend : c' = s.size
          · have hr0 : (bl s).drop c' = [] := List.drop_of_length_le (by rw [bl_len]; omega)
            have hpi' := hpi.out
            rw [hr0] at hpi'
            have hp := fhid (hP.out.trans (by rw [hf.out, pItems_end hfull hpi']))
            clear hpi' hr0
            have ec : ((c' : Int) == (s.size : Int)) = true := by simp; omega
            have ec2 : (c' : Int) = (s.size : Int) := by omega
            have ec3 := fhid ec2
            clear ec2 hend
            go_wp2_with fail
            exact bodyPost_ret (v := .tuple #[.agg #[.bool any, .slice A3 (l.length + 1) cap3], .agg #[.int .i64 0, .int .i64 0]]) (by simp [results, Tryz.results48, go_sem, c0, c1, c2, c3]) rfl
              (hgood any _ hp.out _ (sets4 b4 _ _ (Nat.le_refl _) (by omega) _ _ _ _) _ _ _ (by omega) (dep_sets4 o4.out s0.out s1.out _ _ _ _) rfl)
          · have ec : ((c' : Int) == (s.size : Int)) = false := by simp; omega
            have ec2 : ¬ (c' : Int) = (s.size : Int) := by omega
            have hcl : c' + 1 ≤ s.size := by omega
            have hne : (bl s).drop c' ≠ [] := fun h => by
              have := congrArg List.length h
              rw [List.length_drop, bl_len] at this
              simp at this
              omega
            have hhd : ((bl s).drop c').head? = (bl s)[c']? := by rw [List.head?_drop]
            have htl : ((bl s).drop c').tail = (bl s).drop (c' + 1) := by rw [List.tail_drop]
            have hall : anyOf any (l ++ [(k, js)]) ((bl s).drop c') = if l.length = 0 then decide ((bl s)[c']? = some 63) else any := by
              unfold anyOf
              rw [List.length_append, List.length_singleton, hhd]
              by_cases h : l.length = 0
              · rw [if_pos h, if_pos (by omega)]
              · rw [if_neg h, if_neg (by omega)]
            by_cases hl0 : l.length = 0
            · obtain rfl : l = [] := List.length_eq_zero_iff.1 hl0
              rw [if_pos hl0] at hall
              obtain ⟨q, hq⟩ : ∃ q, decide ((bl s)[c']? = some 63) = q := ⟨_, rfl⟩
              rw [hq] at hall
              have hb1 : ∀ W, Calls Tryz.prog 72 #[.bool true] W fun e w' => e = .returned (.int .u8 63) ∧ W = w' := fun W => between_any true W
              have hb2 := fun W => between_any q W
              have hs1 := fun W => stands_any s c' c' 63 63 W rfl rfl
              rw [hq] at hs1
              have hs2 := fun W => stands_any s c' c' ((sepT q).toNat : Int) (sepT q) W rfl rfl
              clear hq hl0 e32 h32
              simp only [List.length_nil, Nat.zero_add] at c4 c5
              by_cases hsep : (bl s)[c']? = some (sepT q)
              · rw [decide_eq_true hsep] at hs2
                have hp := fhid (hP0.out.trans (by rw [hf.out, pItems_go hfull hpi.out hne (by rw [hall, hhd]; exact hsep), hall, htl, hf2.out]))
                generalize hsq : sepT q = sq at *
                clear hall hsep hsq
                go_wp2_with (first
                  | (go_at_call 72; (with_reducible refine (hb1 _).mono ?_); rintro e w1 ⟨rfl, rfl⟩)
                  | (go_at_call 72; (with_reducible refine (hb2 _).mono ?_); rintro e w1 ⟨rfl, rfl⟩)
                  | (go_at_call 71; (with_reducible refine (hs1 _).mono ?_); rintro e w1 ⟨rfl, rfl⟩)
                  | (go_at_call 71; (with_reducible refine (hs2 _).mono ?_); rintro e w1 ⟨rfl, rfl⟩))
                go_roundw
                case rel => exact ⟨c' + 1, q, [(k, js)], .slice A3 1 cap3, hcl, by push_cast; rfl, by simp, fun h => (by cases h), hp.out, dep_step 0 (.bool q) s2.out (block_set 0 _ s2.out) s0.out s1.out o4.out b4⟩
                case measure => simp [intOf]; omega
              · rw [decide_eq_false hsep] at hs2
                have hp := fhid (hP.out.trans (by rw [hf.out, pItems_sep hpi.out hne (by rw [hall, hhd]; exact hsep)]))
                generalize hsq : sepT q = sq at *
                clear hall hsep hsq
                have hwr := fun W => wrong_any s (c' : Int) W
                obtain ⟨t2, t0, t1, bt⟩ := (fun (x : _ ∧ _ ∧ _ ∧ _ ∧ _) => And.intro x.2.1 (And.intro x.2.2.1 (And.intro x.2.2.2.1 x.2.2.2.2))) (dep_step 0 (.bool q) s2.out (block_set 0 _ s2.out) s0.out s1.out o4.out b4)
                replace t0 := fhid t0
                replace t1 := fhid t1
                have bz := bt.size
                clear c0 c1 f0 f1 z0 c2 c3 f2 f3 z1
                go_wp2_with (first
                  | (go_at_call 72; (with_reducible refine (hb1 _).mono ?_); rintro e w1 ⟨rfl, rfl⟩)
                  | (go_at_call 72; (with_reducible refine (hb2 _).mono ?_); rintro e w1 ⟨rfl, rfl⟩)
                  | (go_at_call 71; (with_reducible refine (hs1 _).mono ?_); rintro e w1 ⟨rfl, rfl⟩)
                  | (go_at_call 71; (with_reducible refine (hs2 _).mono ?_); rintro e w1 ⟨rfl, rfl⟩)
                  | (go_at_call 73; (with_reducible refine (hwr _).mono ?_); rintro e w5 ⟨y, hy, rfl, b5⟩
                     replace hy := fhid hy
                     obtain ⟨c0, c1, f0, f1, z0⟩ := (t0.out.below b5 (DB.facts t0.out).2.2.2.2).facts
                     obtain ⟨c2, c3, f2, f3, z1⟩ := (t1.out.below b5 (FB.facts t1.out).2.2.2.2).facts))
                exact bodyPost_ret (v := .tuple #[.agg #[.bool false, .slice none 0 0], .agg #[.int .i64 y, .int .i64 (c' : Int)]]) (by simp [results, Tryz.results48, go_sem, c0, c1, c2, c3]) rfl
                  (hbad hp.out _ (sets4 (bt.trans (b5.mono bz)) _ _ (Nat.le_refl _) (by omega) _ _ _ _) _ _ hy.out _ rfl)
            · rw [if_neg hl0] at hall
              have hb2 := fun W => between_any any W
              have hs2 := fun W => stands_any s c' c' ((sepT any).toNat : Int) (sepT any) W rfl rfl
              have e2 : ((l.length : Int) + 1 == 1) = false := by rw [beq_eq_false_iff_ne]; omega
              have e3 : ¬ (l.length : Int) + 1 = 1 := by omega
              have e4 : ¬ (l.length : Int) = 0 := by omega
              have e5 : ((l.length : Int) == 0) = false := by rw [beq_eq_false_iff_ne]; omega
              by_cases hsep : (bl s)[c']? = some (sepT any)
              · rw [decide_eq_true hsep] at hs2
                have hp := fhid (hP0.out.trans (by rw [hf.out, pItems_go hfull hpi.out hne (by rw [hall, hhd]; exact hsep), hall, htl, hf2.out, show 32 - l.length = 33 - (l.length + 1) by omega]))
                generalize hsq : sepT any = sq at *
                clear hall hsep hsq
                go_wp2_with (first
                  | (go_at_call 72; (with_reducible refine (hb2 _).mono ?_); rintro e w1 ⟨rfl, rfl⟩)
                  | (go_at_call 71; (with_reducible refine (hs2 _).mono ?_); rintro e w1 ⟨rfl, rfl⟩))
                go_roundw
                case rel => exact ⟨c' + 1, any, l ++ [(k, js)], .slice A3 (l.length + 1) cap3, hcl, by push_cast; rfl, by rw [List.length_append, List.length_singleton]; omega, fun h => absurd h hnl, by rw [List.length_append, List.length_singleton]; exact hp.out, o4.out, s2.out, s0.out, s1.out, b4⟩
                case measure => simp [intOf]; omega
              · rw [decide_eq_false hsep] at hs2
                have hp := fhid (hP.out.trans (by rw [hf.out, pItems_sep hpi.out hne (by rw [hall, hhd]; exact hsep)]))
                generalize hsq : sepT any = sq at *
                clear hall hsep hsq
                have hwr := fun W => wrong_any s (c' : Int) W
                have bz := b4.size
                clear c0 c1 f0 f1 c2 c3 f2 f3
                go_wp2_with (first
                  | (go_at_call 72; (with_reducible refine (hb2 _).mono ?_); rintro e w1 ⟨rfl, rfl⟩)
                  | (go_at_call 71; (with_reducible refine (hs2 _).mono ?_); rintro e w1 ⟨rfl, rfl⟩)
                  | (go_at_call 73; (with_reducible refine (hwr _).mono ?_); rintro e w5 ⟨y, hy, rfl, b5⟩
                     replace hy := fhid hy
                     obtain ⟨c0, c1, f0, f1, z0⟩ := (s0.out.below b5 z0).facts
                     obtain ⟨c2, c3, f2, f3, z1⟩ := (s1.out.below b5 z1).facts))
                exact bodyPost_ret (v := .tuple #[.agg #[.bool false, .slice none 0 0], .agg #[.int .i64 y, .int .i64 (c' : Int)]]) (by simp [results, Tryz.results48, go_sem, c0, c1, c2, c3]) rfl
                  (hbad hp.out _ (sets4 (b4.trans (b5.mono bz)) _ _ (Nat.le_refl _) (by omega) _ _ _ _) _ _ hy.out _ rfl)
theorem Parse_any (s : ByteArray) (w : World) (hs : s.size ≤ 140737488355328) : Calls Tryz.prog 48 #[.string s] w (DepPost w s) := by
  refine (Parse0_any s w hs).mono fun e w' h => ?_
  obtain ⟨hb, h⟩ := h
  refine ⟨hb, ?_⟩
  cases hp : pDep (bl s) with
  | none => rw [hp] at h; exact h
  | some x =>
    rw [hp] at h
    obtain ⟨v, ho, he⟩ := h
    obtain ⟨A, cap, rfl, h1, h2, h3⟩ := ho.shape
    exact ⟨A, cap, h1, h2, h3, he⟩
end Go.Proofs.YtjpihophigjbpaaGreatDoor.Ds
