/-
  Parts: HMath HText HFacts HLeaf HNum HRange HStr HApp HRanges.
-/
import Derived.Lib.ItoaNum
import Derived.Lib.Join
import Derived.Test.YtjpihophigjbpaaGreatDoorProg
import Derived.WalkKit
import Derived.Below
import Derived.IntWalk
import Derived.Laws.DeepStrings4
import Derived.Outline
import Derived.Deep.Draws
import Derived.BigRegion
import Derived.Deep.DeepCutAuto
import Derived.Maps.AppendAt
import Derived.Laws.AppendOwnNone
import Derived.OwnWalk
set_option linter.unusedSimpArgs false
set_option linter.unusedVariables false
/-
  Plain mathematics: digits, names with numbers, what a list's text tells. No model in it.
-/
namespace Go.Proofs.YtjpihophigjbpaaGreatDoor.Hs

def isDig (c : UInt8) : Bool := 48 ≤ c && c ≤ 57
def isBare (c : UInt8) : Bool := isDig c || (97 ≤ c && c ≤ 122) || (65 ≤ c && c ≤ 90) || c == 45 || c == 95 || c == 46
/-- A byte that is a digit, as a number. -/
def dv (c : UInt8) : Nat := c.toNat - 48
/-- The number of digits. -/
def dval (l : List UInt8) : Nat := l.foldl (fun n c => 10 * n + dv c) 0
theorem dval_snoc (l : List UInt8) (c : UInt8) : dval (l ++ [c]) = 10 * dval l + dv c := by simp [dval, List.foldl_append]
theorem isDig_iff (c : UInt8) : isDig c = true ↔ 48 ≤ c.toNat ∧ c.toNat ≤ 57 := by
  unfold isDig
  simp [UInt8.le_iff_toNat_le]
theorem dv_lt {c : UInt8} (h : isDig c = true) : dv c ≤ 9 := by
  have := (isDig_iff c).1 h
  unfold dv; omega
theorem all_snoc {p : UInt8 → Bool} {l : List UInt8} {c : UInt8} : (l ++ [c]).all p = true ↔ l.all p = true ∧ p c = true := by simp
theorem dval_lt : ∀ (k : Nat) (l : List UInt8), l.length = k → l.all isDig = true → dval l < 10 ^ k
  | 0, l, h, _ => by
    have := List.eq_nil_of_length_eq_zero h
    subst this; decide
  | k + 1, l, h, ha => by
    rcases List.eq_nil_or_concat l with rfl | ⟨m, c, rfl⟩
    · simp at h
    · rw [List.concat_eq_append] at *
      rw [dval_snoc, Nat.pow_succ]
      obtain ⟨a1, a2⟩ := all_snoc.1 ha
      have := dval_lt k m (by simpa using h) a1
      have := dv_lt a2
      omega
/-- The decimal digits of a number, by themselves. -/
abbrev dec (u : Nat) : List UInt8 := Go.Lib.decDigits u
theorem dig_ofNat (k : Nat) (h : k < 10) : isDig (UInt8.ofNat (48 + k)) = true ∧ dv (UInt8.ofNat (48 + k)) = k := by
  have e : (UInt8.ofNat (48 + k)).toNat = 48 + k := by rw [UInt8.toNat_ofNat']; omega
  exact ⟨(isDig_iff _).2 (by omega), by unfold dv; omega⟩
theorem dec_small {u : Nat} (h : u < 10) : dec u = [UInt8.ofNat (48 + u)] := by unfold dec; rw [Go.Lib.decDigits, dif_pos h]
theorem dec_big {u : Nat} (h : ¬ u < 10) : dec u = dec (u / 10) ++ [UInt8.ofNat (48 + u % 10)] := by unfold dec; rw [Go.Lib.decDigits, dif_neg h]
theorem dec_facts (u : Nat) : (dec u).all isDig = true ∧ dval (dec u) = u ∧ 1 ≤ (dec u).length := by
  induction u using Nat.strongRecOn with
  | _ u ih =>
    by_cases h : u < 10
    · rw [dec_small h]
      have := dig_ofNat u h
      refine ⟨by rw [List.all_cons, this.1]; rfl, ?_, by simp⟩
      show dval ([] ++ [_]) = u
      rw [dval_snoc, this.2]; simp [dval]
    · rw [dec_big h]
      obtain ⟨h1, h2, _⟩ := ih (u / 10) (by omega)
      have := dig_ofNat (u % 10) (by omega)
      refine ⟨all_snoc.2 ⟨h1, this.1⟩, ?_, by simp⟩
      rw [dval_snoc, h2, this.2]; omega
theorem dec_len_le (k u : Nat) (hk : 1 ≤ k) (h : u < 10 ^ k) : (dec u).length ≤ k := by
  induction k generalizing u with
  | zero => omega
  | succ k ih =>
    by_cases hu : u < 10
    · rw [dec_small hu]; simp
    · rw [dec_big hu]
      rw [Nat.pow_succ] at h
      by_cases hk0 : k = 0
      · subst hk0; simp at h; omega
      · have := ih (u / 10) (by omega) (by omega)
        simp; omega
/-- A number's digits, with noughts ahead up to a width. -/
def dig (u w : Nat) : List UInt8 := List.replicate (w - (dec u).length) 48 ++ dec u
theorem dig_len (u w : Nat) : (dig u w).length = max w (dec u).length := by
  unfold dig
  rw [List.length_append, List.length_replicate]; omega
theorem dval_pad (k : Nat) (l : List UInt8) : dval (List.replicate k 48 ++ l) = dval l := by
  unfold dval
  rw [List.foldl_append]
  congr 1
  induction k with
  | zero => rfl
  | succ k ih => rw [List.replicate_succ', List.foldl_append, ih]; rfl
theorem dig_facts (u w : Nat) : (dig u w).all isDig = true ∧ dval (dig u w) = u := by
  obtain ⟨h1, h2, _⟩ := dec_facts u
  refine ⟨?_, by unfold dig; rw [dval_pad, h2]⟩
  unfold dig
  rw [List.all_append, h1, Bool.and_true, List.all_eq_true]
  intro x hx
  rw [List.eq_of_mem_replicate hx]; rfl
/-- How many digits at a name's end its number has. -/
def ndig (l : List UInt8) : Nat := ((l.reverse.take 6).takeWhile isDig).length
/-- A name's prefix, number, how many digits, and whether it has one. -/
def number (l : List UInt8) : List UInt8 × Nat × Nat × Bool :=
  if ndig l = 0 ∨ ndig l = l.length then (l, 0, 0, false) else (l.take (l.length - ndig l), dval (l.drop (l.length - ndig l)), ndig l, true)
theorem takeWhile_len {p : UInt8 → Bool} (l : List UInt8) (j : Nat) (hj : j ≤ l.length) (ha : ∀ i (h : i < l.length), i < j → p l[i] = true) (hs : ∀ h : j < l.length, p l[j] = false) : (l.takeWhile p).length = j := by
  induction l generalizing j with
  | nil => simp at hj; subst hj; rfl
  | cons x r ih =>
    cases j with
    | zero =>
      have := hs (by simp)
      simp at this
      simp [this]
    | succ j =>
      have h0 := ha 0 (by simp) (by omega)
      simp at h0
      rw [List.takeWhile_cons, if_pos h0, List.length_cons, ih j (by simpa using hj) (fun i h hi => by have := ha (i + 1) (by rw [List.length_cons]; omega) (by omega); rwa [List.getElem_cons_succ] at this) (fun h => by have := hs (by rw [List.length_cons]; omega); rwa [List.getElem_cons_succ] at this)]
theorem takeWhile_pre {p : UInt8 → Bool} (l : List UInt8) (i : Nat) (h : i < (l.takeWhile p).length) (h' : i < l.length) : p l[i] = true := by
  have hp := List.takeWhile_prefix p (l := l)
  have : (l.takeWhile p)[i] = l[i] := List.IsPrefix.getElem hp h
  rw [← this]
  exact List.all_eq_true.1 (List.all_takeWhile) _ (List.getElem_mem h)
end Go.Proofs.YtjpihophigjbpaaGreatDoor.Hs
/-
  What a list's text tells, as plain functions: numbers, ranges, parts, names; and the text that names make.
-/
namespace Go.Proofs.YtjpihophigjbpaaGreatDoor.Hs

/-- What reading comes to: something, and how many bytes it took; or a fault, and how far on it is. -/
inductive Res (α : Type) where
  | ok (a : α) (k : Nat)
  | bad (why k : Nat)
def wrg (r : List UInt8) : Nat := if r = [] then 4 else 3
def pNum (r : List UInt8) : Res Nat :=
  if 6 < (r.takeWhile isDig).length then .bad 3 6 else if (r.takeWhile isDig).length = 0 then .bad (wrg r) 0 else .ok (dval (r.takeWhile isDig)) (r.takeWhile isDig).length
/-- What follows a range's first number a of k digits. -/
def pSecond (r : List UInt8) (a k : Nat) : Res (Nat × Nat × Nat) := match pNum (r.drop (k + 1)) with
  | .bad e j => .bad e (k + 1 + j)
  | .ok b j => if b < a then .bad 3 (k + 1) else .ok (a, b, k) (k + 1 + j)
def pRange (r : List UInt8) : Res (Nat × Nat × Nat) := match pNum r with
  | .bad e k => .bad e k
  | .ok a k => if r[k]? = some 45 then pSecond r a k else .ok (a, a, k) k
def pRanges : Nat → List UInt8 → Res (List (Nat × Nat × Nat))
  | 0, _ => .bad 0 0
  | f + 1, r => match pRange r with
    | .bad e k => .bad e k
    | .ok x k => if r[k]? = some 93 then .ok [x] (k + 1) else if r[k]? = some 44 then (match pRanges f (r.drop (k + 1)) with
        | .bad e j => .bad e (k + 1 + j)
        | .ok xs j => .ok (x :: xs) (k + 1 + j)) else .bad (wrg (r.drop k)) k
def pEnd (r : List UInt8) (p : List UInt8) (rs : List (Nat × Nat × Nat)) (k : Nat) : Res (List UInt8 × List (Nat × Nat × Nat)) :=
  if r[k]? = none ∨ r[k]? = some 44 then .ok (p, rs) k else .bad 3 k
def pPart (r : List UInt8) : Res (List UInt8 × List (Nat × Nat × Nat)) :=
  if r.takeWhile isBare = [] then .bad (wrg r) 0
  else if r[(r.takeWhile isBare).length]? = some 91 then (match pRanges (r.length + 1) (r.drop ((r.takeWhile isBare).length + 1)) with
    | .bad e j => .bad e ((r.takeWhile isBare).length + 1 + j)
    | .ok rs j => pEnd r (r.takeWhile isBare) rs ((r.takeWhile isBare).length + 1 + j))
  else pEnd r (r.takeWhile isBare) [] (r.takeWhile isBare).length
def spanNames (p : List UInt8) (x : Nat × Nat × Nat) : List (List UInt8) := (List.range (x.2.1 + 1 - x.1)).map fun i => p ++ dig (x.1 + i) x.2.2
def partNames (p : List UInt8) (rs : List (Nat × Nat × Nat)) : List (List UInt8) := if rs = [] then [p] else rs.flatMap (spanNames p)
def spanCount (x : Nat × Nat × Nat) : Nat := x.2.1 + 1 - x.1
def partCount (rs : List (Nat × Nat × Nat)) : Nat := if rs = [] then 1 else (rs.map spanCount).sum
def pExpand : Nat → Nat → List UInt8 → List (List UInt8) → List (List UInt8) × Nat × Nat
  | 0, _, _, _ => ([], 0, 0)
  | f + 1, a, r, ns => match pPart r with
    | .bad e k => ([], e, a + k)
    | .ok x k => if 256 < ns.length + partCount x.2 then ([], 5, a) else if k = r.length then (ns ++ partNames x.1 x.2, 0, 0) else pExpand f (a + k + 1) (r.drop (k + 1)) (ns ++ partNames x.1 x.2)
def expand (s : List UInt8) : List (List UInt8) × Nat × Nat := if s = [] then ([], 0, 0) else pExpand (s.length + 1) 0 s []

/-- Does a name go on in a run? -/
def fits (x p : List UInt8) (n w : Nat) : Bool := (number x).2.2.2 && decide ((number x).1 = p) && decide ((number x).2.1 = n) && decide ((number x).2.2.1 = (dig n w).length)
def goRun (p : List UInt8) (w : Nat) : Nat → List (List UInt8) → Nat
  | _, [] => 0
  | n, y :: ys => if fits y p n w = true then goRun p w (n + 1) ys + 1 else 0
def runLen (x : List UInt8) (xs : List (List UInt8)) : Nat := if (number x).2.2.2 = true then goRun (number x).1 (number x).2.2.1 ((number x).2.1 + 1) xs + 1 else 1
def joinRun (ns : List (List UInt8)) : List UInt8 :=
  if ns.length = 1 then ns.headD [] else (number (ns.headD [])).1 ++ 91 :: ((ns.headD []).drop (number (ns.headD [])).1.length ++ 45 :: ((ns.getLastD []).drop (number (ns.headD [])).1.length ++ [93]))
def pieces : Nat → List (List UInt8) → List (List UInt8)
  | _, [] => []
  | 0, _ => []
  | f + 1, x :: xs => joinRun ((x :: xs).take (runLen x xs)) :: pieces f ((x :: xs).drop (runLen x xs))
/-- A name that may be. -/
def Bare (x : List UInt8) : Prop := x ≠ [] ∧ x.all isBare = true

theorem tw_app {p : UInt8 → Bool} (a r : List UInt8) (ha : a.all p = true) (hr : ∀ c, r.head? = some c → p c = false) : (a ++ r).takeWhile p = a := by
  induction a with
  | nil =>
    cases r with
    | nil => rfl
    | cons c r => have := hr c rfl; simp [this]
  | cons x a ih =>
    rw [List.all_cons, Bool.and_eq_true] at ha
    rw [List.cons_append, List.takeWhile_cons, if_pos ha.1, ih ha.2]
theorem get_app (a r : List UInt8) : (a ++ r)[a.length]? = r.head? := by
  rw [List.getElem?_append_right (Nat.le_refl _), Nat.sub_self]
  cases r <;> rfl
theorem drop_mid (t u : List UInt8) (c : UInt8) : (t ++ c :: u).drop (t.length + 1) = u := by
  rw [show t ++ c :: u = (t ++ [c]) ++ u by simp, List.drop_append_of_le_length (by simp), List.drop_of_length_le (by simp), List.nil_append]
theorem pNum_dig (u w : Nat) (r : List UInt8) (h : (dig u w).length ≤ 6) (hr : ∀ c, r.head? = some c → isDig c = false) : pNum (dig u w ++ r) = .ok u (dig u w).length := by
  obtain ⟨ha, hv⟩ := dig_facts u w
  have h1 : 1 ≤ (dig u w).length := by rw [dig_len]; have := (dec_facts u).2.2; omega
  unfold pNum
  rw [tw_app _ _ ha hr, if_neg (by omega), if_neg (by omega), hv]
theorem pRange_two (a b w w' : Nat) (r : List UInt8) (h1 : (dig a w).length ≤ 6) (h2 : (dig b w').length ≤ 6) (hab : a ≤ b) (hr : ∀ c, r.head? = some c → isDig c = false) (v : List UInt8) (hv : v = dig a w ++ 45 :: (dig b w' ++ r)) :
    pRange v = .ok (a, b, (dig a w).length) ((dig a w).length + 1 + (dig b w').length) := by
  subst hv
  unfold pRange pSecond
  rw [pNum_dig a w _ h1 (by intro c hc; simp at hc; subst hc; rfl)]
  simp only
  rw [get_app, if_pos (show (45 :: (dig b w' ++ r)).head? = some 45 from rfl), drop_mid, pNum_dig b w' _ h2 hr]
  simp only
  rw [if_neg (by omega)]
theorem pieces_some (f : Nat) (x : List UInt8) (xs : List (List UInt8)) : pieces (f + 1) (x :: xs) = joinRun ((x :: xs).take (runLen x xs)) :: pieces f ((x :: xs).drop (runLen x xs)) := rfl
end Go.Proofs.YtjpihophigjbpaaGreatDoor.Hs
/-
  What reading a list's text gives: bounds, names that may be; the names of one range; the probe's text.
-/
namespace Go.Proofs.YtjpihophigjbpaaGreatDoor.Hs

theorem pNum_ok {r : List UInt8} {n k : Nat} (h : pNum r = .ok n k) : 1 ≤ k ∧ k ≤ 6 ∧ k ≤ r.length ∧ n < 1000000 := by
  unfold pNum at h
  split at h
  · simp at h
  · split at h
    · simp at h
    · injection h with h1 h2
      have hp := (List.takeWhile_prefix isDig (l := r)).length_le
      have hd := dval_lt _ (r.takeWhile isDig) rfl List.all_takeWhile
      have : (10 : Nat) ^ (r.takeWhile isDig).length ≤ 10 ^ 6 := Nat.pow_le_pow_right (by decide) (by omega)
      omega
theorem pRange_ok {r : List UInt8} {a b w k : Nat} (h : pRange r = .ok (a, b, w) k) : 1 ≤ k ∧ k ≤ r.length ∧ a ≤ b ∧ b < 1000000 ∧ w ≤ 6 := by
  unfold pRange at h
  split at h
  · simp at h
  · rename_i a' k' he
    obtain ⟨h1, h2, h3, h4⟩ := pNum_ok he
    split at h
    · unfold pSecond at h
      split at h
      · simp at h
      · rename_i b' j hj
        obtain ⟨g1, g2, g3, g4⟩ := pNum_ok hj
        rw [List.length_drop] at g3
        split at h
        · simp at h
        · injection h with e1 e2
          injection e1 with e1 e3
          injection e3 with e3 e4
          omega
    · injection h with e1 e2
      injection e1 with e1 e3
      injection e3 with e3 e4
      omega
/-- Ranges that were read: at least one, in order, small. -/
theorem pRanges_ok : ∀ (f : Nat) (r : List UInt8) (xs : List (Nat × Nat × Nat)) (k : Nat), pRanges f r = .ok xs k → 1 ≤ k ∧ k ≤ r.length ∧ xs ≠ [] ∧ (∀ x ∈ xs, x.1 ≤ x.2.1 ∧ x.2.1 < 1000000 ∧ x.2.2 ≤ 6)
  | 0, r, xs, k, h => by simp [pRanges] at h
  | f + 1, r, xs, k, h => by
    unfold pRanges at h
    split at h
    · simp at h
    · rename_i x k' he
      obtain ⟨a, b, w⟩ := x
      obtain ⟨h1, h2, h3, h4, h5⟩ := pRange_ok he
      split at h
      · rename_i hc
        have hlt : k' < r.length := by
          by_cases hlt : k' < r.length
          · exact hlt
          · rw [List.getElem?_eq_none (by omega)] at hc; cases hc
        injection h with e1 e2
        subst e1
        refine ⟨by omega, by omega, by simp, fun y hy => ?_⟩
        simp at hy
        subst hy
        exact ⟨h3, h4, h5⟩
      · split at h
        · rename_i hc
          have hlt : k' < r.length := by
            by_cases hlt : k' < r.length
            · exact hlt
            · rw [List.getElem?_eq_none (by omega)] at hc; cases hc
          split at h
          · simp at h
          · rename_i ys j hj
            obtain ⟨g1, g2, g3, g4⟩ := pRanges_ok f _ ys j hj
            rw [List.length_drop] at g2
            injection h with e1 e2
            subst e1
            refine ⟨by omega, by omega, by simp, fun y hy => ?_⟩
            rcases List.mem_cons.1 hy with rfl | hy
            · exact ⟨h3, h4, h5⟩
            · exact g4 y hy
        · simp at h
theorem pEnd_ok {r p p' : List UInt8} {rs rs' : List (Nat × Nat × Nat)} {k k' : Nat} (h : pEnd r p rs k = .ok (p', rs') k') : p' = p ∧ rs' = rs ∧ k' = k := by
  unfold pEnd at h
  split at h
  · injection h with e1 e2
    injection e1 with e1 e3
    exact ⟨e1.symm, e3.symm, e2.symm⟩
  · simp at h
theorem pPart_ok {r p : List UInt8} {rs : List (Nat × Nat × Nat)} {k : Nat} (h : pPart r = .ok (p, rs) k) : 1 ≤ k ∧ k ≤ r.length ∧ Bare p ∧ p.length ≤ r.length ∧ (∀ x ∈ rs, x.1 ≤ x.2.1 ∧ x.2.1 < 1000000 ∧ x.2.2 ≤ 6) := by
  unfold pPart at h
  have hp := (List.takeWhile_prefix isBare (l := r)).length_le
  split at h
  · simp at h
  · rename_i hne
    have hb : Bare (r.takeWhile isBare) := ⟨hne, List.all_takeWhile⟩
    have h1 : 1 ≤ (r.takeWhile isBare).length := List.length_pos_iff.2 hne
    split at h
    · split at h
      · simp at h
      · rename_i ys j hj
        obtain ⟨g1, g2, g3, g4⟩ := pRanges_ok _ _ ys j hj
        rw [List.length_drop] at g2
        obtain ⟨rfl, rfl, rfl⟩ := pEnd_ok h
        exact ⟨by omega, by omega, hb, hp, g4⟩
    · obtain ⟨rfl, rfl, rfl⟩ := pEnd_ok h
      exact ⟨h1, hp, hb, hp, fun x hx => by simp at hx⟩
theorem partNames_length (p : List UInt8) (rs : List (Nat × Nat × Nat)) : (partNames p rs).length = partCount rs := by
  unfold partNames partCount
  split
  · rfl
  · rw [List.length_flatMap]
    congr 1
    refine List.map_congr_left fun x _ => ?_
    unfold spanNames spanCount
    simp
end Go.Proofs.YtjpihophigjbpaaGreatDoor.Hs
/-
  Strings as bytes; the smallest calls.
-/
namespace Go.Proofs.YtjpihophigjbpaaGreatDoor.Hs
open Go.RowKit

theorem fhid {p : Prop} (h : p) : Hid p := h
theorem fret1 {k : IntKind} {a b : Int} (h : a = b) : Ending.returned (.int k a) = .returned (.int k b) := by rw [h]
theorem fretb {a b : Bool} (h : a = b) : Ending.returned (.bool a) = .returned (.bool b) := by rw [h]
theorem below_drewN {B : Nat} {a w : World} (h : Below B a w) (n : Nat) : Below B a (w.drewN n) := ⟨h.os, h.tape, h.output, h.size, h.block⟩
/-- Bytes, as a string; a string, as bytes. -/
def str (l : List UInt8) : ByteArray := ⟨l.toArray⟩
def bl (s : ByteArray) : List UInt8 := s.data.toList
theorem bl_str (l : List UInt8) : bl (str l) = l := by simp [bl, str]
theorem str_bl (s : ByteArray) : str (bl s) = s := by unfold str bl; simp
theorem bl_inj {s t : ByteArray} (h : bl s = bl t) : s = t := by rw [← str_bl s, h, str_bl]
theorem bl_len (s : ByteArray) : (bl s).length = s.size := by unfold bl; rw [Array.length_toList]; rfl
theorem str_size (l : List UInt8) : (str l).size = l.length := by simp [str, ByteArray.size]
theorem bl_get (s : ByteArray) (k : Nat) (h : k < s.size) (h' : k < (bl s).length) : (bl s)[k] = s[k]'h := by
  unfold bl; rfl
theorem ext_str (s : ByteArray) (a b : Nat) : s.extract a b = str (((bl s).drop a).take (b - a)) := by
  obtain ⟨⟨l⟩⟩ := s
  rw [show (⟨⟨l⟩⟩ : ByteArray) = ByteArray.mk l.toArray from rfl, ByteArray.extract_mk]
  rfl
theorem ext_to (s : ByteArray) (b : Nat) : s.extract 0 b = str ((bl s).take b) := by rw [ext_str]; rfl
theorem ext_from (s : ByteArray) (a : Nat) : s.extract a s.size = str ((bl s).drop a) := by
  rw [ext_str, ← bl_len, List.take_of_length_le (by rw [List.length_drop]; omega)]
theorem str_eq (s t : ByteArray) : (s.toList == t.toList) = decide (bl s = bl t) := by
  rw [ByteArray.toList_eq, ByteArray.toList_eq, Bool.eq_iff_iff]
  simp [bl]

set_option maxHeartbeats 400000 in
theorem isDigit_any (c : UInt8) (w : World) : Calls Tryz.prog 132 #[.int .u8 (c.toNat : Int)] w fun e w' => e = .returned (.bool (isDig c)) ∧ w = w' := by
  have h := isDig_iff c
  generalize isDig c = r at *
  generalize c.toNat = n at *
  by_cases h1 : (48 : Int) ≤ n
  · by_cases h2 : (n : Int) ≤ 57
    · have e : r = true := h.2 (by omega)
      subst e
      clear h
      go_enter Tryz.func132, Tryz.ntmps132
      go_wp2
      go_ret
      exact ⟨rfl, rfl⟩
    · have e : r = false := by cases r with | false => rfl | true => exact absurd (h.1 rfl) (by omega)
      subst e
      clear h
      go_enter Tryz.func132, Tryz.ntmps132
      go_wp2
      go_ret
      exact ⟨rfl, rfl⟩
  · have e : r = false := by cases r with | false => rfl | true => exact absurd (h.1 rfl) (by omega)
    subst e
    clear h
    go_enter Tryz.func132, Tryz.ntmps132
    go_wp2
    go_ret
    exact ⟨rfl, rfl⟩
theorem addDigit_any (n : Nat) (c : UInt8) (w : World) (h : isDig c = true) (hn : n ≤ 1000000) : Calls Tryz.prog 173 #[.int .i64 n, .int .u8 (c.toNat : Int)] w fun e w' => e = .returned (.int .i64 ((10 * n + dv c : Nat) : Int)) ∧ w = w' := by
  have h1 := (isDig_iff c).1 h
  have h2 : ((10 * n + dv c : Nat) : Int) = 10 * (n : Int) + ((c.toNat : Int) - 48) := by unfold dv; omega
  rw [h2]
  clear h2 h
  generalize c.toNat = m at *
  obtain ⟨h3, h4⟩ := h1
  have i3 : (48 : Int) ≤ m := by omega
  have i4 : (m : Int) ≤ 57 := by omega
  have i5 : (n : Int) ≤ 1000000 := by omega
  have i6 : (0 : Int) ≤ n := by omega
  go_enter Tryz.func173, Tryz.ntmps173
  go_wp2
  go_ret
  exact ⟨rfl, rfl⟩
theorem isBare_iff (c : UInt8) : isBare c = (isDig c || (decide (97 ≤ c.toNat) && decide (c.toNat ≤ 122)) || (decide (65 ≤ c.toNat) && decide (c.toNat ≤ 90)) || decide (c.toNat = 45) || decide (c.toNat = 95) || decide (c.toNat = 46)) := by
  unfold isBare
  have e : ∀ (k : UInt8), (c == k) = decide (c.toNat = k.toNat) := fun k => by
    rw [Bool.eq_iff_iff]; simp [UInt8.toNat_inj]
  simp only [UInt8.le_iff_toNat_le, e]
  rfl
set_option maxHeartbeats 1000000 in
theorem isPrefix_any (c : UInt8) (w : World) : Calls Tryz.prog 90 #[.int .u8 (c.toNat : Int)] w fun e w' => e = .returned (.bool (isBare c)) ∧ w = w' := by
  have h := isBare_iff c
  have hd := isDigit_any c w
  generalize isDig c = r at *
  generalize isBare c = q at *
  generalize c.toNat = n at *
  replace h := fhid h
  cases r with
  | true =>
    go_enter Tryz.func90, Tryz.ntmps90
    go_wp2_with (go_at_call 132; (with_reducible refine hd.mono ?_); rintro e w1 ⟨rfl, rfl⟩)
    go_ret
    exact ⟨fretb (by rw [h.out]; rfl), rfl⟩
  | false =>
    go_enter Tryz.func90, Tryz.ntmps90
    go_wp2_with (go_at_call 132; (with_reducible refine hd.mono ?_); rintro e w1 ⟨rfl, rfl⟩)
    all_goals
      go_ret
      refine ⟨fretb ?_, rfl⟩
      rw [h.out, Bool.eq_iff_iff]
      simp
      try omega
set_option maxHeartbeats 400000 in
theorem wrong_any (s : ByteArray) (k : Nat) (i : Int) (w : World) (hi : i = k) (h : k ≤ s.size) : Calls Tryz.prog 91 #[.string s, .int .i64 i] w fun e w' => e = .returned (.agg #[.int .i64 (wrg ((bl s).drop k)), .int .i64 i]) ∧ Below w.heap.size w w' := by
  subst hi
  by_cases hk : k = s.size
  · have e : wrg ((bl s).drop k) = 4 := by
      unfold wrg
      rw [if_pos (List.drop_of_length_le (by rw [bl_len]; omega))]
    rw [e]
    subst hk
    go_enter Tryz.func91, Tryz.ntmps91
    go_wp2
    exact bodyPost_ret (v := .agg #[.int .i64 4, .int .i64 s.size]) (by simp [results, Tryz.results91, go_sem]) rfl ⟨rfl, (Below.refl _ _).alloc (Nat.le_refl _) _⟩
  · have e : wrg ((bl s).drop k) = 3 := by
      unfold wrg
      rw [if_neg]
      intro h0
      have := congrArg List.length h0
      rw [List.length_drop, bl_len] at this
      simp at this
      omega
    rw [e]
    have h1 : ((k : Int) == (s.size : Int)) = false := by simp; omega
    have h2 : ¬ (k : Int) = s.size := by omega
    go_enter Tryz.func91, Tryz.ntmps91
    go_wp2
    exact bodyPost_ret (v := .agg #[.int .i64 3, .int .i64 k]) (by simp [results, Tryz.results91, go_sem]) rfl ⟨rfl, (Below.refl _ _).alloc (Nat.le_refl _) _⟩
set_option maxHeartbeats 400000 in
theorem stands_any (s : ByteArray) (k : Nat) (i m : Int) (c : UInt8) (w : World) (hi : i = k) (hm : m = (c.toNat : Int)) : Calls Tryz.prog 92 #[.string s, .int .i64 i, .int .u8 m] w fun e w' => e = .returned (.bool (decide ((bl s)[k]? = some c))) ∧ w = w' := by
  subst hi
  subst hm
  by_cases h : k < s.size
  · have e : decide ((bl s)[k]? = some c) = ((s[k].toNat : Int) == (c.toNat : Int)) := by
      rw [List.getElem?_eq_getElem (by rw [bl_len]; exact h), bl_get s k h]
      rw [Bool.eq_iff_iff]
      simp [← UInt8.toNat_inj]
      omega
    rw [e]
    have h1 : (k : Int) < s.size := by omega
    have h0 : (0 : Int) ≤ k := by omega
    go_enter Tryz.func92, Tryz.ntmps92
    go_wp2
    go_ret
    exact ⟨rfl, rfl⟩
  · have e : decide ((bl s)[k]? = some c) = false := by
      rw [List.getElem?_eq_none (by rw [bl_len]; omega)]; rfl
    rw [e]
    have h1 : ¬ (k : Int) < s.size := by omega
    go_enter Tryz.func92, Tryz.ntmps92
    go_wp2
    go_ret
    exact ⟨rfl, rfl⟩
end Go.Proofs.YtjpihophigjbpaaGreatDoor.Hs
/-
  A number, read.
-/
namespace Go.Proofs.YtjpihophigjbpaaGreatDoor.Hs
open Go.RowKit

theorem heap_alloc_new (w : World) (o : Obj) : (w.alloc o).heap[w.heap.size]? = some o := by
  show (w.heap.push o)[w.heap.size]? = _
  simp
theorem lt_of_block {w : World} {b : Nat} {o : Obj} (h : w.heap[b]? = some o) : b < w.heap.size := (Array.getElem?_eq_some_iff.1 h).1
theorem fault_facts {w w' : World} {a b : Int} (hb : Below (w.alloc (.cells #[.int .i64 a, .int .i64 b] 88)).heap.size (w.alloc (.cells #[.int .i64 a, .int .i64 b] 88)) w') :
    w'.cell? ⟨w.heap.size, 0, none⟩ = some (.int .i64 a) ∧ w'.cell? ⟨w.heap.size, 1, none⟩ = some (.int .i64 b) ∧ w'.frozen? ⟨w.heap.size, 0, none⟩ = false ∧ w'.frozen? ⟨w.heap.size, 1, none⟩ = false ∧ w.heap.size < w'.heap.size := by
  have h := (hb.block w.heap.size (by rw [World.size_alloc]; omega)).trans (heap_alloc_new w _)
  exact ⟨by simp [World.cell?, h], by simp [World.cell?, h], by simp [World.frozen?, h], by simp [World.frozen?, h], lt_of_block h⟩
/-- What a call that reads a number hands back. -/
def numV (a : Nat) : Res Nat → Value
  | .ok n k => .tuple #[.int .i64 n, .int .i64 ((a : Int) + (k : Int)), .agg #[.int .i64 0, .int .i64 0]]
  | .bad e k => .tuple #[.int .i64 0, .int .i64 0, .agg #[.int .i64 e, .int .i64 ((a : Int) + (k : Int))]]
def AllTo (r : List UInt8) (j : Nat) : Prop := ∀ i (h : i < r.length), i < j → isDig r[i] = true
theorem AllTo.zero (r : List UInt8) : AllTo r 0 := fun _ _ h => absurd h (Nat.not_lt_zero _)
theorem AllTo.succ {r : List UInt8} {j : Nat} (h : AllTo r j) (hj : j < r.length) (hd : isDig r[j] = true) : AllTo r (j + 1) := fun i hi hlt => by
  by_cases he : i = j
  · subst he; exact hd
  · exact h i hi (by omega)
theorem dval_take_succ (r : List UInt8) (j : Nat) (hj : j < r.length) : dval (r.take (j + 1)) = 10 * dval (r.take j) + dv r[j] := by
  rw [List.take_succ_eq_append_getElem hj, dval_snoc]
theorem dval_take_le {r : List UInt8} {j : Nat} (h : AllTo r j) (hj : j ≤ r.length) (h6 : j ≤ 6) : dval (r.take j) < 1000000 := by
  have hl : (r.take j).length = j := by rw [List.length_take]; omega
  have := dval_lt j (r.take j) hl (by
    rw [List.all_eq_true]
    intro x hx
    obtain ⟨i, hi, rfl⟩ := List.getElem_of_mem hx
    rw [List.getElem_take]
    exact h i (by omega) (by omega))
  have : (10 : Nat) ^ j ≤ 10 ^ 6 := Nat.pow_le_pow_right (by decide) h6
  omega
theorem tw_stop {r : List UInt8} {j : Nat} (h : AllTo r j) (hj : j ≤ r.length) (hs : ∀ h : j < r.length, isDig r[j] = false) : (r.takeWhile isDig).length = j ∧ r.takeWhile isDig = r.take j := by
  have hl := takeWhile_len (p := isDig) r j hj h hs
  refine ⟨hl, ?_⟩
  have := List.prefix_iff_eq_take.1 (List.takeWhile_prefix isDig (l := r))
  rw [this, hl]
theorem tw_more {r : List UInt8} {j : Nat} (h : AllTo r (j + 1)) (hj : j < r.length) : j < (r.takeWhile isDig).length := by
  have : ∀ (r : List UInt8) (j : Nat), AllTo r (j + 1) → j < r.length → j < (r.takeWhile isDig).length := by
    intro r
    induction r with
    | nil => intro j _ h; exact absurd h (Nat.not_lt_zero _)
    | cons x r ih =>
      intro j h hj
      have h0 := h 0 (by simp) (by omega)
      rw [List.getElem_cons_zero] at h0
      rw [List.takeWhile_cons, if_pos h0, List.length_cons]
      cases j with
      | zero => omega
      | succ j =>
        have := ih j (fun i hi hlt => by have := h (i + 1) (by rw [List.length_cons]; omega) (by omega); rwa [List.getElem_cons_succ] at this) (by simpa using hj)
        omega
  exact this r j h hj
theorem pNum_many {r : List UInt8} (h : AllTo r 7) (hj : 6 < r.length) : pNum r = .bad 3 6 := by
  unfold pNum
  rw [if_pos (tw_more h hj)]
theorem pNum_none {r : List UInt8} (hs : ∀ h : 0 < r.length, isDig r[0] = false) : pNum r = .bad (wrg r) 0 := by
  have := tw_stop (AllTo.zero r) (Nat.zero_le _) hs
  unfold pNum
  rw [if_neg (by omega), if_pos (by omega)]
theorem pNum_some {r : List UInt8} {j : Nat} (h : AllTo r j) (hj : j ≤ r.length) (h1 : 1 ≤ j) (h6 : j ≤ 6) (hs : ∀ h : j < r.length, isDig r[j] = false) : pNum r = .ok (dval (r.take j)) j := by
  obtain ⟨a, b⟩ := tw_stop h hj hs
  unfold pNum
  rw [if_neg (by omega), if_neg (by omega), a, b]
theorem drop_get (s : ByteArray) (a j : Nat) (h : a + j < s.size) (h' : j < ((bl s).drop a).length) : ((bl s).drop a)[j] = s[a + j]'h := by
  rw [List.getElem_drop, bl_get]
def NumPost (w : World) (a : Nat) (x : Res Nat) (e : Ending) (w' : World) : Prop := e = .returned (numV a x) ∧ Below w.heap.size w w'
theorem wr_more (s : ByteArray) (k : Nat) (h : k < s.size) : wrg ((bl s).drop k) = 3 := by
  unfold wrg
  rw [if_neg]
  intro h0
  have := congrArg List.length h0
  rw [List.length_drop, bl_len] at this
  simp at this
  omega
theorem wrong_in (s : ByteArray) (k : Nat) (i : Int) (w : World) (hi : i = k) (h : k < s.size) : Calls Tryz.prog 91 #[.string s, .int .i64 i] w fun e w' => e = .returned (.agg #[.int .i64 3, .int .i64 i]) ∧ Below w.heap.size w w' := by
  have := wrong_any s k i w hi (by omega)
  rwa [wr_more s k h] at this
set_option maxRecDepth 100000 in
set_option maxHeartbeats 1000000 in
theorem readNumber_any (s : ByteArray) (a : Nat) (ai : Int) (w : World) (hai : ai = a) (hs : s.size ≤ 140737488355328) (ha : a ≤ s.size) :
    Calls Tryz.prog 156 #[.string s, .int .i64 ai] w (NumPost w a (pNum ((bl s).drop a))) := by
  subst hai
  obtain ⟨r, hr⟩ : ∃ r, (bl s).drop a = r := ⟨_, rfl⟩
  have hrl : r.length = s.size - a := by rw [← hr, List.length_drop, bl_len]
  have hget : ∀ j (h : a + j < s.size) (h' : j < r.length), r[j] = s[a + j] := fun j h h' => by subst hr; exact drop_get s a j h h'
  have hwa : wrg ((bl s).drop a) = wrg r := by rw [hr]
  rw [hr]
  replace hr := fhid hr
  replace hrl := fhid hrl
  replace hget := fhid hget
  replace hwa := fhid hwa
  go_enter Tryz.func156, Tryz.ntmps156
  go_wp2
  go_loop [7, 8] (fun n i => ∃ j : Nat, j ≤ 6 ∧ j ≤ r.length ∧ i = .int .i64 ((a : Int) + (j : Int)) ∧ AllTo r j ∧ n = .int .i64 ((dval (r.take j) : Nat) : Int)) (fun _ i => s.size - (intOf i).toNat)
  case atStart => exact ⟨0, Nat.zero_le _, Nat.zero_le _, by simp, AllTo.zero r, rfl⟩
  case round =>
    obtain ⟨j, hj6, hjl, rfl, hall, rfl⟩ := hrel
    replace hall := fhid hall
    have hn := dval_take_le hall.out hjl hj6
    have hj0 : (0 : Int) ≤ j := by omega
    have hji : (j : Int) ≤ 6 := by omega
    have hai0 : (0 : Int) ≤ a := by omega
    have hai1 : (a : Int) ≤ s.size := by omega
    have hsi : (s.size : Int) ≤ 140737488355328 := by omega
    have hsub : (a : Int) + j - a = j := by omega
    by_cases hlt : a + j < s.size
    · have hjr : j < r.length := by rw [hrl.out]; omega
      have hg := hget.out j hlt hjr
      have hd := isDigit_any s[a + j]
      have hix : ∀ (h : ((a : Int) + j).toNat < s.size), s[((a : Int) + j).toNat] = s[a + j] := fun h => by congr 1
      have htn : ((a : Int) + j).toNat = a + j := by omega
      have i1 : (a : Int) + j < s.size := by omega
      have i0 : (0 : Int) ≤ (a : Int) + j := by omega
      by_cases hdg : isDig s[a + j] = true
      · rw [hdg] at hd
        have hall' := fhid (hall.out.succ hjr (by rw [hg]; exact hdg))
        by_cases h6 : j = 6
        · subst h6
          have hp := fhid (show pNum r = .bad 3 6 from pNum_many hall'.out (by omega))
          go_wp2_with (first
            | (go_at_call 132; (with_reducible refine (hd _).mono ?_); rintro e w1 ⟨rfl, rfl⟩)
            | (go_at_call 91; (with_reducible refine (wrong_in s (a + 6) _ _ (by omega) (by omega)).mono ?_); rintro e w1 ⟨rfl, b1⟩
               obtain ⟨c0, c1, f0, f1, hz⟩ := fault_facts b1))
          exact bodyPost_ret (v := .tuple #[.int .i64 0, .int .i64 0, .agg #[.int .i64 3, .int .i64 ((a : Int) + 6)]]) (by simp [results, Tryz.results156, go_sem, c0, c1]) rfl ⟨by rw [hp.out]; rfl, ((((Below.refl _ _).alloc (Nat.le_refl _) _).trans (b1.mono (by rw [World.size_alloc]; omega))).setCell (p := ⟨w.heap.size, 0, none⟩) (Nat.le_refl _) _).setCell (p := ⟨w.heap.size, 1, none⟩) (Nat.le_refl _) _⟩
        · have e6 : ((j : Int) == 6) = false := by simp; omega
          have e7 : ¬ (j : Int) = 6 := by omega
          have hds := fhid (dval_take_succ r j hjr)
          have had := fun W => addDigit_any (dval (r.take j)) s[a + j] W hdg (by omega)
          go_wp2_with (first
            | (go_at_call 132; (with_reducible refine (hd _).mono ?_); rintro e w1 ⟨rfl, rfl⟩)
            | (go_at_call 173; (with_reducible refine (had _).mono ?_); rintro e w1 ⟨rfl, rfl⟩))
          go_round
          case rel => exact ⟨j + 1, by omega, by omega, by rw [show (a : Int) + j + 1 = (a : Int) + ((j + 1 : Nat) : Int) by omega], hall'.out, by rw [hds.out, hg]; simp⟩
          case measure => simp [intOf]; omega
      · have hdf : isDig s[a + j] = false := by simpa using hdg
        rw [hdf] at hd
        have hst : ∀ h : j < r.length, isDig r[j] = false := fun h => by rw [hg]; exact hdf
        by_cases h0 : j = 0
        · subst h0
          have hp := fhid (pNum_none hst)
          have hd0 := hd
          rw [show s[a + 0] = s[a] from rfl] at hd0
          have i2 : (a : Int) < s.size := by omega
          clear hd
          go_wp2_with (first
            | (go_at_call 132; (with_reducible refine (hd0 _).mono ?_); rintro e w1 ⟨rfl, rfl⟩)
            | (go_at_call 91; (with_reducible refine (wrong_any s a _ _ (by omega) (by omega)).mono ?_); rintro e w1 ⟨rfl, b1⟩
               obtain ⟨c0, c1, f0, f1, hz⟩ := fault_facts b1))
          exact bodyPost_ret (v := .tuple #[.int .i64 0, .int .i64 0, .agg #[.int .i64 (wrg ((bl s).drop a)), .int .i64 (a : Int)]]) (by simp [results, Tryz.results156, go_sem, c0, c1]) rfl ⟨by rw [hp.out, hwa.out]; simp [numV], ((((Below.refl _ _).alloc (Nat.le_refl _) _).trans (b1.mono (by rw [World.size_alloc]; omega))).setCell (p := ⟨w.heap.size, 0, none⟩) (Nat.le_refl _) _).setCell (p := ⟨w.heap.size, 1, none⟩) (Nat.le_refl _) _⟩
        · have hp := fhid (pNum_some hall.out hjl (by omega) hj6 hst)
          have e6 : ((a : Int) + j == a) = false := by simp; omega
          have e7 : ¬ (a : Int) + j = a := by omega
          go_wp2_with (first
            | (go_at_call 132; (with_reducible refine (hd _).mono ?_); rintro e w1 ⟨rfl, rfl⟩))
          exact bodyPost_ret (v := .tuple #[.int .i64 (dval (r.take j) : Nat), .int .i64 ((a : Int) + j), .agg #[.int .i64 0, .int .i64 0]]) (by simp [results, Tryz.results156, go_sem]) rfl ⟨by rw [hp.out]; rfl, (Below.refl _ _).alloc (Nat.le_refl _) _⟩
    · have hjl2 : j = r.length := by rw [hrl.out] at *; omega
      have i1 : ¬ (a : Int) + j < s.size := by omega
      have hst : ∀ h : j < r.length, isDig r[j] = false := fun h => absurd h (by omega)
      clear hjl2
      by_cases h0 : j = 0
      · subst h0
        have hp := fhid (pNum_none hst)
        go_wp2_with (first
          | (go_at_call 91; (with_reducible refine (wrong_any s a _ _ (by omega) (by omega)).mono ?_); rintro e w1 ⟨rfl, b1⟩
             obtain ⟨c0, c1, f0, f1, hz⟩ := fault_facts b1))
        exact bodyPost_ret (v := .tuple #[.int .i64 0, .int .i64 0, .agg #[.int .i64 (wrg ((bl s).drop a)), .int .i64 (a : Int)]]) (by simp [results, Tryz.results156, go_sem, c0, c1]) rfl ⟨by rw [hp.out, hwa.out]; simp [numV], ((((Below.refl _ _).alloc (Nat.le_refl _) _).trans (b1.mono (by rw [World.size_alloc]; omega))).setCell (p := ⟨w.heap.size, 0, none⟩) (Nat.le_refl _) _).setCell (p := ⟨w.heap.size, 1, none⟩) (Nat.le_refl _) _⟩
      · have hp := fhid (pNum_some hall.out hjl (by omega) hj6 hst)
        have e6 : ((a : Int) + j == a) = false := by simp; omega
        have e7 : ¬ (a : Int) + j = a := by omega
        go_wp2
        exact bodyPost_ret (v := .tuple #[.int .i64 (dval (r.take j) : Nat), .int .i64 ((a : Int) + j), .agg #[.int .i64 0, .int .i64 0]]) (by simp [results, Tryz.results156, go_sem]) rfl ⟨by rw [hp.out]; rfl, (Below.refl _ _).alloc (Nat.le_refl _) _⟩
end Go.Proofs.YtjpihophigjbpaaGreatDoor.Hs
/-
  A range, read.
-/
namespace Go.Proofs.YtjpihophigjbpaaGreatDoor.Hs
open Go.RowKit

theorem bcell {W w1 : World} (hb : Below W.heap.size W w1) : (∀ b o, b < W.heap.size → w1.cell? ⟨b, o, none⟩ = W.cell? ⟨b, o, none⟩) ∧ (∀ b o, b < W.heap.size → w1.frozen? ⟨b, o, none⟩ = W.frozen? ⟨b, o, none⟩) :=
  ⟨fun b o h => hb.cell (p := ⟨b, o, none⟩) h, fun b o h => hb.frozen (p := ⟨b, o, none⟩) h⟩
/-- What a call that reads a range hands back. -/
def rangeV (a : Nat) : Res (Nat × Nat × Nat) → Value
  | .ok x k => .tuple #[.agg #[.int .i64 x.1, .int .i64 x.2.1, .int .i64 x.2.2], .int .i64 ((a : Int) + (k : Int)), .agg #[.int .i64 0, .int .i64 0]]
  | .bad e k => .tuple #[.agg #[.int .i64 0, .int .i64 0, .int .i64 0], .int .i64 0, .agg #[.int .i64 e, .int .i64 ((a : Int) + (k : Int))]]
def RangePost (w : World) (a : Nat) (x : Res (Nat × Nat × Nat)) (e : Ending) (w' : World) : Prop := e = .returned (rangeV a x) ∧ Below w.heap.size w w'
theorem pNum_bad {r : List UInt8} {e k : Nat} (h : pNum r = .bad e k) : e ≠ 0 := by
  unfold pNum at h
  split at h
  · injection h with h1 _; omega
  · split at h
    · injection h with h1 _
      unfold wrg at h1
      split at h1 <;> omega
    · simp at h
/-- The two blocks of a result, behind a call. -/
theorem two_facts {w w1 : World} (b1 : Below ((w.alloc (.cells #[.int .i64 0, .int .i64 0, .int .i64 0] 148)).alloc (.cells #[.int .i64 0, .int .i64 0] 88)).heap.size ((w.alloc (.cells #[.int .i64 0, .int .i64 0, .int .i64 0] 148)).alloc (.cells #[.int .i64 0, .int .i64 0] 88)) w1) :
    (w1.cell? ⟨w.heap.size, 0, none⟩ = some (.int .i64 0) ∧ w1.cell? ⟨w.heap.size, 1, none⟩ = some (.int .i64 0) ∧ w1.cell? ⟨w.heap.size, 2, none⟩ = some (.int .i64 0) ∧ w1.cell? ⟨w.heap.size + 1, 0, none⟩ = some (.int .i64 0) ∧ w1.cell? ⟨w.heap.size + 1, 1, none⟩ = some (.int .i64 0)) ∧
    (w1.frozen? ⟨w.heap.size, 0, none⟩ = false ∧ w1.frozen? ⟨w.heap.size, 1, none⟩ = false ∧ w1.frozen? ⟨w.heap.size, 2, none⟩ = false ∧ w1.frozen? ⟨w.heap.size + 1, 0, none⟩ = false ∧ w1.frozen? ⟨w.heap.size + 1, 1, none⟩ = false) ∧
    (w.heap.size < w1.heap.size ∧ w.heap.size + 1 < w1.heap.size) ∧ Below w.heap.size w w1 := by
  have h0 := (b1.block w.heap.size (by simp; omega)).trans ((Below.heap_alloc _ _ _ (by simp)).trans (heap_alloc_new w _))
  have g1 := heap_alloc_new (w.alloc (.cells #[.int .i64 0, .int .i64 0, .int .i64 0] 148)) (.cells #[.int .i64 0, .int .i64 0] 88)
  rw [World.size_alloc] at g1
  have h1 := (b1.block (w.heap.size + 1) (by simp)).trans g1
  have hz := lt_of_block h1
  refine ⟨⟨?_, ?_, ?_, ?_, ?_⟩, ⟨?_, ?_, ?_, ?_, ?_⟩, ⟨by omega, hz⟩, (((Below.refl _ _).alloc (Nat.le_refl _) _).alloc (by simp) _).trans (b1.mono (by simp; omega))⟩
  all_goals simp [World.cell?, World.frozen?, h0, h1]
set_option maxRecDepth 100000 in
set_option maxHeartbeats 1000000 in
theorem readRange_bad1 (s : ByteArray) (a : Nat) (w : World) (hs : s.size ≤ 140737488355328) (ha : a ≤ s.size) (e k : Nat) (hp : pNum ((bl s).drop a) = .bad e k) :
    Calls Tryz.prog 133 #[.string s, .int .i64 a] w (RangePost w a (.bad e k)) := by
  have hn := fun W => readNumber_any s a a W rfl hs ha
  have he := pNum_bad hp
  rw [hp] at hn
  have e1 : ((e : Int) != 0) = true := by simpa using he
  have e2 : ¬ (e : Int) = 0 := by omega
  clear hp he hs ha
  go_enter Tryz.func133, Tryz.ntmps133
  go_wp2_with fail
  refine (hn _).mono ?_
  rintro e' w1 ⟨rfl, b1⟩
  obtain ⟨⟨c0, c1, c2, c3, c4⟩, ⟨f0, f1, f2, f3, f4⟩, ⟨z0, z1⟩, b2⟩ := two_facts b1
  have n0 := Nat.ne_of_lt z0
  have n1 := Nat.ne_of_lt z1
  clear b1
  simp only [numV]
  go_wp2_with fail
  go_region
  go_wp2
  refine bodyPost_ret (v := .tuple #[.agg #[.int .i64 0, .int .i64 0, .int .i64 0], .int .i64 0, .agg #[.int .i64 e, .int .i64 ((a : Int) + (k : Int))]]) (by simp [results, Tryz.results133, go_sem, c0, c1, c2, c3, c4, z0, z1]) rfl ⟨rfl, ?_⟩
  · have zb := b2.size
    repeat' (first | (with_reducible exact b2) | (with_reducible apply Below.drew) | (with_reducible apply Below.setCell) | (with_reducible apply Below.alloc))
    all_goals (first | omega | (simp; done) | (simp; omega))
set_option maxRecDepth 100000 in
set_option maxHeartbeats 1000000 in
theorem readRange_one (s : ByteArray) (a : Nat) (w : World) (hs : s.size ≤ 140737488355328) (ha : a ≤ s.size) (x k : Nat) (hp : pNum ((bl s).drop a) = .ok x k) (hd : ¬ ((bl s).drop a)[k]? = some 45) :
    Calls Tryz.prog 133 #[.string s, .int .i64 a] w (RangePost w a (.ok (x, x, k) k)) := by
  have hn := fun W => readNumber_any s a a W rfl hs ha
  obtain ⟨_, k6, kl, xl⟩ := pNum_ok hp
  rw [List.length_drop, bl_len] at kl
  rw [hp] at hn
  have hst := fun W => stands_any s (a + k) ((a : Int) + k) 45 45 W (by omega) rfl
  rw [List.getElem?_drop] at hd
  rw [decide_eq_false hd] at hst
  have e1 : (a : Int) + k - a = k := by omega
  have i0 : (0 : Int) ≤ a := by omega
  have i1 : (a : Int) ≤ 140737488355328 := by omega
  have i2 : (0 : Int) ≤ k := by omega
  have i3 : (k : Int) ≤ 6 := by omega
  clear hp hs ha hd kl
  go_enter Tryz.func133, Tryz.ntmps133
  go_wp2_with fail
  refine (hn _).mono ?_
  rintro e' w1 ⟨rfl, b1⟩
  obtain ⟨⟨c0, c1, c2, c3, c4⟩, ⟨f0, f1, f2, f3, f4⟩, ⟨z0, z1⟩, b2⟩ := two_facts b1
  have n0 := Nat.ne_of_lt z0
  have n1 := Nat.ne_of_lt z1
  clear b1
  simp only [numV]
  go_wp2_with fail
  refine (hst _).mono ?_
  rintro e' w2 ⟨rfl, rfl⟩
  go_wp2_with fail
  refine bodyPost_ret (v := .tuple #[.agg #[.int .i64 x, .int .i64 x, .int .i64 k], .int .i64 ((a : Int) + (k : Int)), .agg #[.int .i64 0, .int .i64 0]]) (by simp [results, Tryz.results133, go_sem, c0, c1, c2, c3, c4, z0, z1]) rfl ⟨rfl, ?_⟩
  · have zb := b2.size
    repeat' (first | (with_reducible exact b2) | (with_reducible apply Below.drew) | (with_reducible apply Below.setCell) | (with_reducible apply Below.alloc))
    all_goals (first | omega | (simp; done) | (simp; omega))
theorem cell_skip {w : World} {b o b' o' : Nat} {u v : Value} (h : w.cell? ⟨b', o', none⟩ = some v) (hne : b ≠ b' ∨ o ≠ o') : (w.setCell ⟨b, o, none⟩ u).cell? ⟨b', o', none⟩ = some v := by
  rw [World.cell?_setCell_other _ _ _ _ (by intro e; injection e with e1 e2; omega)]; exact h
theorem cell_set {w : World} {b o : Nat} {u v : Value} (h : w.cell? ⟨b, o, none⟩ = some v) : (w.setCell ⟨b, o, none⟩ u).cell? ⟨b, o, none⟩ = some u := World.cell?_setCell_same _ _ _ h
/-- The two blocks of a result, and two more of the call's own, behind one call more. -/
theorem more_facts {w w1 w2 : World} {e f : Int} {p q r : Int} (b2 : Below w.heap.size w w1)
    (c0 : w1.cell? ⟨w.heap.size, 0, none⟩ = some (.int .i64 0)) (c1 : w1.cell? ⟨w.heap.size, 1, none⟩ = some (.int .i64 0)) (c2 : w1.cell? ⟨w.heap.size, 2, none⟩ = some (.int .i64 0)) (c3 : w1.cell? ⟨w.heap.size + 1, 0, none⟩ = some (.int .i64 0)) (c4 : w1.cell? ⟨w.heap.size + 1, 1, none⟩ = some (.int .i64 0))
    (f0 : w1.frozen? ⟨w.heap.size, 0, none⟩ = false) (f1 : w1.frozen? ⟨w.heap.size, 1, none⟩ = false) (f2 : w1.frozen? ⟨w.heap.size, 2, none⟩ = false) (f3 : w1.frozen? ⟨w.heap.size + 1, 0, none⟩ = false) (f4 : w1.frozen? ⟨w.heap.size + 1, 1, none⟩ = false)
    (z1 : w.heap.size + 1 < w1.heap.size)
    (b3 : Below ((w1.alloc (.cells #[.int .i64 e, .int .i64 f] 88)).alloc (.cells #[.int .i64 p, .int .i64 q, .int .i64 r] 148)).heap.size ((w1.alloc (.cells #[.int .i64 e, .int .i64 f] 88)).alloc (.cells #[.int .i64 p, .int .i64 q, .int .i64 r] 148)) w2) :
    (w2.cell? ⟨w.heap.size, 0, none⟩ = some (.int .i64 0) ∧ w2.cell? ⟨w.heap.size, 1, none⟩ = some (.int .i64 0) ∧ w2.cell? ⟨w.heap.size, 2, none⟩ = some (.int .i64 0) ∧ w2.cell? ⟨w.heap.size + 1, 0, none⟩ = some (.int .i64 0) ∧ w2.cell? ⟨w.heap.size + 1, 1, none⟩ = some (.int .i64 0)) ∧
    (w2.frozen? ⟨w.heap.size, 0, none⟩ = false ∧ w2.frozen? ⟨w.heap.size, 1, none⟩ = false ∧ w2.frozen? ⟨w.heap.size, 2, none⟩ = false ∧ w2.frozen? ⟨w.heap.size + 1, 0, none⟩ = false ∧ w2.frozen? ⟨w.heap.size + 1, 1, none⟩ = false) ∧
    (w2.cell? ⟨w1.heap.size, 0, none⟩ = some (.int .i64 e) ∧ w2.cell? ⟨w1.heap.size, 1, none⟩ = some (.int .i64 f) ∧ w2.cell? ⟨w1.heap.size + 1, 0, none⟩ = some (.int .i64 p) ∧ w2.cell? ⟨w1.heap.size + 1, 1, none⟩ = some (.int .i64 q) ∧ w2.cell? ⟨w1.heap.size + 1, 2, none⟩ = some (.int .i64 r)) ∧
    (w2.frozen? ⟨w1.heap.size, 0, none⟩ = false ∧ w2.frozen? ⟨w1.heap.size, 1, none⟩ = false ∧ w2.frozen? ⟨w1.heap.size + 1, 0, none⟩ = false ∧ w2.frozen? ⟨w1.heap.size + 1, 1, none⟩ = false ∧ w2.frozen? ⟨w1.heap.size + 1, 2, none⟩ = false) ∧
    (w.heap.size < w2.heap.size ∧ w.heap.size + 1 < w2.heap.size) ∧ Below w.heap.size w w2 := by
  have h0 := (b3.block w1.heap.size (by simp; omega)).trans ((Below.heap_alloc _ _ _ (by simp)).trans (heap_alloc_new w1 _))
  have g1 := heap_alloc_new (w1.alloc (.cells #[.int .i64 e, .int .i64 f] 88)) (.cells #[.int .i64 p, .int .i64 q, .int .i64 r] 148)
  rw [World.size_alloc] at g1
  have h1 := (b3.block (w1.heap.size + 1) (by simp)).trans g1
  have b5 : Below w1.heap.size w1 w2 := (((Below.refl _ _).alloc (Nat.le_refl _) _).alloc (by simp) _).trans (b3.mono (by simp; omega))
  have hz := b5.size
  obtain ⟨hc, hf⟩ := bcell b5
  refine ⟨⟨?_, ?_, ?_, ?_, ?_⟩, ⟨?_, ?_, ?_, ?_, ?_⟩, ⟨?_, ?_, ?_, ?_, ?_⟩, ⟨?_, ?_, ?_, ?_, ?_⟩, ⟨by omega, by omega⟩, b2.trans (b5.mono b2.size)⟩
  all_goals first
    | exact (hc _ _ (by omega)).trans (by assumption)
    | exact (hf _ _ (by omega)).trans (by assumption)
    | simp [World.cell?, World.frozen?, h0, h1]
set_option maxRecDepth 100000 in
set_option maxHeartbeats 1000000 in
theorem readRange_bad2 (s : ByteArray) (a : Nat) (w : World) (hs : s.size ≤ 140737488355328) (ha : a ≤ s.size) (x k : Nat) (hp : pNum ((bl s).drop a) = .ok x k) (hd : ((bl s).drop a)[k]? = some 45) (e j : Nat) (hq : pNum (((bl s).drop a).drop (k + 1)) = .bad e j) :
    Calls Tryz.prog 133 #[.string s, .int .i64 a] w (RangePost w a (.bad e (k + 1 + j))) := by
  have hn := fun W => readNumber_any s a a W rfl hs ha
  obtain ⟨_, k6, kl, xl⟩ := pNum_ok hp
  rw [List.length_drop, bl_len] at kl
  rw [hp] at hn
  have hst := fun W => stands_any s (a + k) ((a : Int) + k) 45 45 W (by omega) rfl
  have hk1 : a + k + 1 ≤ s.size := by
    by_cases h : k < ((bl s).drop a).length
    · rw [List.length_drop, bl_len] at h; omega
    · rw [List.getElem?_eq_none (by omega)] at hd; cases hd
  rw [List.getElem?_drop] at hd
  rw [decide_eq_true hd] at hst
  have hm := fun W => readNumber_any s (a + k + 1) ((a : Int) + k + 1) W (by omega) hs hk1
  rw [Nat.add_assoc, ← List.drop_drop, hq] at hm
  have e1 : (a : Int) + k - a = k := by omega
  have i0 : (0 : Int) ≤ a := by omega
  have i1 : (a : Int) ≤ 140737488355328 := by omega
  have i2 : (0 : Int) ≤ k := by omega
  have i3 : (k : Int) ≤ 6 := by omega
  have he := pNum_bad hq
  have e2 : ((e : Int) != 0) = true := by simpa using he
  have e3 : ((e : Int) == 0) = false := by simpa using he
  have e4 : ¬ (e : Int) = 0 := by omega
  clear he
  clear hp hs ha hd kl hk1 hq
  go_enter Tryz.func133, Tryz.ntmps133
  go_wp2_with fail
  refine (hn _).mono ?_
  rintro e' w1 ⟨rfl, b1⟩
  obtain ⟨⟨c0, c1, c2, c3, c4⟩, ⟨f0, f1, f2, f3, f4⟩, ⟨z0, z1⟩, b2⟩ := two_facts b1
  have n0 := Nat.ne_of_lt z0
  have n1 := Nat.ne_of_lt z1
  clear b1
  simp only [numV]
  go_wp2_with fail
  refine (hst _).mono ?_
  rintro e' w2 ⟨rfl, rfl⟩
  go_wp2_with fail
  refine (hm _).mono ?_
  rintro e' w2 ⟨rfl, b3⟩
  obtain ⟨⟨d0, d1, d2, d3, d4⟩, ⟨g0, g1, g2, g3, g4⟩, ⟨q0, q1, q2, q3, q4⟩, ⟨u0, u1, u2, u3, u4⟩, ⟨y0, y1⟩, b4⟩ := more_facts b2 c0 c1 c2 c3 c4 f0 f1 f2 f3 f4 z1 b3
  have m0 := Nat.ne_of_lt z0
  have m1 := Nat.ne_of_lt z1
  clear b3 b2
  simp only [numV]
  go_wp2_with fail
  go_region
  go_wp2_with fail
  refine bodyPost_ret (v := .tuple #[.agg #[.int .i64 0, .int .i64 0, .int .i64 0], .int .i64 0, .agg #[.int .i64 e, .int .i64 ((a : Int) + ((k : Int) + 1) + j)]]) (by simp [results, Tryz.results133, go_sem, d0, d1, d2, d3, d4]) rfl ⟨by unfold rangeV; simp; all_goals omega, ?_⟩
  · have zb := b4.size
    repeat' (first | (with_reducible exact b4) | (with_reducible apply Below.drew) | (with_reducible apply Below.setCell) | (with_reducible apply Below.alloc))
    all_goals (first | omega | (simp; done) | (simp; omega))
set_option maxRecDepth 100000 in
set_option maxHeartbeats 1000000 in
theorem readRange_less (s : ByteArray) (a : Nat) (w : World) (hs : s.size ≤ 140737488355328) (ha : a ≤ s.size) (x k : Nat) (hp : pNum ((bl s).drop a) = .ok x k) (hd : ((bl s).drop a)[k]? = some 45) (y j : Nat) (hq : pNum (((bl s).drop a).drop (k + 1)) = .ok y j) (hlt : y < x) :
    Calls Tryz.prog 133 #[.string s, .int .i64 a] w (RangePost w a (.bad 3 (k + 1))) := by
  have hn := fun W => readNumber_any s a a W rfl hs ha
  obtain ⟨_, k6, kl, xl⟩ := pNum_ok hp
  rw [List.length_drop, bl_len] at kl
  rw [hp] at hn
  have hst := fun W => stands_any s (a + k) ((a : Int) + k) 45 45 W (by omega) rfl
  have hk1 : a + k + 1 ≤ s.size := by
    by_cases h : k < ((bl s).drop a).length
    · rw [List.length_drop, bl_len] at h; omega
    · rw [List.getElem?_eq_none (by omega)] at hd; cases hd
  rw [List.getElem?_drop] at hd
  rw [decide_eq_true hd] at hst
  have hm := fun W => readNumber_any s (a + k + 1) ((a : Int) + k + 1) W (by omega) hs hk1
  rw [Nat.add_assoc, ← List.drop_drop, hq] at hm
  have e1 : (a : Int) + k - a = k := by omega
  have i0 : (0 : Int) ≤ a := by omega
  have i1 : (a : Int) ≤ 140737488355328 := by omega
  have i2 : (0 : Int) ≤ k := by omega
  have i3 : (k : Int) ≤ 6 := by omega
  have e2 : (y : Int) < x := by omega
  clear hlt
  clear hp hs ha hd kl hk1 hq
  go_enter Tryz.func133, Tryz.ntmps133
  go_wp2_with fail
  refine (hn _).mono ?_
  rintro e' w1 ⟨rfl, b1⟩
  obtain ⟨⟨c0, c1, c2, c3, c4⟩, ⟨f0, f1, f2, f3, f4⟩, ⟨z0, z1⟩, b2⟩ := two_facts b1
  have n0 := Nat.ne_of_lt z0
  have n1 := Nat.ne_of_lt z1
  clear b1
  simp only [numV]
  go_wp2_with fail
  refine (hst _).mono ?_
  rintro e' w2 ⟨rfl, rfl⟩
  go_wp2_with fail
  refine (hm _).mono ?_
  rintro e' w2 ⟨rfl, b3⟩
  obtain ⟨⟨d0, d1, d2, d3, d4⟩, ⟨g0, g1, g2, g3, g4⟩, ⟨q0, q1, q2, q3, q4⟩, ⟨u0, u1, u2, u3, u4⟩, ⟨y0, y1⟩, b4⟩ := more_facts b2 c0 c1 c2 c3 c4 f0 f1 f2 f3 f4 z1 b3
  have m0 := Nat.ne_of_lt z0
  have m1 := Nat.ne_of_lt z1
  clear b3 b2
  simp only [numV]
  go_upto_region 11 with fail
  generalize hW : (((((w2.setCell ⟨w1.heap.size + 1, 1, none⟩ (.int .i64 y)).setCell ⟨w1.heap.size, 0, none⟩ (.int .i64 0)).setCell ⟨w1.heap.size, 1, none⟩ (.int .i64 0)).setCell ⟨w1.heap.size, 0, none⟩ (.int .i64 3)).setCell ⟨w1.heap.size, 1, none⟩ (.int .i64 ((a : Int) + k + 1))) = W
  replace hW := fhid hW
  have hfacts : (W.cell? ⟨w.heap.size, 0, none⟩ = some (.int .i64 0) ∧ W.cell? ⟨w.heap.size, 1, none⟩ = some (.int .i64 0) ∧ W.cell? ⟨w.heap.size, 2, none⟩ = some (.int .i64 0) ∧ W.cell? ⟨w.heap.size + 1, 0, none⟩ = some (.int .i64 0) ∧ W.cell? ⟨w.heap.size + 1, 1, none⟩ = some (.int .i64 0)) ∧
    (W.frozen? ⟨w.heap.size, 0, none⟩ = false ∧ W.frozen? ⟨w.heap.size, 1, none⟩ = false ∧ W.frozen? ⟨w.heap.size, 2, none⟩ = false ∧ W.frozen? ⟨w.heap.size + 1, 0, none⟩ = false ∧ W.frozen? ⟨w.heap.size + 1, 1, none⟩ = false) ∧
    (W.cell? ⟨w1.heap.size, 0, none⟩ = some (.int .i64 3) ∧ W.cell? ⟨w1.heap.size, 1, none⟩ = some (.int .i64 ((a : Int) + k + 1))) := by
    rw [← hW.out]
    refine ⟨⟨?_, ?_, ?_, ?_, ?_⟩, ⟨?_, ?_, ?_, ?_, ?_⟩, ⟨?_, ?_⟩⟩
    all_goals try (simp only [World.frozen?_setCell]; first | exact g0 | exact g1 | exact g2 | exact g3 | exact g4)
    · exact cell_skip (cell_skip (cell_skip (cell_skip (cell_skip d0 (.inl (by omega))) (.inl (by omega))) (.inl (by omega))) (.inl (by omega))) (.inl (by omega))
    · exact cell_skip (cell_skip (cell_skip (cell_skip (cell_skip d1 (.inl (by omega))) (.inl (by omega))) (.inl (by omega))) (.inl (by omega))) (.inl (by omega))
    · exact cell_skip (cell_skip (cell_skip (cell_skip (cell_skip d2 (.inl (by omega))) (.inl (by omega))) (.inl (by omega))) (.inl (by omega))) (.inl (by omega))
    · exact cell_skip (cell_skip (cell_skip (cell_skip (cell_skip d3 (.inl (by omega))) (.inl (by omega))) (.inl (by omega))) (.inl (by omega))) (.inl (by omega))
    · exact cell_skip (cell_skip (cell_skip (cell_skip (cell_skip d4 (.inl (by omega))) (.inl (by omega))) (.inl (by omega))) (.inl (by omega))) (.inl (by omega))
    · exact cell_skip (cell_set (cell_skip (cell_set (cell_skip q0 (.inl (by omega)))) (.inr (by decide)))) (.inr (by decide))
    · exact cell_set (cell_skip (cell_set (cell_skip (cell_skip q1 (.inl (by omega))) (.inr (by decide)))) (.inr (by decide)))
  have hB : Below w.heap.size w W := by
    have zb := b4.size
    rw [← hW.out]
    repeat' (first | (with_reducible exact b4) | (with_reducible apply Below.setCell))
    all_goals (first | omega | (simp; done) | (simp; omega))
  clear d0 d1 d2 d3 d4 g0 g1 g2 g3 g4 q0 q1 q2 q3 q4 u0 u1 u2 u3 u4 b4 c0 c1 c2 c3 c4 f0 f1 f2 f3 f4 hW y0 y1
  obtain ⟨⟨d0, d1, d2, d3, d4⟩, ⟨g0, g1, g2, g3, g4⟩, ⟨q0, q1⟩⟩ := hfacts
  have b4 := hB
  clear hB
  go_wp2_with fail
  go_region
  go_wp2_with fail
  refine bodyPost_ret (v := .tuple #[.agg #[.int .i64 0, .int .i64 0, .int .i64 0], .int .i64 0, .agg #[.int .i64 3, .int .i64 ((a : Int) + k + 1)]]) (by simp [results, Tryz.results133, go_sem, d0, d1, d2, d3, d4]) rfl ⟨by unfold rangeV; simp; all_goals omega, ?_⟩
  · have zb := b4.size
    repeat' (first | (with_reducible exact b4) | (with_reducible apply Below.drew) | (with_reducible apply Below.setCell) | (with_reducible apply Below.alloc))
    all_goals (first | omega | (simp; done) | (simp; omega))
set_option maxRecDepth 100000 in
set_option maxHeartbeats 1000000 in
theorem readRange_two (s : ByteArray) (a : Nat) (w : World) (hs : s.size ≤ 140737488355328) (ha : a ≤ s.size) (x k : Nat) (hp : pNum ((bl s).drop a) = .ok x k) (hd : ((bl s).drop a)[k]? = some 45) (y j : Nat) (hq : pNum (((bl s).drop a).drop (k + 1)) = .ok y j) (hlt : ¬ y < x) :
    Calls Tryz.prog 133 #[.string s, .int .i64 a] w (RangePost w a (.ok (x, y, k) (k + 1 + j))) := by
  have hn := fun W => readNumber_any s a a W rfl hs ha
  obtain ⟨_, k6, kl, xl⟩ := pNum_ok hp
  rw [List.length_drop, bl_len] at kl
  rw [hp] at hn
  have hst := fun W => stands_any s (a + k) ((a : Int) + k) 45 45 W (by omega) rfl
  have hk1 : a + k + 1 ≤ s.size := by
    by_cases h : k < ((bl s).drop a).length
    · rw [List.length_drop, bl_len] at h; omega
    · rw [List.getElem?_eq_none (by omega)] at hd; cases hd
  rw [List.getElem?_drop] at hd
  rw [decide_eq_true hd] at hst
  have hm := fun W => readNumber_any s (a + k + 1) ((a : Int) + k + 1) W (by omega) hs hk1
  rw [Nat.add_assoc, ← List.drop_drop, hq] at hm
  have e1 : (a : Int) + k - a = k := by omega
  have i0 : (0 : Int) ≤ a := by omega
  have i1 : (a : Int) ≤ 140737488355328 := by omega
  have i2 : (0 : Int) ≤ k := by omega
  have i3 : (k : Int) ≤ 6 := by omega
  have e2 : ¬ (y : Int) < x := by omega
  clear hlt
  clear hp hs ha hd kl hk1 hq
  go_enter Tryz.func133, Tryz.ntmps133
  go_wp2_with fail
  refine (hn _).mono ?_
  rintro e' w1 ⟨rfl, b1⟩
  obtain ⟨⟨c0, c1, c2, c3, c4⟩, ⟨f0, f1, f2, f3, f4⟩, ⟨z0, z1⟩, b2⟩ := two_facts b1
  have n0 := Nat.ne_of_lt z0
  have n1 := Nat.ne_of_lt z1
  clear b1
  simp only [numV]
  go_wp2_with fail
  refine (hst _).mono ?_
  rintro e' w2 ⟨rfl, rfl⟩
  go_wp2_with fail
  refine (hm _).mono ?_
  rintro e' w2 ⟨rfl, b3⟩
  obtain ⟨⟨d0, d1, d2, d3, d4⟩, ⟨g0, g1, g2, g3, g4⟩, ⟨q0, q1, q2, q3, q4⟩, ⟨u0, u1, u2, u3, u4⟩, ⟨y0, y1⟩, b4⟩ := more_facts b2 c0 c1 c2 c3 c4 f0 f1 f2 f3 f4 z1 b3
  have m0 := Nat.ne_of_lt z0
  have m1 := Nat.ne_of_lt z1
  clear b3 b2
  simp only [numV]
  go_wp2_with fail
  go_wp2_with fail
  refine bodyPost_ret (v := .tuple #[.agg #[.int .i64 x, .int .i64 y, .int .i64 k], .int .i64 ((a : Int) + ((k : Int) + 1) + j), .agg #[.int .i64 0, .int .i64 0]]) (by simp [results, Tryz.results133, go_sem, d0, d1, d2, d3, d4]) rfl ⟨by unfold rangeV; simp; all_goals omega, ?_⟩
  · have zb := b4.size
    repeat' (first | (with_reducible exact b4) | (with_reducible apply Below.drew) | (with_reducible apply Below.setCell) | (with_reducible apply Below.alloc))
    all_goals (first | omega | (simp; done) | (simp; omega))
theorem readRange_any (s : ByteArray) (a : Nat) (ai : Int) (w : World) (hai : ai = a) (hs : s.size ≤ 140737488355328) (ha : a ≤ s.size) :
    Calls Tryz.prog 133 #[.string s, .int .i64 ai] w (RangePost w a (pRange ((bl s).drop a))) := by
  subst hai
  unfold pRange
  split
  · rename_i e k hp
    exact readRange_bad1 s a w hs ha e k hp
  · rename_i x k hp
    by_cases hd : ((bl s).drop a)[k]? = some 45
    · rw [if_pos hd]
      unfold pSecond
      split
      · rename_i e j hq
        exact readRange_bad2 s a w hs ha x k hp hd e j hq
      · rename_i y j hq
        by_cases hlt : y < x
        · rw [if_pos hlt]
          exact readRange_less s a w hs ha x k hp hd y j hq hlt
        · rw [if_neg hlt]
          exact readRange_two s a w hs ha x k hp hd y j hq hlt
    · rw [if_neg hd]
      exact readRange_one s a w hs ha x k hp hd
end Go.Proofs.YtjpihophigjbpaaGreatDoor.Hs
/-
  Slices of strings, and of ranges: as they read, and as the call itself lays them; values put behind them.
-/
namespace Go.Proofs.YtjpihophigjbpaaGreatDoor.Hs
open Go.RowKit

/-- The slice at address A holds these cells, in a block below B. -/
def SegC (w : World) (B : Nat) (A : Option Addr) (vs : List Value) : Prop :=
  0 < vs.length → ∃ b o, A = some ⟨b, o, none⟩ ∧ b < B ∧ ∀ j (h : j < vs.length), w.cell? ⟨b, o + j, none⟩ = some vs[j]
section
variable {w w' : World} {B B' : Nat} {A : Option Addr} {vs : List Value}
theorem SegC.nil (w : World) (B : Nat) (A : Option Addr) : SegC w B A [] := fun h => absurd h (Nat.lt_irrefl 0)
theorem SegC.keep (h : SegC w B A vs) (hk : ∀ p : Addr, p.block < B → w'.cell? p = w.cell? p) : SegC w' B A vs := fun h0 => by
  obtain ⟨b, o, e, hb, hc⟩ := h h0
  exact ⟨b, o, e, hb, fun j hj => (hk _ hb).trans (hc j hj)⟩
theorem SegC.more (h : SegC w B A vs) (hB : B ≤ B') : SegC w B' A vs := fun h0 => by
  obtain ⟨b, o, e, hb, hc⟩ := h h0
  exact ⟨b, o, e, by omega, hc⟩
theorem SegC.below (h : SegC w B A vs) (hb : Below B w w') : SegC w' B A vs := h.keep fun _ hp => hb.cell hp
theorem SegC.take (h : SegC w B A vs) (k : Nat) : SegC w B A (vs.take k) := fun h0 => by
  rw [List.length_take] at h0
  obtain ⟨b, o, e, hb, hc⟩ := h (by omega)
  refine ⟨b, o, e, hb, fun j hj => ?_⟩
  rw [List.length_take] at hj
  rw [List.getElem_take]
  exact hc j (by omega)
theorem SegC.drop (h : SegC w B A vs) {k cap : Nat} (hk : k ≤ vs.length) (hc : vs.length ≤ cap) : SegC w B (if cap = k then A else A.map (·.add k)) (vs.drop k) := fun h0 => by
  rw [List.length_drop] at h0
  obtain ⟨b, o, rfl, hb, hcell⟩ := h (by omega)
  rw [if_neg (by omega)]
  refine ⟨b, o + k, ?_, hb, fun j hj => ?_⟩
  · show some (Addr.add _ _) = _
    unfold Addr.add
    by_cases h0 : k = 0
    · rw [if_pos h0, h0, Nat.add_zero]
    · rw [if_neg h0]
  · rw [List.getElem_drop, Nat.add_assoc]
    exact hcell (k + j) (by rw [List.length_drop] at hj; omega)
end
theorem ownsRow_below {w w' : World} {base : Nat} {e : TypeId} {size n : Nat} {v : Value} {xs : List Value} (h : w.ownsRow base e size v n xs) (hb : Below w.heap.size w w') : w'.ownsRow base e size v n xs := by
  refine ⟨h.1, ?_⟩
  rcases h.2 with ⟨rfl, hn⟩ | ⟨g, cap, cur, rfl, hg, hh, rest⟩
  · exact .inl ⟨rfl, hn⟩
  · exact .inr ⟨g, cap, cur, rfl, hg, (hb.block g (Array.getElem?_eq_some_iff.1 hh).1).trans hh, rest⟩
theorem ownsRow_base {w : World} {base base' : Nat} {e : TypeId} {size n : Nat} {v : Value} {xs : List Value} (h : w.ownsRow base e size v n xs) (hb : base' ≤ base) : w.ownsRow base' e size v n xs := by
  refine ⟨h.1, ?_⟩
  rcases h.2 with ⟨rfl, hn⟩ | ⟨g, cap, cur, rfl, hg, hh, rest⟩
  · exact .inl ⟨rfl, hn⟩
  · exact .inr ⟨g, cap, cur, rfl, by omega, hh, rest⟩
theorem ownsRow_shape {w : World} {base : Nat} {e : TypeId} {size n : Nat} {v : Value} {xs : List Value} (h : w.ownsRow base e size v n xs) : ∃ A cap, v = .slice A n cap ∧ n ≤ cap ∧ cap ≤ maxLen ∧ SegC w w.heap.size A xs := by
  obtain ⟨hl, ⟨rfl, rfl⟩ | ⟨g, cap, cur, rfl, _, hg, hle, hcm, hsz, ht⟩⟩ := h
  · rw [Nat.zero_mul] at hl
    rw [List.eq_nil_of_length_eq_zero hl]
    exact ⟨none, 0, rfl, Nat.le_refl _, by unfold maxLen; omega, SegC.nil _ _ _⟩
  · refine ⟨some ⟨g, 0, none⟩, cap, rfl, hle, hcm, fun h0 => ⟨g, 0, rfl, (Array.getElem?_eq_some_iff.1 hg).1, fun j hj => ?_⟩⟩
    have e : (cur.toList.take (n * size))[j]? = some xs[j] := by rw [ht, List.getElem?_eq_getElem hj]
    rw [List.getElem?_take, if_pos (by omega), Array.getElem?_toList] at e
    simp only [World.cell?, hg, Nat.zero_add]
    simpa using e
theorem ownsRow_ge {w : World} {base : Nat} {e : TypeId} {size n : Nat} {v : Value} {xs : List Value} (h : w.ownsRow base e size v n xs) (k : Nat) (hk : v.ownBlock = some k) : base ≤ k := by
  obtain ⟨_, ⟨rfl, _⟩ | ⟨g, cap, cur, rfl, hg, _⟩⟩ := h
  · simp [Value.ownBlock] at hk
  · simp [Value.ownBlock] at hk; omega
theorem ownsRow_nil (w : World) (base : Nat) (e : TypeId) (size : Nat) : w.ownsRow base e size (.slice none 0 0) 0 [] := ⟨by simp, .inl ⟨rfl, rfl⟩⟩
/-- A block with another tag than the row's is not the row's. -/
theorem own_tag {w : World} {base b : Nat} {e T : TypeId} {size n : Nat} {v : Value} {xs : List Value} {cs : Array Value} {fr : Nat × Nat} (h : w.ownsRow base e size v n xs) (hb : w.heap[b]? = some (.cells cs T fr)) (hT : T ≠ e) : some b ≠ v.ownBlock := by
  obtain ⟨_, ⟨rfl, _⟩ | ⟨g, cap, cur, rfl, _, hg, _⟩⟩ := h
  · simp [Value.ownBlock]
  · intro he
    have : b = g := by simpa [Value.ownBlock] using he
    subst this
    rw [hb] at hg
    injection hg with hg
    injection hg with _ ht
    exact hT ht

/-- Values put behind a row of the call's own. -/
theorem app_own {w : World} {ops : Array Oper} {rest : List Oper} {o : Oper} {a : Act} {Q : Exit → Act → World → Prop} (T e : TypeId) (z : Value) (size bytes : Nat)
    (hT : Tryz.prog.underlying T = some (.slice e)) (hinfo : (Tryz.prog.info? e).map (fun i => (i.zero, i.size, i.bytes)) = some (some z, size, bytes)) (hzs : z.cells.size = size) (hsz : 0 < size)
    (hgd : o.guard = none) (s x : Operand) (ho : o.op = .call { callee := .builtin .append, args := #[s, x], argTypes := #[T, T] })
    (base : Nat) (v : Value) (n : Nat) (xs : List Value) (hs : a.eval s = v) (hown : w.ownsRow base e size v n xs)
    (B : Nat) (A : Option Addr) (m c : Nat) (us : List Value) (hx : a.eval x = .slice A m c) (hr : SegC w B A us) (hl : us.length = m * size) (h1 : ∀ u ∈ us, u.oneCell' = true) (hA : A = none → m = 0)
    (hlen : (n + m) * bytes ≤ 140737488355328) (hnm : n + m ≤ 140737488355328) (hbase : base ≤ w.heap.size)
    (h : ∀ v' w', w'.ownsRow base e size v' (n + m) (xs ++ us) → w.grownBy w' v.ownBlock → Below base w w' → wpList Tryz.prog ops Q rest (a.put o.dst v') w') : wpList Tryz.prog ops Q (o :: rest) a w := by
  obtain ⟨i0, hi, hz0, hz1, hz2⟩ := info_parts hinfo
  have hrun : ∃ v' w', (Builtin.append_ #[T, T] o.type #[v, .slice A m c]).run Tryz.prog w = .ok v' w' ∧ w'.ownsRow base e size v' (n + m) (xs ++ us) ∧ w.grownBy w' v.ownBlock := by
    by_cases h0 : 0 < m
    · obtain ⟨b, of, rfl, _, hc⟩ := hr (by rw [hl]; exact Nat.mul_pos h0 hsz)
      obtain ⟨v', w', hrun, h2, h3, _, _⟩ := run_append_own_at (P := Tryz.prog) w base T o.type e i0 z size bytes hT hi hz0 hz1 hz2 hzs hsz v n xs hown ⟨b, of, none⟩ m c us hl (fun j u hu => by
          obtain ⟨hj, rfl⟩ := List.getElem?_eq_some_iff.1 hu
          have := hc j hj
          unfold Addr.add
          by_cases hz : j = 0
          · subst hz; simpa using this
          · rw [if_neg hz]; exact this) h1 (by unfold maxLen; omega) hlen hbase
      exact ⟨v', w', hrun, h2, h3⟩
    · have hm : m = 0 := by omega
      subst hm
      have hu : us = [] := List.eq_nil_of_length_eq_zero (by omega)
      subst hu
      cases A with
      | none =>
        refine ⟨v, w, ?_, by simpa using hown, ⟨rfl, rfl, rfl, Nat.le_refl _, fun _ _ _ => rfl⟩⟩
        rcases hown.2 with ⟨rfl, rfl⟩ | ⟨g, cap, cur, rfl, _, _, hnc, _⟩
        · simp [Builtin.append_, run_underlying hT, sizeOf, typeInfo, hi, Builtin.lenOf, Builtin.firstCells]
        · simp [Builtin.append_, run_underlying hT, sizeOf, typeInfo, hi, Builtin.lenOf, Builtin.firstCells, hnc, storeCells]
      | some ad =>
        obtain ⟨v', w', hrun, h2, h3, _, _⟩ := run_append_own_at (P := Tryz.prog) w base T o.type e i0 z size bytes hT hi hz0 hz1 hz2 hzs hsz v n xs hown ad 0 c [] (by simp) (fun j u hu => by simp at hu) (fun u hu => by simp at hu) (by unfold maxLen; omega) hlen hbase
        exact ⟨v', w', hrun, h2, h3⟩
  obtain ⟨v', w', hrun, h2, h3⟩ := hrun
  refine wpList_plain hgd fun K hK => ?_
  unfold Oper.wp execOp
  simp only [ho, resolve, invoke, builtin, Sem.run_bind, Sem.run_pure, Result.andThen_ok, List.map_toArray, List.map_cons, List.map_nil, hs, hx, hrun]
  exact hK _ _ (h v' w' h2 h3 ((Below.refl _ _).grown h3 hbase (fun k hk => ownsRow_ge hown k hk)))

/-- Names as cells. -/
def SV (ns : List (List UInt8)) : List Value := ns.map fun l => .string (str l)
theorem SV_len (ns : List (List UInt8)) : (SV ns).length = ns.length := List.length_map _
theorem SV_get (ns : List (List UInt8)) (j : Nat) (h : j < ns.length) (h' : j < (SV ns).length) : (SV ns)[j] = .string (str ns[j]) := by simp [SV]
theorem SV_app (a b : List (List UInt8)) : SV (a ++ b) = SV a ++ SV b := List.map_append
theorem SV_one (ns : List (List UInt8)) : ∀ u ∈ SV ns, u.oneCell' = true := by
  intro u hu
  obtain ⟨c, _, rfl⟩ := List.mem_map.1 hu
  rfl
theorem infoString : (Tryz.prog.info? 9).map (fun i => (i.zero, i.size, i.bytes)) = some (some (.string ⟨#[]⟩), 1, 16) := by kernel_rfl
theorem infoSpan : (Tryz.prog.info? 148).map (fun i => (i.zero, i.size, i.bytes)) = some (some (.agg #[.int .i64 0, .int .i64 0, .int .i64 0]), 3, 24) := by kernel_rfl
/-- The slice at address A reads as these names. -/
def Strs (w : World) (B : Nat) (A : Option Addr) (ns : List (List UInt8)) : Prop := SegC w B A (SV ns)
theorem Strs.at_ {w : World} {B : Nat} {A : Option Addr} {ns : List (List UInt8)} (h : Strs w B A ns) {k : Nat} (hk : k < ns.length) : ∃ b o, A = some ⟨b, o, none⟩ ∧ b < B ∧ w.cell? ⟨b, o + k, none⟩ = some (.string (str ns[k])) := by
  obtain ⟨b, o, e, hb, hc⟩ := h (by rw [SV_len]; omega)
  refine ⟨b, o, e, hb, ?_⟩
  have := hc k (by rw [SV_len]; exact hk)
  rwa [SV_get ns k hk] at this
/-- A slice of the call's own holds these names. -/
def OwnS (w : World) (base : Nat) (v : Value) (ns : List (List UInt8)) : Prop := w.ownsRow base 9 1 v ns.length (SV ns)
/-- Ranges as cells. -/
def RV (rs : List (Nat × Nat × Nat)) : List Value := rs.flatMap fun x => [.int .i64 x.1, .int .i64 x.2.1, .int .i64 x.2.2]
theorem RV_len (rs : List (Nat × Nat × Nat)) : (RV rs).length = rs.length * 3 := by
  unfold RV
  induction rs with
  | nil => rfl
  | cons x r ih => rw [List.flatMap_cons, List.length_append, ih, List.length_cons]; simp; omega
theorem RV_get : ∀ (rs : List (Nat × Nat × Nat)) (j : Nat) (h : j < rs.length), (RV rs)[3 * j]? = some (.int .i64 rs[j].1) ∧ (RV rs)[3 * j + 1]? = some (.int .i64 rs[j].2.1) ∧ (RV rs)[3 * j + 2]? = some (.int .i64 rs[j].2.2)
  | [], j, h => absurd h (Nat.not_lt_zero _)
  | x :: rs, 0, _ => ⟨rfl, rfl, rfl⟩
  | x :: rs, j + 1, h => by
    have := RV_get rs j (by simpa using h)
    have e : RV (x :: rs) = [.int .i64 x.1, .int .i64 x.2.1, .int .i64 x.2.2] ++ RV rs := rfl
    rw [e, List.getElem_cons_succ]
    refine ⟨?_, ?_, ?_⟩
    · rw [List.getElem?_append_right (by simp; omega), show 3 * (j + 1) - [Value.int .i64 x.1, .int .i64 x.2.1, .int .i64 x.2.2].length = 3 * j by simp; omega]; exact this.1
    · rw [List.getElem?_append_right (by simp; omega), show 3 * (j + 1) + 1 - [Value.int .i64 x.1, .int .i64 x.2.1, .int .i64 x.2.2].length = 3 * j + 1 by simp; omega]; exact this.2.1
    · rw [List.getElem?_append_right (by simp; omega), show 3 * (j + 1) + 2 - [Value.int .i64 x.1, .int .i64 x.2.1, .int .i64 x.2.2].length = 3 * j + 2 by simp; omega]; exact this.2.2
def OwnR (w : World) (base : Nat) (v : Value) (rs : List (Nat × Nat × Nat)) : Prop := w.ownsRow base 148 3 v rs.length (RV rs)
end Go.Proofs.YtjpihophigjbpaaGreatDoor.Hs
/-
  One range more, one name more, many names more.
-/
namespace Go.Proofs.YtjpihophigjbpaaGreatDoor.Hs
open Go.RowKit

theorem RV_app (a b : List (Nat × Nat × Nat)) : RV (a ++ b) = RV a ++ RV b := List.flatMap_append
theorem one_cells (w : World) (cs : List Value) (T : TypeId) : SegC (w.alloc (.cells cs.toArray T)) (w.heap.size + 1) (some ⟨w.heap.size, 0, none⟩) cs := fun _ => by
  refine ⟨w.heap.size, 0, rfl, Nat.lt_succ_self _, fun j hj => ?_⟩
  have h := heap_alloc_new w (.cells cs.toArray T)
  simp only [World.cell?, h, Nat.zero_add]
  simp [List.getElem?_eq_getElem hj]
section
variable {w : World} {ops : Array Oper} {rest : List Oper} {o : Oper} {a : Act} {Q : Exit → Act → World → Prop}
theorem app_span (hgd : o.guard = none) (s x : Operand) (ho : o.op = .call { callee := .builtin .append, args := #[s, x], argTypes := #[110, 110] })
    (base : Nat) (v : Value) (rs : List (Nat × Nat × Nat)) (p q r : Nat) (w0 : World) (hs : a.eval s = v) (hown : OwnR w0 base v rs)
    (hw : w = w0.alloc (.cells #[.int .i64 p, .int .i64 q, .int .i64 r] 148)) (g : Nat) (hg : g = w0.heap.size) (hx : a.eval x = .slice (some ⟨g, 0, none⟩) 1 1) (hlen : rs.length ≤ 1048576) (hbase : base ≤ w0.heap.size)
    (h : ∀ v' w', OwnR w' base v' (rs ++ [(p, q, r)]) → Below base w0 w' → wpList Tryz.prog ops Q rest (a.put o.dst v') w') : wpList Tryz.prog ops Q (o :: rest) a w := by
  subst hw
  subst hg
  refine app_own 110 148 (.agg #[.int .i64 0, .int .i64 0, .int .i64 0]) 3 24 Tryz.underlying110 infoSpan rfl (by decide) hgd s x ho base v rs.length (RV rs) hs (World.ownsRow.alloc hown _) (w0.heap.size + 1) (some ⟨w0.heap.size, 0, none⟩) 1 1 [.int .i64 p, .int .i64 q, .int .i64 r] hx (one_cells w0 _ _) rfl (fun u hu => by simp at hu; rcases hu with rfl | rfl | rfl <;> rfl) (fun h => by cases h) (by omega) (by omega) (by rw [World.size_alloc]; omega) ?_
  intro v' w' h1 _ h3
  refine h v' w' ?_ (((Below.refl _ _).alloc hbase _).trans h3)
  unfold OwnR
  rw [RV_app, List.length_append]
  exact h1
theorem app_name (hgd : o.guard = none) (s x : Operand) (ho : o.op = .call { callee := .builtin .append, args := #[s, x], argTypes := #[51, 51] })
    (base : Nat) (v : Value) (ns : List (List UInt8)) (n : List UInt8) (S : ByteArray) (hS : S = str n) (w0 : World) (hs : a.eval s = v) (hown : OwnS w0 base v ns)
    (hw : w = w0.alloc (.cells #[.string S] 9)) (g : Nat) (hg : g = w0.heap.size) (hx : a.eval x = .slice (some ⟨g, 0, none⟩) 1 1) (hlen : ns.length ≤ 1048576) (hbase : base ≤ w0.heap.size)
    (h : ∀ v' w', OwnS w' base v' (ns ++ [n]) → w0.grownBy w' v.ownBlock → Below base w0 w' → wpList Tryz.prog ops Q rest (a.put o.dst v') w') : wpList Tryz.prog ops Q (o :: rest) a w := by
  subst hS
  subst hw
  subst hg
  refine app_own 51 9 (.string ⟨#[]⟩) 1 16 Tryz.underlying51 infoString rfl (by decide) hgd s x ho base v ns.length (SV ns) hs (World.ownsRow.alloc hown _) (w0.heap.size + 1) (some ⟨w0.heap.size, 0, none⟩) 1 1 [.string (str n)] hx (one_cells w0 _ _) rfl (fun u hu => by simp at hu; rcases hu with rfl; rfl) (fun h => by cases h) (by omega) (by omega) (by rw [World.size_alloc]; omega) ?_
  intro v' w' h1 h2 h3
  refine h v' w' ?_ ⟨h2.os, h2.tape, h2.output, Nat.le_trans (by rw [World.size_alloc]; omega) h2.size, fun k hk hne => (h2.block k (by rw [World.size_alloc]; omega) hne).trans (Below.heap_alloc _ _ _ hk)⟩ (((Below.refl _ _).alloc hbase _).trans h3)
  unfold OwnS
  rw [SV_app, List.length_append]
  exact h1
theorem app_names (hgd : o.guard = none) (s x : Operand) (ho : o.op = .call { callee := .builtin .append, args := #[s, x], argTypes := #[51, 51] })
    (base : Nat) (v : Value) (ns : List (List UInt8)) (hs : a.eval s = v) (hown : OwnS w base v ns) (B : Nat) (A : Option Addr) (ms : List (List UInt8)) (c : Nat) (hx : a.eval x = .slice A ms.length c) (hr : Strs w B A ms) (hA : A = none → ms.length = 0)
    (hlen : ns.length + ms.length ≤ 1048576) (hbase : base ≤ w.heap.size)
    (h : ∀ v' w', OwnS w' base v' (ns ++ ms) → w.grownBy w' v.ownBlock → Below base w w' → wpList Tryz.prog ops Q rest (a.put o.dst v') w') : wpList Tryz.prog ops Q (o :: rest) a w := by
  refine app_own 51 9 (.string ⟨#[]⟩) 1 16 Tryz.underlying51 infoString rfl (by decide) hgd s x ho base v ns.length (SV ns) hs hown B A ms.length c (SV ms) hx hr (by rw [SV_len, Nat.mul_one]) (SV_one ms) hA (by omega) (by omega) hbase ?_
  intro v' w' h1 h2 h3
  refine h v' w' ?_ h2 h3
  unfold OwnS
  rw [SV_app, List.length_append]
  exact h1
end
theorem OwnS.shape {w : World} {base : Nat} {v : Value} {ns : List (List UInt8)} (h : OwnS w base v ns) : ∃ A cap, v = .slice A ns.length cap ∧ ns.length ≤ cap ∧ cap ≤ maxLen ∧ Strs w w.heap.size A ns := ownsRow_shape h
theorem OwnS.below {w w' : World} {base : Nat} {v : Value} {ns : List (List UInt8)} (h : OwnS w base v ns) (hb : Below w.heap.size w w') : OwnS w' base v ns := ownsRow_below h hb
theorem OwnS.base {w : World} {base base' : Nat} {v : Value} {ns : List (List UInt8)} (h : OwnS w base v ns) (hb : base' ≤ base) : OwnS w base' v ns := ownsRow_base h hb
theorem OwnS.nil (w : World) (base : Nat) : OwnS w base (.slice none 0 0) [] := ownsRow_nil w base _ _
theorem OwnR.below {w w' : World} {base : Nat} {v : Value} {ns : List (Nat × Nat × Nat)} (h : OwnR w base v ns) (hb : Below w.heap.size w w') : OwnR w' base v ns := ownsRow_below h hb
theorem OwnR.base {w : World} {base base' : Nat} {v : Value} {ns : List (Nat × Nat × Nat)} (h : OwnR w base v ns) (hb : base' ≤ base) : OwnR w base' v ns := ownsRow_base h hb
theorem OwnR.nil (w : World) (base : Nat) : OwnR w base (.slice none 0 0) [] := ownsRow_nil w base _ _
theorem OwnR.shape {w : World} {base : Nat} {v : Value} {rs : List (Nat × Nat × Nat)} (h : OwnR w base v rs) : ∃ A cap, v = .slice A rs.length cap ∧ rs.length ≤ cap ∧ cap ≤ maxLen ∧ SegC w w.heap.size A (RV rs) := ownsRow_shape h
theorem Strs.none_ {w : World} {B : Nat} {ns : List (List UInt8)} (h : Strs w B none ns) : ns.length = 0 := by
  by_cases h0 : 0 < ns.length
  · obtain ⟨b, o, e, _⟩ := h (by rw [SV_len]; exact h0)
    cases e
  · omega
end Go.Proofs.YtjpihophigjbpaaGreatDoor.Hs
/-
  Ranges, read.
-/
namespace Go.Proofs.YtjpihophigjbpaaGreatDoor.Hs
open Go.RowKit

def after (k : Nat) (xs : List (Nat × Nat × Nat)) : Res (List (Nat × Nat × Nat)) → Res (List (Nat × Nat × Nat))
  | .bad e j => .bad e (k + j)
  | .ok ys j => .ok (xs ++ ys) (k + j)
def cntOf (xs : List (Nat × Nat × Nat)) : Nat := (xs.map spanCount).sum
/-- What a call that reads ranges hands back. -/
def RangesPost (w : World) (a : Nat) (R : Res (List (Nat × Nat × Nat))) (e : Ending) (w' : World) : Prop := Below w.heap.size w w' ∧ match R with
  | .bad er k => e = .returned (.tuple #[.slice none 0 0, .int .i64 0, .int .i64 0, .agg #[.int .i64 er, .int .i64 ((a : Int) + (k : Int))]])
  | .ok xs k => ∃ v kept, e = .returned (.tuple #[v, .int .i64 (cntOf xs : Nat), .int .i64 ((a : Int) + (k : Int)), .agg #[.int .i64 0, .int .i64 0]]) ∧ OwnR w' w.heap.size v kept ∧ (cntOf xs ≤ 256 → kept = xs)
/-- A result's block for a fault. -/
def FBox (w : World) (b : Nat) : Prop := w.heap[b]? = some (.cells #[.int .i64 0, .int .i64 0] 88 (0, 0))
theorem FBox.facts {w : World} {b : Nat} (h : FBox w b) : w.cell? ⟨b, 0, none⟩ = some (.int .i64 0) ∧ w.cell? ⟨b, 1, none⟩ = some (.int .i64 0) ∧ w.frozen? ⟨b, 0, none⟩ = false ∧ w.frozen? ⟨b, 1, none⟩ = false ∧ b < w.heap.size := by
  unfold FBox at h
  exact ⟨by simp [World.cell?, h], by simp [World.cell?, h], by simp [World.frozen?, h], by simp [World.frozen?, h], lt_of_block h⟩
theorem FBox.below {w w' : World} {b B : Nat} (h : FBox w b) (hb : Below B w w') (hB : b < B) : FBox w' b := (hb.block b hB).trans h
theorem FBox.new (w : World) : FBox (w.alloc (.cells #[.int .i64 0, .int .i64 0] 88)) w.heap.size := heap_alloc_new w _
theorem cnt_app (xs : List (Nat × Nat × Nat)) (x : Nat × Nat × Nat) : cntOf (xs ++ [x]) = cntOf xs + spanCount x := by simp [cntOf]
/-- What the loop knows at its head. -/
def RangesInv (w : World) (R : List UInt8) (F a : Nat) (s1 s8 s9 : Value) (wr : World) : Prop := ∃ (k f : Nat) (xs kept : List (Nat × Nat × Nat)), s1 = .int .i64 ((a : Int) + (k : Int)) ∧ s9 = .int .i64 (cntOf xs : Nat) ∧ k ≤ R.length ∧ R.length - k < f ∧
  pRanges F R = after k xs (pRanges f (R.drop k)) ∧ OwnR wr (w.heap.size + 1) s8 kept ∧ (cntOf xs ≤ 256 → kept = xs) ∧ kept.length ≤ 256 ∧ kept.length ≤ cntOf xs ∧ cntOf xs ≤ 1000000 * k ∧ FBox wr w.heap.size ∧ Below w.heap.size w wr
/-- One range more was read: what the pieces come to. -/
theorem ranges_bad {R : List UInt8} {F k f e j : Nat} {xs : List (Nat × Nat × Nat)} (h : pRanges F R = after k xs (pRanges (f + 1) (R.drop k))) (hp : pRange (R.drop k) = .bad e j) : pRanges F R = .bad e (k + j) := by
  rw [h]; unfold pRanges; rw [hp]; rfl
theorem ranges_end {R : List UInt8} {F k f j : Nat} {x : Nat × Nat × Nat} {xs : List (Nat × Nat × Nat)} (h : pRanges F R = after k xs (pRanges (f + 1) (R.drop k))) (hp : pRange (R.drop k) = .ok x j) (hc : R[k + j]? = some 93) : pRanges F R = .ok (xs ++ [x]) (k + (j + 1)) := by
  rw [h]; unfold pRanges; rw [hp]; simp only; rw [List.getElem?_drop, if_pos hc]; rfl
theorem ranges_more {R : List UInt8} {F k f j : Nat} {x : Nat × Nat × Nat} {xs : List (Nat × Nat × Nat)} (h : pRanges F R = after k xs (pRanges (f + 1) (R.drop k))) (hp : pRange (R.drop k) = .ok x j) (hc : R[k + j]? = some 44) : pRanges F R = after (k + j + 1) (xs ++ [x]) (pRanges f (R.drop (k + j + 1))) := by
  rw [h]
  conv => lhs; unfold pRanges
  rw [hp]; simp only
  rw [List.getElem?_drop, if_neg (by rw [hc]; decide), if_pos hc, List.drop_drop, show k + (j + 1) = k + j + 1 by omega]
  cases pRanges f (R.drop (k + j + 1)) with
  | bad e i => simp [after]; omega
  | ok ys i => simp [after]; omega
theorem ranges_wrong {R : List UInt8} {F k f j : Nat} {x : Nat × Nat × Nat} {xs : List (Nat × Nat × Nat)} (h : pRanges F R = after k xs (pRanges (f + 1) (R.drop k))) (hp : pRange (R.drop k) = .ok x j) (hc : ¬ R[k + j]? = some 93) (hc' : ¬ R[k + j]? = some 44) : pRanges F R = .bad (wrg (R.drop (k + j))) (k + j) := by
  rw [h]; unfold pRanges; rw [hp]; simp only; rw [List.getElem?_drop, if_neg hc, if_neg hc', List.drop_drop]; rfl
theorem pRange_bad {r : List UInt8} {e k : Nat} (h : pRange r = .bad e k) : e ≠ 0 := by
  unfold pRange at h
  split at h
  · rename_i e' k' hn
    injection h with h1 _
    have := pNum_bad hn
    omega
  · split at h
    · unfold pSecond at h
      split at h
      · rename_i hn
        injection h with h1 _
        have := pNum_bad hn
        omega
      · split at h
        · injection h with h1 _; omega
        · simp at h
    · simp at h
theorem own_sets {w : World} {b : Nat} {v : Value} {rs : List (Nat × Nat × Nat)} {u0 u1 : Value} (h : OwnR w (b + 1) v rs) : OwnR ((w.setCell ⟨b, 0, none⟩ u0).setCell ⟨b, 1, none⟩ u1) b v rs := by
  refine ⟨h.1, ?_⟩
  rcases h.2 with ⟨rfl, hn⟩ | ⟨g, cap, cur, rfl, hg, hh, rest⟩
  · exact .inl ⟨rfl, hn⟩
  · exact .inr ⟨g, cap, cur, rfl, by omega, (Below.heap_setCell _ _ _ _ (by show g ≠ b; omega)).trans ((Below.heap_setCell _ _ _ _ (by show g ≠ b; omega)).trans hh), rest⟩
/-- What the world is when a range is there, and kept if few are. -/
def RangesCut (w : World) (c : Nat) (xs : List (Nat × Nat × Nat)) (s8 : Value) (wx : World) : Prop := ∃ kept, OwnR wx (w.heap.size + 1) s8 kept ∧ (c ≤ 256 → kept = xs) ∧ kept.length ≤ 256 ∧ kept.length ≤ c ∧ FBox wx w.heap.size ∧ Below w.heap.size w wx
set_option maxRecDepth 100000 in
set_option maxHeartbeats 4000000 in
theorem readRanges_any (s : ByteArray) (a : Nat) (ai : Int) (F : Nat) (w : World) (hai : ai = a) (hs : s.size ≤ 1099511627776) (ha : a ≤ s.size) (hF : s.size - a < F) :
    Calls Tryz.prog 93 #[.string s, .int .i64 ai] w (RangesPost w a (pRanges F ((bl s).drop a))) := by
  subst hai
  obtain ⟨R, hR⟩ : ∃ R, (bl s).drop a = R := ⟨_, rfl⟩
  have hRl : R.length = s.size - a := by rw [← hR, List.length_drop, bl_len]
  have hrd := fun k W (hk : a + k ≤ s.size) => readRange_any s (a + k) ((a : Int) + (k : Int)) W (by omega) (by omega) hk
  have hget : ∀ i, (bl s)[a + i]? = R[i]? := fun i => by rw [← hR, List.getElem?_drop]
  have hdr : ∀ i, (bl s).drop (a + i) = R.drop i := fun i => by rw [← hR, List.drop_drop]
  rw [hR]
  replace hR := fhid hR
  replace hRl := fhid hRl
  replace hrd := fhid hrd
  replace hget := fhid hget
  replace hdr := fhid hdr
  go_enter Tryz.func93, Tryz.ntmps93
  go_wp2
  go_loopw [1, 8, 9] (fun s1 s8 s9 wr => RangesInv w R F a s1 s8 s9 wr) (fun s1 _ _ _ => s.size + 1 - (intOf s1).toNat)
  case atStart =>
    refine ⟨0, F, [], [], by simp, rfl, Nat.zero_le _, by have := hRl.out; omega, ?_, OwnR.nil _ _, fun _ => rfl, by simp, by simp, by simp [cntOf], FBox.new w, (Below.refl _ _).alloc (Nat.le_refl _) _⟩
    rw [List.drop_zero]
    cases pRanges F R with
    | bad e j => simp [after]
    | ok ys j => simp [after]
  case round =>
    obtain ⟨k, f, xs, kept, rfl, rfl, hk, hf, heq, hown, hkx, hk6, hkc, hc6, hbx0, hB⟩ := hrel
    cases f with
    | zero => exact absurd hf (Nat.not_lt_zero _)
    | succ f =>
    have hsz := hB.size
    have hRl1 := hRl.out
    have hcall := hrd.out k wr (by omega)
    rw [hdr.out] at hcall
    replace heq := fhid heq
    replace hown := fhid hown
    replace hbx0 := fhid hbx0
    replace hkx := fhid hkx
    have i0 : (0 : Int) ≤ a := by omega
    have i1 : (a : Int) ≤ 1099511627776 := by omega
    have i2 : (0 : Int) ≤ k := by omega
    have i3 : (k : Int) ≤ 1099511627776 := by omega
    have hmeas : (a : Int) + k ≤ s.size := by omega
    cases hp : pRange (R.drop k) with
    | bad e j =>
      rw [hp] at hcall
      have hfin := fhid (ranges_bad heq.out hp)
      have he := pRange_bad hp
      have e1 : ((e : Int) != 0) = true := by simpa using he
      have e2 : ¬ (e : Int) = 0 := by omega
      clear hp he
      go_wp2_with fail
      refine hcall.mono ?_
      rintro e' w1 ⟨rfl, b1⟩
      have b2 := hB.trans (b1.mono hsz)
      obtain ⟨c0, c1, f0, f1, z0⟩ := (hbx0.out.below b1 (by obtain ⟨_, _, _, _, h⟩ := hbx0.out.facts; exact h)).facts
      have n0 := Nat.ne_of_lt z0
      simp only [rangeV]
      clear b1
      go_wp2_with fail
      go_region
      go_wp2_with fail
      refine bodyPost_ret (v := .tuple #[.slice none 0 0, .int .i64 0, .int .i64 0, .agg #[.int .i64 e, .int .i64 ((a : Int) + (k : Int) + (j : Int))]]) (by simp [results, Tryz.results93, go_sem, c0, c1, z0]) rfl ⟨?_, ?_⟩
      · have zb := b2.size
        have hbx := b2
        repeat' (first | (with_reducible exact hbx) | (with_reducible apply Below.drew) | (with_reducible apply Below.setCell) | (with_reducible apply Below.alloc))
        all_goals (first | omega | (simp; done) | (simp; omega))
      · rw [hfin.out]
        simp only
        rw [show (a : Int) + (k : Int) + (j : Int) = (a : Int) + ((k + j : Nat) : Int) by omega]
    | ok x j =>
      obtain ⟨x0, x1, x2⟩ := x
      rw [hp] at hcall
      obtain ⟨p1, p2, p3, p4, p5⟩ := pRange_ok hp
      rw [List.length_drop] at p2
      have hsc : spanCount (x0, x1, x2) = x1 + 1 - x0 := rfl
      have hcx := cnt_app xs (x0, x1, x2)
      rw [hsc] at hcx
      replace hp := fhid hp
      have j1 : (1 : Int) ≤ j := by omega
      have j2 : (j : Int) ≤ 1099511627776 := by omega
      have hx0 : (x0 : Int) ≤ x1 := by omega
      have hx1 : (x1 : Int) < 1000000 := by omega
      have hx2 : (0 : Int) ≤ x0 := by omega
      have hcI : ((cntOf xs : Nat) : Int) ≤ 1000000 * 1099511627776 := by
        have : 1000000 * k ≤ 1000000 * 1099511627776 := Nat.mul_le_mul_left _ (by omega)
        omega
      have hc0 : (0 : Int) ≤ (cntOf xs : Nat) := by omega
      have hcn : ((cntOf xs : Nat) : Int) + ((x1 : Int) - x0 + 1) = ((cntOf (xs ++ [(x0, x1, x2)]) : Nat) : Int) := by rw [hcx]; omega
      have hcb : cntOf (xs ++ [(x0, x1, x2)]) ≤ 1000000 * (k + j) := by rw [hcx]; omega
      have hmono : cntOf xs ≤ cntOf (xs ++ [(x0, x1, x2)]) := by omega
      have hmono1 : cntOf xs + 1 ≤ cntOf (xs ++ [(x0, x1, x2)]) := by omega
      clear hcx hsc p3 p4 p5 hc6
      replace hcn := fhid hcn
      go_wp2_with fail
      refine hcall.mono ?_
      rintro e' w1 ⟨rfl, b1⟩
      have b2 := hB.trans (b1.mono hsz)
      have hown1 := fhid (hown.out.below b1)
      have hbx1 := fhid (hbx0.out.below b1 (by obtain ⟨_, _, _, _, h⟩ := hbx0.out.facts; exact h))
      have z0 := (hbx1.out.facts).2.2.2.2
      have n0 := Nat.ne_of_lt z0
      simp only [rangeV]
      clear b1 hown hbx0
      go_upto_if 33 with fail
      go_cut [8] (fun s8 wx => RangesCut w (cntOf (xs ++ [(x0, x1, x2)])) (xs ++ [(x0, x1, x2)]) s8 wx)
      case first =>
        by_cases hle : cntOf (xs ++ [(x0, x1, x2)]) ≤ 256
        · have hq : ((cntOf xs : Nat) : Int) + ((x1 : Int) - x0 + 1) ≤ 256 := by have := hcn.out; omega
          have hkl : kept.length ≤ 255 := by omega
          have ho2 := fhid (World.ownsRow.alloc (World.ownsRow.alloc hown1.out (.cells #[.int .i64 x0, .int .i64 x1, .int .i64 x2] 148)) (.cells #[.int .i64 0, .int .i64 0] 88))
          replace hle := fhid hle
          replace hkl := fhid hkl
          rw [decide_eq_true hq]
          clear hq
          go_wp2_with (at_builtin
                       refine app_span rfl _ _ rfl (w.heap.size + 1) _ kept x0 x1 x2 _ rfl ho2.out rfl _ (by simp) rfl (by have := hkl.out; omega) (by simp; omega) ?_
                       intro v3 w3 o3 b3)
          go_meet
          have b4 : Below (w.heap.size + 1) w1 w3 := (((Below.refl _ _).alloc (by omega) _).alloc (by simp; omega) _).trans b3
          refine ⟨kept ++ [(x0, x1, x2)], o3, fun _ => by rw [hkx.out (by have := hle.out; omega)], by have := hkl.out; simp; omega, by simp; omega, hbx1.out.below b4 (by omega), b2.trans (b4.mono (by omega))⟩
        · have hq : ¬ ((cntOf xs : Nat) : Int) + ((x1 : Int) - x0 + 1) ≤ 256 := by have := hcn.out; omega
          replace hle := fhid hle
          rw [decide_eq_false hq]
          clear hq
          go_wp2_with fail
          go_meet
          have b4 : Below w1.heap.size w1 ((w1.alloc (.cells #[.int .i64 x0, .int .i64 x1, .int .i64 x2] 148)).alloc (.cells #[.int .i64 0, .int .i64 0] 88)) := ((Below.refl _ _).alloc (Nat.le_refl _) _).alloc (by simp) _
          exact ⟨kept, hown1.out.below b4, fun h => absurd h hle.out, hk6, by omega, hbx1.out.below b4 z0, b2.trans (b4.mono b2.size)⟩
      case rest =>
        obtain ⟨kept2, o2, k2x, k2l, k2c, fb2, hB2⟩ := hcut
        clear hown1 hbx1 hcall b2 z0 n0
        obtain ⟨c0, c1, f0, f1, z0⟩ := fb2.facts
        have n0 := Nat.ne_of_lt z0
        have st1 := fun W => stands_any s (a + k + j) ((a : Int) + k + j) 93 93 W (by omega) rfl
        have st2 := fun W => stands_any s (a + k + j) ((a : Int) + k + j) 44 44 W (by omega) rfl
        rw [show a + k + j = a + (k + j) by omega, hget.out] at st1 st2
        replace fb2 := fhid fb2
        replace o2 := fhid o2
        replace k2x := fhid k2x
        by_cases h93 : R[k + j]? = some 93
        · rw [decide_eq_true h93] at st1
          have hfin := fhid (ranges_end heq.out hp.out h93)
          clear h93 st2
          go_wp2_with (go_at_call 92; (with_reducible refine (st1 _).mono ?_); rintro e' w2 ⟨rfl, rfl⟩)
          refine bodyPost_ret (v := .tuple #[_, .int .i64 (((cntOf xs : Nat) : Int) + ((x1 : Int) - x0 + 1)), .int .i64 ((a : Int) + k + j + 1), .agg #[.int .i64 0, .int .i64 0]]) (by simp [results, Tryz.results93, go_sem, c0, c1]; rfl) rfl ⟨?_, ?_⟩
          · have zb := hB2.size
            have hbx := hB2
            repeat' (first | (with_reducible exact hbx) | (with_reducible apply Below.drew) | (with_reducible apply Below.setCell) | (with_reducible apply Below.alloc))
            all_goals (first | omega | (simp; done) | (simp; omega))
          · rw [hfin.out]
            simp only
            have b5 : Below (w.heap.size + 1) wc wc := Below.refl _ _
            exact ⟨_, kept2, by rw [hcn.out, show (a : Int) + k + j + 1 = (a : Int) + ((k + (j + 1) : Nat) : Int) by omega], own_sets o2.out, k2x.out⟩
        · rw [decide_eq_false h93] at st1
          by_cases h44 : R[k + j]? = some 44
          · rw [decide_eq_true h44] at st2
            have hfin := fhid (ranges_more heq.out hp.out h44)
            have hlt : k + j < R.length := by
              by_cases h : k + j < R.length
              · exact h
              · rw [List.getElem?_eq_none (by omega)] at h44; cases h44
            clear h93 h44
            go_wp2_with (first
              | (go_at_call 92; (with_reducible refine (st1 _).mono ?_); rintro e' w2 ⟨rfl, rfl⟩)
              | (go_at_call 92; (with_reducible refine (st2 _).mono ?_); rintro e' w2 ⟨rfl, rfl⟩))
            go_roundw
            case rel => exact ⟨k + j + 1, f, xs ++ [(x0, x1, x2)], kept2, by rw [show (a : Int) + k + j + 1 = (a : Int) + ((k + j + 1 : Nat) : Int) by omega], by rw [hcn.out], by omega, by omega, hfin.out, o2.out, k2x.out, k2l, k2c, by omega, fb2.out, hB2⟩
            case measure => simp [intOf]; omega
          · rw [decide_eq_false h44] at st2
            have hfin := fhid (ranges_wrong heq.out hp.out h93 h44)
            have hwr := fun W => wrong_any s (a + (k + j)) ((a : Int) + k + j) W (by omega) (by omega)
            rw [hdr.out] at hwr
            clear h93 h44
            go_wp2_with (first
              | (go_at_call 92; (with_reducible refine (st1 _).mono ?_); rintro e' w2 ⟨rfl, rfl⟩)
              | (go_at_call 92; (with_reducible refine (st2 _).mono ?_); rintro e' w2 ⟨rfl, rfl⟩)
              | (go_at_call 91; (with_reducible refine (hwr _).mono ?_); rintro e' w2 ⟨rfl, b5⟩
                 obtain ⟨d0, d1, g0, g1, z1⟩ := (fb2.out.below b5 z0).facts))
            have hbx := hB2.trans (b5.mono hB2.size)
            refine bodyPost_ret (v := .tuple #[.slice none 0 0, .int .i64 0, .int .i64 0, .agg #[.int .i64 (wrg (R.drop (k + j))), .int .i64 ((a : Int) + k + j)]]) (by simp [results, Tryz.results93, go_sem, d0, d1]) rfl ⟨?_, ?_⟩
            · have zb := hbx.size
              repeat' (first | (with_reducible exact hbx) | (with_reducible apply Below.drew) | (with_reducible apply Below.setCell) | (with_reducible apply Below.alloc))
              all_goals (first | omega | (simp; done) | (simp; omega))
            · rw [hfin.out]
              simp only
              rw [show (a : Int) + k + j = (a : Int) + ((k + j : Nat) : Int) by omega]
end Go.Proofs.YtjpihophigjbpaaGreatDoor.Hs
