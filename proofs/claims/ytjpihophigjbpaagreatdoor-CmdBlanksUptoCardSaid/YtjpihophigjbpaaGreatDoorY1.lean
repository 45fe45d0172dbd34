/-
  Parts: YMath YLeaf YNum YSpan YRange YSet YAdd YRanges YParse.
-/
import Derived.Test.YtjpihophigjbpaaGreatDoorD1
import Derived.Maps.RangeWalk
import Derived.Deep.QuietTactic
import Derived.BigQuiet
import Derived.Deep.DeepCutAuto
import Derived.Test.YtjpihophigjbpaaGreatDoorS0
import Derived.Test.YtjpihophigjbpaaGreatDoorS1
import Derived.Shelf.SlIterI.Nil
import Derived.Shelf.SortM.Plain
import Derived.Shelf.SortM.SortNone
set_option linter.unusedSimpArgs false
set_option linter.unusedVariables false
/-
  Plain mathematics: which arrays may be, an array's text, and what reading one comes to. No model in it.
-/
namespace Go.Proofs.YtjpihophigjbpaaGreatDoor.Ys
open Go.Proofs.YtjpihophigjbpaaGreatDoor.Ds

/-! Digits. -/
theorem tw_len {α : Type} {p : α → Bool} (l : List α) (j : Nat) (hj : j ≤ l.length) (ha : ∀ i (h : i < l.length), i < j → p l[i] = true) (hs : ∀ h : j < l.length, p l[j] = false) : (l.takeWhile p).length = j := by
  induction l generalizing j with
  | nil => simp at hj; subst hj; rfl
  | cons x r ih =>
    cases j with
    | zero =>
      have := hs (by simp)
      simp at this
      simp [this]
    | succ j =>
      have h0 := ha 0 (by simp) (by omega)
      simp at h0
      rw [List.takeWhile_cons, if_pos h0, List.length_cons, ih j (by simpa using hj) (fun i h hi => by have := ha (i + 1) (by rw [List.length_cons]; omega) (by omega); rwa [List.getElem_cons_succ] at this) (fun h => by have := hs (by rw [List.length_cons]; omega); rwa [List.getElem_cons_succ] at this)]
theorem tw_pre {α : Type} {p : α → Bool} (l : List α) (i : Nat) (h : i < (l.takeWhile p).length) (h' : i < l.length) : p l[i] = true := by
  have hp := List.takeWhile_prefix p (l := l)
  have : (l.takeWhile p)[i] = l[i] := List.IsPrefix.getElem hp h
  rw [← this]
  exact List.all_eq_true.1 (List.all_takeWhile) _ (List.getElem_mem h)
theorem dig_ofNat (k : Nat) (h : k < 10) : isDig (UInt8.ofNat (48 + k)) = true ∧ dv (UInt8.ofNat (48 + k)) = k := by
  have e : (UInt8.ofNat (48 + k)).toNat = 48 + k := by rw [UInt8.toNat_ofNat']; omega
  exact ⟨(isDig_iff _).2 (by omega), by unfold dv; omega⟩
theorem dec_facts (u : Nat) : (dec u).all isDig = true ∧ dval (dec u) = u ∧ 1 ≤ (dec u).length := by
  induction u using Nat.strongRecOn with
  | _ u ih =>
    by_cases h : u < 10
    · rw [dec_small h]
      have := dig_ofNat u h
      refine ⟨by rw [List.all_cons, this.1]; rfl, ?_, by simp⟩
      show dval ([] ++ [_]) = u
      rw [dval_snoc, this.2]; simp [dval]
    · rw [dec_big h]
      obtain ⟨h1, h2, _⟩ := ih (u / 10) (by omega)
      have := dig_ofNat (u % 10) (by omega)
      refine ⟨all_snoc.2 ⟨h1, this.1⟩, ?_, by simp⟩
      rw [dval_snoc, h2, this.2]; omega
theorem dec_len_le (k u : Nat) (hk : 1 ≤ k) (h : u < 10 ^ k) : (dec u).length ≤ k := by
  induction k generalizing u with
  | zero => omega
  | succ k ih =>
    by_cases hu : u < 10
    · rw [dec_small hu]; simp
    · rw [dec_big hu]
      rw [Nat.pow_succ] at h
      by_cases hk0 : k = 0
      · subst hk0; simp at h; omega
      · have := ih (u / 10) (by omega) (by omega)
        simp; omega
theorem tw_app {p : UInt8 → Bool} (a r : List UInt8) (ha : a.all p = true) (hr : ∀ c, r.head? = some c → p c = false) : (a ++ r).takeWhile p = a := by
  induction a with
  | nil =>
    cases r with
    | nil => rfl
    | cons c r => have := hr c rfl; simp [this]
  | cons x a ih =>
    rw [List.all_cons, Bool.and_eq_true] at ha
    rw [List.cons_append, List.takeWhile_cons, if_pos ha.1, ih ha.2]
/-- A number from 0 on, as text. -/
def num (n : Int) : List UInt8 := dec n.toNat

/-! Which arrays may be. -/
def prev (l : List Int) (j : Nat) : Int := if j = 0 then -1 else l.getD (j - 1) 0
def okAt (l : List Int) (j : Nat) : Bool := decide (prev l j < l.getD j 0) && decide (l.getD j 0 ≤ 999999)
theorem okAt_iff {l : List Int} {j : Nat} : okAt l j = true ↔ prev l j < l.getD j 0 ∧ l.getD j 0 ≤ 999999 := by unfold okAt; simp
def RightP (l : List Int) (lim : Int) : Prop := (1 ≤ l.length ∧ l.length ≤ 256) ∧ (∀ j, j < l.length → okAt l j = true) ∧ 0 ≤ lim ∧ lim ≤ 999999
instance (l : List Int) (lim : Int) : Decidable (RightP l lim) := by unfold RightP; infer_instance
def right (l : List Int) (lim : Int) : Bool := decide (RightP l lim)
theorem getD_get {l : List Int} {j : Nat} (h : j < l.length) : l.getD j 0 = l[j] := by
  rw [List.getD_eq_getElem?_getD, List.getElem?_eq_getElem h]; rfl
theorem RightP.up {l : List Int} {lim : Int} (h : RightP l lim) : l.Pairwise (· < ·) := by
  rw [List.pairwise_iff_getElem]
  intro i j hi hj hij
  have key : ∀ d, (hd : i + d + 1 < l.length) → l[i] < l[i + d + 1] := by
    intro d
    induction d with
    | zero =>
      intro hd
      have := (okAt_iff.1 (h.2.1 (i + 1) hd)).1
      unfold prev at this
      rw [if_neg (by omega), getD_get hd, getD_get (by omega)] at this
      exact this
    | succ d ih =>
      intro hd
      have h1 := ih (by omega)
      have := (okAt_iff.1 (h.2.1 (i + d + 2) (by omega))).1
      unfold prev at this
      rw [if_neg (by omega), getD_get (by omega), getD_get (by omega)] at this
      exact Int.lt_trans h1 this
  have := key (j - i - 1) (by omega)
  simpa [show i + (j - i - 1) + 1 = j by omega] using this
theorem RightP.range {l : List Int} {lim : Int} (h : RightP l lim) : ∀ x ∈ l, 0 ≤ x ∧ x ≤ 999999 := by
  intro x hx
  obtain ⟨j, hj, rfl⟩ := List.getElem_of_mem hx
  have h2 := (okAt_iff.1 (h.2.1 j hj)).2
  rw [getD_get hj] at h2
  refine ⟨?_, h2⟩
  have h0 := (okAt_iff.1 (h.2.1 0 (by omega))).1
  unfold prev at h0
  rw [if_pos rfl, getD_get (by omega)] at h0
  by_cases e : j = 0
  · subst e; omega
  · have := List.pairwise_iff_getElem.1 h.up 0 j (by omega) hj (by omega)
    omega
theorem RightP.mk' {l : List Int} {lim : Int} (h1 : 1 ≤ l.length) (h2 : l.length ≤ 256) (hu : l.Pairwise (· < ·)) (hr : ∀ x ∈ l, 0 ≤ x ∧ x ≤ 999999) (h3 : 0 ≤ lim) (h4 : lim ≤ 999999) : RightP l lim := by
  refine ⟨⟨h1, h2⟩, fun j hj => okAt_iff.2 ⟨?_, ?_⟩, h3, h4⟩
  · rw [getD_get hj]
    unfold prev
    have := (hr _ (List.getElem_mem hj)).1
    split
    · omega
    · rw [getD_get (by omega)]
      exact List.pairwise_iff_getElem.1 hu (j - 1) j (by omega) hj (by omega)
  · rw [getD_get hj]
    exact (hr _ (List.getElem_mem hj)).2

/-! How many of the first ones make a range. -/
def stepOf (l : List Int) : Int := l.getD 1 0 - l.getD 0 0
def stepsOn (l : List Int) (i : Nat) : Bool := decide (l.getD (i + 1) 0 - l.getD i 0 = stepOf l)
def maxRun (l : List Int) : Nat := 1 + ((List.range (l.length - 1)).takeWhile (stepsOn l)).length
theorem maxRun_of {l : List Int} {k : Nat} (h1 : 1 ≤ k) (hk : k ≤ l.length) (ha : ∀ j, j + 1 < k → l.getD (j + 1) 0 - l.getD j 0 = stepOf l) (hs : k < l.length → l.getD k 0 - l.getD (k - 1) 0 ≠ stepOf l) : maxRun l = k := by
  unfold maxRun
  rw [tw_len (p := stepsOn l) (List.range (l.length - 1)) (k - 1) (by rw [List.length_range]; omega) (fun i h hi => ?_) (fun h => ?_)]
  · omega
  · rw [List.getElem_range]
    exact decide_eq_true (ha i (by omega))
  · rw [List.length_range] at h
    rw [List.getElem_range]
    have := hs (by omega)
    rw [show k = k - 1 + 1 by omega] at this
    exact decide_eq_false (by simpa using this)
theorem maxRun_le {l : List Int} (h : l ≠ []) : 1 ≤ maxRun l ∧ maxRun l ≤ l.length := by
  have := (List.takeWhile_prefix (stepsOn l) (l := List.range (l.length - 1))).length_le
  rw [List.length_range] at this
  have := List.length_pos_iff.2 h
  unfold maxRun
  omega
theorem maxRun_step {l : List Int} {j : Nat} (h : j + 1 < maxRun l) : l.getD (j + 1) 0 - l.getD j 0 = stepOf l := by
  unfold maxRun at h
  have hp := (List.takeWhile_prefix (stepsOn l) (l := List.range (l.length - 1))).length_le
  have := tw_pre (p := stepsOn l) (List.range (l.length - 1)) j (by omega) (by omega)
  rw [List.getElem_range] at this
  exact of_decide_eq_true this
theorem maxRun_at {l : List Int} {j : Nat} (h : j < maxRun l) : l.getD j 0 = l.getD 0 0 + j * stepOf l := by
  induction j with
  | zero => simp
  | succ j ih =>
    have h1 := ih (by omega)
    have h2 := maxRun_step h
    have h3 : ((j + 1 : Nat) : Int) * stepOf l = j * stepOf l + stepOf l := by rw [Int.natCast_add, Int.add_mul]; simp
    omega
def cutN (l : List Int) : Nat := if maxRun l = 2 ∧ stepOf l ≠ 1 then 1 else maxRun l
theorem cutN_le {l : List Int} (h : l ≠ []) : 1 ≤ cutN l ∧ cutN l ≤ l.length ∧ cutN l ≤ maxRun l := by
  have := maxRun_le h
  unfold cutN
  split <;> omega
/-- The text of a range of the first k. -/
def pieceT (l : List Int) (k : Nat) : List UInt8 := num (l.getD 0 0) ++ if k = 1 then [] else 45 :: (num (l.getD (k - 1) 0) ++ if stepOf l = 1 then [] else 58 :: num (stepOf l))
def pieces : Nat → List Int → List (List UInt8)
  | 0, _ => []
  | f + 1, l => if l = [] then [] else pieceT l (cutN l) :: pieces f (l.drop (cutN l))
theorem pieces_none (f : Nat) : pieces f [] = [] := by cases f <;> rfl
theorem pieces_some (f : Nat) {l : List Int} (h : l ≠ []) : pieces (f + 1) l = pieceT l (cutN l) :: pieces f (l.drop (cutN l)) := by
  rw [pieces, if_neg h]
def fmtT (l : List Int) (lim : Int) : List UInt8 := Go.Lib.join (pieces l.length l) [44] ++ if lim = 0 then [] else 37 :: num lim

/-! Reading. -/
def pNum (low : Int) (t : List UInt8) : Option (Int × List UInt8) :=
  if (t.takeWhile isDig).length = 0 ∨ 6 < (t.takeWhile isDig).length then none
  else if ((dval (t.takeWhile isDig) : Nat) : Int) < low then none else some (((dval (t.takeWhile isDig) : Nat) : Int), t.drop (t.takeWhile isDig).length)
/-- A range: its first number, its last one, its step. -/
abbrev Sp := Int × Int × Int
def pRange (t : List UInt8) : Option (Sp × List UInt8) := match pNum 0 t with
  | none => none
  | some (x, r) => if r.head? = some 45 then (match pNum x r.tail with
      | none => none
      | some (y, r2) => if r2.head? = some 58 then (match pNum 1 r2.tail with
          | none => none
          | some (st, r3) => some ((x, y, st), r3)) else some ((x, y, 1), r2))
    else some ((x, x, 1), r)
def spN (x : Sp) : Nat := ((x.2.1 - x.1) / x.2.2 + 1).toNat
def spL (x : Sp) : List Int := (List.range (spN x)).map fun (i : Nat) => x.1 + (i : Int) * x.2.2
def pRanges : Nat → List Int → List UInt8 → Option (List Int × List UInt8)
  | 0, _, _ => none
  | f + 1, came, t => match pRange t with
    | none => none
    | some (x, r) => if 256 < came.length + spN x ∨ ¬ (∀ n ∈ spL x, n ∉ came) then none else if r.head? = some 44 then pRanges f (came ++ spL x) r.tail else some (came ++ spL x, r)
def srt (l : List Int) : List Int := l.mergeSort fun x y => decide (x ≤ y)
def pArr (s : List UInt8) : Option (List Int × Int) := match pRanges (s.length + 1) [] s with
  | none => none
  | some (came, r) => if r.head? = some 37 then (match pNum 1 r.tail with
      | none => none
      | some (n, r2) => if r2 = [] then some (srt came, n) else none)
    else if r = [] then some (srt came, 0) else none

theorem pNum_facts {low n : Int} {t r : List UInt8} (h : pNum low t = some (n, r)) : 0 ≤ n ∧ n ≤ 999999 ∧ low ≤ n ∧ r.length < t.length := by
  unfold pNum at h
  split at h
  · cases h
  · rename_i hl
    split at h
    · cases h
    · rename_i hlow
      injection h with h
      injection h with hn hr
      subst hn hr
      have hb := dval_lt _ _ rfl (List.all_takeWhile (p := isDig) (l := t))
      have h6 : 10 ^ (t.takeWhile isDig).length ≤ 10 ^ 6 := Nat.pow_le_pow_right (by decide) (by omega)
      have : (10 : Nat) ^ 6 = 1000000 := by decide
      have hle := (List.takeWhile_prefix isDig (l := t)).length_le
      refine ⟨by omega, by omega, by omega, ?_⟩
      rw [List.length_drop]
      omega
theorem num_facts {n : Int} (h0 : 0 ≤ n) (h1 : n ≤ 999999) : (num n).all isDig = true ∧ ((dval (num n) : Nat) : Int) = n ∧ 1 ≤ (num n).length ∧ (num n).length ≤ 6 := by
  obtain ⟨a, b, c⟩ := dec_facts n.toNat
  refine ⟨a, ?_, c, dec_len_le 6 _ (by decide) (by omega)⟩
  unfold num
  rw [b]; omega
theorem pNum_num {low n : Int} {r : List UInt8} (h0 : 0 ≤ n) (h1 : n ≤ 999999) (hl : low ≤ n) (hr : ∀ c, r.head? = some c → isDig c = false) : pNum low (num n ++ r) = some (n, r) := by
  obtain ⟨a, b, c, d⟩ := num_facts h0 h1
  unfold pNum
  rw [tw_app _ _ a hr, if_neg (by omega), b, if_neg (by omega), List.drop_left]
/-- What may stand behind a range. -/
def Behind (r : List UInt8) : Prop := ∀ c, r.head? = some c → c = 44 ∨ c = 37
theorem Behind.dig {r : List UInt8} (h : Behind r) : ∀ c, r.head? = some c → isDig c = false := fun c hc => by
  rcases h c hc with rfl | rfl <;> rfl
theorem Behind.not {r : List UInt8} (h : Behind r) : r.head? ≠ some 45 ∧ r.head? ≠ some 58 :=
  ⟨(fun e => by rcases h 45 e with h | h <;> cases h), (fun e => by rcases h 58 e with h | h <;> cases h)⟩
theorem spL_len (x : Sp) : (spL x).length = spN x := by unfold spL; rw [List.length_map, List.length_range]
theorem spL_of {l : List Int} {x y st : Int} {k : Nat} (hk : k ≤ l.length) (hn : spN (x, y, st) = k) (h : ∀ j, j < k → l.getD j 0 = x + j * st) : spL (x, y, st) = l.take k := by
  apply List.ext_getElem
  · rw [spL_len, hn, List.length_take]; omega
  · intro j h1 h2
    rw [spL_len, hn] at h1
    rw [List.getElem_take, ← getD_get (l := l) (by omega), h j h1]
    simp [spL]
theorem pRange_piece {l : List Int} (hne : l ≠ []) (hu : l.Pairwise (· < ·)) (hx : ∀ x ∈ l, 0 ≤ x ∧ x ≤ 999999) {r : List UInt8} (hr : Behind r) : ∃ x : Sp, pRange (pieceT l (cutN l) ++ r) = some (x, r) ∧ spL x = l.take (cutN l) := by
  obtain ⟨c1, c2, c3⟩ := cutN_le hne
  have hat : ∀ j, j < l.length → 0 ≤ l.getD j 0 ∧ l.getD j 0 ≤ 999999 := fun j hj => by rw [getD_get hj]; exact hx _ (List.getElem_mem hj)
  obtain ⟨a0, a1⟩ := hat 0 (by omega)
  unfold pieceT
  by_cases h1 : cutN l = 1
  · rw [if_pos h1, List.append_nil]
    refine ⟨(l.getD 0 0, l.getD 0 0, 1), ?_, ?_⟩
    · unfold pRange
      rw [pNum_num a0 a1 a0 hr.dig]
      simp only [if_neg hr.not.1]
    · rw [h1]
      exact spL_of (by omega) (by unfold spN; simp) fun j hj => by
        have : j = 0 := by omega
        subst this; simp
  · rw [if_neg h1]
    have hk2 : 2 ≤ cutN l := by omega
    have hst : 1 ≤ stepOf l := by
      unfold stepOf
      rw [getD_get (j := 1) (by omega), getD_get (j := 0) (by omega)]
      have := List.pairwise_iff_getElem.1 hu 0 1 (by omega) (by omega) (by omega)
      omega
    obtain ⟨b0, b1⟩ := hat (cutN l - 1) (by omega)
    have hlast := maxRun_at (l := l) (j := cutN l - 1) (by omega)
    have e1 : ((cutN l - 1 : Nat) : Int) = (cutN l : Int) - 1 := by omega
    have hle : l.getD 0 0 ≤ l.getD (cutN l - 1) 0 := by
      rw [hlast]
      have : 0 ≤ ((cutN l - 1 : Nat) : Int) * stepOf l := Int.mul_nonneg (by omega) (by omega)
      omega
    have hN : spN (l.getD 0 0, l.getD (cutN l - 1) 0, stepOf l) = cutN l := by
      unfold spN
      show ((l.getD (cutN l - 1) 0 - l.getD 0 0) / stepOf l + 1).toNat = cutN l
      rw [hlast, show l.getD 0 0 + ((cutN l - 1 : Nat) : Int) * stepOf l - l.getD 0 0 = ((cutN l - 1 : Nat) : Int) * stepOf l by omega, Int.mul_ediv_cancel _ (by omega)]
      omega
    have hL := spL_of (l := l) (k := cutN l) c2 hN fun j hj => maxRun_at (by omega)
    by_cases h2 : stepOf l = 1
    · rw [if_pos h2, List.append_nil, List.append_assoc, List.cons_append]
      rw [h2] at hL
      refine ⟨_, ?_, hL⟩
      unfold pRange
      rw [pNum_num a0 a1 a0 (fun c hc => by simp at hc; subst hc; rfl)]
      simp only [List.head?_cons, if_true, List.tail_cons]
      rw [pNum_num b0 b1 hle hr.dig]
      simp only [if_neg hr.not.2]
    · have hs6 : stepOf l ≤ 999999 := by
        unfold stepOf
        have := hat 1 (by omega)
        omega
      rw [if_neg h2, List.append_assoc, List.cons_append, List.append_assoc, List.cons_append]
      refine ⟨_, ?_, hL⟩
      unfold pRange
      rw [pNum_num a0 a1 a0 (fun c hc => by simp at hc; subst hc; rfl)]
      simp only [List.head?_cons, if_true, List.tail_cons]
      rw [pNum_num b0 b1 hle (fun c hc => by simp at hc; subst hc; rfl)]
      simp only [List.head?_cons, if_true, List.tail_cons]
      rw [pNum_num (by omega) hs6 hst hr.dig]
theorem pRanges_pieces : ∀ (g f : Nat) (came l : List Int) (r : List UInt8), l.length ≤ g → l ≠ [] → (pieces g l).length ≤ f → (came ++ l).Pairwise (· < ·) → (∀ x ∈ l, 0 ≤ x ∧ x ≤ 999999) → came.length + l.length ≤ 256 → (∀ c, r.head? = some c → c = 37) →
    pRanges f came (Go.Lib.join (pieces g l) [44] ++ r) = some (came ++ l, r)
  | 0, _, _, l, _, hg, hne, _, _, _, _, _ => absurd (List.eq_nil_of_length_eq_zero (by omega)) hne
  | g + 1, f, came, l, r, hg, hne, hf, hu, hx, h256, hr => by
    obtain ⟨c1, c2, c3⟩ := cutN_le hne
    rw [pieces_some g hne] at hf ⊢
    rw [List.length_cons] at hf
    cases f with
    | zero => omega
    | succ f =>
    have hul := (List.pairwise_append.1 hu).2.1
    have hcross := (List.pairwise_append.1 hu).2.2
    have hlen : (l.take (cutN l)).length = cutN l := by rw [List.length_take]; omega
    have hgo : ∀ (x : Sp) (r' : List UInt8), spL x = l.take (cutN l) → pRange (pieceT l (cutN l) ++ r') = some (x, r') →
        pRanges (f + 1) came (pieceT l (cutN l) ++ r') = if r'.head? = some 44 then pRanges f (came ++ l.take (cutN l)) r'.tail else some (came ++ l.take (cutN l), r') := fun x r' hL hp => by
      have hN : spN x = cutN l := by rw [← spL_len, hL, hlen]
      rw [pRanges, hp]
      simp only
      rw [hN, hL, if_neg]
      rintro (h | h)
      · omega
      · exact h fun n hn hc => Int.lt_irrefl _ (hcross n hc n (List.mem_of_mem_take hn))
    by_cases hd : l.drop (cutN l) = []
    · rw [hd, pieces_none, Go.Lib.join_cons]
      have hj : Go.Lib.joinTail [44] [] = [] := by simp [Go.Lib.joinTail]
      rw [hj, List.append_nil]
      obtain ⟨x, hp, hL⟩ := pRange_piece hne hul hx (r := r) (fun c hc => .inr (hr c hc))
      rw [hgo x r hL hp, if_neg (fun e => by have := hr 44 e; cases this)]
      have : l.take (cutN l) = l := by
        conv => rhs; rw [← List.take_append_drop (cutN l) l, hd, List.append_nil]
      rw [this]
    · have hpc : ∃ p ps, pieces g (l.drop (cutN l)) = p :: ps := by
        cases g with
        | zero => exact absurd (List.eq_nil_of_length_eq_zero (by rw [List.length_drop]; omega)) hd
        | succ g => exact ⟨_, _, pieces_some g hd⟩
      obtain ⟨p, ps, hpp⟩ := hpc
      have hj : Go.Lib.join (pieceT l (cutN l) :: p :: ps) [44] ++ r = pieceT l (cutN l) ++ (44 :: (Go.Lib.join (p :: ps) [44] ++ r)) := by
        rw [Go.Lib.join_cons, Go.Lib.join_cons]
        simp [Go.Lib.joinTail]
      rw [hpp, hj, ← hpp]
      obtain ⟨x, hp, hL⟩ := pRange_piece hne hul hx (r := 44 :: (Go.Lib.join (pieces g (l.drop (cutN l))) [44] ++ r)) (fun c hc => by simp at hc; exact .inl hc.symm)
      rw [hgo x _ hL hp, if_pos List.head?_cons, List.tail_cons]
      have := pRanges_pieces g f (came ++ l.take (cutN l)) (l.drop (cutN l)) r (by rw [List.length_drop]; omega) hd (by omega) (by rw [List.append_assoc, List.take_append_drop]; exact hu) (fun y hy => hx y (List.mem_of_mem_drop hy)) (by rw [List.length_append, hlen, List.length_drop]; omega) hr
      rw [this, List.append_assoc, List.take_append_drop]
theorem pieceT_pos {l : List Int} {k : Nat} : 1 ≤ (pieceT l k).length := by
  unfold pieceT num
  have := (dec_facts (l.getD 0 0).toNat).2.2
  rw [List.length_append]
  omega
theorem pieces_pos : ∀ (g : Nat) (l : List Int), ∀ p ∈ pieces g l, 1 ≤ p.length
  | 0, _, p, h => by cases h
  | g + 1, l, p, h => by
    unfold pieces at h
    split at h
    · cases h
    · rcases List.mem_cons.1 h with h | h
      · rw [h]; exact pieceT_pos
      · exact pieces_pos g _ p h
theorem join_many {l : List (List UInt8)} (h : ∀ p ∈ l, 1 ≤ p.length) : l.length ≤ (Go.Lib.join l [44]).length := by
  have ht : ∀ r : List (List UInt8), (∀ p ∈ r, 1 ≤ p.length) → r.length ≤ (Go.Lib.joinTail [44] r).length := by
    intro r
    induction r with
    | nil => intro _; simp
    | cons x r ih =>
      intro h
      have h2 := ih (fun d hd => h d (by simp [hd]))
      have e : Go.Lib.joinTail [44] (x :: r) = 44 :: x ++ Go.Lib.joinTail [44] r := by simp [Go.Lib.joinTail]
      rw [e, List.length_append, List.length_cons, List.length_cons]
      omega
  cases l with
  | nil => simp
  | cons x r =>
    rw [Go.Lib.join_cons, List.length_append, List.length_cons]
    have h1 := h x (by simp)
    have h2 := ht r (fun d hd => h d (by simp [hd]))
    omega
theorem srt_id {l : List Int} (h : l.Pairwise (· < ·)) : srt l = l :=
  List.mergeSort_of_pairwise (h.imp fun h => by simpa using Int.le_of_lt h)
/-- What is formatted is parsed. -/
theorem pArr_fmt {l : List Int} {lim : Int} (h : RightP l lim) : pArr (fmtT l lim) = some (l, lim) := by
  have hne : l ≠ [] := fun e => by have := h.1.1; rw [e] at this; simp at this
  have hu := h.up
  have hx := h.range
  have hk := join_many (pieces_pos l.length l)
  unfold pArr fmtT
  by_cases h0 : lim = 0
  · subst h0
    rw [if_pos rfl, pRanges_pieces l.length _ [] l [] (Nat.le_refl _) hne (by rw [List.append_nil]; omega) hu hx (by have := h.1.2; simpa using this) (fun c hc => by cases hc)]
    simp only [List.nil_append, List.head?_nil]
    rw [if_neg (by simp), if_pos trivial, srt_id hu]
  · rw [if_neg h0, pRanges_pieces l.length _ [] l (37 :: num lim) (Nat.le_refl _) hne (by rw [List.length_append]; omega) hu hx (by have := h.1.2; simpa using this) (fun c hc => by simp at hc; exact hc.symm)]
    simp only [List.nil_append, List.head?_cons, if_true, List.tail_cons]
    have := pNum_num (low := 1) (n := lim) (r := []) (by have := h.2.2.1; omega) h.2.2.2 (by have := h.2.2.1; omega) (fun c hc => by cases hc)
    rw [List.append_nil] at this
    rw [this]
    simp [srt_id hu]

/-! What is parsed may be. -/
theorem spN_pos {x y st : Int} (h : x ≤ y) (hs : 1 ≤ st) : 1 ≤ spN (x, y, st) := by
  unfold spN
  have : 0 ≤ (y - x) / st := Int.ediv_nonneg (by omega) (by omega)
  show 1 ≤ ((y - x) / st + 1).toNat
  omega
theorem spL_facts {x y st : Int} (h0 : 0 ≤ x) (h : x ≤ y) (hs : 1 ≤ st) : (spL (x, y, st)).Nodup ∧ ∀ n ∈ spL (x, y, st), 0 ≤ n ∧ n ≤ y := by
  refine ⟨?_, fun n hn => ?_⟩
  · unfold spL
    rw [List.Nodup, List.pairwise_map]
    refine List.Pairwise.imp (R := fun a b => a < b) (fun {a b} hab e => ?_) List.pairwise_lt_range
    have e' : (a : Int) * st = b * st := Int.add_left_cancel e
    have := Int.eq_of_mul_eq_mul_right (by omega) e'
    omega
  · unfold spL at hn
    obtain ⟨i, hi, rfl⟩ := List.mem_map.1 hn
    rw [List.mem_range] at hi
    unfold spN at hi
    have hi2 : (i : Int) ≤ (y - x) / st := by
      have : (i : Int) < ((y - x) / st + 1) := by
        have h2 : 0 ≤ (y - x) / st := Int.ediv_nonneg (by omega) (by omega)
        simp only at hi
        omega
      omega
    have h1 : (i : Int) * st ≤ (y - x) / st * st := Int.mul_le_mul_of_nonneg_right hi2 (by omega)
    have h2 : (y - x) / st * st ≤ y - x := Int.ediv_mul_le _ (by omega)
    have h3 : 0 ≤ (i : Int) * st := Int.mul_nonneg (by omega) (by omega)
    show 0 ≤ x + (i : Int) * st ∧ x + (i : Int) * st ≤ y
    omega
theorem pRange_facts {t r : List UInt8} {x : Sp} (h : pRange t = some (x, r)) : (0 ≤ x.1 ∧ x.1 ≤ x.2.1 ∧ x.2.1 ≤ 999999 ∧ 1 ≤ x.2.2 ∧ x.2.2 ≤ 999999) ∧ r.length < t.length := by
  unfold pRange at h
  cases h1 : pNum 0 t with
  | none => rw [h1] at h; cases h
  | some q =>
    obtain ⟨a, r1⟩ := q
    rw [h1] at h
    simp only at h
    obtain ⟨a0, a1, _, a3⟩ := pNum_facts h1
    split at h
    · cases h2 : pNum a r1.tail with
      | none => rw [h2] at h; cases h
      | some q =>
        obtain ⟨b, r2⟩ := q
        rw [h2] at h
        simp only at h
        obtain ⟨b0, b1, b2, b3⟩ := pNum_facts h2
        rw [List.length_tail] at b3
        split at h
        · cases h3 : pNum 1 r2.tail with
          | none => rw [h3] at h; cases h
          | some q =>
            obtain ⟨c, r3⟩ := q
            rw [h3] at h
            simp only at h
            obtain ⟨c0, c1, c2, c3⟩ := pNum_facts h3
            rw [List.length_tail] at c3
            injection h with h
            injection h with hx hr
            subst hx hr
            exact ⟨⟨a0, b2, b1, c2, c1⟩, by omega⟩
        · injection h with h
          injection h with hx hr
          subst hx hr
          exact ⟨⟨a0, b2, b1, Int.le_refl 1, show (1 : Int) ≤ 999999 by decide⟩, by omega⟩
    · injection h with h
      injection h with hx hr
      subst hx hr
      exact ⟨⟨a0, Int.le_refl _, a1, Int.le_refl 1, show (1 : Int) ≤ 999999 by decide⟩, a3⟩
/-- Indexes that came: each once, none too great, not too many. -/
def Came (l : List Int) : Prop := l.Nodup ∧ (∀ n ∈ l, 0 ≤ n ∧ n ≤ 999999) ∧ l.length ≤ 256
theorem Came.more {l : List Int} (h : Came l) {x : Sp} {t r : List UInt8} (hx : pRange t = some (x, r)) (h1 : ¬ (256 < l.length + spN x ∨ ¬ ∀ n ∈ spL x, n ∉ l)) : Came (l ++ spL x) ∧ 1 ≤ (l ++ spL x).length := by
  obtain ⟨x1, x2, x3⟩ := x
  obtain ⟨⟨a, b, c, d, _⟩, _⟩ := pRange_facts hx
  simp only at a b c d
  obtain ⟨e, f⟩ := spL_facts a b d
  have h2 := Classical.not_not.1 (fun hh => h1 (.inr hh))
  refine ⟨⟨List.nodup_append.2 ⟨h.1, e, fun y hy z hz hyz => ?_⟩, fun n hn => ?_, ?_⟩, ?_⟩
  · subst hyz; exact h2 y hz hy
  · rcases List.mem_append.1 hn with hn | hn
    · exact h.2.1 n hn
    · have := f n hn; omega
  · rw [List.length_append, spL_len]; omega
  · rw [List.length_append, spL_len]
    have := spN_pos b d
    omega
theorem pRanges_came : ∀ (f : Nat) (came : List Int) (t : List UInt8) (l : List Int) (r : List UInt8), pRanges f came t = some (l, r) → Came came → Came l ∧ 1 ≤ l.length
  | 0, _, _, _, _, h, _ => by cases h
  | f + 1, came, t, l, r, h, hc => by
    unfold pRanges at h
    cases h1 : pRange t with
    | none => rw [h1] at h; cases h
    | some q =>
      obtain ⟨x, r1⟩ := q
      rw [h1] at h
      simp only at h
      split at h
      · cases h
      · rename_i hn
        obtain ⟨m1, m2⟩ := hc.more h1 hn
        split at h
        · exact pRanges_came f _ _ l r h m1
        · injection h with h
          injection h with hx hr
          subst hx
          exact ⟨m1, m2⟩
theorem srt_right {l : List Int} (h : Came l) (h1 : 1 ≤ l.length) {lim : Int} (h3 : 0 ≤ lim) (h4 : lim ≤ 999999) : RightP (srt l) lim := by
  have hp : (srt l).Perm l := List.mergeSort_perm l _
  have hs : (srt l).Pairwise (fun a b => decide (a ≤ b) = true) := List.pairwise_mergeSort (fun a b c h1 h2 => by simp at *; omega) (fun a b => by simp; omega) l
  have hn : (srt l).Nodup := hp.symm.nodup h.1
  refine RightP.mk' (by rw [hp.length_eq]; exact h1) (by rw [hp.length_eq]; exact h.2.2) ?_ (fun x hx => h.2.1 x (hp.mem_iff.1 hx)) h3 h4
  refine (hs.and hn).imp fun {a b} h => ?_
  obtain ⟨h1, h2⟩ := h
  have h1 : a ≤ b := of_decide_eq_true h1
  omega
theorem pArr_right {s : List UInt8} {l : List Int} {lim : Int} (h : pArr s = some (l, lim)) : RightP l lim := by
  unfold pArr at h
  cases h1 : pRanges (s.length + 1) [] s with
  | none => rw [h1] at h; cases h
  | some q =>
    obtain ⟨came, r⟩ := q
    rw [h1] at h
    simp only at h
    obtain ⟨c1, c2⟩ := pRanges_came _ _ _ _ _ h1 ⟨List.nodup_nil, (fun n hn => by cases hn), by simp⟩
    split at h
    · cases h2 : pNum 1 r.tail with
      | none => rw [h2] at h; cases h
      | some q =>
        obtain ⟨n, r2⟩ := q
        rw [h2] at h
        simp only at h
        obtain ⟨n0, n1, _⟩ := pNum_facts h2
        split at h
        · injection h with h
          injection h with hx hr
          subst hx hr
          exact srt_right c1 c2 n0 n1
        · cases h
    · split at h
      · injection h with h
        injection h with hx hr
        subst hx hr
        exact srt_right c1 c2 (by decide) (by decide)
      · cases h
end Go.Proofs.YtjpihophigjbpaaGreatDoor.Ys
/-
  The smallest calls.
-/
namespace Go.Proofs.YtjpihophigjbpaaGreatDoor.Ys
open Go.Proofs.YtjpihophigjbpaaGreatDoor.Ds
open Go.RowKit

set_option maxHeartbeats 400000 in
theorem isDigit_any (c : UInt8) (w : World) : Calls Tryz.prog 110 #[.int .u8 (c.toNat : Int)] w fun e w' => e = .returned (.bool (isDig c)) ∧ w = w' := by
  have h := isDig_iff c
  generalize isDig c = r at *
  generalize c.toNat = n at *
  by_cases h1 : (48 : Int) ≤ n <;> by_cases h2 : (n : Int) ≤ 57
  all_goals
    first
      | (have e : r = true := h.2 (by omega)
         subst e
         clear h
         go_enter Tryz.func110, Tryz.ntmps110
         go_wp2
         go_ret
         exact ⟨rfl, rfl⟩)
      | (have e : r = false := by cases r with | false => rfl | true => exact absurd (h.1 rfl) (by omega)
         subst e
         clear h
         go_enter Tryz.func110, Tryz.ntmps110
         go_wp2
         go_ret
         exact ⟨rfl, rfl⟩)
/-- A fault at a byte, or at the end: some fault there is. -/
def Wrong (i : Int) (w : World) (e : Ending) (w' : World) : Prop := ∃ y : Int, y ≠ 0 ∧ e = .returned (.agg #[.int .i64 y, .int .i64 i]) ∧ Below w.heap.size w w'
set_option maxHeartbeats 400000 in
theorem wrong_any (s : ByteArray) (i : Int) (w : World) : Calls Tryz.prog 78 #[.string s, .int .i64 i] w (Wrong i w) := by
  by_cases hk : i = (s.size : Int)
  · subst hk
    go_enter Tryz.func78, Tryz.ntmps78
    go_wp2
    exact bodyPost_ret (v := .agg #[.int .i64 4, .int .i64 s.size]) (by simp [results, Tryz.results78, go_sem]) rfl ⟨4, by decide, rfl, (Below.refl _ _).alloc (Nat.le_refl _) _⟩
  · have h1 : (i == (s.size : Int)) = false := by simpa using hk
    go_enter Tryz.func78, Tryz.ntmps78
    go_wp2
    exact bodyPost_ret (v := .agg #[.int .i64 3, .int .i64 i]) (by simp [results, Tryz.results78, go_sem]) rfl ⟨3, by decide, rfl, (Below.refl _ _).alloc (Nat.le_refl _) _⟩
set_option maxHeartbeats 400000 in
theorem stands_any (s : ByteArray) (k : Nat) (i m : Int) (c : UInt8) (w : World) (hi : i = k) (hm : m = (c.toNat : Int)) : Calls Tryz.prog 76 #[.string s, .int .i64 i, .int .u8 m] w fun e w' => e = .returned (.bool (decide ((bl s)[k]? = some c))) ∧ w = w' := by
  subst hi
  subst hm
  by_cases h : k < s.size
  · have e : decide ((bl s)[k]? = some c) = ((s[k].toNat : Int) == (c.toNat : Int)) := by
      rw [List.getElem?_eq_getElem (by rw [bl_len]; exact h), bl_get s k h]
      rw [Bool.eq_iff_iff]
      simp [← UInt8.toNat_inj]
      omega
    rw [e]
    have h1 : (k : Int) < s.size := by omega
    have h0 : (0 : Int) ≤ k := by omega
    go_enter Tryz.func76, Tryz.ntmps76
    go_wp2
    go_ret
    exact ⟨rfl, rfl⟩
  · have e : decide ((bl s)[k]? = some c) = false := by
      rw [List.getElem?_eq_none (by rw [bl_len]; omega)]; rfl
    rw [e]
    have h1 : ¬ (k : Int) < s.size := by omega
    go_enter Tryz.func76, Tryz.ntmps76
    go_wp2
    go_ret
    exact ⟨rfl, rfl⟩
theorem fault_facts {w w' : World} {a b : Int} (hb : Below (w.alloc (.cells #[.int .i64 a, .int .i64 b] 88)).heap.size (w.alloc (.cells #[.int .i64 a, .int .i64 b] 88)) w') :
    w'.cell? ⟨w.heap.size, 0, none⟩ = some (.int .i64 a) ∧ w'.cell? ⟨w.heap.size, 1, none⟩ = some (.int .i64 b) ∧ w'.frozen? ⟨w.heap.size, 0, none⟩ = false ∧ w'.frozen? ⟨w.heap.size, 1, none⟩ = false ∧ w.heap.size < w'.heap.size := by
  have h := (hb.block w.heap.size (by rw [World.size_alloc]; omega)).trans (heap_alloc_new w _)
  exact ⟨by simp [World.cell?, h], by simp [World.cell?, h], by simp [World.frozen?, h], by simp [World.frozen?, h], lt_of_block h⟩
end Go.Proofs.YtjpihophigjbpaaGreatDoor.Ys
/-
  A number, read.
-/
namespace Go.Proofs.YtjpihophigjbpaaGreatDoor.Ys
open Go.Proofs.YtjpihophigjbpaaGreatDoor.Ds
open Go.RowKit

def AllTo (r : List UInt8) (j : Nat) : Prop := ∀ i (h : i < r.length), i < j → isDig r[i] = true
theorem AllTo.zero (r : List UInt8) : AllTo r 0 := fun _ _ h => absurd h (Nat.not_lt_zero _)
theorem AllTo.succ {r : List UInt8} {j : Nat} (h : AllTo r j) (hj : j < r.length) (hd : isDig r[j] = true) : AllTo r (j + 1) := fun i hi hlt => by
  by_cases he : i = j
  · subst he; exact hd
  · exact h i hi (by omega)
theorem dval_take_succ (r : List UInt8) (j : Nat) (hj : j < r.length) : dval (r.take (j + 1)) = 10 * dval (r.take j) + dv r[j] := by
  rw [List.take_succ_eq_append_getElem hj, dval_snoc]
theorem dval_take_le {r : List UInt8} {j : Nat} (h : AllTo r j) (hj : j ≤ r.length) (h6 : j ≤ 6) : dval (r.take j) < 1000000 := by
  have hl : (r.take j).length = j := by rw [List.length_take]; omega
  have := dval_lt j (r.take j) hl (by
    rw [List.all_eq_true]
    intro x hx
    obtain ⟨i, hi, rfl⟩ := List.getElem_of_mem hx
    rw [List.getElem_take]
    exact h i (by omega) (by omega))
  have : (10 : Nat) ^ j ≤ 10 ^ 6 := Nat.pow_le_pow_right (by decide) h6
  omega
theorem tw_stop {r : List UInt8} {j : Nat} (h : AllTo r j) (hj : j ≤ r.length) (hs : ∀ h : j < r.length, isDig r[j] = false) : (r.takeWhile isDig).length = j ∧ r.takeWhile isDig = r.take j := by
  have hl := tw_len (p := isDig) r j hj h hs
  refine ⟨hl, ?_⟩
  have := List.prefix_iff_eq_take.1 (List.takeWhile_prefix isDig (l := r))
  rw [this, hl]
theorem tw_more {r : List UInt8} {j : Nat} (h : AllTo r (j + 1)) (hj : j < r.length) : j < (r.takeWhile isDig).length := by
  have : ∀ (r : List UInt8) (j : Nat), AllTo r (j + 1) → j < r.length → j < (r.takeWhile isDig).length := by
    intro r
    induction r with
    | nil => intro j _ h; exact absurd h (Nat.not_lt_zero _)
    | cons x r ih =>
      intro j h hj
      have h0 := h 0 (by simp) (by omega)
      rw [List.getElem_cons_zero] at h0
      rw [List.takeWhile_cons, if_pos h0, List.length_cons]
      cases j with
      | zero => omega
      | succ j =>
        have := ih j (fun i hi hlt => by have := h (i + 1) (by rw [List.length_cons]; omega) (by omega); rwa [List.getElem_cons_succ] at this) (by simpa using hj)
        omega
  exact this r j h hj
theorem drop_get (s : ByteArray) (a j : Nat) (h : a + j < s.size) (h' : j < ((bl s).drop a).length) : ((bl s).drop a)[j] = s[a + j]'h := by
  rw [List.getElem_drop, bl_get]
theorem pNum_many {low : Int} {r : List UInt8} (h : AllTo r 7) (hj : 6 < r.length) : pNum low r = none := by
  have := tw_more h hj
  unfold pNum
  rw [if_pos (show (r.takeWhile isDig).length = 0 ∨ 6 < (r.takeWhile isDig).length from .inr this)]
theorem pNum_none {low : Int} {r : List UInt8} (hs : ∀ h : 0 < r.length, isDig r[0] = false) : pNum low r = none := by
  have := (tw_stop (AllTo.zero r) (Nat.zero_le _) hs).1
  unfold pNum
  rw [if_pos (show (r.takeWhile isDig).length = 0 ∨ 6 < (r.takeWhile isDig).length from .inl this)]
theorem pNum_some {low : Int} {r : List UInt8} {j : Nat} (h : AllTo r j) (hj : j ≤ r.length) (h1 : 1 ≤ j) (h6 : j ≤ 6) (hs : ∀ h : j < r.length, isDig r[j] = false) (hl : ¬ ((dval (r.take j) : Nat) : Int) < low) : pNum low r = some (((dval (r.take j) : Nat) : Int), r.drop j) := by
  obtain ⟨a, b⟩ := tw_stop h hj hs
  unfold pNum
  rw [if_neg (by omega), a, b, if_neg hl]
theorem pNum_low {low : Int} {r : List UInt8} {j : Nat} (h : AllTo r j) (hj : j ≤ r.length) (_h6 : j ≤ 6) (hs : ∀ h : j < r.length, isDig r[j] = false) (hl : ((dval (r.take j) : Nat) : Int) < low) : pNum low r = none := by
  obtain ⟨a, b⟩ := tw_stop h hj hs
  unfold pNum
  rw [a, b, if_pos hl]
  split <;> rfl
/-- What a call that reads a number hands back. -/
def NumPost (w : World) (s : ByteArray) (a : Nat) (low : Int) (e : Ending) (w' : World) : Prop := Below w.heap.size w w' ∧ match pNum low ((bl s).drop a) with
  | none => ∃ y i : Int, y ≠ 0 ∧ e = .returned (.tuple #[.int .i64 0, .int .i64 0, .agg #[.int .i64 y, .int .i64 i]])
  | some (n, r) => ∃ c : Nat, a < c ∧ c ≤ s.size ∧ r = (bl s).drop c ∧ e = .returned (.tuple #[.int .i64 n, .int .i64 c, .agg #[.int .i64 0, .int .i64 0]])
theorem NumPost.bad {w : World} {s : ByteArray} {a : Nat} {low : Int} {e : Ending} {w' : World} (hb : Below w.heap.size w w') (h : pNum low ((bl s).drop a) = none) {y i : Int} (hy : y ≠ 0) (he : e = .returned (.tuple #[.int .i64 0, .int .i64 0, .agg #[.int .i64 y, .int .i64 i]])) : NumPost w s a low e w' := by
  refine ⟨hb, ?_⟩
  rw [h]
  exact ⟨y, i, hy, he⟩
theorem NumPost.good {w : World} {s : ByteArray} {a : Nat} {low : Int} {e : Ending} {w' : World} (hb : Below w.heap.size w w') {n : Int} {j : Nat} (h : pNum low ((bl s).drop a) = some (n, ((bl s).drop a).drop j)) (h1 : 1 ≤ j) (hj : a + j ≤ s.size) (he : e = .returned (.tuple #[.int .i64 n, .int .i64 ((a : Int) + j), .agg #[.int .i64 0, .int .i64 0]])) : NumPost w s a low e w' := by
  refine ⟨hb, ?_⟩
  rw [h]
  exact ⟨a + j, by omega, hj, by rw [List.drop_drop], by rw [he]; push_cast; rfl⟩
theorem set2 {B : Nat} {a w : World} (h : Below B a w) (b : Nat) (hb : B ≤ b) (u v : Value) : Below B a ((w.setCell ⟨b, 0, none⟩ u).setCell ⟨b, 1, none⟩ v) := (h.setCell hb _).setCell hb _
set_option maxRecDepth 100000 in
set_option maxHeartbeats 4000000 in
theorem readNumber_any (s : ByteArray) (a : Nat) (ai low : Int) (w : World) (hai : ai = a) (hs : s.size ≤ 140737488355328) (ha : a ≤ s.size) :
    Calls Tryz.prog 77 #[.string s, .int .i64 ai, .int .i64 low] w (NumPost w s a low) := by
  subst hai
  obtain ⟨r, hr⟩ : ∃ r, (bl s).drop a = r := ⟨_, rfl⟩
  have hrl : r.length = s.size - a := by rw [← hr, List.length_drop, bl_len]
  have hget : ∀ j (h : a + j < s.size) (h' : j < r.length), r[j] = s[a + j] := fun j h h' => by subst hr; exact drop_get s a j h h'
  have hbad := fun w' (hb : Below w.heap.size w w') (h : pNum low r = none) e => @NumPost.bad w s a low e w' hb (by rw [hr]; exact h)
  have hgood := fun w' (hb : Below w.heap.size w w') (n : Int) (j : Nat) (h : pNum low r = some (n, r.drop j)) e => @NumPost.good w s a low e w' hb n j (by rw [hr]; exact h)
  have hai0 : (0 : Int) ≤ a := by omega
  have hai1 : (a : Int) ≤ s.size := by omega
  have hsi : (s.size : Int) ≤ 140737488355328 := by omega
  replace hr := fhid hr
  replace hrl := fhid hrl
  replace hget := fhid hget
  go_enter Tryz.func77, Tryz.ntmps77
  go_wp2_with fail
  go_loop [9, 10] (fun n i => ∃ j : Nat, j ≤ 6 ∧ j ≤ r.length ∧ i = .int .i64 ((a : Int) + (j : Int)) ∧ AllTo r j ∧ n = .int .i64 ((dval (r.take j) : Nat) : Int)) (fun _ i => s.size - (intOf i).toNat)
  case atStart => exact ⟨0, Nat.zero_le _, Nat.zero_le _, by simp, AllTo.zero r, rfl⟩
  case round =>
    obtain ⟨j, hj6, hjl, rfl, hall, rfl⟩ := hrel
    replace hall := fhid hall
    have hn := dval_take_le hall.out hjl hj6
    have hj0 : (0 : Int) ≤ j := by omega
    have hji : (j : Int) ≤ 6 := by omega
    have hsub : (a : Int) + j - a = j := by omega
    by_cases hlt : a + j < s.size
    · have hjr : j < r.length := by rw [hrl.out]; omega
      have hg := hget.out j hlt hjr
      have hd := isDigit_any s[a + j]
      have hix : ∀ (h : ((a : Int) + j).toNat < s.size), s[((a : Int) + j).toNat] = s[a + j] := fun h => by congr 1
      have htn : ((a : Int) + j).toNat = a + j := by omega
      have i1 : (a : Int) + j < s.size := by omega
      have i0 : (0 : Int) ≤ (a : Int) + j := by omega
      by_cases hdg : isDig s[a + j] = true
      · have hrange := (isDig_iff _).1 hdg
        rw [hdg] at hd
        have hall' := fhid (hall.out.succ hjr (by rw [hg]; exact hdg))
        by_cases h6 : j = 6
        · subst h6
          have hp := fhid (pNum_many (low := low) hall'.out (by omega))
          clear hrange
          go_wp2_with (first
            | (go_at_call 110; (with_reducible refine (hd _).mono ?_); rintro e w1 ⟨rfl, rfl⟩)
            | (go_at_call 78; (with_reducible refine (wrong_any s _ _).mono ?_); rintro e w1 ⟨y, hy, rfl, b1⟩
               replace hy := fhid hy
               obtain ⟨c0, c1, f0, f1, hz⟩ := fault_facts b1))
          exact bodyPost_ret (v := .tuple #[.int .i64 0, .int .i64 0, .agg #[.int .i64 y, .int .i64 ((a : Int) + 6)]]) (by simp [results, Tryz.results77, go_sem, c0, c1]) rfl
            (hbad _ (set2 (((Below.refl _ _).alloc (Nat.le_refl _) _).trans (b1.mono (by rw [World.size_alloc]; omega))) _ (Nat.le_refl _) _ _) hp.out _ hy.out rfl)
        · have e6 : ((j : Int) == 6) = false := by simp; omega
          have e7 : ¬ (j : Int) = 6 := by omega
          have hds := fhid (show ((dval (r.take (j + 1)) : Nat) : Int) = 10 * ((dval (r.take j) : Nat) : Int) + ((s[a + j].toNat : Int) - 48) by
            rw [dval_take_succ r j hjr, hg]; unfold dv; omega)
          generalize dval (r.take j) = d at *
          obtain ⟨h3, h4⟩ := hrange
          have i3 : (48 : Int) ≤ s[a + j].toNat := by omega
          have i4 : (s[a + j].toNat : Int) ≤ 57 := by omega
          have i5 : (d : Int) ≤ 1000000 := by omega
          have i6 : (0 : Int) ≤ d := by omega
          clear hg
          go_wp2_with (first
            | (go_at_call 110; (with_reducible refine (hd _).mono ?_); rintro e w1 ⟨rfl, rfl⟩))
          go_round
          case rel => exact ⟨j + 1, by omega, by omega, by rw [show (a : Int) + j + 1 = (a : Int) + ((j + 1 : Nat) : Int) by omega], hall'.out, by rw [hds.out]⟩
          case measure => simp [intOf]; omega
      · have hdf : isDig s[a + j] = false := by simpa using hdg
        rw [hdf] at hd
        have hst : ∀ h : j < r.length, isDig r[j] = false := fun h => by rw [hg]; exact hdf
        by_cases h0 : j = 0
        · subst h0
          have hp := fhid (pNum_none (low := low) hst)
          have hd0 := hd
          rw [show s[a + 0] = s[a] from rfl] at hd0
          have i2 : (a : Int) < s.size := by omega
          clear hd
          go_wp2_with (first
            | (go_at_call 110; (with_reducible refine (hd0 _).mono ?_); rintro e w1 ⟨rfl, rfl⟩)
            | (go_at_call 78; (with_reducible refine (wrong_any s _ _).mono ?_); rintro e w1 ⟨y, hy, rfl, b1⟩
               replace hy := fhid hy
               obtain ⟨c0, c1, f0, f1, hz⟩ := fault_facts b1))
          exact bodyPost_ret (v := .tuple #[.int .i64 0, .int .i64 0, .agg #[.int .i64 y, .int .i64 (a : Int)]]) (by simp [results, Tryz.results77, go_sem, c0, c1]) rfl
            (hbad _ (set2 (((Below.refl _ _).alloc (Nat.le_refl _) _).trans (b1.mono (by rw [World.size_alloc]; omega))) _ (Nat.le_refl _) _ _) hp.out _ hy.out rfl)
        · have e6 : ((a : Int) + j == a) = false := by simp; omega
          have e7 : ¬ (a : Int) + j = a := by omega
          by_cases hlow : ((dval (r.take j) : Nat) : Int) < low
          · have hp := fhid (pNum_low hall.out hjl hj6 hst hlow)
            go_wp2_with (first
              | (go_at_call 110; (with_reducible refine (hd _).mono ?_); rintro e w1 ⟨rfl, rfl⟩)
              | (go_at_call 78; (with_reducible refine (wrong_any s _ _).mono ?_); rintro e w1 ⟨y, hy, rfl, b1⟩
                 replace hy := fhid hy
                 obtain ⟨c0, c1, f0, f1, hz⟩ := fault_facts b1))
            exact bodyPost_ret (v := .tuple #[.int .i64 0, .int .i64 0, .agg #[.int .i64 y, .int .i64 (a : Int)]]) (by simp [results, Tryz.results77, go_sem, c0, c1]) rfl
              (hbad _ (set2 (((Below.refl _ _).alloc (Nat.le_refl _) _).trans (b1.mono (by rw [World.size_alloc]; omega))) _ (Nat.le_refl _) _ _) hp.out _ hy.out rfl)
          · have hp := fhid (pNum_some hall.out hjl (by omega) hj6 hst hlow)
            go_wp2_with (first
              | (go_at_call 110; (with_reducible refine (hd _).mono ?_); rintro e w1 ⟨rfl, rfl⟩))
            exact bodyPost_ret (v := .tuple #[.int .i64 (dval (r.take j) : Nat), .int .i64 ((a : Int) + j), .agg #[.int .i64 0, .int .i64 0]]) (by simp [results, Tryz.results77, go_sem]) rfl
              (hgood _ ((Below.refl _ _).alloc (Nat.le_refl _) _) _ _ hp.out _ (by omega) (by omega) rfl)
    · have hjl2 : j = r.length := by rw [hrl.out] at *; omega
      have hjs : a + j ≤ s.size := by have := hrl.out; omega
      have i1 : ¬ (a : Int) + j < s.size := by omega
      have hst : ∀ h : j < r.length, isDig r[j] = false := fun h => absurd h (by omega)
      clear hjl2
      by_cases h0 : j = 0
      · subst h0
        have hp := fhid (pNum_none (low := low) hst)
        go_wp2_with (first
          | (go_at_call 78; (with_reducible refine (wrong_any s _ _).mono ?_); rintro e w1 ⟨y, hy, rfl, b1⟩
             replace hy := fhid hy
             obtain ⟨c0, c1, f0, f1, hz⟩ := fault_facts b1))
        exact bodyPost_ret (v := .tuple #[.int .i64 0, .int .i64 0, .agg #[.int .i64 y, .int .i64 (a : Int)]]) (by simp [results, Tryz.results77, go_sem, c0, c1]) rfl
          (hbad _ (set2 (((Below.refl _ _).alloc (Nat.le_refl _) _).trans (b1.mono (by rw [World.size_alloc]; omega))) _ (Nat.le_refl _) _ _) hp.out _ hy.out rfl)
      · have e6 : ((a : Int) + j == a) = false := by simp; omega
        have e7 : ¬ (a : Int) + j = a := by omega
        by_cases hlow : ((dval (r.take j) : Nat) : Int) < low
        · have hp := fhid (pNum_low hall.out hjl hj6 hst hlow)
          go_wp2_with (first
            | (go_at_call 78; (with_reducible refine (wrong_any s _ _).mono ?_); rintro e w1 ⟨y, hy, rfl, b1⟩
               replace hy := fhid hy
               obtain ⟨c0, c1, f0, f1, hz⟩ := fault_facts b1))
          exact bodyPost_ret (v := .tuple #[.int .i64 0, .int .i64 0, .agg #[.int .i64 y, .int .i64 (a : Int)]]) (by simp [results, Tryz.results77, go_sem, c0, c1]) rfl
            (hbad _ (set2 (((Below.refl _ _).alloc (Nat.le_refl _) _).trans (b1.mono (by rw [World.size_alloc]; omega))) _ (Nat.le_refl _) _ _) hp.out _ hy.out rfl)
        · have hp := fhid (pNum_some hall.out hjl (by omega) hj6 hst hlow)
          go_wp2_with fail
          exact bodyPost_ret (v := .tuple #[.int .i64 (dval (r.take j) : Nat), .int .i64 ((a : Int) + j), .agg #[.int .i64 0, .int .i64 0]]) (by simp [results, Tryz.results77, go_sem]) rfl
            (hgood _ ((Below.refl _ _).alloc (Nat.le_refl _) _) _ _ hp.out _ (by omega) hjs rfl)
end Go.Proofs.YtjpihophigjbpaaGreatDoor.Ys
/-
  Blocks of faults and spans; how many indexes a span has, and which.
-/
namespace Go.Proofs.YtjpihophigjbpaaGreatDoor.Ys
open Go.Proofs.YtjpihophigjbpaaGreatDoor.Ds
open Go.RowKit

theorem block_set {w : World} {b : Nat} {cs : Array Value} {t : TypeId} (i : Nat) (u : Value) (h : w.heap[b]? = some (.cells cs t (0, 0))) : (w.setCell ⟨b, i, none⟩ u).heap[b]? = some (.cells (cs.setIfInBounds i u) t (0, 0)) := by
  have hlt := lt_of_block h
  have h' : w.heap[b] = .cells cs t (0, 0) := by simpa [Array.getElem?_eq_getElem hlt] using h
  show (w.heap.modify b _)[b]? = _
  rw [Array.getElem?_eq_getElem (by simpa using hlt), Array.getElem_modify_self, h']
  rfl
theorem block_other {w : World} {b c : Nat} {o : Option Obj} (i : Nat) (u : Value) (h : w.heap[b]? = o) (hne : b ≠ c) : (w.setCell ⟨c, i, none⟩ u).heap[b]? = o := (Below.heap_setCell _ _ _ _ hne).trans h
theorem new_at (w : World) (o : Obj) (b : Nat) (hb : b = w.heap.size) : (w.alloc o).heap[b]? = some o := by subst hb; exact heap_alloc_new w o
theorem old_at (w : World) (o : Obj) (b : Nat) {x : Option Obj} (h : w.heap[b]? = x) (hb : b < w.heap.size) : (w.alloc o).heap[b]? = x := (Below.heap_alloc _ _ _ hb).trans h
abbrev TFa : TypeId := 88
abbrev TSp : TypeId := 163
/-- A fault's block. -/
def FB (w : World) (b : Nat) (e f : Int) : Prop := w.heap[b]? = some (.cells #[.int .i64 e, .int .i64 f] TFa (0, 0))
theorem FB.facts {w : World} {b : Nat} {e f : Int} (h : FB w b e f) : w.cell? ⟨b, 0, none⟩ = some (.int .i64 e) ∧ w.cell? ⟨b, 1, none⟩ = some (.int .i64 f) ∧ w.frozen? ⟨b, 0, none⟩ = false ∧ w.frozen? ⟨b, 1, none⟩ = false ∧ b < w.heap.size := by
  unfold FB at h
  exact ⟨by simp [World.cell?, h], by simp [World.cell?, h], by simp [World.frozen?, h], by simp [World.frozen?, h], lt_of_block h⟩
theorem FB.below {w w' : World} {B b : Nat} {e f : Int} (h : FB w b e f) (hb : Below B w w') (hB : b < B) : FB w' b e f := (hb.block b hB).trans h
/-- A span's block. -/
def SB (w : World) (b : Nat) (x y st : Int) : Prop := w.heap[b]? = some (.cells #[.int .i64 x, .int .i64 y, .int .i64 st] TSp (0, 0))
theorem SB.facts {w : World} {b : Nat} {x y st : Int} (h : SB w b x y st) : w.cell? ⟨b, 0, none⟩ = some (.int .i64 x) ∧ w.cell? ⟨b, 1, none⟩ = some (.int .i64 y) ∧ w.cell? ⟨b, 2, none⟩ = some (.int .i64 st) ∧ w.frozen? ⟨b, 0, none⟩ = false ∧ w.frozen? ⟨b, 1, none⟩ = false ∧ w.frozen? ⟨b, 2, none⟩ = false ∧ b < w.heap.size := by
  unfold SB at h
  exact ⟨by simp [World.cell?, h], by simp [World.cell?, h], by simp [World.cell?, h], by simp [World.frozen?, h], by simp [World.frozen?, h], by simp [World.frozen?, h], lt_of_block h⟩
theorem SB.below {w w' : World} {B b : Nat} {x y st : Int} (h : SB w b x y st) (hb : Below B w w') (hB : b < B) : SB w' b x y st := (hb.block b hB).trans h
/-- A span as Go's text has it: rising, with a step. -/
def SpOk (x : Sp) : Prop := 0 ≤ x.1 ∧ x.1 ≤ x.2.1 ∧ x.2.1 ≤ 999999 ∧ 1 ≤ x.2.2 ∧ x.2.2 ≤ 999999
theorem sp_lt {x y st : Int} (h : SpOk (x, y, st)) (j : Nat) : j < spN (x, y, st) ↔ x + (j : Int) * st ≤ y := by
  obtain ⟨h0, h1, h2, h3, h4⟩ := h
  simp only at h0 h1 h2 h3 h4
  have hd : 0 ≤ (y - x) / st := Int.ediv_nonneg (by omega) (by omega)
  have key : (j : Int) ≤ (y - x) / st ↔ (j : Int) * st ≤ y - x := Int.le_ediv_iff_mul_le (by omega)
  unfold spN
  show j < ((y - x) / st + 1).toNat ↔ _
  omega
theorem sp_many {x y st : Int} (h : SpOk (x, y, st)) : (spN (x, y, st) : Int) = (y - x) / st + 1 ∧ spN (x, y, st) ≤ 1000000 := by
  obtain ⟨h0, h1, h2, h3, h4⟩ := h
  simp only at h0 h1 h2 h3 h4
  have hd : 0 ≤ (y - x) / st := Int.ediv_nonneg (by omega) (by omega)
  have hm : (y - x) / st ≤ y - x := Int.ediv_le_self _ (by omega)
  unfold spN
  show (((y - x) / st + 1).toNat : Int) = _ ∧ ((y - x) / st + 1).toNat ≤ _
  omega
theorem spL_succ (x : Sp) (j : Nat) (h : j < spN x) : (spL x).take (j + 1) = (spL x).take j ++ [x.1 + (j : Int) * x.2.2] := by
  rw [List.take_succ_eq_append_getElem (by rw [spL_len]; exact h)]
  simp [spL]
set_option maxRecDepth 100000 in
set_option maxHeartbeats 1000000 in
theorem count_any (x y st : Int) (h : SpOk (x, y, st)) (w : World) : Calls Tryz.prog 140 #[.agg #[.int .i64 x, .int .i64 y, .int .i64 st]] w fun e w' => e = .returned (.int .i64 (spN (x, y, st))) ∧ Below w.heap.size w w' := by
  have hE := fhid (sp_many h).1
  obtain ⟨h0, h1, h2, h3, h4⟩ := h
  simp only at h0 h1 h2 h3 h4
  have i1 : (0 : Int) ≤ y - x := by omega
  have i2 : y - x ≤ 999999 := by omega
  have hd : 0 ≤ (y - x) / st := Int.ediv_nonneg (by omega) (by omega)
  have hm : (y - x) / st ≤ y - x := Int.ediv_le_self _ (by omega)
  have hst : ¬ st = 0 := by omega
  generalize spN (x, y, st) = N at *
  go_enter Tryz.func140, Tryz.ntmps140
  go_wp2_with fail
  go_ret
  exact ⟨fret1 hE.out.symm, (Below.refl _ _).alloc (Nat.le_refl _) _⟩
def lenOf : Value → Nat | .slice _ n _ => n | _ => 0
/-- Numbers of the call's own. -/
def IntsPost (w : World) (l : List Int) (e : Ending) (w' : World) : Prop := ∃ v, e = .returned v ∧ OwnI w' w.heap.size v l ∧ Below w.heap.size w w'
set_option maxRecDepth 100000 in
set_option maxHeartbeats 2000000 in
theorem indexes_any (x y st : Int) (h : SpOk (x, y, st)) (w : World) : Calls Tryz.prog 141 #[.agg #[.int .i64 x, .int .i64 y, .int .i64 st]] w (IntsPost w (spL (x, y, st))) := by
  have hlt := fhid (sp_lt h)
  have hmany := (sp_many h).2
  have hsn := fhid (spL_succ (x, y, st))
  have hll := fhid (spL_len (x, y, st))
  obtain ⟨h0, h1, h2, h3, h4⟩ := h
  simp only at h0 h1 h2 h3 h4
  generalize spL (x, y, st) = L at *
  generalize spN (x, y, st) = N at *
  have p0 : SB (w.alloc (.cells #[.int .i64 x, .int .i64 y, .int .i64 st] TSp)) w.heap.size x y st := heap_alloc_new w _
  have b0 : Below w.heap.size w (w.alloc (.cells #[.int .i64 x, .int .i64 y, .int .i64 st] TSp)) := (Below.refl _ _).alloc (Nat.le_refl _) _
  have z0 := World.size_alloc w (.cells #[.int .i64 x, .int .i64 y, .int .i64 st] TSp)
  go_enter Tryz.func141, Tryz.ntmps141
  go_upto_region 1 with fail
  generalize w.alloc _ = w1 at *
  obtain ⟨c0, c1, c2, _, _, _, _⟩ := p0.facts
  replace p0 := fhid p0
  replace z0 := fhid z0
  go_wp2_with fail
  go_loopw [3, 4] (fun v i wr => ∃ (j : Nat), j ≤ N ∧ i = .int .i64 (x + (j : Int) * st) ∧ OwnI wr (w.heap.size + 1) v (L.take j) ∧ SB wr w.heap.size x y st ∧ Below w.heap.size w wr ∧ w.heap.size + 1 ≤ wr.heap.size) (fun _ i _ => (y + 1 - intOf i).toNat)
  case atStart => exact ⟨0, Nat.zero_le _, by simp, by rw [List.take_zero]; exact OwnI.nil _ _, p0.out, b0, by have := z0.out; omega⟩
  case round =>
    clear c0 c1 c2
    obtain ⟨j, hjN, rfl, hO, hS, hB, hz⟩ := hrel
    obtain ⟨c0, c1, c2, _, _, _, _⟩ := hS.facts
    have hlj : (L.take j).length = j := by rw [List.length_take, hll.out]; omega
    have hj := hlt.out j
    have hP : x + ((j + 1 : Nat) : Int) * st = x + (j : Int) * st + st := by rw [Int.natCast_add, Int.add_mul]; simp; omega
    have hP0 : 0 ≤ (j : Int) * st := Int.mul_nonneg (by omega) (by omega)
    replace hS := fhid hS
    by_cases hlt' : j < N
    · have i1 := hj.1 hlt'
      have hs := fhid (hsn.out j hlt')
      replace hP := fhid hP
      generalize hq : x + (j : Int) * st = q at *
      have i0 : 0 ≤ q := by omega
      have i2 : q ≤ 999999 := by omega
      clear hj hP0
      replace hq := fhid hq
      replace hO := fhid hO
      replace hB := fhid hB
      go_wp2_with (at_builtin; (refine app_int rfl _ _ rfl (w.heap.size + 1) _ (L.take j) q wr rfl hO.out rfl wr.heap.size rfl rfl (by omega) hz ?_; intro v3 w3 o3 _ b3); clear c0 c1 c2; obtain ⟨c0, c1, c2, _, _, _, _⟩ := (SB.below hS.out b3 (by omega)).facts)
      go_roundw
      case rel => exact ⟨j + 1, by omega, by rw [hP.out], by rw [hs.out]; exact o3, hS.out.below b3 (by omega), hB.out.trans (b3.mono (by omega)), by have := b3.size; omega⟩
      case measure => simp [intOf]; omega
    · have i1 : ¬ x + (j : Int) * st ≤ y := fun h => hlt' (hj.2 h)
      obtain rfl : j = N := by omega
      have hLL : L.take j = L := List.take_of_length_le (by rw [hll.out]; omega)
      rw [hLL] at hO
      generalize x + (j : Int) * st = q at *
      replace hO := fhid hO
      clear hj hP hP0 hLL hlj
      go_wp2_with fail
      go_ret
      exact ⟨_, rfl, hO.out.base (by omega), hB⟩
end Go.Proofs.YtjpihophigjbpaaGreatDoor.Ys
/-
  A range, read.
-/
namespace Go.Proofs.YtjpihophigjbpaaGreatDoor.Ys
open Go.Proofs.YtjpihophigjbpaaGreatDoor.Ds
open Go.RowKit

/-- What a call that reads a range hands back. -/
def RangePost (w : World) (s : ByteArray) (a : Nat) (e : Ending) (w' : World) : Prop := Below w.heap.size w w' ∧ match pRange ((bl s).drop a) with
  | none => ∃ y i : Int, y ≠ 0 ∧ e = .returned (.tuple #[.agg #[.int .i64 0, .int .i64 0, .int .i64 0], .int .i64 0, .agg #[.int .i64 y, .int .i64 i]])
  | some (x, r) => ∃ c : Nat, a < c ∧ c ≤ s.size ∧ r = (bl s).drop c ∧ e = .returned (.tuple #[.agg #[.int .i64 x.1, .int .i64 x.2.1, .int .i64 x.2.2], .int .i64 c, .agg #[.int .i64 0, .int .i64 0]])
theorem RangePost.bad {w : World} {s : ByteArray} {a : Nat} {e : Ending} {w' : World} (h : pRange ((bl s).drop a) = none) (hb : Below w.heap.size w w') {y i : Int} (hy : y ≠ 0) (he : e = .returned (.tuple #[.agg #[.int .i64 0, .int .i64 0, .int .i64 0], .int .i64 0, .agg #[.int .i64 y, .int .i64 i]])) : RangePost w s a e w' := by
  refine ⟨hb, ?_⟩
  rw [h]
  exact ⟨y, i, hy, he⟩
theorem RangePost.good {w : World} {s : ByteArray} {a : Nat} {e : Ending} {w' : World} {x : Sp} {c : Nat} (h : pRange ((bl s).drop a) = some (x, (bl s).drop c)) (hb : Below w.heap.size w w') (h1 : a < c) (hc : c ≤ s.size) (he : e = .returned (.tuple #[.agg #[.int .i64 x.1, .int .i64 x.2.1, .int .i64 x.2.2], .int .i64 c, .agg #[.int .i64 0, .int .i64 0]])) : RangePost w s a e w' := by
  refine ⟨hb, ?_⟩
  rw [h]
  exact ⟨c, h1, hc, rfl, he⟩
section
variable {t r r2 r3 : List UInt8} {x y st : Int}
theorem pRange_none (h : pNum 0 t = none) : pRange t = none := by unfold pRange; rw [h]
theorem pRange_one (h : pNum 0 t = some (x, r)) (h1 : r.head? ≠ some 45) : pRange t = some ((x, x, 1), r) := by unfold pRange; rw [h]; exact if_neg h1
theorem pRange_none2 (h : pNum 0 t = some (x, r)) (h1 : r.head? = some 45) (h2 : pNum x r.tail = none) : pRange t = none := by unfold pRange; rw [h]; simp only [h1, if_true, h2]
theorem pRange_two (h : pNum 0 t = some (x, r)) (h1 : r.head? = some 45) (h2 : pNum x r.tail = some (y, r2)) (h3 : r2.head? ≠ some 58) : pRange t = some ((x, y, 1), r2) := by unfold pRange; rw [h]; simp only [h1, if_true, h2]; exact if_neg h3
theorem pRange_none3 (h : pNum 0 t = some (x, r)) (h1 : r.head? = some 45) (h2 : pNum x r.tail = some (y, r2)) (h3 : r2.head? = some 58) (h4 : pNum 1 r2.tail = none) : pRange t = none := by unfold pRange; rw [h]; simp only [h1, if_true, h2, h3, h4]
theorem pRange_three (h : pNum 0 t = some (x, r)) (h1 : r.head? = some 45) (h2 : pNum x r.tail = some (y, r2)) (h3 : r2.head? = some 58) (h4 : pNum 1 r2.tail = some (st, r3)) : pRange t = some ((x, y, st), r3) := by unfold pRange; rw [h]; simp only [h1, if_true, h2, h3, h4]
end
theorem sets5 {B : Nat} {a w : World} (h : Below B a w) (b c : Nat) (hb : B ≤ b) (hc : B ≤ c) (u v t x y : Value) : Below B a (((((w.setCell ⟨b, 0, none⟩ u).setCell ⟨b, 1, none⟩ v).setCell ⟨b, 2, none⟩ t).setCell ⟨c, 0, none⟩ x).setCell ⟨c, 1, none⟩ y) := set2 ((set2 h b hb u v).setCell hb _) c hc x y
/-- A number put into the span, and a fault stored. -/
theorem put3 {w W : World} {b F i : Nat} {v : Value} {e f e' f' : Int} {cs : Array Value} (s0 : SB W b 0 0 0) (s1 : FB W (b + 1) 0 0) (s2 : FB W F e f) (s3 : W.heap[F + 1]? = some (.cells cs TSp (0, 0))) (hF : b + 2 ≤ F) (hb : Below b w W) :
    SB (((W.setCell ⟨F + 1, i, none⟩ v).setCell ⟨F, 0, none⟩ (.int .i64 e')).setCell ⟨F, 1, none⟩ (.int .i64 f')) b 0 0 0 ∧ FB (((W.setCell ⟨F + 1, i, none⟩ v).setCell ⟨F, 0, none⟩ (.int .i64 e')).setCell ⟨F, 1, none⟩ (.int .i64 f')) (b + 1) 0 0 ∧
    FB (((W.setCell ⟨F + 1, i, none⟩ v).setCell ⟨F, 0, none⟩ (.int .i64 e')).setCell ⟨F, 1, none⟩ (.int .i64 f')) F e' f' ∧ (((W.setCell ⟨F + 1, i, none⟩ v).setCell ⟨F, 0, none⟩ (.int .i64 e')).setCell ⟨F, 1, none⟩ (.int .i64 f')).heap[F + 1]? = some (.cells (cs.setIfInBounds i v) TSp (0, 0)) ∧
    Below b w (((W.setCell ⟨F + 1, i, none⟩ v).setCell ⟨F, 0, none⟩ (.int .i64 e')).setCell ⟨F, 1, none⟩ (.int .i64 f')) := by
  refine ⟨?_, ?_, ?_, ?_, ?_⟩
  · exact block_other _ _ (block_other _ _ (block_other _ _ s0 (by omega)) (by omega)) (by omega)
  · exact block_other _ _ (block_other _ _ (block_other _ _ s1 (by omega)) (by omega)) (by omega)
  · have h1 := block_set 1 (.int .i64 f') (block_set 0 (.int .i64 e') (block_other (c := F + 1) i v s2 (by omega)))
    exact h1
  · exact block_other _ _ (block_other _ _ (block_set i v s3) (by omega)) (by omega)
  · exact set2 (hb.setCell (show b ≤ F + 1 by omega) _) F (by omega) _ _
theorem range_start (w : World) : SB ((w.alloc (.cells #[.int .i64 0, .int .i64 0, .int .i64 0] TSp)).alloc (.cells #[.int .i64 0, .int .i64 0] TFa)) w.heap.size 0 0 0 ∧ FB ((w.alloc (.cells #[.int .i64 0, .int .i64 0, .int .i64 0] TSp)).alloc (.cells #[.int .i64 0, .int .i64 0] TFa)) (w.heap.size + 1) 0 0 ∧
    Below w.heap.size w ((w.alloc (.cells #[.int .i64 0, .int .i64 0, .int .i64 0] TSp)).alloc (.cells #[.int .i64 0, .int .i64 0] TFa)) ∧ ((w.alloc (.cells #[.int .i64 0, .int .i64 0, .int .i64 0] TSp)).alloc (.cells #[.int .i64 0, .int .i64 0] TFa)).heap.size = w.heap.size + 2 :=
  ⟨old_at _ _ _ (heap_alloc_new w _) (by rw [World.size_alloc]; omega), new_at _ _ _ (by rw [World.size_alloc]), ((Below.refl _ _).alloc (Nat.le_refl _) _).alloc (by rw [World.size_alloc]; omega) _, by rw [World.size_alloc, World.size_alloc]⟩
set_option maxRecDepth 100000 in
set_option maxHeartbeats 8000000 in
theorem readRange_any (s : ByteArray) (a : Nat) (ai : Int) (w : World) (hai : ai = a) (hs : s.size ≤ 140737488355328) (ha : a ≤ s.size) :
    Calls Tryz.prog 106 #[.string s, .int .i64 ai] w (RangePost w s a) := by
  subst hai
  have hn1 := fun W => readNumber_any s a a 0 W rfl hs ha
  obtain ⟨t0, t1, t2, t3⟩ := range_start w
  unfold NumPost at hn1
  have hsi : (s.size : Int) ≤ 140737488355328 := by omega
  cases h1 : pNum 0 ((bl s).drop a) with
  | none =>
    rw [h1] at hn1
    simp only at hn1
    have hp := fhid (pRange_none h1)
    clear h1
    replace t0 := fhid t0
    replace t1 := fhid t1
    replace t2 := fhid t2
    replace t3 := fhid t3
    go_enter Tryz.func106, Tryz.ntmps106
    go_upto_region 1 with fail
    generalize World.alloc _ _ = W at *
    go_upto_region 2 with (go_at_call 77; (with_reducible refine (hn1 _).mono ?_); rintro e w1 ⟨b1, y, i, hy, rfl⟩)
    have z1 := b1.size
    have zt := t3.out
    have q0 := SB.below t0.out b1 (by omega)
    have q1 := FB.below t1.out b1 (by omega)
    have r0 : SB (w1.alloc (.cells #[.int .i64 y, .int .i64 i] TFa)) w.heap.size 0 0 0 := old_at w1 _ _ q0 (by omega)
    have r1 : FB (w1.alloc (.cells #[.int .i64 y, .int .i64 i] TFa)) (w.heap.size + 1) 0 0 := old_at w1 _ _ q1 (by omega)
    have r2 : FB (w1.alloc (.cells #[.int .i64 y, .int .i64 i] TFa)) w1.heap.size y i := heap_alloc_new w1 _
    have bz := (t2.out.trans (b1.mono t2.out.size)).alloc (by omega) (.cells #[.int .i64 y, .int .i64 i] TFa)
    generalize World.alloc _ _ = W2 at *
    obtain ⟨c0, c1, c2, f0, f1, f2, z3⟩ := SB.facts r0
    obtain ⟨d0, d1, g0, g1, z4⟩ := FB.facts r1
    obtain ⟨e0, e1, k0, k1, z5⟩ := FB.facts r2
    have hy2 : (y != 0) = true := by simpa using hy
    have hy1 : ¬ y = 0 := hy
    go_wp2_with fail
    go_region
    go_wp2_with fail
    refine bodyPost_ret (v := .tuple #[.agg #[.int .i64 0, .int .i64 0, .int .i64 0], .int .i64 0, .agg #[.int .i64 y, .int .i64 i]]) (by simp [results, Tryz.results106, go_sem, c0, c1, c2, d0, d1]) rfl
      (RangePost.bad hp.out ?_ hy rfl)
    repeat' (first | (with_reducible exact bz) | (with_reducible apply Below.drew) | (with_reducible apply Below.setCell) | (with_reducible apply Ds.below_drewN))
    all_goals (first | omega | (simp; done) | (simp; omega))
  | some q =>
    obtain ⟨x, r⟩ := q
    rw [h1] at hn1
    simp only at hn1
    obtain ⟨nx0, nx1, _, _⟩ := pNum_facts h1
    replace h1 := fhid h1
    replace t0 := fhid t0
    replace t1 := fhid t1
    replace t2 := fhid t2
    replace t3 := fhid t3
    go_enter Tryz.func106, Tryz.ntmps106
    go_upto_region 1 with fail
    generalize World.alloc _ _ = W at *
    go_upto_region 2 with (go_at_call 77; (with_reducible refine (hn1 _).mono ?_); rintro e w1 ⟨b1, c, hac, hcs, rfl, rfl⟩)
    clear hn1
    have z1 := b1.size
    have zt := t3.out
    have q0 := SB.below t0.out b1 (by omega)
    have q1 := FB.below t1.out b1 (by omega)
    have r0 : SB (w1.alloc (.cells #[.int .i64 0, .int .i64 0] TFa)) w.heap.size 0 0 0 := old_at w1 _ _ q0 (by omega)
    have r1 : FB (w1.alloc (.cells #[.int .i64 0, .int .i64 0] TFa)) (w.heap.size + 1) 0 0 := old_at w1 _ _ q1 (by omega)
    have r2 : FB (w1.alloc (.cells #[.int .i64 0, .int .i64 0] TFa)) w1.heap.size 0 0 := heap_alloc_new w1 _
    have bz := (t2.out.trans (b1.mono t2.out.size)).alloc (by omega) (.cells #[.int .i64 0, .int .i64 0] TFa)
    have zz := World.size_alloc w1 (.cells #[.int .i64 0, .int .i64 0] TFa)
    have hG : w.heap.size + 2 ≤ w1.heap.size := by omega
    generalize World.alloc _ _ = W2 at *
    obtain ⟨e0, e1, k0, k1, z5⟩ := FB.facts r2
    replace t0 := fhid True.intro
    replace t1 := fhid True.intro
    replace b1 := fhid True.intro
    replace r0 := fhid r0
    replace r1 := fhid r1
    replace r2 := fhid r2
    replace bz := fhid bz
    replace zz := fhid zz
    clear q0 q1 z1 t2 t3 zt
    generalize w1.heap.size = F at *
    go_upto_region 5 with fail
    have s0 : SB (W2.alloc (.cells #[.int .i64 x, .int .i64 x, .int .i64 1] TSp)) w.heap.size 0 0 0 := old_at W2 _ _ r0.out (by have := zz.out; omega)
    have s1 : FB (W2.alloc (.cells #[.int .i64 x, .int .i64 x, .int .i64 1] TSp)) (w.heap.size + 1) 0 0 := old_at W2 _ _ r1.out (by have := zz.out; omega)
    have s2 : FB (W2.alloc (.cells #[.int .i64 x, .int .i64 x, .int .i64 1] TSp)) F 0 0 := old_at W2 _ _ r2.out (by have := zz.out; omega)
    have s3 : SB (W2.alloc (.cells #[.int .i64 x, .int .i64 x, .int .i64 1] TSp)) W2.heap.size x x 1 := heap_alloc_new W2 _
    have bz3 := bz.out.alloc (by have := zz.out; omega) (.cells #[.int .i64 x, .int .i64 x, .int .i64 1] TSp)
    have zz3 := World.size_alloc W2 (.cells #[.int .i64 x, .int .i64 x, .int .i64 1] TSp)
    have hG3 : W2.heap.size = F + 1 := zz.out
    generalize World.alloc _ _ = W3 at *
    rw [hG3] at s3 zz3 ⊢
    clear e0 e1 k0 k1 z5 r0 r1 r2 bz zz hG3
    have hst := fun W => stands_any s c c 45 45 W rfl rfl
    have hhd : ((bl s).drop c).head? = (bl s)[c]? := by rw [List.head?_drop]
    by_cases h45 : (bl s)[c]? = some 45
    · rw [decide_eq_true h45] at hst
      have hh1 := hhd.trans h45
      have htl : ((bl s).drop c).tail = (bl s).drop (c + 1) := by rw [List.tail_drop]
      have hcl : c < s.size := by
        have := (List.getElem?_eq_some_iff.1 h45).1
        rw [bl_len] at this
        exact this
      have hn2 := fun W => readNumber_any s (c + 1) ((c : Int) + 1) x W (by omega) hs (by omega)
      unfold NumPost at hn2
      have j0 : (0 : Int) ≤ c := by omega
      have j1 : (c : Int) < s.size := by omega
      clear hhd h45
      replace s0 := fhid s0
      replace s1 := fhid s1
      replace s2 := fhid s2
      replace s3 := fhid s3
      replace bz3 := fhid bz3
      replace zz3 := fhid zz3
      replace hh1 := fhid hh1
      replace htl := fhid htl
      obtain ⟨e0, e1, e2, k0, k1, k2, z5⟩ := SB.facts s3.out
      cases h2 : pNum x ((bl s).drop (c + 1)) with
      | none =>
        rw [h2] at hn2
        simp only at hn2
        have hp := fhid (pRange_none2 h1.out hh1.out (by rw [htl.out]; exact h2))
        clear h2
        go_upto_region 7 with (go_at_call 76; (with_reducible refine (hst _).mono ?_); rintro e w1 ⟨rfl, rfl⟩)
        go_upto_region 8 with (go_at_call 77; (with_reducible refine (hn2 _).mono ?_); rintro e w2 ⟨b2, y2, i2, hy, rfl⟩
                               have z2 := b2.size
                               obtain ⟨_, _, _, k0, k1, k2, _⟩ := SB.facts (SB.below s3.out b2 (by have := zz3.out; omega))
                               obtain ⟨_, _, l0, l1, _⟩ := FB.facts (FB.below s2.out b2 (by have := zz3.out; omega)))
        obtain ⟨u0, u1, u2, u3, ub⟩ := put3 (w := w) (i := 1) (v := .int .i64 0) (e' := y2) (f' := i2) (SB.below s0.out b2 (by have := zz3.out; omega)) (FB.below s1.out b2 (by have := zz3.out; omega)) (FB.below s2.out b2 (by have := zz3.out; omega)) ((b2.block _ (by have := zz3.out; omega)).trans s3.out) hG (bz3.out.trans (b2.mono (by have := zz3.out; omega)))
        generalize World.setCell _ _ _ = W4 at *
        obtain ⟨c0, c1, c2, f0, f1, f2, z3⟩ := SB.facts u0
        obtain ⟨d0, d1, g0, g1, z4⟩ := FB.facts u1
        obtain ⟨e0, e1, k0, k1, z6⟩ := FB.facts u2
        have hy2 : (y2 != 0) = true := by simpa using hy
        have hy1 : ¬ y2 = 0 := hy
        go_wp2_with fail
        go_region
        go_wp2_with fail
        refine bodyPost_ret (v := .tuple #[.agg #[.int .i64 0, .int .i64 0, .int .i64 0], .int .i64 0, .agg #[.int .i64 y2, .int .i64 i2]]) (by simp [results, Tryz.results106, go_sem, c0, c1, c2, d0, d1]) rfl
          (RangePost.bad hp.out ?_ hy rfl)
        repeat' (first | (with_reducible exact ub) | (with_reducible apply Below.drew) | (with_reducible apply Below.setCell) | (with_reducible apply Ds.below_drewN))
        all_goals (first | omega | (simp; done) | (simp; omega))
      | some q2 =>
        obtain ⟨y, r2⟩ := q2
        rw [h2] at hn2
        simp only at hn2
        obtain ⟨ny0, ny1, _, _⟩ := pNum_facts h2
        replace h2 := fhid h2
        go_upto_region 7 with (go_at_call 76; (with_reducible refine (hst _).mono ?_); rintro e w1 ⟨rfl, rfl⟩)
        go_upto_region 8 with (go_at_call 77; (with_reducible refine (hn2 _).mono ?_); rintro e w2 ⟨b2, c2, hc2, hcs2, rfl, rfl⟩
                               have z2 := b2.size
                               obtain ⟨_, _, _, k0, k1, k2, _⟩ := SB.facts (SB.below s3.out b2 (by have := zz3.out; omega))
                               obtain ⟨_, _, l0, l1, _⟩ := FB.facts (FB.below s2.out b2 (by have := zz3.out; omega)))
        obtain ⟨u0, u1, u2, u3, ub⟩ := put3 (w := w) (i := 1) (v := .int .i64 y) (e' := 0) (f' := 0) (SB.below s0.out b2 (by have := zz3.out; omega)) (FB.below s1.out b2 (by have := zz3.out; omega)) (FB.below s2.out b2 (by have := zz3.out; omega)) ((b2.block _ (by have := zz3.out; omega)).trans s3.out) hG (bz3.out.trans (b2.mono (by have := zz3.out; omega)))
        generalize World.setCell _ _ _ = W4 at *
        have zz4 : F + 2 ≤ W4.heap.size := lt_of_block u3
        clear e0 e1 e2 k0 k1 k2 l0 l1 hn2 hst z5 b2 z2
        clear s0 s1 s2 s3 bz3 zz3
        have u3' : SB W4 (F + 1) x y 1 := u3
        obtain ⟨e0, e1, k0, k1, z5⟩ := FB.facts u2
        obtain ⟨c0, c1, d2, f0, f1, f2, z3⟩ := SB.facts u0
        obtain ⟨d0, d1, g0, g1, z4⟩ := FB.facts u1
        obtain ⟨n0, n1, n2, m0, m1, m2, z6⟩ := SB.facts u3'
        have hst := fun W => stands_any s c2 c2 58 58 W rfl rfl
        have hhd : ((bl s).drop c2).head? = (bl s)[c2]? := by rw [List.head?_drop]
        replace u0 := fhid u0
        replace u1 := fhid u1
        replace u2 := fhid u2
        replace u3' := fhid u3'
        replace ub := fhid ub
        clear u3
        by_cases h58 : (bl s)[c2]? = some 58
        · rw [decide_eq_true h58] at hst
          have hh3 := hhd.trans h58
          have htl3 : ((bl s).drop c2).tail = (bl s).drop (c2 + 1) := by rw [List.tail_drop]
          have hcl : c2 < s.size := by
            have := (List.getElem?_eq_some_iff.1 h58).1
            rw [bl_len] at this
            exact this
          have hn3 := fun W => readNumber_any s (c2 + 1) ((c2 : Int) + 1) 1 W (by omega) hs (by omega)
          unfold NumPost at hn3
          have j2 : (0 : Int) ≤ c2 := by omega
          have j3 : (c2 : Int) < s.size := by omega
          clear hhd h58 c0 c1 d2 f0 f1 f2 d0 d1 g0 g1
          replace hh3 := fhid hh3
          replace htl3 := fhid htl3
          have v0 := u0
          have v1 := u1
          have v2 := u2
          have v3 := u3'
          have vb := ub
          clear u0 u1 u2 u3' ub
          cases h4 : pNum 1 ((bl s).drop (c2 + 1)) with
          | none =>
            rw [h4] at hn3
            simp only at hn3
            have hp := fhid (pRange_none3 h1.out hh1.out (by rw [htl.out]; exact h2.out) hh3.out (by rw [htl3.out]; exact h4))
            clear h4 h1 h2 hh1 htl hh3 htl3
            go_upto_region 12 with (go_at_call 76; (with_reducible refine (hst _).mono ?_); rintro e w1 ⟨rfl, rfl⟩)
            go_upto_region 13 with (go_at_call 77; (with_reducible refine (hn3 _).mono ?_); rintro e w2 ⟨b3, y2, i2, hy, rfl⟩
                                    have z2 := b3.size
                                    obtain ⟨_, _, _, m0, m1, m2, _⟩ := SB.facts (SB.below v3.out b3 (by omega))
                                    obtain ⟨_, _, l0, l1, _⟩ := FB.facts (FB.below v2.out b3 (by omega)))
            obtain ⟨u0, u1, u2, u3, ub⟩ := put3 (w := w) (i := 2) (v := .int .i64 0) (e' := y2) (f' := i2) (SB.below v0.out b3 (by omega)) (FB.below v1.out b3 (by omega)) (FB.below v2.out b3 (by omega)) ((b3.block _ (by omega)).trans v3.out) hG (vb.out.trans (b3.mono (by omega)))
            generalize World.setCell _ _ _ = W5 at *
            obtain ⟨c0, c1, c2, f0, f1, f2, z3⟩ := SB.facts u0
            obtain ⟨d0, d1, g0, g1, z4⟩ := FB.facts u1
            obtain ⟨e0, e1, k0, k1, z6⟩ := FB.facts u2
            have hy2 : (y2 != 0) = true := by simpa using hy
            have hy1 : ¬ y2 = 0 := hy
            go_wp2_with fail
            go_region
            go_wp2_with fail
            refine bodyPost_ret (v := .tuple #[.agg #[.int .i64 0, .int .i64 0, .int .i64 0], .int .i64 0, .agg #[.int .i64 y2, .int .i64 i2]]) (by simp [results, Tryz.results106, go_sem, c0, c1, c2, d0, d1]) rfl
              (RangePost.bad hp.out ?_ hy rfl)
            repeat' (first | (with_reducible exact ub) | (with_reducible apply Below.drew) | (with_reducible apply Below.setCell) | (with_reducible apply Ds.below_drewN))
            all_goals (first | omega | (simp; done) | (simp; omega))
          | some q3 =>
            obtain ⟨st, r3⟩ := q3
            rw [h4] at hn3
            simp only at hn3
            replace h4 := fhid h4
            go_upto_region 12 with (go_at_call 76; (with_reducible refine (hst _).mono ?_); rintro e w1 ⟨rfl, rfl⟩)
            go_upto_region 13 with (go_at_call 77; (with_reducible refine (hn3 _).mono ?_); rintro e w2 ⟨b3, c3, hc3, hcs3, rfl, rfl⟩
                                    have z2 := b3.size
                                    obtain ⟨_, _, _, m0, m1, m2, _⟩ := SB.facts (SB.below v3.out b3 (by omega))
                                    obtain ⟨_, _, l0, l1, _⟩ := FB.facts (FB.below v2.out b3 (by omega)))
            obtain ⟨u0, u1, u2, u3, ub⟩ := put3 (w := w) (i := 2) (v := .int .i64 st) (e' := 0) (f' := 0) (SB.below v0.out b3 (by omega)) (FB.below v1.out b3 (by omega)) (FB.below v2.out b3 (by omega)) ((b3.block _ (by omega)).trans v3.out) hG (vb.out.trans (b3.mono (by omega)))
            generalize World.setCell _ _ _ = W5 at *
            have hp := fhid (pRange_three h1.out hh1.out (by rw [htl.out]; exact h2.out) hh3.out (by rw [htl3.out]; exact h4.out))
            clear h4 h1 h2 hh1 htl hh3 htl3 e0 e1 k0 k1 n0 n1 n2 m0 m1 m2
            have u3' : SB W5 (F + 1) x y st := u3
            obtain ⟨e0, e1, k0, k1, z7⟩ := FB.facts u2
            obtain ⟨c0, c1, d2, f0, f1, f2, z8⟩ := SB.facts u0
            obtain ⟨d0, d1, g0, g1, z9⟩ := FB.facts u1
            obtain ⟨n0, n1, n2, m0, m1, m2, z10⟩ := SB.facts u3'
            replace u0 := fhid u0
            replace u1 := fhid u1
            replace u2 := fhid u2
            replace u3' := fhid u3'
            clear u3
            go_wp2_with fail
            exact bodyPost_ret (v := .tuple #[.agg #[.int .i64 x, .int .i64 y, .int .i64 st], .int .i64 c3, .agg #[.int .i64 0, .int .i64 0]]) (by simp [results, Tryz.results106, go_sem, c0, c1, d2, d0, d1]) rfl
              (RangePost.good hp.out (sets5 ub _ _ (Nat.le_refl _) (by omega) _ _ _ _ _) (by omega) hcs3 rfl)
        · rw [decide_eq_false h58] at hst
          have hp := fhid (pRange_two h1.out hh1.out (by rw [htl.out]; exact h2.out) (fun h => h58 (hhd.symm.trans h)))
          clear h1 h2 hh1 htl hhd h58
          go_wp2_with (go_at_call 76; (with_reducible refine (hst _).mono ?_); rintro e w1 ⟨rfl, rfl⟩)
          exact bodyPost_ret (v := .tuple #[.agg #[.int .i64 x, .int .i64 y, .int .i64 1], .int .i64 c2, .agg #[.int .i64 0, .int .i64 0]]) (by simp [results, Tryz.results106, go_sem, c0, c1, d2, d0, d1]) rfl
            (RangePost.good hp.out (sets5 ub.out _ _ (Nat.le_refl _) (by omega) _ _ _ _ _) (by omega) hcs2 rfl)
    · rw [decide_eq_false h45] at hst
      have hp := fhid (pRange_one h1.out (fun h => h45 (hhd.symm.trans h)))
      clear h1 hhd h45
      obtain ⟨c0, c1, c2, f0, f1, f2, z3⟩ := SB.facts s0
      obtain ⟨d0, d1, g0, g1, z4⟩ := FB.facts s1
      obtain ⟨e0, e1, e2, k0, k1, k2, z5⟩ := SB.facts s3
      replace s0 := fhid s0
      replace s1 := fhid s1
      replace s3 := fhid s3
      go_wp2_with (go_at_call 76; (with_reducible refine (hst _).mono ?_); rintro e w1 ⟨rfl, rfl⟩)
      exact bodyPost_ret (v := .tuple #[.agg #[.int .i64 x, .int .i64 x, .int .i64 1], .int .i64 c, .agg #[.int .i64 0, .int .i64 0]]) (by simp [results, Tryz.results106, go_sem, c0, c1, c2, d0, d1]) rfl
        (RangePost.good hp.out (sets5 bz3 _ _ (Nat.le_refl _) (by omega) _ _ _ _ _) hac hcs rfl)
end Go.Proofs.YtjpihophigjbpaaGreatDoor.Ys
/-
  A map that is a set of numbers; its keys, sorted; a range's indexes put into it.
-/
namespace Go.Proofs.YtjpihophigjbpaaGreatDoor.Ys
open Go.Proofs.YtjpihophigjbpaaGreatDoor.Ds
open Go.RowKit Go.Maps Go.MapKept

abbrev unit : Value := .agg #[]
/-- The map in block b has just these keys, in the order in which they came. -/
def KMap (w : World) (b : Nat) (l : List Int) : Prop := ∃ es clock, w.heap[b]? = some (.map es clock) ∧ Stamped es clock ∧ es.toList.map (fun e => (e.key, e.val)) = l.map fun n => (Value.int .i64 n, unit)
def KS (l : List Int) : List (Int × Value) := l.map fun n => (n, unit)
theorem KS_map (l : List Int) : (KS l).map (fun x => (Value.int .i64 x.1, x.2)) = l.map fun n => (Value.int .i64 n, unit) := by simp [KS]
theorem look_KS (l : List Int) (k : Int) : Ds.look (KS l) k = if k ∈ l then some unit else none := by
  induction l with
  | nil => rfl
  | cons x r ih =>
    show (if x = k then some unit else Ds.look (KS r) k) = _
    by_cases h : x = k
    · rw [if_pos h, if_pos (by simp [h])]
    · rw [if_neg h, ih]
      by_cases h2 : k ∈ r
      · rw [if_pos h2, if_pos (by simp [h2])]
      · rw [if_neg h2, if_neg (by simp [h2, Ne.symm h])]
section
variable {w w' : World} {b B : Nat} {l : List Int}
theorem KMap.imap (h : KMap w b l) : IMap w b (KS l) := by
  obtain ⟨es, c, a, _, e⟩ := h
  exact ⟨es, c, a, by rw [KS_map]; exact e⟩
theorem KMap.new (w : World) : KMap (w.alloc (.map #[] 0)) w.heap.size [] := ⟨#[], 0, heap_alloc_new w _, stamped_empty 0, rfl⟩
theorem KMap.keep (h : KMap w b l) (hk : w'.heap[b]? = w.heap[b]?) : KMap w' b l := by
  obtain ⟨es, c, a, e⟩ := h
  exact ⟨es, c, hk.trans a, e⟩
theorem KMap.lt (h : KMap w b l) : b < w.heap.size := by
  obtain ⟨es, c, a, _⟩ := h
  exact lt_of_block a
theorem KMap.below (h : KMap w b l) (hb : Below B w w') (hB : b < B) : KMap w' b l := h.keep (hb.block b hB)
theorem KMap.len (h : KMap w b l) (T : TypeId) : (Builtin.len_ #[161] T #[.map (some b)]).run Tryz.prog w = .ok (.int .i64 l.length) w := by
  obtain ⟨es, c, a, _, e⟩ := h
  have hl := congrArg List.length e
  rw [List.length_map, List.length_map, Array.length_toList] at hl
  have := run_len_map (P := Tryz.prog) w 161 T b es c (by kernel_rfl) a
  rw [hl] at this
  exact this
end
theorem zeroUnit (w : World) : (zeroValue 171).run Tryz.prog w = .ok unit w := by kernel_rfl
section
variable {w : World} {ops : Array Oper} {rest : List Oper} {o : Oper} {a : Act} {Q : Exit → Act → World → Prop}
theorem kmap_look (hg : o.guard = none) (m x : Operand) (hop : o.op = Op.lookup 161 m x true) (b : Nat) (l : List Int) (hm : a.eval m = .map (some b)) (h : KMap w b l) (k : Int) (hx : a.eval x = .int .i64 k) (r : Bool) (hr : decide (k ∈ l) = r)
    (hq : wpList Tryz.prog ops Q rest (a.put o.dst (.tuple #[unit, .bool r])) w) : wpList Tryz.prog ops Q (o :: rest) a w := by
  refine imap_look_ok hg m x 161 3 171 hop Tryz.underlying161 Tryz.underlying3 unit (zeroUnit w) b (KS l) hm h.imap k hx ?_
  rw [look_KS]
  by_cases hk : k ∈ l
  · rw [decide_eq_true hk] at hr
    rw [if_pos hk]
    subst hr
    exact hq
  · rw [decide_eq_false hk] at hr
    rw [if_neg hk]
    subst hr
    exact hq
theorem kmap_put (hg : o.guard = none) (m x v : Operand) (hop : o.op = Op.mapUpdate 161 m x v) (b : Nat) (l : List Int) (hm : a.eval m = .map (some b)) (h : KMap w b l) (k : Int) (hx : a.eval x = .int .i64 k) (hv : a.eval v = unit) (hl : k ∉ l)
    (hq : ∀ w', KMap w' b (l ++ [k]) → w.grownBy w' (some b) → w'.heap.size = w.heap.size → wpList Tryz.prog ops Q rest (a.put o.dst undef) w') : wpList Tryz.prog ops Q (o :: rest) a w := by
  refine wpList_plain hg fun K' hK' => ?_
  obtain ⟨es, clock, hb, hs, he⟩ := h
  obtain ⟨j, hj⟩ := findNow_look k es.toList (KS l) 0 (by rw [KS_map]; exact he)
  rw [look_KS, if_neg hl] at hj
  have hK := Tryz.underlying3
  have hf := MapKept.run_findKey (w := w) hK hj
  have hc := fun e => MapKept.run_checkKey (P := Tryz.prog) (w := w) hK (isKey_int k) e 9999
  have hrun : (Instr.mapUpdate 161 (.map (some b)) (.int .i64 k) unit).run Tryz.prog w = .ok () (ChangeMaps.setBlock w b (.map (es.push ⟨.int .i64 k, unit, clock⟩) (clock + 1))) := by
    simp [Instr.mapUpdate, run_underlying Tryz.underlying161, MapKept.run_getObj_map hb, hc, hf, MapKept.run_setObj_map _ hb, Result.andThen, ChangeMaps.setBlock]
  have hne : ∀ x ∈ es.toList, x.key ≠ .int .i64 k := fun x hx e => by
    have hm := List.mem_map_of_mem (f := fun e : MapEntry => (e.key, e.val)) hx
    rw [he] at hm
    obtain ⟨n, hn, e2⟩ := List.mem_map.1 hm
    have e3 : Value.int .i64 n = x.key := congrArg Prod.fst e2
    rw [e] at e3
    have : n = k := by simpa using e3
    exact hl (this ▸ hn)
  unfold Oper.wp
  simp [execOp, hop, hm, hx, hv, hrun, Result.andThen]
  refine hK' _ _ (hq _ ⟨_, _, ChangeMaps.heap_setBlock_same hb _, stamped_push hs hne, ?_⟩ ⟨rfl, rfl, rfl, by simp [ChangeMaps.setBlock], fun i _ hi => ChangeMaps.heap_setBlock_other hb _ (fun e => hi (by rw [e]))⟩ (by simp [ChangeMaps.setBlock]))
  rw [Array.toList_push, List.map_append, he, List.map_append]
  rfl
end
/-- How an entry's value reads: as anything. -/
def RAny : Value → Option (DataW Unit × List MemPlace) := fun _ => some (.lit (.bool true), [])
theorem KMap.owns {w : World} {b : Nat} {l : List Int} (h : KMap w b l) (hl : l.length ≤ maxLen) (hx : ∀ n ∈ l, -9223372036854775808 ≤ n ∧ n ≤ 9223372036854775807) : ∃ D : DataW Unit, w.ownsMap Tryz.prog 3 RAny b l.length D ∧ (intKeys D).Perm l ∧ Maps.size D = l.length := by
  obtain ⟨es, clock, hb, hs, he⟩ := h
  have hlen := congrArg List.length he
  rw [List.length_map, List.length_map, Array.length_toList] at hlen
  have hkey : ∀ x ∈ es.toList, ∃ n, n ∈ l ∧ x.key = .int .i64 n ∧ keyOf Tryz.prog 3 x.key = some (.int .i64 n) := fun x hx1 => by
    have hm := List.mem_map_of_mem (f := fun e : MapEntry => (e.key, e.val)) hx1
    rw [he] at hm
    obtain ⟨n, hn, e2⟩ := List.mem_map.1 hm
    have e3 : Value.int .i64 n = x.key := congrArg Prod.fst e2
    refine ⟨n, hn, e3.symm, ?_⟩
    rw [← e3]
    exact Maps.keyOf_int_mk Tryz.underlying3 (by have := hx n hn; simp [Lit.wf, IntKind.min, IntKind.max, IntKind.signed, IntKind.bits]; omega)
  have hread : ∀ x ∈ es.toList, ∀ n, x.key = .int .i64 n → n ∈ l → WideElems.rd Tryz.prog 3 RAny x = some (.int .i64 n, .lit (.bool true)) := fun x hx1 n e hn => by
    obtain ⟨m, _, e1, e2⟩ := hkey x hx1
    have : m = n := by rw [e1] at e; simpa using e
    subst this
    unfold WideElems.rd RAny
    rw [e2]; rfl
  have F : WideElems.Fit Tryz.prog 3 RAny es clock := ⟨by omega, hs, fun x hx1 => by
    obtain ⟨n, hn, e1, _⟩ := hkey x hx1
    exact ⟨_, hread x hx1 n e1 hn⟩⟩
  refine ⟨_, ⟨es, clock, hb, F, by omega, rfl⟩, ?_, ?_⟩
  · show (((es.toList.map (WideElems.rg Tryz.prog 3 RAny)).foldr DataW.insert []).map fun p => Go.intOf p.1).Perm l
    refine ((WideShapes.sorted_perm _).map _).trans ?_
    rw [List.map_map]
    have : es.toList.map ((fun p : Lit × DataW Unit => Go.intOf p.1) ∘ WideElems.rg Tryz.prog 3 RAny) = l := by
      apply List.ext_getElem
      · rw [List.length_map, Array.length_toList, hlen]
      · intro j h1 h2
        rw [List.getElem_map]
        have h3 : j < es.toList.length := by simpa using h1
        obtain ⟨n, hn, e1, _⟩ := hkey _ (List.getElem_mem h3)
        have e4 : (es.toList.map fun e : MapEntry => (e.key, e.val))[j]'(by simpa using h3) = (l.map fun n => (Value.int .i64 n, unit))[j]'(by simpa using h2) := by simp only [he]
        rw [List.getElem_map, List.getElem_map] at e4
        have e5 : es.toList[j].key = .int .i64 l[j] := congrArg Prod.fst e4
        have e6 := WideElems.rg_of (hread _ (List.getElem_mem h3) _ e5 (List.getElem_mem h2))
        rw [Function.comp, e6]
        rfl
    rw [this]
  · show ((es.toList.map (WideElems.rg Tryz.prog 3 RAny)).foldr DataW.insert []).length = _
    rw [length_sorted, List.length_map, Array.length_toList, hlen]
set_option maxRecDepth 100000 in
/-- slices.Sort's two contracts at this dump, at the fence that asks nothing. -/
theorem sortsI (m : Nat) : AnyZI.SortsIn Tryz.prog Tryz.sortedI_ren Fence.wide m :=
  ⟨fun blk off cap ss W hH hblk hsz => callsIn_wide.2 (AnyM.slices_Sort_int Tryz.laysSlM5_f143 blk off cap ss W hH hblk hsz),
   fun p cap W => callsIn_wide.2 (AnyM.slices_Sort_int_none Tryz.laysSlM5_f143 p cap W)⟩
abbrev keysV (w : World) : Value := .func (.func 144) #[] #[.pointer (some ⟨w.heap.size, 0, none⟩)]
set_option maxRecDepth 100000 in
theorem Keys_any (mb : Option Nat) (w : World) : Calls Tryz.prog 109 #[.map mb] w fun e w' => e = .returned (keysV w) ∧ w' = w.alloc (.cells #[.map mb] 161) :=
  (callsIn_wide (n := 5)).1 (AnyZI.keys_in Tryz.keysI Fence.wide 5 trivial rfl mb w)
/-- Numbers of the call's own, from a base on. -/
def IntsFrom (w : World) (B : Nat) (l : List Int) (e : Ending) (w' : World) : Prop := ∃ v, e = .returned v ∧ OwnI w' B v l ∧ Below w.heap.size w w'
set_option maxRecDepth 100000 in
/-- The keys, sorted: w is the world ahead of the call of maps.Keys. -/
theorem Sorted_any (b : Nat) (l : List Int) (w : World) (h : KMap w b l) (hl : l.length ≤ 1000) (hx : ∀ n ∈ l, -9223372036854775808 ≤ n ∧ n ≤ 9223372036854775807) :
    Calls Tryz.prog 108 #[keysV w] (w.alloc (.cells #[.map (some b)] 161)) (IntsFrom (w.alloc (.cells #[.map (some b)] 161)) (w.heap.size + 1) (srt l)) := by
  have hbl := h.lt
  obtain ⟨D0, hown, hperm, hsize⟩ := h.owns (by unfold maxLen; omega) hx
  have hseq : SeqGives Fence.wide 2 Tryz.prog 144 #[.pointer (some ⟨w.heap.size, 0, none⟩)] encZ (fun ss => ss.Perm (intKeys D0)) (Maps.size D0) (w.alloc (.cells #[.map (some b)] 161)) :=
    AnyZI.keys_gives (ρ := Tryz.keysI_ren) { Tryz.keysI with } Fence.wide _ trivial rfl (by omega) w.heap.size b l.length D0 _ (by simp) (by simp) (by
      obtain ⟨es, clock, hb, Ft, hs, hD⟩ := hown
      exact ⟨es, clock, (Below.heap_alloc _ _ b hbl).trans hb, Ft, hs, hD⟩)
  have cS := AnyZI.sorted_in Tryz.sortedI Fence.wide 5 trivial trivial trivial trivial rfl (by omega) (sortsI _) (enters_of Tryz.func143 (by kernel_rfl) rfl) 144 #[.pointer (some ⟨w.heap.size, 0, none⟩)] trivial (enters_of Tryz.func144 (by kernel_rfl) rfl) _ _ (by rw [hsize]; unfold maxLen; omega) (by rw [hsize]; omega) _ hseq
  change CallsIn _ _ Tryz.prog 108 _ _ _ at cS
  refine (callsIn_wide.1 cS).mono ?_
  rintro e w' ⟨v, ss, rfl, hS, hrow, hnil, hb⟩
  have hsl : ss.mergeSort (fun x y => decide (x ≤ y)) = srt l := mergeSort_of_perm_i (hS.trans hperm)
  refine ⟨v, rfl, ?_, hb⟩
  have hlen : ss.length = (srt l).length := by rw [← hsl, List.length_mergeSort]
  rw [hsl, hlen] at hrow
  unfold OwnI
  rw [← World.size_alloc w (.cells #[.map (some b)] 161)]
  exact hrow
end Go.Proofs.YtjpihophigjbpaaGreatDoor.Ys
/-
  A range's indexes put to those that came.
-/
namespace Go.Proofs.YtjpihophigjbpaaGreatDoor.Ys
open Go.Proofs.YtjpihophigjbpaaGreatDoor.Ds
open Go.RowKit

theorem OwnI.seg {w : World} {base : Nat} {v : Value} {ns : List Int} (h : OwnI w base v ns) : ∃ A cap, v = .slice A ns.length cap ∧ ns.length ≤ cap ∧ cap ≤ maxLen ∧ SegP w (fun k => base ≤ k ∧ k < w.heap.size) A (IV ns) := by
  obtain ⟨hl, ⟨rfl, h0⟩ | ⟨g, cap, cur, rfl, hge, hg, hle, hcm, hsz, ht⟩⟩ := h
  · have : ns = [] := List.eq_nil_of_length_eq_zero h0
    subst this
    exact ⟨none, 0, rfl, Nat.le_refl _, by unfold maxLen; omega, SegP.nil _ _ _⟩
  · refine ⟨some ⟨g, 0, none⟩, cap, rfl, hle, hcm, fun h0 => ⟨g, 0, rfl, ⟨hge, lt_of_block hg⟩, fun j hj => ?_⟩⟩
    have hj' : j < ns.length * 1 := by rw [← hl]; exact hj
    have e : (cur.toList.take (ns.length * 1))[j]? = some (IV ns)[j] := by rw [ht, List.getElem?_eq_getElem hj]
    rw [List.getElem?_take, if_pos hj', Array.getElem?_toList] at e
    simp only [World.cell?, hg, Nat.zero_add]
    simpa using e
theorem below_map {w w' : World} {b B : Nat} (h : w.grownBy w' (some b)) (hB : B ≤ b) (hb : B ≤ w.heap.size) : Below B w w' :=
  ⟨h.os, h.tape, h.output, h.size, fun k hk => h.block k (by omega) (by intro e; injection e with e; omega)⟩
/-- Whether a range's indexes may be put to those that came. -/
def mayAdd (came : List Int) (x : Sp) : Bool := decide (¬ (256 < came.length + spN x ∨ ¬ ∀ n ∈ spL x, n ∉ came))
/-- What a call that puts them hands back. -/
def AddPost (B b : Nat) (came : List Int) (x : Sp) (w : World) (e : Ending) (w' : World) : Prop := e = .returned (.bool (mayAdd came x)) ∧ (mayAdd came x = true → KMap w' b (came ++ spL x)) ∧ Below B w w'
theorem AddPost.bad {B b : Nat} {came : List Int} {x : Sp} {w : World} {e : Ending} {w' : World} (h : mayAdd came x = false) (he : e = .returned (.bool false)) (hb : Below B w w') : AddPost B b came x w e w' := ⟨by rw [h]; exact he, fun h2 => (by rw [h] at h2; cases h2), hb⟩
set_option maxRecDepth 100000 in
set_option maxHeartbeats 4000000 in
theorem add_any (B b : Nat) (came : List Int) (x y st : Int) (w : World) (hx : SpOk (x, y, st)) (hm : KMap w b came) (hB : B ≤ b) (hl : came.length ≤ 256) :
    Calls Tryz.prog 107 #[.map (some b), .agg #[.int .i64 x, .int .i64 y, .int .i64 st]] w (AddPost B b came (x, y, st) w) := by
  have hbl := hm.lt
  have hct := fun W => count_any x y st hx W
  have hix := fun W => indexes_any x y st hx W
  have hnd := fhid (spL_facts hx.1 hx.2.1 hx.2.2.2.1).1
  have hmany := (sp_many hx).2
  have hll := fhid (spL_len (x, y, st))
  have hmy := fhid (show mayAdd came (x, y, st) = decide (¬ (256 < came.length + spN (x, y, st) ∨ ¬ ∀ n ∈ spL (x, y, st), n ∉ came)) from rfl)
  have hbad := fhid (show ∀ e w', mayAdd came (x, y, st) = false → e = .returned (.bool false) → Below B w w' → AddPost B b came (x, y, st) w e w' from fun _ _ => AddPost.bad)
  have hpost := fhid (show ∀ e w', (e = .returned (.bool (mayAdd came (x, y, st))) ∧ (mayAdd came (x, y, st) = true → KMap w' b (came ++ spL (x, y, st))) ∧ Below B w w') → AddPost B b came (x, y, st) w e w' from fun _ _ h => h)
  generalize AddPost B b came (x, y, st) w = P at *
  generalize mayAdd came (x, y, st) = r at *
  generalize spL (x, y, st) = L at *
  generalize spN (x, y, st) = N at *
  have p0 : SB (w.alloc (.cells #[.int .i64 x, .int .i64 y, .int .i64 st] TSp)) w.heap.size x y st := heap_alloc_new w _
  have b0 : Below w.heap.size w (w.alloc (.cells #[.int .i64 x, .int .i64 y, .int .i64 st] TSp)) := (Below.refl _ _).alloc (Nat.le_refl _) _
  have z0 := World.size_alloc w (.cells #[.int .i64 x, .int .i64 y, .int .i64 st] TSp)
  have i1 : (0 : Int) ≤ came.length := by omega
  have i2 : (came.length : Int) ≤ 256 := by omega
  have i3 : (0 : Int) ≤ N := by omega
  have i4 : (N : Int) ≤ 1000000 := by omega
  go_enter Tryz.func107, Tryz.ntmps107
  go_upto_region 1 with fail
  generalize w.alloc _ = w1 at *
  have hm1 := hm.below b0 hbl
  obtain ⟨c0, c1, c2, _, _, _, _⟩ := p0.facts
  have hlen := fun (W : World) (h : KMap W b came) T => h.len T
  replace p0 := fhid p0
  replace z0 := fhid z0
  replace hm := fhid hm
  replace hlen := fhid hlen
  by_cases h256 : (256 : Int) - came.length < N
  · have hr : r = false := by
      rw [hmy.out]
      exact decide_eq_false fun h => h (.inl (by omega))
    clear hmy
    go_wp2_with (go_at_call 140; (with_reducible refine (hct _).mono ?_); rintro e w2 ⟨rfl, b2⟩
                 have hlw := hlen.out w2 (hm1.below b2 (by have := z0.out; omega)))
    exact hbad.out _ _ hr rfl ((b0.trans (b2.mono b0.size)).mono (by omega))
  · have i5 : (N : Int) ≤ 256 - came.length := by omega
    go_upto_region 3 with (go_at_call 140; (with_reducible refine (hct _).mono ?_); rintro e w2 ⟨rfl, b2⟩
                           have hlw := hlen.out w2 (hm1.below b2 (by have := z0.out; omega)))
    have hz2 := b2.size
    have hz0 := z0.out
    obtain ⟨d0, d1, d2, _, _, _, _⟩ := (p0.out.below b2 (by omega)).facts
    have hm2 := hm1.below b2 (by omega)
    have g2 := b0.trans (b2.mono b0.size)
    clear c0 c1 c2 hlw
    replace hm2 := fhid hm2
    go_upto_region 4 with (go_at_call 141; (with_reducible refine (hix _).mono ?_); rintro e w3 ⟨v, rfl, o3, b3⟩
                           obtain ⟨A, cap, rfl, hc1, hc2, hsg⟩ := OwnI.seg o3)
    have hm3 := hm2.out.below b3 (by omega)
    have g3 := (g2.trans (b3.mono g2.size)).mono (B' := B) (by omega)
    have hz3 := b3.size
    have hsg3 : SegP w3 (fun k => b < k ∧ k < w3.heap.size) A (IV L) := hsg.imp fun k _ hk => ⟨by have := hk.1; omega, hk.2⟩
    have hL : L.length = N := hll.out
    rw [hL] at hc1 ⊢
    clear hsg o3 d0 d1 d2 b3 hm2 g2 hm1 b0 b2 hct hix
    replace hL := fhid hL
    go_loopw [18] (fun i wr => ∃ j : Nat, j ≤ N ∧ i = .int .i64 (j : Int) ∧ KMap wr b (came ++ L.take j) ∧ (∀ n ∈ L.take j, n ∉ came) ∧ SegP wr (fun k => b < k ∧ k < w3.heap.size) A (IV L) ∧ Below B w wr ∧ w3.heap.size ≤ wr.heap.size) (fun i _ => N - (intOf i).toNat)
    case atStart => exact ⟨0, Nat.zero_le _, rfl, by rw [List.take_zero, List.append_nil]; exact hm3, by simp, hsg3, g3, Nat.le_refl _⟩
    case round =>
      obtain ⟨j, hjN, rfl, hM, hno, hS, hBw, hsz⟩ := hrel
      have hbz := hM.lt
      by_cases hlt : j < N
      · have hjL : j < L.length := by rw [hL.out]; exact hlt
        obtain ⟨bb, o, rfl, ⟨hbb, hbs⟩, hc⟩ := Ints.at_ hS hjL
        have hsn : L.take (j + 1) = L.take j ++ [L[j]] := List.take_succ_eq_append_getElem hjL
        have hnj : L[j] ∉ L.take j := fun h => by
          obtain ⟨k, hk, e⟩ := List.getElem_of_mem h
          rw [List.getElem_take] at e
          rw [List.length_take] at hk
          exact List.pairwise_iff_getElem.1 hnd.out k j (by omega) hjL (by omega) e
        have hin : L[j] ∈ L := List.getElem_mem hjL
        have j1 : (j : Int) < N := by omega
        have j0 : (0 : Int) ≤ j := by omega
        generalize L[j] = n at *
        have hM2 := fhid (fun (W : World) (h : W.heap[b]? = wr.heap[b]?) => hM.keep (w' := W) h)
        by_cases hn : n ∈ came
        · have hr : r = false := by
            rw [hmy.out]
            exact decide_eq_false fun h => h (.inr fun h2 => h2 n hin hn)
          have hd : decide (n ∈ came ++ L.take j) = true := decide_eq_true (by simp [hn])
          have hBw' := fhid hBw
          clear hmy hsn hnj hin hno hn hM
          replace hS := fhid hS
          go_wp2_with (at_lookup; refine kmap_look rfl _ _ rfl b _ rfl (hM2.out _ rfl) n rfl true hd ?_)
          exact hbad.out _ _ hr rfl (hBw'.out.alloc (by have := hBw'.out.size; omega) _)
        · have hd : decide (n ∈ came ++ L.take j) = false := decide_eq_false (by simp [hn, hnj])
          have hnin := fhid (show n ∉ came ++ L.take j by simp [hn, hnj])
          have hno2 := fhid (show ∀ m ∈ L.take (j + 1), m ∉ came from fun m hm => by
            rw [hsn] at hm
            rcases List.mem_append.1 hm with hm | hm
            · exact hno m hm
            · rw [List.mem_singleton.1 hm]; exact hn)
          have hE := fhid (show (came ++ L.take j) ++ [n] = came ++ L.take (j + 1) by rw [hsn, List.append_assoc])
          have hBw' := fhid hBw
          clear hsn hnj hin hno hn hM hBw
          replace hS := fhid hS
          go_wp2_with (first
            | (at_lookup; refine kmap_look rfl _ _ rfl b _ rfl (hM2.out _ rfl) n rfl false hd ?_)
            | (at_mapUpdate; refine kmap_put rfl _ _ _ rfl b (came ++ L.take j) rfl (hM2.out _ (Below.heap_alloc _ _ _ hbz)) n rfl rfl hnin.out ?_; intro w4 m4 g4 z4))
          go_roundw
          case rel => exact ⟨j + 1, by omega, by go_num, by rw [← hE.out]; exact m4, hno2.out, hS.out.keep (fun k hk => (g4.block k (by rw [World.size_alloc]; omega) (by intro e; injection e with e; omega)).trans (Below.heap_alloc _ _ _ (by omega))), (hBw'.out.alloc (by have := hBw'.out.size; omega) _).trans (below_map g4 hB (by rw [World.size_alloc]; have := hBw'.out.size; omega)), by rw [z4, World.size_alloc]; omega⟩
          case measure => simp [intOf]; omega
      · obtain rfl : j = N := by omega
        have hLL : L.take j = L := List.take_of_length_le (by rw [hL.out]; omega)
        rw [hLL] at hM hno
        have hr : r = true := by
          rw [hmy.out]
          exact decide_eq_true fun h => by
            rcases h with h | h
            · omega
            · exact h hno
        have hpost2 := fhid (fun e w' (he : e = .returned (.bool true)) (h1 : KMap w' b (came ++ L)) (h2 : Below B w w') => hpost.out e w' ⟨by rw [hr]; exact he, fun _ => h1, h2⟩)
        have j1 : ¬ (j : Int) < j := by omega
        clear hmy hno hLL hr hpost hbad
        replace hM := fhid hM
        replace hS := fhid hS
        replace hBw := fhid hBw
        go_wp2_with fail
        exact hpost2.out _ _ rfl hM.out hBw.out
end Go.Proofs.YtjpihophigjbpaaGreatDoor.Ys
/-
  The ranges that a text begins with, read.
-/
namespace Go.Proofs.YtjpihophigjbpaaGreatDoor.Ys
open Go.Proofs.YtjpihophigjbpaaGreatDoor.Ds
open Go.RowKit

/-- What a call that reads the ranges hands back. -/
def RangesPost (w : World) (s : ByteArray) (e : Ending) (w' : World) : Prop := Below w.heap.size w w' ∧ match pRanges (s.size + 1) [] (bl s) with
  | none => ∃ y i : Int, y ≠ 0 ∧ e = .returned (.tuple #[.slice none 0 0, .int .i64 0, .agg #[.int .i64 y, .int .i64 i]])
  | some (l, r) => ∃ (c : Nat) (A : Option Addr) (cap : Nat), c ≤ s.size ∧ r = (bl s).drop c ∧ (srt l).length ≤ cap ∧ cap ≤ maxLen ∧ SegP w' (fun k => w.heap.size ≤ k ∧ k < w'.heap.size) A (IV (srt l)) ∧ e = .returned (.tuple #[.slice A (srt l).length cap, .int .i64 c, .agg #[.int .i64 0, .int .i64 0]])
theorem RangesPost.bad {w : World} {s : ByteArray} {e : Ending} {w' : World} (h : pRanges (s.size + 1) [] (bl s) = none) (hb : Below w.heap.size w w') {y i : Int} (hy : y ≠ 0) (he : e = .returned (.tuple #[.slice none 0 0, .int .i64 0, .agg #[.int .i64 y, .int .i64 i]])) : RangesPost w s e w' := by
  refine ⟨hb, ?_⟩
  rw [h]
  exact ⟨y, i, hy, he⟩
theorem RangesPost.good {w : World} {s : ByteArray} {e : Ending} {w' : World} {l : List Int} {c : Nat} (h : pRanges (s.size + 1) [] (bl s) = some (l, (bl s).drop c)) (hb : Below w.heap.size w w') (hc : c ≤ s.size) {A : Option Addr} {cap : Nat} (h1 : (srt l).length ≤ cap) (h2 : cap ≤ maxLen) (h3 : SegP w' (fun k => w.heap.size ≤ k ∧ k < w'.heap.size) A (IV (srt l)))
    (he : e = .returned (.tuple #[.slice A (srt l).length cap, .int .i64 c, .agg #[.int .i64 0, .int .i64 0]])) : RangesPost w s e w' := by
  refine ⟨hb, ?_⟩
  rw [h]
  exact ⟨c, A, cap, hc, rfl, h1, h2, h3, he⟩
section
variable {f : Nat} {came : List Int} {t r : List UInt8} {x : Sp}
theorem pRanges_none (h : pRange t = none) : pRanges (f + 1) came t = none := by rw [pRanges, h]
theorem pRanges_many (h : pRange t = some (x, r)) (h1 : mayAdd came x = false) : pRanges (f + 1) came t = none := by
  rw [pRanges, h]
  exact if_pos (Classical.not_not.1 (of_decide_eq_false h1))
theorem pRanges_more (h : pRange t = some (x, r)) (h1 : mayAdd came x = true) (h2 : r.head? = some 44) : pRanges (f + 1) came t = pRanges f (came ++ spL x) r.tail := by
  rw [pRanges, h]
  simp only
  rw [if_neg (of_decide_eq_true h1), if_pos h2]
theorem pRanges_done (h : pRange t = some (x, r)) (h1 : mayAdd came x = true) (h2 : r.head? ≠ some 44) : pRanges (f + 1) came t = some (came ++ spL x, r) := by
  rw [pRanges, h]
  simp only
  rw [if_neg (of_decide_eq_true h1), if_neg h2]
end
/-- The blocks of a range, and its fault, just made. -/
theorem two_new {w W : World} {B b m : Nat} {came : List Int} (x y st e f : Int) (hF : FB W b 0 0) (hM : KMap W m came) (hb : Below B w W) (hB : B ≤ W.heap.size) :
    SB ((W.alloc (.cells #[.int .i64 x, .int .i64 y, .int .i64 st] TSp)).alloc (.cells #[.int .i64 e, .int .i64 f] TFa)) W.heap.size x y st ∧ FB ((W.alloc (.cells #[.int .i64 x, .int .i64 y, .int .i64 st] TSp)).alloc (.cells #[.int .i64 e, .int .i64 f] TFa)) (W.heap.size + 1) e f ∧
    FB ((W.alloc (.cells #[.int .i64 x, .int .i64 y, .int .i64 st] TSp)).alloc (.cells #[.int .i64 e, .int .i64 f] TFa)) b 0 0 ∧ KMap ((W.alloc (.cells #[.int .i64 x, .int .i64 y, .int .i64 st] TSp)).alloc (.cells #[.int .i64 e, .int .i64 f] TFa)) m came ∧
    Below B w ((W.alloc (.cells #[.int .i64 x, .int .i64 y, .int .i64 st] TSp)).alloc (.cells #[.int .i64 e, .int .i64 f] TFa)) ∧ ((W.alloc (.cells #[.int .i64 x, .int .i64 y, .int .i64 st] TSp)).alloc (.cells #[.int .i64 e, .int .i64 f] TFa)).heap.size = W.heap.size + 2 := by
  have g : Below W.heap.size W ((W.alloc (.cells #[.int .i64 x, .int .i64 y, .int .i64 st] TSp)).alloc (.cells #[.int .i64 e, .int .i64 f] TFa)) := ((Below.refl _ _).alloc (Nat.le_refl _) _).alloc (by rw [World.size_alloc]; omega) _
  exact ⟨old_at _ _ _ (heap_alloc_new W _) (by rw [World.size_alloc]; omega), new_at _ _ _ (by rw [World.size_alloc]), hF.below g (hF.facts.2.2.2.2), hM.below g hM.lt, (hb.alloc hB _).alloc (by rw [World.size_alloc]; omega) _, by rw [World.size_alloc, World.size_alloc]⟩
theorem seg_set2 {w : World} {b c : Nat} {A : Option Addr} {vs : List Value} (h : SegP w (fun k => b ≤ k ∧ k < w.heap.size) A vs) (hc : c < b) (u v : Value) :
    SegP ((w.setCell ⟨c, 0, none⟩ u).setCell ⟨c, 1, none⟩ v) (fun k => b ≤ k ∧ k < ((w.setCell ⟨c, 0, none⟩ u).setCell ⟨c, 1, none⟩ v).heap.size) A vs := by
  have k := h.keep (w' := (w.setCell ⟨c, 0, none⟩ u).setCell ⟨c, 1, none⟩ v) fun k hk => block_other _ _ (block_other _ _ rfl (by omega)) (by omega)
  exact k.imp fun _ hb hk => ⟨hk.1, hb⟩
/-- Where the reading of ranges is. -/
def RsRel (w : World) (s : ByteArray) (i : Value) (wr : World) : Prop := ∃ (came : List Int) (c f : Nat), c ≤ s.size ∧ s.size - c < f + 1 ∧ i = .int .i64 (c : Int) ∧ KMap wr (w.heap.size + 1) came ∧ Came came ∧ FB wr w.heap.size 0 0 ∧ Below w.heap.size w wr ∧ pRanges (s.size + 1) [] (bl s) = pRanges (f + 1) came ((bl s).drop c)
set_option maxRecDepth 100000 in
set_option maxHeartbeats 8000000 in
theorem readRanges_any (s : ByteArray) (w : World) (hs : s.size ≤ 140737488355328) : Calls Tryz.prog 75 #[.string s] w (RangesPost w s) := by
  have hmm := @run_makeMap Tryz.prog
  have hsi : (s.size : Int) ≤ 140737488355328 := by omega
  have t0 : FB ((w.alloc (.cells #[.int .i64 0, .int .i64 0] TFa)).alloc (.map #[] 0)) w.heap.size 0 0 := old_at _ _ _ (heap_alloc_new w _) (by rw [World.size_alloc]; omega)
  have t1 : KMap ((w.alloc (.cells #[.int .i64 0, .int .i64 0] TFa)).alloc (.map #[] 0)) (w.heap.size + 1) [] := by
    rw [← World.size_alloc w (.cells #[.int .i64 0, .int .i64 0] TFa)]
    exact KMap.new _
  have t2 : Below w.heap.size w ((w.alloc (.cells #[.int .i64 0, .int .i64 0] TFa)).alloc (.map #[] 0)) := ((Below.refl _ _).alloc (Nat.le_refl _) _).alloc (by rw [World.size_alloc]; omega) _
  replace t0 := fhid t0
  replace t1 := fhid t1
  replace t2 := fhid t2
  go_enter Tryz.func75, Tryz.ntmps75
  go_upto_region 2 with fail
  generalize World.alloc _ _ = W at *
  go_wp2_with fail
  go_loopw [6] (fun i wr => RsRel w s i wr) (fun i _ => s.size + 1 - (intOf i).toNat)
  case atStart => exact ⟨[], 0, s.size, Nat.zero_le _, by omega, rfl, t1.out, ⟨List.nodup_nil, fun n hn => (by cases hn), by simp⟩, t0.out, t2.out, by rw [List.drop_zero]⟩
  case round =>
    clear t0 t1 t2 hmm
    obtain ⟨came, c, f, hc, hf, rfl, hM, hC, hF, hB, hp⟩ := hrel
    have hrr := fun W => readRange_any s c c W rfl hs hc
    unfold RangePost at hrr
    have hbz := hM.lt
    have c0 : (0 : Int) ≤ c := by omega
    have c1 : (c : Int) ≤ s.size := by omega
    replace hM := fhid hM
    replace hF := fhid hF
    cases h1 : pRange ((bl s).drop c) with
    | none =>
      rw [h1] at hrr
      simp only at hrr
      have hq := fhid (hp.trans (pRanges_none h1))
      clear hp h1
      go_upto_region 4 with (go_at_call 106; (with_reducible refine (hrr _).mono ?_); rintro e w2 ⟨b2, y, i, hy, rfl⟩)
      have z2 := b2.size
      obtain ⟨q0, q1, q2, q3, q4, q5⟩ := two_new 0 0 0 y i (hF.out.below b2 (by omega)) (hM.out.below b2 hbz) (hB.trans (b2.mono hB.size)) (by omega)
      have zF : w.heap.size < w2.heap.size := by omega
      generalize World.alloc _ _ = W2 at *
      generalize w2.heap.size = F at *
      obtain ⟨d0, d1, g0, g1, _⟩ := FB.facts q1
      obtain ⟨e0, e1, k0, k1, _⟩ := FB.facts q2
      have hy2 : (y != 0) = true := by simpa using hy
      have hy1 : ¬ y = 0 := hy
      replace q0 := fhid q0
      replace q1 := fhid q1
      replace q2 := fhid q2
      replace q3 := fhid q3
      replace q5 := fhid q5
      go_wp2_with fail
      go_region
      go_wp2_with fail
      refine bodyPost_ret (v := .tuple #[.slice none 0 0, .int .i64 0, .agg #[.int .i64 y, .int .i64 i]]) (by simp [results, Tryz.results75, go_sem, e0, e1]) rfl (RangesPost.bad hq.out ?_ hy rfl)
      repeat' (first | (with_reducible exact q4) | (with_reducible apply Below.drew) | (with_reducible apply Below.setCell) | (with_reducible apply Ds.below_drewN))
      all_goals (first | omega | (simp; done) | (simp; omega))
    | some q =>
      obtain ⟨⟨x, y, st⟩, r⟩ := q
      rw [h1] at hrr
      simp only at hrr
      obtain ⟨hsp, hrl⟩ := pRange_facts h1
      have hsp' : SpOk (x, y, st) := hsp
      replace hsp := fhid hsp
      go_upto_region 4 with (go_at_call 106; (with_reducible refine (hrr _).mono ?_); rintro e w2 ⟨b2, c', hcc, hcs, rfl, rfl⟩)
      have z2 := b2.size
      obtain ⟨q0, q1, q2, q3, q4, q5⟩ := two_new x y st 0 0 (hF.out.below b2 (by omega)) (hM.out.below b2 hbz) (hB.trans (b2.mono hB.size)) (by omega)
      have zF : w.heap.size + 1 < w2.heap.size := by omega
      generalize World.alloc _ _ = W2 at *
      generalize w2.heap.size = F at *
      obtain ⟨d0, d1, g0, g1, _⟩ := FB.facts q1
      obtain ⟨n0, n1, n2, m0, m1, m2, _⟩ := SB.facts q0
      have had := add_any (w.heap.size + 1) (w.heap.size + 1) came x y st W2 hsp' q3 (Nat.le_refl _) hC.2.2
      unfold AddPost at had
      clear hrr hM hF b2 z2
      replace q0 := fhid q0
      replace q1 := fhid q1
      replace q2 := fhid q2
      replace q3 := fhid q3
      replace q4 := fhid q4
      replace q5 := fhid q5
      replace hC := fhid hC
      replace hsp' := fhid hsp'
      cases hmy : mayAdd came (x, y, st) with
      | false =>
        rw [hmy] at had
        have hq := fhid (hp.trans (pRanges_many h1 hmy))
        clear hp h1 hmy
        go_wp2_with (go_at_call 107; (with_reducible refine had.mono ?_); rintro e w3 ⟨rfl, _, b3⟩
                     obtain ⟨e0, e1, k0, k1, _⟩ := FB.facts (FB.below q2.out b3 (by omega)))
        exact bodyPost_ret (v := .tuple #[.slice none 0 0, .int .i64 0, .agg #[.int .i64 5, .int .i64 c]]) (by simp [results, Tryz.results75, go_sem, e0, e1]) rfl
          (RangesPost.bad hq.out (set2 (q4.out.trans (b3.mono (by omega))) _ (Nat.le_refl _) _ _) (show (5 : Int) ≠ 0 by decide) rfl)
      | true =>
        rw [hmy] at had
        have hst := fun W => stands_any s c' c' 44 44 W rfl rfl
        have hhd : ((bl s).drop c').head? = (bl s)[c']? := by rw [List.head?_drop]
        have hC2 := fhid (hC.out.more h1 (of_decide_eq_true hmy)).1
        by_cases h44 : (bl s)[c']? = some 44
        · rw [decide_eq_true h44] at hst
          have hcl : c' < s.size := by
            have := (List.getElem?_eq_some_iff.1 h44).1
            rw [bl_len] at this
            exact this
          have hq := fhid (hp.trans (pRanges_more h1 hmy (hhd.trans h44)))
          have htl : ((bl s).drop c').tail = (bl s).drop (c' + 1) := by rw [List.tail_drop]
          rw [htl] at hq
          clear hp h1 hmy hhd htl h44
          have j0 : (0 : Int) ≤ c' := by omega
          have j1 : (c' : Int) < s.size := by omega
          go_wp2_with (first
            | (go_at_call 107; (with_reducible refine had.mono ?_); rintro e w3 ⟨rfl, hm3, b3⟩
               replace hm3 := fhid (hm3 rfl))
            | (go_at_call 76; (with_reducible refine (hst _).mono ?_); rintro e w1 ⟨rfl, rfl⟩))
          go_roundw
          case rel => exact ⟨_, c' + 1, f - 1, by omega, by omega, by go_num, hm3.out, hC2.out, FB.below q2.out b3 (by omega), q4.out.trans (b3.mono (by omega)), by rw [show f - 1 + 1 = f by omega]; exact hq.out⟩
          case measure => simp [intOf]; omega
        · rw [decide_eq_false h44] at hst
          have hq := fhid (hp.trans (pRanges_done h1 hmy (fun h => h44 (hhd.symm.trans h))))
          clear hp h1 hmy hhd h44
          go_upto_region 9 with (first
            | (go_at_call 107; (with_reducible refine had.mono ?_); rintro e w3 ⟨rfl, hm3, b3⟩
               replace hm3 := fhid (hm3 rfl))
            | (go_at_call 76; (with_reducible refine (hst _).mono ?_); rintro e w1 ⟨rfl, rfl⟩))
          have r2 := fhid (FB.below q2.out b3 (by omega))
          have g3 := fhid (q4.out.trans (b3.mono (by omega)))
          have hso := Sorted_any (w.heap.size + 1) _ w3 hm3.out (by have := hC2.out.2.2; omega) (fun n hn => by have := hC2.out.2.1 n hn; omega)
          have hz3 := (hm3.out).lt
          have bk : Below w3.heap.size w3 (w3.alloc (.cells #[.map (some (w.heap.size + 1))] 161)) := (Below.refl _ _).alloc (Nat.le_refl _) _
          replace bk := fhid bk
          go_wp2_with (first
            | (go_at_call 109; (with_reducible refine (Keys_any _ _).mono ?_); rintro e w4 ⟨rfl, rfl⟩)
            | (go_at_call 108; (with_reducible refine hso.mono ?_); rintro e w5 ⟨v, rfl, o5, b5⟩
               have b35 := bk.out.trans (b5.mono bk.out.size)
               obtain ⟨e0, e1, k0, k1, _⟩ := FB.facts (FB.below r2.out b35 (by omega))
               obtain ⟨A, cap, rfl, v1, v2, v3⟩ := OwnI.seg o5
               replace v3 := fhid v3
               replace o5 := fhid o5))
          generalize came ++ spL (x, y, st) = L at *
          exact bodyPost_ret (v := .tuple #[.slice A (srt L).length cap, .int .i64 c', .agg #[.int .i64 0, .int .i64 0]]) (by simp [results, Tryz.results75, go_sem, e0, e1]) rfl
            (RangesPost.good hq.out (set2 (g3.out.trans (b35.mono (by omega))) _ (Nat.le_refl _) _ _) hcs v1 v2 ((seg_set2 v3.out (by omega) _ _).imp fun _ _ hk => ⟨by have := hk.1; omega, hk.2⟩) rfl)
end Go.Proofs.YtjpihophigjbpaaGreatDoor.Ys
/-
  Parse, walked.
-/
namespace Go.Proofs.YtjpihophigjbpaaGreatDoor.Ys
open Go.Proofs.YtjpihophigjbpaaGreatDoor.Ds
open Go.RowKit

abbrev TAr : TypeId := 38
/-- An array's block. -/
def AB (w : World) (b : Nat) (T : TypeId) (v : Value) (n : Int) : Prop := w.heap[b]? = some (.cells #[v, .int .i64 n] T (0, 0))
theorem AB.facts {w : World} {b : Nat} {T : TypeId} {v : Value} {n : Int} (h : AB w b T v n) : w.cell? ⟨b, 0, none⟩ = some v ∧ w.cell? ⟨b, 1, none⟩ = some (.int .i64 n) ∧ w.frozen? ⟨b, 0, none⟩ = false ∧ w.frozen? ⟨b, 1, none⟩ = false ∧ b < w.heap.size := by
  unfold AB at h
  exact ⟨by simp [World.cell?, h], by simp [World.cell?, h], by simp [World.frozen?, h], by simp [World.frozen?, h], lt_of_block h⟩
theorem AB.below {w w' : World} {B b : Nat} {T : TypeId} {v : Value} {n : Int} (h : AB w b T v n) (hb : Below B w w') (hB : b < B) : AB w' b T v n := (hb.block b hB).trans h
/-- What Parse hands back; its numbers lie in a block that is new. -/
def ParsePost0 (w : World) (s : ByteArray) (e : Ending) (w' : World) : Prop := Below w.heap.size w w' ∧ match pArr (bl s) with
  | none => ∃ y i : Int, y ≠ 0 ∧ e = .returned (.tuple #[.agg #[.slice none 0 0, .int .i64 0], .agg #[.int .i64 y, .int .i64 i]])
  | some (l, lim) => ∃ (A : Option Addr) (cap : Nat), l.length ≤ cap ∧ cap ≤ maxLen ∧ SegP w' (fun k => w.heap.size ≤ k ∧ k < w'.heap.size) A (IV l) ∧ e = .returned (.tuple #[.agg #[.slice A l.length cap, .int .i64 lim], .agg #[.int .i64 0, .int .i64 0]])
/-- The same, wherever its numbers lie. -/
def ParsePost (w : World) (s : ByteArray) (e : Ending) (w' : World) : Prop := Below w.heap.size w w' ∧ match pArr (bl s) with
  | none => ∃ y i : Int, y ≠ 0 ∧ e = .returned (.tuple #[.agg #[.slice none 0 0, .int .i64 0], .agg #[.int .i64 y, .int .i64 i]])
  | some (l, lim) => ∃ (A : Option Addr) (cap : Nat), l.length ≤ cap ∧ cap ≤ maxLen ∧ Ints w' w'.heap.size A l ∧ e = .returned (.tuple #[.agg #[.slice A l.length cap, .int .i64 lim], .agg #[.int .i64 0, .int .i64 0]])
theorem ParsePost.bad {w : World} {s : ByteArray} {e : Ending} {w' : World} (h : pArr (bl s) = none) (hb : Below w.heap.size w w') {y i : Int} (hy : y ≠ 0) (he : e = .returned (.tuple #[.agg #[.slice none 0 0, .int .i64 0], .agg #[.int .i64 y, .int .i64 i]])) : ParsePost0 w s e w' := by
  refine ⟨hb, ?_⟩
  rw [h]
  exact ⟨y, i, hy, he⟩
theorem ParsePost.good {w : World} {s : ByteArray} {e : Ending} {w' : World} {l : List Int} {lim : Int} (h : pArr (bl s) = some (l, lim)) (hb : Below w.heap.size w w') {A : Option Addr} {cap : Nat} (h1 : l.length ≤ cap) (h2 : cap ≤ maxLen) (h3 : SegP w' (fun k => w.heap.size ≤ k ∧ k < w'.heap.size) A (IV l))
    (he : e = .returned (.tuple #[.agg #[.slice A l.length cap, .int .i64 lim], .agg #[.int .i64 0, .int .i64 0]])) : ParsePost0 w s e w' := by
  refine ⟨hb, ?_⟩
  rw [h]
  exact ⟨A, cap, h1, h2, h3, he⟩
section
variable {s r r2 : List UInt8} {l : List Int} {n : Int}
theorem pArr_none (h : pRanges (s.length + 1) [] s = none) : pArr s = none := by unfold pArr; rw [h]
theorem pArr_plain (h : pRanges (s.length + 1) [] s = some (l, r)) (h1 : r.head? ≠ some 37) (h2 : r = []) : pArr s = some (srt l, 0) := by unfold pArr; rw [h]; simp only [if_neg h1, if_pos h2]
theorem pArr_rest (h : pRanges (s.length + 1) [] s = some (l, r)) (h1 : r.head? ≠ some 37) (h2 : r ≠ []) : pArr s = none := by unfold pArr; rw [h]; simp only [if_neg h1, if_neg h2]
theorem pArr_none2 (h : pRanges (s.length + 1) [] s = some (l, r)) (h1 : r.head? = some 37) (h2 : pNum 1 r.tail = none) : pArr s = none := by unfold pArr; rw [h]; simp only [if_pos h1, h2]
theorem pArr_lim (h : pRanges (s.length + 1) [] s = some (l, r)) (h1 : r.head? = some 37) (h2 : pNum 1 r.tail = some (n, r2)) (h3 : r2 = []) : pArr s = some (srt l, n) := by unfold pArr; rw [h]; simp only [if_pos h1, h2, if_pos h3]
theorem pArr_rest2 (h : pRanges (s.length + 1) [] s = some (l, r)) (h1 : r.head? = some 37) (h2 : pNum 1 r.tail = some (n, r2)) (h3 : r2 ≠ []) : pArr s = none := by unfold pArr; rw [h]; simp only [if_pos h1, h2, if_neg h3]
end
theorem drop_end {s : ByteArray} {c : Nat} (hc : c ≤ s.size) : (bl s).drop c = [] ↔ ¬ c < s.size := by
  rw [List.drop_eq_nil_iff, bl_len]; omega
theorem parse_start (w : World) : AB ((w.alloc (.cells #[.slice none 0 0, .int .i64 0] TAr)).alloc (.cells #[.int .i64 0, .int .i64 0] TFa)) w.heap.size TAr (.slice none 0 0) 0 ∧ FB ((w.alloc (.cells #[.slice none 0 0, .int .i64 0] TAr)).alloc (.cells #[.int .i64 0, .int .i64 0] TFa)) (w.heap.size + 1) 0 0 ∧
    Below w.heap.size w ((w.alloc (.cells #[.slice none 0 0, .int .i64 0] TAr)).alloc (.cells #[.int .i64 0, .int .i64 0] TFa)) ∧ ((w.alloc (.cells #[.slice none 0 0, .int .i64 0] TAr)).alloc (.cells #[.int .i64 0, .int .i64 0] TFa)).heap.size = w.heap.size + 2 :=
  ⟨old_at _ _ _ (heap_alloc_new w _) (by rw [World.size_alloc]; omega), new_at _ _ _ (by rw [World.size_alloc]), ((Below.refl _ _).alloc (Nat.le_refl _) _).alloc (by rw [World.size_alloc]; omega) _, by rw [World.size_alloc, World.size_alloc]⟩
theorem sets4 {B : Nat} {a w : World} (h : Below B a w) (b c : Nat) (hb : B ≤ b) (hc : B ≤ c) (u v x y : Value) : Below B a ((((w.setCell ⟨b, 0, none⟩ u).setCell ⟨b, 1, none⟩ v).setCell ⟨c, 0, none⟩ x).setCell ⟨c, 1, none⟩ y) := set2 (set2 h b hb u v) c hc x y
theorem seg_set4 {w : World} {b c d B : Nat} {A : Option Addr} {vs : List Value} (h : SegP w (fun k => b ≤ k ∧ k < w.heap.size) A vs) (hc : c < b) (hd : d < b) (hB : B ≤ b) (u v x y : Value) :
    SegP ((((w.setCell ⟨c, 0, none⟩ u).setCell ⟨c, 1, none⟩ v).setCell ⟨d, 0, none⟩ x).setCell ⟨d, 1, none⟩ y) (fun k => B ≤ k ∧ k < ((((w.setCell ⟨c, 0, none⟩ u).setCell ⟨c, 1, none⟩ v).setCell ⟨d, 0, none⟩ x).setCell ⟨d, 1, none⟩ y).heap.size) A vs :=
  (seg_set2 (seg_set2 h hc u v) hd x y).imp fun _ _ hk => ⟨Nat.le_trans hB hk.1, hk.2⟩
set_option maxRecDepth 100000 in
set_option maxHeartbeats 8000000 in
theorem Parse0_any (s : ByteArray) (w : World) (hs : s.size ≤ 140737488355328) : Calls Tryz.prog 52 #[.string s] w (ParsePost0 w s) := by
  have hrs := fun W => readRanges_any s W hs
  unfold RangesPost at hrs
  have hsi : (s.size : Int) ≤ 140737488355328 := by omega
  have hbl := bl_len s
  obtain ⟨t0, t1, t2, t3⟩ := parse_start w
  replace t0 := fhid t0
  replace t1 := fhid t1
  replace t2 := fhid t2
  replace t3 := fhid t3
  cases h1 : pRanges (s.size + 1) [] (bl s) with
  | none =>
    rw [h1] at hrs
    simp only at hrs
    have hq := fhid (pArr_none (by rw [hbl]; exact h1))
    clear h1 hbl
    go_enter Tryz.func52, Tryz.ntmps52
    go_upto_region 1 with fail
    generalize World.alloc _ _ = W at *
    go_upto_region 2 with (go_at_call 75; (with_reducible refine (hrs _).mono ?_); rintro e w1 ⟨b1, y, i, hy, rfl⟩)
    have z1 := b1.size
    have zt := t3.out
    have r0 : AB (w1.alloc (.cells #[.int .i64 y, .int .i64 i] TFa)) w.heap.size TAr (.slice none 0 0) 0 := old_at w1 _ _ (AB.below t0.out b1 (by omega)) (by omega)
    have r1 : FB (w1.alloc (.cells #[.int .i64 y, .int .i64 i] TFa)) (w.heap.size + 1) 0 0 := old_at w1 _ _ (FB.below t1.out b1 (by omega)) (by omega)
    have r2 : FB (w1.alloc (.cells #[.int .i64 y, .int .i64 i] TFa)) w1.heap.size y i := heap_alloc_new w1 _
    have bz := (t2.out.trans (b1.mono t2.out.size)).alloc (by omega) (.cells #[.int .i64 y, .int .i64 i] TFa)
    generalize World.alloc _ _ = W2 at *
    obtain ⟨c0, c1, f0, f1, z3⟩ := AB.facts r0
    obtain ⟨d0, d1, g0, g1, z4⟩ := FB.facts r1
    obtain ⟨e0, e1, k0, k1, z5⟩ := FB.facts r2
    have hy2 : (y != 0) = true := by simpa using hy
    have hy1 : ¬ y = 0 := hy
    go_wp2_with fail
    go_region
    go_wp2_with fail
    refine bodyPost_ret (v := .tuple #[.agg #[.slice none 0 0, .int .i64 0], .agg #[.int .i64 y, .int .i64 i]]) (by simp [results, Tryz.results52, go_sem, c0, c1, d0, d1]) rfl
      (ParsePost.bad hq.out ?_ hy rfl)
    repeat' (first | (with_reducible exact bz) | (with_reducible apply Below.drew) | (with_reducible apply Below.setCell) | (with_reducible apply Ds.below_drewN))
    all_goals (first | omega | (simp; done) | (simp; omega))
  | some q =>
    obtain ⟨l0, r⟩ := q
    rw [h1] at hrs
    simp only at hrs
    have h1' : pRanges ((bl s).length + 1) [] (bl s) = some (l0, r) := by rw [hbl]; exact h1
    clear h1
    go_enter Tryz.func52, Tryz.ntmps52
    go_upto_region 1 with fail
    generalize World.alloc _ _ = W at *
    go_upto_region 2 with (go_at_call 75; (with_reducible refine (hrs _).mono ?_); rintro e w1 ⟨b1, c, A, cap, hcs, rfl, hc1, hc2, hsg, rfl⟩)
    have z1 := b1.size
    have zt := t3.out
    have r0 : AB (w1.alloc (.cells #[.int .i64 0, .int .i64 0] TFa)) w.heap.size TAr (.slice none 0 0) 0 := old_at w1 _ _ (AB.below t0.out b1 (by omega)) (by omega)
    have r1 : FB (w1.alloc (.cells #[.int .i64 0, .int .i64 0] TFa)) (w.heap.size + 1) 0 0 := old_at w1 _ _ (FB.below t1.out b1 (by omega)) (by omega)
    have r2 : FB (w1.alloc (.cells #[.int .i64 0, .int .i64 0] TFa)) w1.heap.size 0 0 := heap_alloc_new w1 _
    have bz := (t2.out.trans (b1.mono t2.out.size)).alloc (by omega) (.cells #[.int .i64 0, .int .i64 0] TFa)
    have zz := World.size_alloc w1 (.cells #[.int .i64 0, .int .i64 0] TFa)
    have sg : SegP (w1.alloc (.cells #[.int .i64 0, .int .i64 0] TFa)) (fun k => w.heap.size + 2 ≤ k ∧ k < w1.heap.size) A (IV (srt l0)) := (hsg.keep (fun k hk => Below.heap_alloc _ _ _ hk.2)).imp fun k _ hk => ⟨by have := hk.1; omega, hk.2⟩
    have hF : w.heap.size + 2 ≤ w1.heap.size := by omega
    clear hsg b1 t0 t1 t2 hrs z1 zt t3
    generalize World.alloc _ _ = W2 at *
    generalize w1.heap.size = F at *
    generalize hL : srt l0 = L at *
    replace hL := fhid hL
    obtain ⟨e0, e1, k0, k1, z5⟩ := FB.facts r2
    replace sg := fhid sg
    replace r0 := fhid r0
    replace r1 := fhid r1
    replace r2 := fhid r2
    replace bz := fhid bz
    replace zz := fhid zz
    have hst := fun W => stands_any s c c 37 37 W rfl rfl
    have hhd : ((bl s).drop c).head? = (bl s)[c]? := by rw [List.head?_drop]
    replace h1' := fhid h1'
    have hze := zz.out
    have c0' : (0 : Int) ≤ c := by omega
    by_cases h37 : (bl s)[c]? = some 37
    · rw [decide_eq_true h37] at hst
      have hh1 := fhid (hhd.trans h37)
      have htl : ((bl s).drop c).tail = (bl s).drop (c + 1) := by rw [List.tail_drop]
      have hcl : c < s.size := by
        have := (List.getElem?_eq_some_iff.1 h37).1
        rw [bl_len] at this
        exact this
      have hn2 := fun W => readNumber_any s (c + 1) ((c : Int) + 1) 1 W (by omega) hs (by omega)
      unfold NumPost at hn2
      have j1 : (c : Int) < s.size := by omega
      clear hhd h37 hbl
      replace htl := fhid htl
      cases h2 : pNum 1 ((bl s).drop (c + 1)) with
      | none =>
        rw [h2] at hn2
        simp only at hn2
        have hq := fhid (pArr_none2 h1'.out hh1.out (by rw [htl.out]; exact h2))
        clear h2
        go_upto_region 6 with (go_at_call 76; (with_reducible refine (hst _).mono ?_); rintro e w1 ⟨rfl, rfl⟩)
        go_upto_region 7 with (go_at_call 77; (with_reducible refine (hn2 _).mono ?_); rintro e w2 ⟨b2, y, i, hy, rfl⟩
                               have z2 := b2.size
                               obtain ⟨_, _, l0, l1, _⟩ := FB.facts (FB.below r2.out b2 (by omega)))
        have s0 := block_other (c := F) 1 (.int .i64 i) (block_other (c := F) 0 (.int .i64 y) (AB.below r0.out b2 (by omega)) (by omega)) (by omega)
        have s1 := block_other (c := F) 1 (.int .i64 i) (block_other (c := F) 0 (.int .i64 y) (FB.below r1.out b2 (by omega)) (by omega)) (by omega)
        have s2 := block_set 1 (.int .i64 i) (block_set 0 (.int .i64 y) (FB.below r2.out b2 (by omega)))
        have sb := set2 (bz.out.trans (b2.mono (by omega))) F (show w.heap.size ≤ F by omega) (.int .i64 y) (.int .i64 i)
        generalize World.setCell _ _ _ = W4 at *
        obtain ⟨c0, c1, f0, f1, z3⟩ := AB.facts s0
        obtain ⟨d0, d1, g0, g1, z4⟩ := FB.facts s1
        obtain ⟨e2, e3, k2, k3, z6⟩ := FB.facts (e := y) (f := i) s2
        have hy2 : (y != 0) = true := by simpa using hy
        have hy1 : ¬ y = 0 := hy
        go_wp2_with fail
        go_region
        go_wp2_with fail
        refine bodyPost_ret (v := .tuple #[.agg #[.slice none 0 0, .int .i64 0], .agg #[.int .i64 y, .int .i64 i]]) (by simp [results, Tryz.results52, go_sem, c0, c1, d0, d1]) rfl
          (ParsePost.bad hq.out ?_ hy rfl)
        repeat' (first | (with_reducible exact sb) | (with_reducible apply Below.drew) | (with_reducible apply Below.setCell) | (with_reducible apply Ds.below_drewN))
        all_goals (first | omega | (simp; done) | (simp; omega))
      | some q2 =>
        obtain ⟨n, r2'⟩ := q2
        rw [h2] at hn2
        simp only at hn2
        replace h2 := fhid h2
        go_upto_region 6 with (go_at_call 76; (with_reducible refine (hst _).mono ?_); rintro e w1 ⟨rfl, rfl⟩)
        go_upto_region 7 with (go_at_call 77; (with_reducible refine (hn2 _).mono ?_); rintro e w2 ⟨b2, c2, hc3, hcs2, rfl, rfl⟩
                               have z2 := b2.size
                               obtain ⟨_, _, l0, l1, _⟩ := FB.facts (FB.below r2.out b2 (by omega)))
        have s0 : AB ((w2.setCell ⟨F, 0, none⟩ (.int .i64 0)).setCell ⟨F, 1, none⟩ (.int .i64 0)) w.heap.size TAr (.slice none 0 0) 0 := block_other (c := F) 1 _ (block_other (c := F) 0 _ (AB.below r0.out b2 (by omega)) (by omega)) (by omega)
        have s1 : FB ((w2.setCell ⟨F, 0, none⟩ (.int .i64 0)).setCell ⟨F, 1, none⟩ (.int .i64 0)) (w.heap.size + 1) 0 0 := block_other (c := F) 1 _ (block_other (c := F) 0 _ (FB.below r1.out b2 (by omega)) (by omega)) (by omega)
        have s2 : FB ((w2.setCell ⟨F, 0, none⟩ (.int .i64 0)).setCell ⟨F, 1, none⟩ (.int .i64 0)) F 0 0 := block_set 1 (.int .i64 0) (block_set 0 (.int .i64 0) (FB.below r2.out b2 (by omega)))
        have sb := set2 (bz.out.trans (b2.mono (by omega))) F (show w.heap.size ≤ F by omega) (.int .i64 0) (.int .i64 0)
        have ss : SegP ((w2.setCell ⟨F, 0, none⟩ (.int .i64 0)).setCell ⟨F, 1, none⟩ (.int .i64 0)) (fun k => w.heap.size + 2 ≤ k ∧ k < F) A (IV L) := sg.out.keep fun k hk => block_other (c := F) 1 _ (block_other (c := F) 0 _ (b2.block k (by omega)) (by omega)) (by omega)
        generalize World.setCell _ _ _ = W4 at *
        clear e0 e1 k0 k1 z5 l0 l1
        obtain ⟨e2, e3, k2, k3, z6⟩ := FB.facts s2
        replace s0 := fhid s0
        replace s1 := fhid s1
        replace s2 := fhid s2
        replace sb := fhid sb
        replace ss := fhid ss
        clear b2 z2 r0 r1 r2 bz sg hn2 hst
        have hst : True := trivial
        have zW := (AB.facts s0.out).2.2.2.2
        by_cases hend : c2 < s.size
        · have hq := fhid (pArr_rest2 h1'.out hh1.out (by rw [htl.out]; exact h2.out) (fun e => (drop_end hcs2).1 e hend))
          have j2 : (c2 : Int) < s.size := by omega
          clear h2 h1' hh1 htl hst
          go_wp2_with (first
            | (go_at_call 78; (with_reducible refine (wrong_any s _ _).mono ?_); rintro e w3 ⟨y, hy, rfl, b3⟩
               replace hy := fhid hy
               obtain ⟨c0, c1, f0, f1, z3⟩ := AB.facts (AB.below s0.out b3 (by omega))
               obtain ⟨d0, d1, g0, g1, z4⟩ := FB.facts (FB.below s1.out b3 (by omega))))
          exact bodyPost_ret (v := .tuple #[.agg #[.slice none 0 0, .int .i64 0], .agg #[.int .i64 y, .int .i64 c2]]) (by simp [results, Tryz.results52, go_sem, c0, c1, d0, d1]) rfl
            (ParsePost.bad hq.out (sets4 (sb.out.trans (b3.mono (by omega))) _ _ (Nat.le_refl _) (by omega) _ _ _ _) hy.out rfl)
        · have hq := fhid (pArr_lim h1'.out hh1.out (by rw [htl.out]; exact h2.out) ((drop_end hcs2).2 hend))
          rw [hL.out] at hq
          have j2 : ¬ (c2 : Int) < s.size := by omega
          clear h2 h1' hh1 htl hst
          obtain ⟨c0, c1, f0, f1, z3⟩ := AB.facts s0.out
          obtain ⟨d0, d1, g0, g1, z4⟩ := FB.facts s1.out
          go_wp2_with fail
          exact bodyPost_ret (v := .tuple #[.agg #[.slice A L.length cap, .int .i64 n], .agg #[.int .i64 0, .int .i64 0]]) (by simp [results, Tryz.results52, go_sem, c0, c1, d0, d1]) rfl
            (ParsePost.good hq.out (sets4 sb.out _ _ (Nat.le_refl _) (by omega) _ _ _ _) hc1 hc2 (seg_set4 (ss.out.imp fun k hk h => ⟨h.1, hk⟩) (by omega) (by omega) (by omega) _ _ _ _) rfl)
    · rw [decide_eq_false h37] at hst
      have hh1 := fhid (show ((bl s).drop c).head? ≠ some 37 from fun h => h37 (hhd.symm.trans h))
      clear hhd h37 hbl
      by_cases hend : c < s.size
      · have hq := fhid (pArr_rest h1'.out hh1.out (fun e => (drop_end hcs).1 e hend))
        have j2 : (c : Int) < s.size := by omega
        clear h1' hh1
        go_wp2_with (first
          | (go_at_call 76; (with_reducible refine (hst _).mono ?_); rintro e w1 ⟨rfl, rfl⟩)
          | (go_at_call 78; (with_reducible refine (wrong_any s _ _).mono ?_); rintro e w3 ⟨y, hy, rfl, b3⟩
             replace hy := fhid hy
             obtain ⟨c0, c1, f0, f1, z3⟩ := AB.facts (AB.below r0.out b3 (by omega))
             obtain ⟨d0, d1, g0, g1, z4⟩ := FB.facts (FB.below r1.out b3 (by omega))))
        exact bodyPost_ret (v := .tuple #[.agg #[.slice none 0 0, .int .i64 0], .agg #[.int .i64 y, .int .i64 c]]) (by simp [results, Tryz.results52, go_sem, c0, c1, d0, d1]) rfl
          (ParsePost.bad hq.out (sets4 (bz.out.trans (b3.mono (by omega))) _ _ (Nat.le_refl _) (by omega) _ _ _ _) hy.out rfl)
      · have hq := fhid (pArr_plain h1'.out hh1.out ((drop_end hcs).2 hend))
        rw [hL.out] at hq
        have j2 : ¬ (c : Int) < s.size := by omega
        clear h1' hh1
        obtain ⟨c0, c1, f0, f1, z3⟩ := AB.facts r0.out
        obtain ⟨d0, d1, g0, g1, z4⟩ := FB.facts r1.out
        go_wp2_with (first
          | (go_at_call 76; (with_reducible refine (hst _).mono ?_); rintro e w1 ⟨rfl, rfl⟩))
        exact bodyPost_ret (v := .tuple #[.agg #[.slice A L.length cap, .int .i64 0], .agg #[.int .i64 0, .int .i64 0]]) (by simp [results, Tryz.results52, go_sem, c0, c1, d0, d1]) rfl
          (ParsePost.good hq.out (sets4 bz.out _ _ (Nat.le_refl _) (by omega) _ _ _ _) hc1 hc2 (seg_set4 (sg.out.imp fun k hk h => ⟨h.1, hk⟩) (by omega) (by omega) (by omega) _ _ _ _) rfl)
theorem Parse_any (s : ByteArray) (w : World) (hs : s.size ≤ 140737488355328) : Calls Tryz.prog 52 #[.string s] w (ParsePost w s) := by
  refine (Parse0_any s w hs).mono fun e w' h => ?_
  obtain ⟨hb, h⟩ := h
  refine ⟨hb, ?_⟩
  cases hp : pArr (bl s) with
  | none => rw [hp] at h; exact h
  | some x =>
    rw [hp] at h
    obtain ⟨A, cap, h1, h2, h3, he⟩ := h
    exact ⟨A, cap, h1, h2, h3.imp fun _ _ hk => hk.2, he⟩
end Go.Proofs.YtjpihophigjbpaaGreatDoor.Ys
