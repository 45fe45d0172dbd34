/-
  Plain mathematics: which arrays may be, an array's text, and what reading one comes to. No model in it.
-/
import Derived.Test.YtlcbppflpadhaaaDoorDText
namespace Go.Proofs.YtlcbppflpadhaaaDoor

/-! Digits. -/
theorem tw_len {α : Type} {p : α → Bool} (l : List α) (j : Nat) (hj : j ≤ l.length) (ha : ∀ i (h : i < l.length), i < j → p l[i] = true) (hs : ∀ h : j < l.length, p l[j] = false) : (l.takeWhile p).length = j := by
  induction l generalizing j with
  | nil => simp at hj; subst hj; rfl
  | cons x r ih =>
    cases j with
    | zero =>
      have := hs (by simp)
      simp at this
      simp [this]
    | succ j =>
      have h0 := ha 0 (by simp) (by omega)
      simp at h0
      rw [List.takeWhile_cons, if_pos h0, List.length_cons, ih j (by simpa using hj) (fun i h hi => by have := ha (i + 1) (by rw [List.length_cons]; omega) (by omega); rwa [List.getElem_cons_succ] at this) (fun h => by have := hs (by rw [List.length_cons]; omega); rwa [List.getElem_cons_succ] at this)]
theorem tw_pre {α : Type} {p : α → Bool} (l : List α) (i : Nat) (h : i < (l.takeWhile p).length) (h' : i < l.length) : p l[i] = true := by
  have hp := List.takeWhile_prefix p (l := l)
  have : (l.takeWhile p)[i] = l[i] := List.IsPrefix.getElem hp h
  rw [← this]
  exact List.all_eq_true.1 (List.all_takeWhile) _ (List.getElem_mem h)
theorem dig_ofNat (k : Nat) (h : k < 10) : isDig (UInt8.ofNat (48 + k)) = true ∧ dv (UInt8.ofNat (48 + k)) = k := by
  have e : (UInt8.ofNat (48 + k)).toNat = 48 + k := by rw [UInt8.toNat_ofNat']; omega
  exact ⟨(isDig_iff _).2 (by omega), by unfold dv; omega⟩
theorem dec_facts (u : Nat) : (dec u).all isDig = true ∧ dval (dec u) = u ∧ 1 ≤ (dec u).length := by
  induction u using Nat.strongRecOn with
  | _ u ih =>
    by_cases h : u < 10
    · rw [dec_small h]
      have := dig_ofNat u h
      refine ⟨by rw [List.all_cons, this.1]; rfl, ?_, by simp⟩
      show dval ([] ++ [_]) = u
      rw [dval_snoc, this.2]; simp [dval]
    · rw [dec_big h]
      obtain ⟨h1, h2, _⟩ := ih (u / 10) (by omega)
      have := dig_ofNat (u % 10) (by omega)
      refine ⟨all_snoc.2 ⟨h1, this.1⟩, ?_, by simp⟩
      rw [dval_snoc, h2, this.2]; omega
theorem dec_len_le (k u : Nat) (hk : 1 ≤ k) (h : u < 10 ^ k) : (dec u).length ≤ k := by
  induction k generalizing u with
  | zero => omega
  | succ k ih =>
    by_cases hu : u < 10
    · rw [dec_small hu]; simp
    · rw [dec_big hu]
      rw [Nat.pow_succ] at h
      by_cases hk0 : k = 0
      · subst hk0; simp at h; omega
      · have := ih (u / 10) (by omega) (by omega)
        simp; omega
theorem tw_app {p : UInt8 → Bool} (a r : List UInt8) (ha : a.all p = true) (hr : ∀ c, r.head? = some c → p c = false) : (a ++ r).takeWhile p = a := by
  induction a with
  | nil =>
    cases r with
    | nil => rfl
    | cons c r => have := hr c rfl; simp [this]
  | cons x a ih =>
    rw [List.all_cons, Bool.and_eq_true] at ha
    rw [List.cons_append, List.takeWhile_cons, if_pos ha.1, ih ha.2]
/-- A number from 0 on, as text. -/
def num (n : Int) : List UInt8 := dec n.toNat

/-! Which arrays may be. -/
def prev (l : List Int) (j : Nat) : Int := if j = 0 then -1 else l.getD (j - 1) 0
def okAt (l : List Int) (j : Nat) : Bool := decide (prev l j < l.getD j 0) && decide (l.getD j 0 ≤ 999999)
theorem okAt_iff {l : List Int} {j : Nat} : okAt l j = true ↔ prev l j < l.getD j 0 ∧ l.getD j 0 ≤ 999999 := by unfold okAt; simp
def RightP (l : List Int) (lim : Int) : Prop := (1 ≤ l.length ∧ l.length ≤ 256) ∧ (∀ j, j < l.length → okAt l j = true) ∧ 0 ≤ lim ∧ lim ≤ 999999
instance (l : List Int) (lim : Int) : Decidable (RightP l lim) := by unfold RightP; infer_instance
def right (l : List Int) (lim : Int) : Bool := decide (RightP l lim)
theorem getD_get {l : List Int} {j : Nat} (h : j < l.length) : l.getD j 0 = l[j] := by
  rw [List.getD_eq_getElem?_getD, List.getElem?_eq_getElem h]; rfl
theorem RightP.up {l : List Int} {lim : Int} (h : RightP l lim) : l.Pairwise (· < ·) := by
  rw [List.pairwise_iff_getElem]
  intro i j hi hj hij
  have key : ∀ d, (hd : i + d + 1 < l.length) → l[i] < l[i + d + 1] := by
    intro d
    induction d with
    | zero =>
      intro hd
      have := (okAt_iff.1 (h.2.1 (i + 1) hd)).1
      unfold prev at this
      rw [if_neg (by omega), getD_get hd, getD_get (by omega)] at this
      exact this
    | succ d ih =>
      intro hd
      have h1 := ih (by omega)
      have := (okAt_iff.1 (h.2.1 (i + d + 2) (by omega))).1
      unfold prev at this
      rw [if_neg (by omega), getD_get (by omega), getD_get (by omega)] at this
      exact Int.lt_trans h1 this
  have := key (j - i - 1) (by omega)
  simpa [show i + (j - i - 1) + 1 = j by omega] using this
theorem RightP.range {l : List Int} {lim : Int} (h : RightP l lim) : ∀ x ∈ l, 0 ≤ x ∧ x ≤ 999999 := by
  intro x hx
  obtain ⟨j, hj, rfl⟩ := List.getElem_of_mem hx
  have h2 := (okAt_iff.1 (h.2.1 j hj)).2
  rw [getD_get hj] at h2
  refine ⟨?_, h2⟩
  have h0 := (okAt_iff.1 (h.2.1 0 (by omega))).1
  unfold prev at h0
  rw [if_pos rfl, getD_get (by omega)] at h0
  by_cases e : j = 0
  · subst e; omega
  · have := List.pairwise_iff_getElem.1 h.up 0 j (by omega) hj (by omega)
    omega
theorem RightP.mk' {l : List Int} {lim : Int} (h1 : 1 ≤ l.length) (h2 : l.length ≤ 256) (hu : l.Pairwise (· < ·)) (hr : ∀ x ∈ l, 0 ≤ x ∧ x ≤ 999999) (h3 : 0 ≤ lim) (h4 : lim ≤ 999999) : RightP l lim := by
  refine ⟨⟨h1, h2⟩, fun j hj => okAt_iff.2 ⟨?_, ?_⟩, h3, h4⟩
  · rw [getD_get hj]
    unfold prev
    have := (hr _ (List.getElem_mem hj)).1
    split
    · omega
    · rw [getD_get (by omega)]
      exact List.pairwise_iff_getElem.1 hu (j - 1) j (by omega) hj (by omega)
  · rw [getD_get hj]
    exact (hr _ (List.getElem_mem hj)).2

/-! How many of the first ones make a range. -/
def stepOf (l : List Int) : Int := l.getD 1 0 - l.getD 0 0
def stepsOn (l : List Int) (i : Nat) : Bool := decide (l.getD (i + 1) 0 - l.getD i 0 = stepOf l)
def maxRun (l : List Int) : Nat := 1 + ((List.range (l.length - 1)).takeWhile (stepsOn l)).length
theorem maxRun_of {l : List Int} {k : Nat} (h1 : 1 ≤ k) (hk : k ≤ l.length) (ha : ∀ j, j + 1 < k → l.getD (j + 1) 0 - l.getD j 0 = stepOf l) (hs : k < l.length → l.getD k 0 - l.getD (k - 1) 0 ≠ stepOf l) : maxRun l = k := by
  unfold maxRun
  rw [tw_len (p := stepsOn l) (List.range (l.length - 1)) (k - 1) (by rw [List.length_range]; omega) (fun i h hi => ?_) (fun h => ?_)]
  · omega
  · rw [List.getElem_range]
    exact decide_eq_true (ha i (by omega))
  · rw [List.length_range] at h
    rw [List.getElem_range]
    have := hs (by omega)
    rw [show k = k - 1 + 1 by omega] at this
    exact decide_eq_false (by simpa using this)
theorem maxRun_le {l : List Int} (h : l ≠ []) : 1 ≤ maxRun l ∧ maxRun l ≤ l.length := by
  have := (List.takeWhile_prefix (stepsOn l) (l := List.range (l.length - 1))).length_le
  rw [List.length_range] at this
  have := List.length_pos_iff.2 h
  unfold maxRun
  omega
theorem maxRun_step {l : List Int} {j : Nat} (h : j + 1 < maxRun l) : l.getD (j + 1) 0 - l.getD j 0 = stepOf l := by
  unfold maxRun at h
  have hp := (List.takeWhile_prefix (stepsOn l) (l := List.range (l.length - 1))).length_le
  have := tw_pre (p := stepsOn l) (List.range (l.length - 1)) j (by omega) (by omega)
  rw [List.getElem_range] at this
  exact of_decide_eq_true this
theorem maxRun_at {l : List Int} {j : Nat} (h : j < maxRun l) : l.getD j 0 = l.getD 0 0 + j * stepOf l := by
  induction j with
  | zero => simp
  | succ j ih =>
    have h1 := ih (by omega)
    have h2 := maxRun_step h
    have h3 : ((j + 1 : Nat) : Int) * stepOf l = j * stepOf l + stepOf l := by rw [Int.natCast_add, Int.add_mul]; simp
    omega
def cutN (l : List Int) : Nat := if maxRun l = 2 ∧ stepOf l ≠ 1 then 1 else maxRun l
theorem cutN_le {l : List Int} (h : l ≠ []) : 1 ≤ cutN l ∧ cutN l ≤ l.length ∧ cutN l ≤ maxRun l := by
  have := maxRun_le h
  unfold cutN
  split <;> omega
/-- The text of a range of the first k. -/
def pieceT (l : List Int) (k : Nat) : List UInt8 := num (l.getD 0 0) ++ if k = 1 then [] else 45 :: (num (l.getD (k - 1) 0) ++ if stepOf l = 1 then [] else 58 :: num (stepOf l))
def pieces : Nat → List Int → List (List UInt8)
  | 0, _ => []
  | f + 1, l => if l = [] then [] else pieceT l (cutN l) :: pieces f (l.drop (cutN l))
theorem pieces_none (f : Nat) : pieces f [] = [] := by cases f <;> rfl
theorem pieces_some (f : Nat) {l : List Int} (h : l ≠ []) : pieces (f + 1) l = pieceT l (cutN l) :: pieces f (l.drop (cutN l)) := by
  rw [pieces, if_neg h]
def fmtT (l : List Int) (lim : Int) : List UInt8 := Go.Lib.join (pieces l.length l) [44] ++ if lim = 0 then [] else 37 :: num lim

/-! Reading. -/
def pNum (low : Int) (t : List UInt8) : Option (Int × List UInt8) :=
  if (t.takeWhile isDig).length = 0 ∨ 6 < (t.takeWhile isDig).length then none
  else if ((dval (t.takeWhile isDig) : Nat) : Int) < low then none else some (((dval (t.takeWhile isDig) : Nat) : Int), t.drop (t.takeWhile isDig).length)
/-- A range: its first number, its last one, its step. -/
abbrev Sp := Int × Int × Int
def pRange (t : List UInt8) : Option (Sp × List UInt8) := match pNum 0 t with
  | none => none
  | some (x, r) => if r.head? = some 45 then (match pNum x r.tail with
      | none => none
      | some (y, r2) => if r2.head? = some 58 then (match pNum 1 r2.tail with
          | none => none
          | some (st, r3) => some ((x, y, st), r3)) else some ((x, y, 1), r2))
    else some ((x, x, 1), r)
def spN (x : Sp) : Nat := ((x.2.1 - x.1) / x.2.2 + 1).toNat
def spL (x : Sp) : List Int := (List.range (spN x)).map fun (i : Nat) => x.1 + (i : Int) * x.2.2
def pRanges : Nat → List Int → List UInt8 → Option (List Int × List UInt8)
  | 0, _, _ => none
  | f + 1, came, t => match pRange t with
    | none => none
    | some (x, r) => if 256 < came.length + spN x ∨ ¬ (∀ n ∈ spL x, n ∉ came) then none else if r.head? = some 44 then pRanges f (came ++ spL x) r.tail else some (came ++ spL x, r)
def srt (l : List Int) : List Int := l.mergeSort fun x y => decide (x ≤ y)
def pArr (s : List UInt8) : Option (List Int × Int) := match pRanges (s.length + 1) [] s with
  | none => none
  | some (came, r) => if r.head? = some 37 then (match pNum 1 r.tail with
      | none => none
      | some (n, r2) => if r2 = [] then some (srt came, n) else none)
    else if r = [] then some (srt came, 0) else none

theorem pNum_facts {low n : Int} {t r : List UInt8} (h : pNum low t = some (n, r)) : 0 ≤ n ∧ n ≤ 999999 ∧ low ≤ n ∧ r.length < t.length := by
  unfold pNum at h
  split at h
  · cases h
  · rename_i hl
    split at h
    · cases h
    · rename_i hlow
      injection h with h
      injection h with hn hr
      subst hn hr
      have hb := dval_lt _ _ rfl (List.all_takeWhile (p := isDig) (l := t))
      have h6 : 10 ^ (t.takeWhile isDig).length ≤ 10 ^ 6 := Nat.pow_le_pow_right (by decide) (by omega)
      have : (10 : Nat) ^ 6 = 1000000 := by decide
      have hle := (List.takeWhile_prefix isDig (l := t)).length_le
      refine ⟨by omega, by omega, by omega, ?_⟩
      rw [List.length_drop]
      omega
theorem num_facts {n : Int} (h0 : 0 ≤ n) (h1 : n ≤ 999999) : (num n).all isDig = true ∧ ((dval (num n) : Nat) : Int) = n ∧ 1 ≤ (num n).length ∧ (num n).length ≤ 6 := by
  obtain ⟨a, b, c⟩ := dec_facts n.toNat
  refine ⟨a, ?_, c, dec_len_le 6 _ (by decide) (by omega)⟩
  unfold num
  rw [b]; omega
theorem pNum_num {low n : Int} {r : List UInt8} (h0 : 0 ≤ n) (h1 : n ≤ 999999) (hl : low ≤ n) (hr : ∀ c, r.head? = some c → isDig c = false) : pNum low (num n ++ r) = some (n, r) := by
  obtain ⟨a, b, c, d⟩ := num_facts h0 h1
  unfold pNum
  rw [tw_app _ _ a hr, if_neg (by omega), b, if_neg (by omega), List.drop_left]
/-- What may stand behind a range. -/
def Behind (r : List UInt8) : Prop := ∀ c, r.head? = some c → c = 44 ∨ c = 37
theorem Behind.dig {r : List UInt8} (h : Behind r) : ∀ c, r.head? = some c → isDig c = false := fun c hc => by
  rcases h c hc with rfl | rfl <;> rfl
theorem Behind.not {r : List UInt8} (h : Behind r) : r.head? ≠ some 45 ∧ r.head? ≠ some 58 :=
  ⟨(fun e => by rcases h 45 e with h | h <;> cases h), (fun e => by rcases h 58 e with h | h <;> cases h)⟩
theorem spL_len (x : Sp) : (spL x).length = spN x := by unfold spL; rw [List.length_map, List.length_range]
theorem spL_of {l : List Int} {x y st : Int} {k : Nat} (hk : k ≤ l.length) (hn : spN (x, y, st) = k) (h : ∀ j, j < k → l.getD j 0 = x + j * st) : spL (x, y, st) = l.take k := by
  apply List.ext_getElem
  · rw [spL_len, hn, List.length_take]; omega
  · intro j h1 h2
    rw [spL_len, hn] at h1
    rw [List.getElem_take, ← getD_get (l := l) (by omega), h j h1]
    simp [spL]
theorem pRange_piece {l : List Int} (hne : l ≠ []) (hu : l.Pairwise (· < ·)) (hx : ∀ x ∈ l, 0 ≤ x ∧ x ≤ 999999) {r : List UInt8} (hr : Behind r) : ∃ x : Sp, pRange (pieceT l (cutN l) ++ r) = some (x, r) ∧ spL x = l.take (cutN l) := by
  obtain ⟨c1, c2, c3⟩ := cutN_le hne
  have hat : ∀ j, j < l.length → 0 ≤ l.getD j 0 ∧ l.getD j 0 ≤ 999999 := fun j hj => by rw [getD_get hj]; exact hx _ (List.getElem_mem hj)
  obtain ⟨a0, a1⟩ := hat 0 (by omega)
  unfold pieceT
  by_cases h1 : cutN l = 1
  · rw [if_pos h1, List.append_nil]
    refine ⟨(l.getD 0 0, l.getD 0 0, 1), ?_, ?_⟩
    · unfold pRange
      rw [pNum_num a0 a1 a0 hr.dig]
      simp only [if_neg hr.not.1]
    · rw [h1]
      exact spL_of (by omega) (by unfold spN; simp) fun j hj => by
        have : j = 0 := by omega
        subst this; simp
  · rw [if_neg h1]
    have hk2 : 2 ≤ cutN l := by omega
    have hst : 1 ≤ stepOf l := by
      unfold stepOf
      rw [getD_get (j := 1) (by omega), getD_get (j := 0) (by omega)]
      have := List.pairwise_iff_getElem.1 hu 0 1 (by omega) (by omega) (by omega)
      omega
    obtain ⟨b0, b1⟩ := hat (cutN l - 1) (by omega)
    have hlast := maxRun_at (l := l) (j := cutN l - 1) (by omega)
    have e1 : ((cutN l - 1 : Nat) : Int) = (cutN l : Int) - 1 := by omega
    have hle : l.getD 0 0 ≤ l.getD (cutN l - 1) 0 := by
      rw [hlast]
      have : 0 ≤ ((cutN l - 1 : Nat) : Int) * stepOf l := Int.mul_nonneg (by omega) (by omega)
      omega
    have hN : spN (l.getD 0 0, l.getD (cutN l - 1) 0, stepOf l) = cutN l := by
      unfold spN
      show ((l.getD (cutN l - 1) 0 - l.getD 0 0) / stepOf l + 1).toNat = cutN l
      rw [hlast, show l.getD 0 0 + ((cutN l - 1 : Nat) : Int) * stepOf l - l.getD 0 0 = ((cutN l - 1 : Nat) : Int) * stepOf l by omega, Int.mul_ediv_cancel _ (by omega)]
      omega
    have hL := spL_of (l := l) (k := cutN l) c2 hN fun j hj => maxRun_at (by omega)
    by_cases h2 : stepOf l = 1
    · rw [if_pos h2, List.append_nil, List.append_assoc, List.cons_append]
      rw [h2] at hL
      refine ⟨_, ?_, hL⟩
      unfold pRange
      rw [pNum_num a0 a1 a0 (fun c hc => by simp at hc; subst hc; rfl)]
      simp only [List.head?_cons, if_true, List.tail_cons]
      rw [pNum_num b0 b1 hle hr.dig]
      simp only [if_neg hr.not.2]
    · have hs6 : stepOf l ≤ 999999 := by
        unfold stepOf
        have := hat 1 (by omega)
        omega
      rw [if_neg h2, List.append_assoc, List.cons_append, List.append_assoc, List.cons_append]
      refine ⟨_, ?_, hL⟩
      unfold pRange
      rw [pNum_num a0 a1 a0 (fun c hc => by simp at hc; subst hc; rfl)]
      simp only [List.head?_cons, if_true, List.tail_cons]
      rw [pNum_num b0 b1 hle (fun c hc => by simp at hc; subst hc; rfl)]
      simp only [List.head?_cons, if_true, List.tail_cons]
      rw [pNum_num (by omega) hs6 hst hr.dig]
theorem pRanges_pieces : ∀ (g f : Nat) (came l : List Int) (r : List UInt8), l.length ≤ g → l ≠ [] → (pieces g l).length ≤ f → (came ++ l).Pairwise (· < ·) → (∀ x ∈ l, 0 ≤ x ∧ x ≤ 999999) → came.length + l.length ≤ 256 → (∀ c, r.head? = some c → c = 37) →
    pRanges f came (Go.Lib.join (pieces g l) [44] ++ r) = some (came ++ l, r)
  | 0, _, _, l, _, hg, hne, _, _, _, _, _ => absurd (List.eq_nil_of_length_eq_zero (by omega)) hne
  | g + 1, f, came, l, r, hg, hne, hf, hu, hx, h256, hr => by
    obtain ⟨c1, c2, c3⟩ := cutN_le hne
    rw [pieces_some g hne] at hf ⊢
    rw [List.length_cons] at hf
    cases f with
    | zero => omega
    | succ f =>
    have hul := (List.pairwise_append.1 hu).2.1
    have hcross := (List.pairwise_append.1 hu).2.2
    have hlen : (l.take (cutN l)).length = cutN l := by rw [List.length_take]; omega
    have hgo : ∀ (x : Sp) (r' : List UInt8), spL x = l.take (cutN l) → pRange (pieceT l (cutN l) ++ r') = some (x, r') →
        pRanges (f + 1) came (pieceT l (cutN l) ++ r') = if r'.head? = some 44 then pRanges f (came ++ l.take (cutN l)) r'.tail else some (came ++ l.take (cutN l), r') := fun x r' hL hp => by
      have hN : spN x = cutN l := by rw [← spL_len, hL, hlen]
      rw [pRanges, hp]
      simp only
      rw [hN, hL, if_neg]
      rintro (h | h)
      · omega
      · exact h fun n hn hc => Int.lt_irrefl _ (hcross n hc n (List.mem_of_mem_take hn))
    by_cases hd : l.drop (cutN l) = []
    · rw [hd, pieces_none, Go.Lib.join_cons]
      have hj : Go.Lib.joinTail [44] [] = [] := by simp [Go.Lib.joinTail]
      rw [hj, List.append_nil]
      obtain ⟨x, hp, hL⟩ := pRange_piece hne hul hx (r := r) (fun c hc => .inr (hr c hc))
      rw [hgo x r hL hp, if_neg (fun e => by have := hr 44 e; cases this)]
      have : l.take (cutN l) = l := by
        conv => rhs; rw [← List.take_append_drop (cutN l) l, hd, List.append_nil]
      rw [this]
    · have hpc : ∃ p ps, pieces g (l.drop (cutN l)) = p :: ps := by
        cases g with
        | zero => exact absurd (List.eq_nil_of_length_eq_zero (by rw [List.length_drop]; omega)) hd
        | succ g => exact ⟨_, _, pieces_some g hd⟩
      obtain ⟨p, ps, hpp⟩ := hpc
      have hj : Go.Lib.join (pieceT l (cutN l) :: p :: ps) [44] ++ r = pieceT l (cutN l) ++ (44 :: (Go.Lib.join (p :: ps) [44] ++ r)) := by
        rw [Go.Lib.join_cons, Go.Lib.join_cons]
        simp [Go.Lib.joinTail]
      rw [hpp, hj, ← hpp]
      obtain ⟨x, hp, hL⟩ := pRange_piece hne hul hx (r := 44 :: (Go.Lib.join (pieces g (l.drop (cutN l))) [44] ++ r)) (fun c hc => by simp at hc; exact .inl hc.symm)
      rw [hgo x _ hL hp, if_pos List.head?_cons, List.tail_cons]
      have := pRanges_pieces g f (came ++ l.take (cutN l)) (l.drop (cutN l)) r (by rw [List.length_drop]; omega) hd (by omega) (by rw [List.append_assoc, List.take_append_drop]; exact hu) (fun y hy => hx y (List.mem_of_mem_drop hy)) (by rw [List.length_append, hlen, List.length_drop]; omega) hr
      rw [this, List.append_assoc, List.take_append_drop]
theorem pieceT_pos {l : List Int} {k : Nat} : 1 ≤ (pieceT l k).length := by
  unfold pieceT num
  have := (dec_facts (l.getD 0 0).toNat).2.2
  rw [List.length_append]
  omega
theorem pieces_pos : ∀ (g : Nat) (l : List Int), ∀ p ∈ pieces g l, 1 ≤ p.length
  | 0, _, p, h => by cases h
  | g + 1, l, p, h => by
    unfold pieces at h
    split at h
    · cases h
    · rcases List.mem_cons.1 h with h | h
      · rw [h]; exact pieceT_pos
      · exact pieces_pos g _ p h
theorem join_many {l : List (List UInt8)} (h : ∀ p ∈ l, 1 ≤ p.length) : l.length ≤ (Go.Lib.join l [44]).length := by
  have ht : ∀ r : List (List UInt8), (∀ p ∈ r, 1 ≤ p.length) → r.length ≤ (Go.Lib.joinTail [44] r).length := by
    intro r
    induction r with
    | nil => intro _; simp
    | cons x r ih =>
      intro h
      have h2 := ih (fun d hd => h d (by simp [hd]))
      have e : Go.Lib.joinTail [44] (x :: r) = 44 :: x ++ Go.Lib.joinTail [44] r := by simp [Go.Lib.joinTail]
      rw [e, List.length_append, List.length_cons, List.length_cons]
      omega
  cases l with
  | nil => simp
  | cons x r =>
    rw [Go.Lib.join_cons, List.length_append, List.length_cons]
    have h1 := h x (by simp)
    have h2 := ht r (fun d hd => h d (by simp [hd]))
    omega
theorem srt_id {l : List Int} (h : l.Pairwise (· < ·)) : srt l = l :=
  List.mergeSort_of_pairwise (h.imp fun h => by simpa using Int.le_of_lt h)
/-- What is formatted is parsed. -/
theorem pArr_fmt {l : List Int} {lim : Int} (h : RightP l lim) : pArr (fmtT l lim) = some (l, lim) := by
  have hne : l ≠ [] := fun e => by have := h.1.1; rw [e] at this; simp at this
  have hu := h.up
  have hx := h.range
  have hk := join_many (pieces_pos l.length l)
  unfold pArr fmtT
  by_cases h0 : lim = 0
  · subst h0
    rw [if_pos rfl, pRanges_pieces l.length _ [] l [] (Nat.le_refl _) hne (by rw [List.append_nil]; omega) hu hx (by have := h.1.2; simpa using this) (fun c hc => by cases hc)]
    simp only [List.nil_append, List.head?_nil]
    rw [if_neg (by simp), if_pos trivial, srt_id hu]
  · rw [if_neg h0, pRanges_pieces l.length _ [] l (37 :: num lim) (Nat.le_refl _) hne (by rw [List.length_append]; omega) hu hx (by have := h.1.2; simpa using this) (fun c hc => by simp at hc; exact hc.symm)]
    simp only [List.nil_append, List.head?_cons, if_true, List.tail_cons]
    have := pNum_num (low := 1) (n := lim) (r := []) (by have := h.2.2.1; omega) h.2.2.2 (by have := h.2.2.1; omega) (fun c hc => by cases hc)
    rw [List.append_nil] at this
    rw [this]
    simp [srt_id hu]

/-! What is parsed may be. -/
theorem spN_pos {x y st : Int} (h : x ≤ y) (hs : 1 ≤ st) : 1 ≤ spN (x, y, st) := by
  unfold spN
  have : 0 ≤ (y - x) / st := Int.ediv_nonneg (by omega) (by omega)
  show 1 ≤ ((y - x) / st + 1).toNat
  omega
theorem spL_facts {x y st : Int} (h0 : 0 ≤ x) (h : x ≤ y) (hs : 1 ≤ st) : (spL (x, y, st)).Nodup ∧ ∀ n ∈ spL (x, y, st), 0 ≤ n ∧ n ≤ y := by
  refine ⟨?_, fun n hn => ?_⟩
  · unfold spL
    rw [List.Nodup, List.pairwise_map]
    refine List.Pairwise.imp (R := fun a b => a < b) (fun {a b} hab e => ?_) List.pairwise_lt_range
    have e' : (a : Int) * st = b * st := Int.add_left_cancel e
    have := Int.eq_of_mul_eq_mul_right (by omega) e'
    omega
  · unfold spL at hn
    obtain ⟨i, hi, rfl⟩ := List.mem_map.1 hn
    rw [List.mem_range] at hi
    unfold spN at hi
    have hi2 : (i : Int) ≤ (y - x) / st := by
      have : (i : Int) < ((y - x) / st + 1) := by
        have h2 : 0 ≤ (y - x) / st := Int.ediv_nonneg (by omega) (by omega)
        simp only at hi
        omega
      omega
    have h1 : (i : Int) * st ≤ (y - x) / st * st := Int.mul_le_mul_of_nonneg_right hi2 (by omega)
    have h2 : (y - x) / st * st ≤ y - x := Int.ediv_mul_le _ (by omega)
    have h3 : 0 ≤ (i : Int) * st := Int.mul_nonneg (by omega) (by omega)
    show 0 ≤ x + (i : Int) * st ∧ x + (i : Int) * st ≤ y
    omega
theorem pRange_facts {t r : List UInt8} {x : Sp} (h : pRange t = some (x, r)) : (0 ≤ x.1 ∧ x.1 ≤ x.2.1 ∧ x.2.1 ≤ 999999 ∧ 1 ≤ x.2.2 ∧ x.2.2 ≤ 999999) ∧ r.length < t.length := by
  unfold pRange at h
  cases h1 : pNum 0 t with
  | none => rw [h1] at h; cases h
  | some q =>
    obtain ⟨a, r1⟩ := q
    rw [h1] at h
    simp only at h
    obtain ⟨a0, a1, _, a3⟩ := pNum_facts h1
    split at h
    · cases h2 : pNum a r1.tail with
      | none => rw [h2] at h; cases h
      | some q =>
        obtain ⟨b, r2⟩ := q
        rw [h2] at h
        simp only at h
        obtain ⟨b0, b1, b2, b3⟩ := pNum_facts h2
        rw [List.length_tail] at b3
        split at h
        · cases h3 : pNum 1 r2.tail with
          | none => rw [h3] at h; cases h
          | some q =>
            obtain ⟨c, r3⟩ := q
            rw [h3] at h
            simp only at h
            obtain ⟨c0, c1, c2, c3⟩ := pNum_facts h3
            rw [List.length_tail] at c3
            injection h with h
            injection h with hx hr
            subst hx hr
            exact ⟨⟨a0, b2, b1, c2, c1⟩, by omega⟩
        · injection h with h
          injection h with hx hr
          subst hx hr
          exact ⟨⟨a0, b2, b1, Int.le_refl 1, show (1 : Int) ≤ 999999 by decide⟩, by omega⟩
    · injection h with h
      injection h with hx hr
      subst hx hr
      exact ⟨⟨a0, Int.le_refl _, a1, Int.le_refl 1, show (1 : Int) ≤ 999999 by decide⟩, a3⟩
/-- Indexes that came: each once, none too great, not too many. -/
def Came (l : List Int) : Prop := l.Nodup ∧ (∀ n ∈ l, 0 ≤ n ∧ n ≤ 999999) ∧ l.length ≤ 256
theorem Came.more {l : List Int} (h : Came l) {x : Sp} {t r : List UInt8} (hx : pRange t = some (x, r)) (h1 : ¬ (256 < l.length + spN x ∨ ¬ ∀ n ∈ spL x, n ∉ l)) : Came (l ++ spL x) ∧ 1 ≤ (l ++ spL x).length := by
  obtain ⟨x1, x2, x3⟩ := x
  obtain ⟨⟨a, b, c, d, _⟩, _⟩ := pRange_facts hx
  simp only at a b c d
  obtain ⟨e, f⟩ := spL_facts a b d
  have h2 := Classical.not_not.1 (fun hh => h1 (.inr hh))
  refine ⟨⟨List.nodup_append.2 ⟨h.1, e, fun y hy z hz hyz => ?_⟩, fun n hn => ?_, ?_⟩, ?_⟩
  · subst hyz; exact h2 y hz hy
  · rcases List.mem_append.1 hn with hn | hn
    · exact h.2.1 n hn
    · have := f n hn; omega
  · rw [List.length_append, spL_len]; omega
  · rw [List.length_append, spL_len]
    have := spN_pos b d
    omega
theorem pRanges_came : ∀ (f : Nat) (came : List Int) (t : List UInt8) (l : List Int) (r : List UInt8), pRanges f came t = some (l, r) → Came came → Came l ∧ 1 ≤ l.length
  | 0, _, _, _, _, h, _ => by cases h
  | f + 1, came, t, l, r, h, hc => by
    unfold pRanges at h
    cases h1 : pRange t with
    | none => rw [h1] at h; cases h
    | some q =>
      obtain ⟨x, r1⟩ := q
      rw [h1] at h
      simp only at h
      split at h
      · cases h
      · rename_i hn
        obtain ⟨m1, m2⟩ := hc.more h1 hn
        split at h
        · exact pRanges_came f _ _ l r h m1
        · injection h with h
          injection h with hx hr
          subst hx
          exact ⟨m1, m2⟩
theorem srt_right {l : List Int} (h : Came l) (h1 : 1 ≤ l.length) {lim : Int} (h3 : 0 ≤ lim) (h4 : lim ≤ 999999) : RightP (srt l) lim := by
  have hp : (srt l).Perm l := List.mergeSort_perm l _
  have hs : (srt l).Pairwise (fun a b => decide (a ≤ b) = true) := List.pairwise_mergeSort (fun a b c h1 h2 => by simp at *; omega) (fun a b => by simp; omega) l
  have hn : (srt l).Nodup := hp.symm.nodup h.1
  refine RightP.mk' (by rw [hp.length_eq]; exact h1) (by rw [hp.length_eq]; exact h.2.2) ?_ (fun x hx => h.2.1 x (hp.mem_iff.1 hx)) h3 h4
  refine (hs.and hn).imp fun {a b} h => ?_
  obtain ⟨h1, h2⟩ := h
  have h1 : a ≤ b := of_decide_eq_true h1
  omega
theorem pArr_right {s : List UInt8} {l : List Int} {lim : Int} (h : pArr s = some (l, lim)) : RightP l lim := by
  unfold pArr at h
  cases h1 : pRanges (s.length + 1) [] s with
  | none => rw [h1] at h; cases h
  | some q =>
    obtain ⟨came, r⟩ := q
    rw [h1] at h
    simp only at h
    obtain ⟨c1, c2⟩ := pRanges_came _ _ _ _ _ h1 ⟨List.nodup_nil, (fun n hn => by cases hn), by simp⟩
    split at h
    · cases h2 : pNum 1 r.tail with
      | none => rw [h2] at h; cases h
      | some q =>
        obtain ⟨n, r2⟩ := q
        rw [h2] at h
        simp only at h
        obtain ⟨n0, n1, _⟩ := pNum_facts h2
        split at h
        · injection h with h
          injection h with hx hr
          subst hx hr
          exact srt_right c1 c2 n0 n1
        · cases h
    · split at h
      · injection h with h
        injection h with hx hr
        subst hx hr
        exact srt_right c1 c2 (by decide) (by decide)
      · cases h
end Go.Proofs.YtlcbppflpadhaaaDoor
