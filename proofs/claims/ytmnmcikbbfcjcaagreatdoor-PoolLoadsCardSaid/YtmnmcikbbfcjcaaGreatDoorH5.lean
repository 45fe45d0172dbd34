/-
  Parts: HRNumX HRefM HRRngX HRefM2.
-/
import Derived.Test.YtmnmcikbbfcjcaaGreatDoorH3
import Derived.Test.YtmnmcikbbfcjcaaGreatDoorH1
set_option linter.unusedSimpArgs false
set_option linter.unusedVariables false
/-
  The document's reader reads digits: what it answers, told exactly.
-/
namespace Go.Proofs.YtmnmcikbbfcjcaaGreatDoor.Hs
open Go.RowKit

theorem tw_len9 {r : List UInt8} {j : Nat} (hj : j ≤ r.length) (h : AllTo r j) (hn : ∀ h : j < r.length, isDig r[j] = false) : r.takeWhile isDig = r.take j := by
  have e : r = r.take j ++ r.drop j := (List.take_append_drop j r).symm
  conv => lhs; rw [e]
  refine tw_app _ _ (all_take h hj) (fun c hc => ?_)
  rw [List.head?_drop] at hc
  obtain ⟨h1, rfl⟩ := List.getElem?_eq_some_iff.1 hc
  exact hn h1
theorem tw_all {p : UInt8 → Bool} : ∀ l : List UInt8, (∀ x ∈ l, p x = true) → l.takeWhile p = l
  | [], _ => rfl
  | c :: l, h => by rw [List.takeWhile_cons, if_pos (h c (by simp)), tw_all l (fun x hx => h x (by simp [hx]))]
theorem tw_more9 {r : List UInt8} {j : Nat} (h : AllTo r j) (hl : j < r.length) (hd : isDig r[j] = true) : j < (r.takeWhile isDig).length := by
  have h2 := h.succ hl hd
  have e : r = r.take (j + 1) ++ r.drop (j + 1) := (List.take_append_drop (j + 1) r).symm
  have : (r.take (j + 1)).takeWhile isDig = r.take (j + 1) := tw_all _ fun x hx => List.all_eq_true.1 (all_take h2 (by omega)) x hx
  rw [e, List.takeWhile_append, this, if_pos (by simp)]
  simp
  omega
theorem pNum_more9 {r : List UInt8} (h : 6 < (r.takeWhile isDig).length) : pNum r = .bad 3 6 := by unfold pNum; rw [if_pos h]
theorem pNum_zero9 {r : List UInt8} (h : r.takeWhile isDig = []) : pNum r = .bad (wrg r) 0 := by
  unfold pNum
  rw [h]
  rfl
theorem pNum_some9 {r t : List UInt8} (h : r.takeWhile isDig = t) (h6 : t.length ≤ 6) (h1 : 1 ≤ t.length) : pNum r = .ok (dval t) t.length := by
  unfold pNum
  rw [h, if_neg (by omega), if_neg (by omega)]
/-- The reader has read digits, or has a fault. -/
def NumX (w : World) (b : Nat) (s : ByteArray) (a : Nat) (f : Int) (r : List UInt8) (e : Ending) (w' : World) : Prop :=
  (∃ (e0 k0 a' : Nat) (y' f' : Int), pNum r = .bad e0 k0 ∧ e = .returned (.string (str [])) ∧ y' ≠ 0 ∧ a ≤ a' ∧ a' ≤ s.size ∧ RB w' b s a' y' f' ∧ Chg b w w') ∨
  (∃ t : List UInt8, pNum r = .ok (dval t) t.length ∧ r.take t.length = t ∧ t.all isDig = true ∧ 1 ≤ t.length ∧ t.length ≤ 6 ∧ e = .returned (.string (str t)) ∧ a + t.length ≤ s.size ∧ RB w' b s ((a + t.length : Nat) : Int) 0 f ∧ Chg b w w')
set_option maxRecDepth 100000 in
set_option maxHeartbeats 4000000 in
theorem rnumber_ex (b : Nat) (s : ByteArray) (a : Nat) (f : Int) (w : World) (hs : s.size ≤ 140737488355328) (ha : a ≤ s.size) (h : RB w b s a 0 f) :
    Calls Tryz.prog 145 #[.pointer (some ⟨b, 0, none⟩)] w (NumX w b s a f ((bl s).drop a)) := by
  obtain ⟨r, hr⟩ : ∃ r, (bl s).drop a = r := ⟨_, rfl⟩
  rw [hr]
  have hrl : r.length = s.size - a := by rw [← hr, List.length_drop, bl_len]
  have hget : ∀ j (h : a + j < s.size) (h' : j < r.length), r[j] = s[a + j] := fun j h h' => by subst hr; exact drop_get s a j h h'
  have hext : ∀ j, s.extract a (a + j) = str (r.take j) := fun j => by rw [ext_str, hr, Nat.add_sub_cancel_left]
  obtain ⟨c0, c1, c2, c3, z1, z2, z3, hz⟩ := h.facts
  have hai0 : (0 : Int) ≤ a := by omega
  have hai1 : (a : Int) ≤ s.size := by omega
  have hsi : (s.size : Int) ≤ 140737488355328 := by omega
  replace hr := fhid hr
  replace hrl := fhid hrl
  replace hget := fhid hget
  replace hext := fhid hext
  replace hs := fhid hs
  go_enter Tryz.func145, Tryz.ntmps145
  go_wp2_with fail
  clear c0 c1 c2 c3 z1 z2 z3 hz
  go_loopw [] (fun wr => ∃ j : Nat, j ≤ 6 ∧ a + j ≤ s.size ∧ AllTo r j ∧ RB wr b s ((a : Int) + (j : Int)) 0 f ∧ Chg b w wr) (fun wr => s.size - atOf wr b)
  case atStart => exact ⟨0, by omega, ha, AllTo.zero r, by simpa using h, Chg.refl _ _⟩
  case round =>
    obtain ⟨j, hj6, hjl, hall, hb, hch⟩ := hrel
    have hrj : j ≤ r.length := by rw [hrl.out]; omega
    have hpk := peek_chg b s (a + j) 0 f ((a : Int) + j) wr (by omega) hs.out hb
    have hdg := fun W => rdigit_any (pk s (a + j) 0) W
    have j0 : (0 : Int) ≤ j := by omega
    have j1 : (a : Int) + j ≤ s.size := by omega
    have j2 : (a : Int) + j - a = j := by omega
    have hme := hb.at_
    replace hall := fhid hall
    by_cases hd : isDig (pk s (a + j) 0) = true
    · obtain ⟨hlt, hy, hp⟩ := pk_dig hd
      rw [hd] at hdg
      have hall' := fhid (hall.out.succ (by have := hrl.out; omega) (by rw [hget.out j hlt (by have := hrl.out; omega), ← hp]; exact hd))
      have hmore := fhid (tw_more9 hall.out (by have := hrl.out; omega) (by rw [hget.out j hlt (by have := hrl.out; omega), ← hp]; exact hd))
      clear hp hd
      generalize pk s (a + j) 0 = c at *
      replace hch := fhid hch
      go_wp2_with fail
      refine hpk.mono ?_
      rintro e w1 ⟨rfl, hb1, hc1⟩
      replace hc1 := hch.out.trans hc1
      go_wp2_with fail
      refine (hdg _).mono ?_
      rintro e w2 ⟨rfl, rfl⟩
      obtain ⟨c0, c1, c2, c3, z1, z2, z3, hz⟩ := hb1.facts
      clear hpk hdg
      by_cases h6 : j = 6
      · subst h6
        go_wp2_with fail
        refine (fault_set b s _ 0 f _ w1 hb1).mono ?_
        rintro e w2 ⟨rfl, y', f', hy', hb2, hc2⟩
        go_wp2_with fail
        go_ret
        exact .inl ⟨_, _, a + 6, y', f', pNum_more9 hmore.out, rfl, hy', by omega, by omega, by simpa using hb2, hc1.trans hc2⟩
      · have e6 : ((j : Int) == 6) = false := by simp; omega
        have e7 : ¬ (j : Int) = 6 := by omega
        have hn := hb1.set1 ((a : Int) + j + 1)
        go_wp2_with fail
        go_roundw
        case rel => exact ⟨j + 1, by omega, by omega, hall'.out, by rw [show (a : Int) + ((j + 1 : Nat) : Int) = a + j + 1 by omega]; exact hn, hc1.set 1 _⟩
        case measure =>
          rw [hn.at_, hme]
          omega
    · have hd' : isDig (pk s (a + j) 0) = false := by simpa using hd
      rw [hd'] at hdg
      have htw := fhid (tw_len9 hrj hall.out (fun h => by
        have hq : a + j < s.size := by have := hrl.out; omega
        have hpe : pk s (a + j) 0 = s[a + j] := by unfold pk; rw [dif_pos ⟨hq, rfl⟩]
        rw [hget.out j hq h, ← hpe]; exact hd'))
      clear hd hd'
      generalize pk s (a + j) 0 = c at *
      replace hch := fhid hch
      have hts := hext.out j
      have htl : (r.take j).length ≤ 6 := by rw [List.length_take]; omega
      have hta := fhid (all_take hall.out hrj)
      have htn : ((a : Int) + j).toNat = a + j := by omega
      have i3 : a + j ≤ s.size := hjl
      have i4 : (a : Int) ≤ a + j := by omega
      generalize hT : r.take j = T at *
      replace hT := fhid hT
      replace hts := fhid hts
      go_wp2_with fail
      refine hpk.mono ?_
      rintro e w1 ⟨rfl, hb1, hc1⟩
      replace hc1 := hch.out.trans hc1
      go_wp2_with fail
      refine (hdg _).mono ?_
      rintro e w2 ⟨rfl, rfl⟩
      obtain ⟨c0, c1, c2, c3, z1, z2, z3, hz⟩ := hb1.facts
      clear hpk hdg
      by_cases h0 : j = 0
      · subst h0
        go_wp2_with fail
        refine (fault_set b s _ 0 f _ w1 hb1).mono ?_
        rintro e w2 ⟨rfl, y', f', hy', hb2, hc2⟩
        clear c0 c1 c2 c3 z1 z2 z3 hz
        obtain ⟨c0, c1, c2, c3, z1, z2, z3, hz⟩ := hb2.facts
        go_wp2_with fail
        go_quiet (fail)
        go_wp2_with fail
        have hb3 : RB w2 b s a y' f' := by simpa using hb2
        go_ret
        exact .inl ⟨_, _, a, y', f', pNum_zero9 (by rw [htw.out, ← hT.out]; rfl), rfl, hy', Nat.le_refl _, ha, hb3.drew _, (hc1.trans hc2).drew _⟩
      · have e6 : ((a : Int) + j == a) = false := by simp; omega
        have e7 : ¬ (a : Int) + j = a := by omega
        have e8 : ¬ (j : Int) = 0 := by omega
        go_wp2_with fail
        go_quiet (fail)
        go_wp2_with fail
        have hb3 : RB w1 b s (a + j : Nat) 0 f := by
          rw [show ((a + j : Nat) : Int) = a + j by omega]
          exact hb1
        go_ret
        have hTl : T.length = j := by rw [← hT.out, List.length_take]; omega
        exact .inr ⟨T, pNum_some9 htw.out htl (by omega), by rw [hTl]; exact hT.out, hta.out, by omega, htl, frets hts.out, by omega, by rw [hTl]; exact hb3.drew _, hc1.drew _⟩
end Go.Proofs.YtmnmcikbbfcjcaaGreatDoor.Hs
/-
  The document's ranges beside the plain ones: plain facts.
-/
namespace Go.Proofs.YtmnmcikbbfcjcaaGreatDoor.Hs
open Go.RowKit

abbrev Tr := Nat × Nat × Nat
/-- What was read ahead of it, put to a result. -/
def pre (xs : List Tr) (j : Nat) : Res (List Tr) → Res (List Tr)
  | .bad e k => .bad e (j + k)
  | .ok ys k => .ok (xs ++ ys) (j + k)
theorem pre_nil (R : Res (List Tr)) : pre [] 0 R = R := by cases R <;> simp [pre]
theorem pre_pre (xs ys : List Tr) (j k : Nat) (R : Res (List Tr)) : pre xs j (pre ys k R) = pre (xs ++ ys) (j + k) R := by
  cases R <;> simp [pre, Nat.add_assoc]
theorem pRanges_bad1 {f : Nat} {r : List UInt8} {e k : Nat} (h : pRange r = .bad e k) : pRanges (f + 1) r = .bad e k := by
  rw [pRanges, h]
theorem pRanges_go {f : Nat} {r : List UInt8} {x : Tr} {k : Nat} (h : pRange r = .ok x k) (hk : r[k]? = some 44) : pRanges (f + 1) r = pre [x] (k + 1) (pRanges f (r.drop (k + 1))) := by
  rw [pRanges, h]
  simp only
  rw [if_neg (by rw [hk]; decide), if_pos hk]
  cases pRanges f (r.drop (k + 1)) <;> rfl
theorem pRanges_end {f : Nat} {r : List UInt8} {x : Tr} {k : Nat} (h : pRange r = .ok x k) (hk : r[k]? = some 93) : pRanges (f + 1) r = .ok [x] (k + 1) := by
  rw [pRanges, h]
  simp only
  rw [if_pos hk]
theorem pRanges_not {f : Nat} {r : List UInt8} {x : Tr} {k : Nat} (h : pRange r = .ok x k) (h1 : r[k]? ≠ some 44) (h2 : r[k]? ≠ some 93) : pRanges (f + 1) r = .bad (wrg (r.drop k)) k := by
  rw [pRanges, h]
  simp only
  rw [if_neg h2, if_neg h1]
theorem pRange_bad1 {r : List UInt8} {e k : Nat} (h : pNum r = .bad e k) : pRange r = .bad e k := by
  unfold pRange; rw [h]
theorem pRange_one {r : List UInt8} {a k : Nat} (h : pNum r = .ok a k) (hk : r[k]? ≠ some 45) : pRange r = .ok (a, a, k) k := by
  unfold pRange; rw [h]; simp only; rw [if_neg hk]
theorem pRange_sec {r : List UInt8} {a k : Nat} (h : pNum r = .ok a k) (hk : r[k]? = some 45) : pRange r = pSecond r a k := by
  unfold pRange; rw [h]; simp only; rw [if_pos hk]
theorem pSecond_bad1 {r : List UInt8} {a k e j : Nat} (h : pNum (r.drop (k + 1)) = .bad e j) : pSecond r a k = .bad e (k + 1 + j) := by
  unfold pSecond; rw [h]
theorem pSecond_less {r : List UInt8} {a k b j : Nat} (h : pNum (r.drop (k + 1)) = .ok b j) (hl : b < a) : pSecond r a k = .bad 3 (k + 1) := by
  unfold pSecond; rw [h]; simp only; rw [if_pos hl]
theorem pSecond_ok {r : List UInt8} {a k b j : Nat} (h : pNum (r.drop (k + 1)) = .ok b j) (hl : ¬ b < a) : pSecond r a k = .ok (a, b, k) (k + 1 + j) := by
  unfold pSecond; rw [h]; simp only; rw [if_neg hl]
/-- The byte at a place, as the reader sees it. -/
theorem pk_get (s : ByteArray) (a : Nat) {c : UInt8} (hc : c ≠ 0) : pk s a 0 = c ↔ (bl s)[a]? = some c := by
  unfold pk
  by_cases h : a < s.size
  · rw [dif_pos ⟨h, rfl⟩, List.getElem?_eq_getElem (by rw [bl_len]; exact h), Option.some.injEq]
    have : (bl s)[a]'(by rw [bl_len]; exact h) = s[a] := by
      have := bl_get s a h (by rw [bl_len]; exact h)
      exact this.symm ▸ rfl
    rw [this]
  · rw [dif_neg (fun q => h q.1), List.getElem?_eq_none (by rw [bl_len]; omega)]
    constructor
    · intro e; exact absurd e.symm hc
    · intro e; cases e
theorem dval_lead : ∀ (l : List UInt8) (c : UInt8), isDig c = true → c ≠ 48 → l.all isDig = true → 10 ^ l.length ≤ dval (c :: l) := by
  intro l c hc h48 hl
  have hd : 1 ≤ dv c := by
    have := (isDig_iff c).1 hc
    unfold dv
    have : c.toNat ≠ 48 := fun e => h48 (UInt8.toNat_inj.1 (by rw [e]; rfl))
    omega
  have gen : ∀ (l : List UInt8) (n : Nat), n * 10 ^ l.length ≤ l.foldl (fun n c => 10 * n + dv c) n := by
    intro l
    induction l with
    | nil => intro n; simp
    | cons x l ih =>
      intro n
      rw [List.foldl_cons, List.length_cons, Nat.pow_succ]
      refine Nat.le_trans ?_ (ih (10 * n + dv x))
      calc n * (10 ^ l.length * 10) = 10 * n * 10 ^ l.length := by rw [Nat.mul_comm (10 ^ l.length) 10, ← Nat.mul_assoc, Nat.mul_comm n 10]
        _ ≤ (10 * n + dv x) * 10 ^ l.length := Nat.mul_le_mul_right _ (by omega)
  unfold dval
  rw [List.foldl_cons]
  refine Nat.le_trans ?_ (gen l (10 * 0 + dv c))
  calc 10 ^ l.length = 1 * 10 ^ l.length := by rw [Nat.one_mul]
    _ ≤ (10 * 0 + dv c) * 10 ^ l.length := Nat.mul_le_mul_right _ (by omega)
theorem dec_ge {n k : Nat} (h : 10 ^ k ≤ n) : k + 1 ≤ (dec n).length := by
  obtain ⟨h1, h2, _⟩ := dec_facts n
  have := dval_lt _ (dec n) rfl h1
  rw [h2] at this
  by_cases hk : k + 1 ≤ (dec n).length
  · exact hk
  · have := Nat.pow_le_pow_right (n := 10) (by decide) (show (dec n).length ≤ k by omega)
    omega
/-- Filled up or not, from the first number on, it is the same. -/
theorem dig_width {t : List UInt8} (ht : t.all isDig = true) (h1 : 1 ≤ t.length) (n : Nat) (hn : dval t ≤ n) (q : Bool) (hq : q = (decide (1 < t.length) && decide (t.head? = some 48))) : dig n (if q = true then t.length else 0) = dig n t.length := by
  cases q with
  | true => rfl
  | false =>
    have hz : t.length ≤ (dec n).length := by
      cases t with
      | nil => simp at h1
      | cons c l =>
        rw [List.all_cons, Bool.and_eq_true] at ht
        by_cases hl : l = []
        · subst hl
          exact (dec_facts n).2.2
        · have hc : c ≠ 48 := by
            intro e
            subst e
            have : 1 < (48 :: l : List UInt8).length := by
              rw [List.length_cons]
              have := List.length_pos_iff.2 hl
              omega
            simp [hl] at hq
          have := dval_lead l c ht.1 hc ht.2
          have := dec_ge (n := n) (k := l.length) (by omega)
          rw [List.length_cons]
          omega
    simp only [Bool.false_eq_true, if_false]
    unfold dig
    rw [show 0 - (dec n).length = 0 by omega, show t.length - (dec n).length = 0 by omega]
/-- The first names of a range. -/
def firstN (a k m : Nat) : List (List UInt8) := (List.range m).map fun i => dig (a + i) k
theorem firstN_succ (a k m : Nat) : firstN a k (m + 1) = firstN a k m ++ [dig (a + m) k] := by unfold firstN; rw [List.range_succ, List.map_append]; rfl
theorem firstN_all (a b k : Nat) (_h : a ≤ b) : firstN a k (b + 1 - a) = spanNames [] (a, b, k) := by unfold firstN spanNames; simp
theorem firstN_pre (a k m n : Nat) (h : m ≤ n) : ∃ l, firstN a k n = firstN a k m ++ l := by
  refine ⟨(firstN a k n).drop m, ?_⟩
  have : (firstN a k n).take m = firstN a k m := by
    unfold firstN
    rw [← List.map_take, List.take_range, Nat.min_eq_left h]
  rw [← this, List.take_append_drop]
theorem take_full {α : Type} (P A B : List α) (n : Nat) (h : n ≤ (P ++ A).length) : (P ++ (A ++ B)).take n = (P ++ A).take n := by
  rw [← List.append_assoc, List.take_append_of_le_length h]
end Go.Proofs.YtmnmcikbbfcjcaaGreatDoor.Hs
/-
  The document's reader reads ranges: what it answers, told exactly.
-/
namespace Go.Proofs.YtmnmcikbbfcjcaaGreatDoor.Hs
open Go.RowKit

abbrev allR (s : ByteArray) (a : Nat) : Res (List Tr) := pRanges (((bl s).drop a).length + 1) ((bl s).drop a)
def namesR (xs : List Tr) : List (List UInt8) := (xs.flatMap (spanNames [])).take 257
def RInvX (w : World) (b : Nat) (s : ByteArray) (a : Nat) (f : Int) (s3 : Value) (wr : World) : Prop := ∃ (xs : List Tr) (a' F : Nat), OwnS wr w.heap.size s3 (namesR xs) ∧ a ≤ a' ∧ a' ≤ s.size ∧ RB wr b s a' 0 f ∧ ChgA b w wr ∧ s.size < a' + F ∧ allR s a = pre xs (a' - a) (pRanges F ((bl s).drop a'))
/-- What the call comes to. -/
def RPostX (w : World) (b : Nat) (s : ByteArray) (a : Nat) (f : Int) (e : Ending) (w' : World) : Prop := ChgA b w w' ∧
  ((∃ (e0 k0 a' : Nat) (y' f' : Int), allR s a = .bad e0 k0 ∧ e = .returned (.slice none 0 0) ∧ y' ≠ 0 ∧ a' ≤ s.size ∧ RB w' b s a' y' f') ∨
   (∃ (xs : List Tr) (k : Nat) (v : Value), allR s a = .ok xs k ∧ e = .returned v ∧ OwnS w' w.heap.size v (namesR xs) ∧ a + k ≤ s.size ∧ RB w' b s ((a + k : Nat) : Int) 0 f))
/-- Behind the range's second number. -/
def RMidX (w1 : World) (b : Nat) (s : ByteArray) (a' : Nat) (t1 : List UInt8) (f : Int) (s5 : Value) (wx : World) : Prop := ∃ (t2 : List UInt8) (a2 : Nat) (y2 f2 : Int), s5 = .string (str t2) ∧ t2.all isDig = true ∧ t2.length ≤ 6 ∧ a2 ≤ s.size ∧ RB wx b s a2 y2 f2 ∧ Chg b w1 wx ∧
  ((y2 ≠ 0 ∧ ∃ e0 k0, pRange ((bl s).drop a') = .bad e0 k0) ∨ (y2 = 0 ∧ f2 = f ∧ a' ≤ a2 ∧ dval t1 ≤ dval t2 ∧ pRange ((bl s).drop a') = .ok (dval t1, dval t2, t1.length) (a2 - a')))
theorem allR_bad {s : ByteArray} {a a' F : Nat} {xs : List Tr} {e k : Nat} (hR : allR s a = pre xs (a' - a) (pRanges F ((bl s).drop a'))) (hF : s.size < a' + F) (ha : a' ≤ s.size) (h : pRange ((bl s).drop a') = .bad e k) : ∃ e0 k0, allR s a = .bad e0 k0 := by
  obtain ⟨F', rfl⟩ : ∃ F', F = F' + 1 := ⟨F - 1, by omega⟩
  rw [pRanges_bad1 h] at hR
  exact ⟨_, _, hR⟩
theorem allR_go {s : ByteArray} {a a' a2 F : Nat} {xs : List Tr} {x : Tr} (haa : a ≤ a') (hR : allR s a = pre xs (a' - a) (pRanges F ((bl s).drop a'))) (hF : s.size < a' + F) (ha : a' ≤ a2) (h2 : a2 < s.size) (h : pRange ((bl s).drop a') = .ok x (a2 - a')) (hk : (bl s)[a2]? = some 44) :
    s.size < a2 + 1 + (F - 1) ∧ allR s a = pre (xs ++ [x]) (a2 + 1 - a) (pRanges (F - 1) ((bl s).drop (a2 + 1))) := by
  obtain ⟨F', rfl⟩ : ∃ F', F = F' + 1 := ⟨F - 1, by omega⟩
  refine ⟨by omega, ?_⟩
  rw [hR, pRanges_go h (by rw [List.getElem?_drop, show a' + (a2 - a') = a2 by omega]; exact hk), pre_pre, List.drop_drop, show a' + (a2 - a' + 1) = a2 + 1 by omega, show a' - a + (a2 - a' + 1) = a2 + 1 - a by omega]
  rfl
theorem allR_end {s : ByteArray} {a a' a2 F : Nat} {xs : List Tr} {x : Tr} (haa : a ≤ a') (hR : allR s a = pre xs (a' - a) (pRanges F ((bl s).drop a'))) (hF : s.size < a' + F) (ha : a' ≤ a2) (h2 : a2 < s.size) (h : pRange ((bl s).drop a') = .ok x (a2 - a')) (hk : (bl s)[a2]? = some 93) :
    allR s a = .ok (xs ++ [x]) (a2 + 1 - a) := by
  obtain ⟨F', rfl⟩ : ∃ F', F = F' + 1 := ⟨F - 1, by omega⟩
  rw [hR, pRanges_end h (by rw [List.getElem?_drop, show a' + (a2 - a') = a2 by omega]; exact hk)]
  show Res.ok (xs ++ [x]) (a' - a + (a2 - a' + 1)) = _
  rw [show a' - a + (a2 - a' + 1) = a2 + 1 - a by omega]
theorem allR_not {s : ByteArray} {a a' a2 F : Nat} {xs : List Tr} {x : Tr} (hR : allR s a = pre xs (a' - a) (pRanges F ((bl s).drop a'))) (hF : s.size < a' + F) (ha : a' ≤ a2) (h2 : a2 ≤ s.size) (h : pRange ((bl s).drop a') = .ok x (a2 - a')) (h44 : pk s a2 0 ≠ 44) (h93 : pk s a2 0 ≠ 93) : ∃ e0 k0, allR s a = .bad e0 k0 := by
  obtain ⟨F', rfl⟩ : ∃ F', F = F' + 1 := ⟨F - 1, by omega⟩
  rw [pRanges_not h (by rw [List.getElem?_drop, show a' + (a2 - a') = a2 by omega]; exact fun q => h44 ((pk_get s a2 (by decide)).2 q)) (by rw [List.getElem?_drop, show a' + (a2 - a') = a2 by omega]; exact fun q => h93 ((pk_get s a2 (by decide)).2 q))] at hR
  exact ⟨_, _, hR⟩
theorem names_grow {P : List (List UInt8)} {a k m : Nat} {D : List UInt8} (h : ((P ++ firstN a k m).take 257).length ≤ 256) (hD : D = dig (a + m) k) : (P ++ firstN a k m).take 257 ++ [D] = (P ++ firstN a k (m + 1)).take 257 := by
  have hl : (P ++ firstN a k m).length ≤ 256 := by rw [List.length_take] at h; omega
  rw [List.take_of_length_le (by omega), firstN_succ, ← List.append_assoc, List.take_of_length_le (show (P ++ firstN a k m ++ [dig (a + m) k]).length ≤ 257 by rw [List.length_append, List.length_singleton]; omega), hD]
theorem names_done {xs : List Tr} {a b k m : Nat} (hab : a ≤ b) (hm : a + m ≤ b + 1) (h : a + m = b + 1 ∨ ¬ ((xs.flatMap (spanNames []) ++ firstN a k m).take 257).length ≤ 256) : (xs.flatMap (spanNames []) ++ firstN a k m).take 257 = namesR (xs ++ [(a, b, k)]) := by
  unfold namesR
  rw [List.flatMap_append, List.flatMap_singleton, ← firstN_all a b k hab]
  rcases h with h | h
  · rw [show m = b + 1 - a by omega]
  · obtain ⟨l, hl⟩ := firstN_pre a k m (b + 1 - a) (by omega)
    rw [hl, take_full _ _ _ _ (by rw [List.length_take] at h; omega)]
theorem pk_none {s : ByteArray} {a : Nat} {y : Int} (h : y ≠ 0) : pk s a y = 0 := by unfold pk; rw [dif_neg (fun q => h q.2)]
set_option maxRecDepth 100000 in
set_option maxHeartbeats 16000000 in
theorem ranges_ex (b : Nat) (s : ByteArray) (a : Nat) (f : Int) (w : World) (hs : s.size ≤ 140737488355000) (ha : a ≤ s.size) (hbz : b < w.heap.size) (h : RB w b s a 0 f) :
    Calls Tryz.prog 133 #[.pointer (some ⟨b, 0, none⟩)] w (RPostX w b s a f) := by
  have hs' : s.size ≤ 140737488355328 := by omega
  have hsi : (s.size : Int) ≤ 140737488355000 := by omega
  replace hs := fhid hs
  replace hs' := fhid hs'
  go_enter Tryz.func133, Tryz.ntmps133
  go_wp2_with fail
  go_loopw [3] (fun s3 wr => RInvX w b s a f s3 wr) (fun _ wr => s.size - atOf wr b)
  case atStart => exact ⟨[], a, ((bl s).drop a).length + 1, OwnS.nil _ _, Nat.le_refl _, ha, h, ChgA.refl _ _, by rw [List.length_drop, bl_len]; omega, by rw [Nat.sub_self, pre_nil]⟩
  case round =>
    obtain ⟨xs, a', F, ho, haa, has, hb, hch, hF, hR⟩ := hrel
    have hme := hb.at_
    obtain ⟨A, cap, rfl, _, _, _⟩ := ho.shape
    replace ho := fhid ho
    replace hch := fhid hch
    replace hR := fhid hR
    replace hF := fhid hF
    go_wp2_with fail
    refine (rnumber_ex b s a' f wr hs'.out has hb).mono ?_
    rintro e w1 (⟨e0, k0, a1, y1, f1, hpn, rfl, hy1, g1, g1', hb1, hc1⟩ | ⟨t1, hpn, htk, d1, l1, l6, rfl, g1', hb1, hc1⟩)
    · have hbad := fhid (allR_bad hR.out hF.out has (pRange_bad1 hpn))
      replace hc1 := fhid hc1
      clear hb
      go_wp2_with fail
      refine (peek_chg b s a1 y1 f1 _ w1 rfl hs'.out hb1).mono ?_
      rintro e w2 ⟨rfl, hb2, hc2⟩
      replace hc2 := fhid (hc1.out.trans hc2)
      rw [pk_none hy1]
      have e45 : ((((0 : UInt8).toNat : Nat) : Int) == 45) = false := rfl
      have f45 : ¬ (((0 : UInt8).toNat : Nat) : Int) = 45 := by decide
      generalize ((0 : UInt8).toNat : Nat) = z at *
      have hyb : (y1 != 0) = true := by simpa using hy1
      obtain ⟨c0, c1, c2, c3, z1, z2, z3, hz⟩ := hb2.facts
      go_wp2_with fail
      go_ret
      obtain ⟨q1, q2, hq⟩ := hbad.out
      exact ⟨hch.out.trans hc2.out.a, .inl ⟨q1, q2, a1, y1, f1, hq, rfl, hy1, g1', hb2⟩⟩
    · replace hc1 := fhid hc1
      obtain ⟨a1, ha1⟩ : ∃ a1, a1 = a' + t1.length := ⟨_, rfl⟩
      rw [← ha1] at hb1 g1'
      have ha1h := fhid ha1
      clear ha1
      replace hpn := fhid hpn
      clear hb htk
      go_wp2_with fail
      refine (peek_chg b s a1 0 f _ w1 rfl hs'.out hb1).mono ?_
      rintro e w2 ⟨rfl, hb2, hc2⟩
      replace hc2 := fhid (hc1.out.trans hc2)
      clear hb1 hc1
      go_upto_if 15 with fail
      go_cut [5] (fun s5 wx => RMidX wr b s a' t1 f s5 wx)
      case first =>
        obtain ⟨c, hp⟩ : ∃ c, pk s a1 0 = c := ⟨_, rfl⟩
        rw [hp]
        have hgt := fhid (show ((bl s).drop a')[t1.length]? = (bl s)[a1]? by rw [List.getElem?_drop, ha1h.out])
        have hdr := fhid (show ((bl s).drop a').drop (t1.length + 1) = (bl s).drop (a1 + 1) by rw [List.drop_drop, ha1h.out]; congr 1)
        by_cases h45 : c = 45
        · subst h45
          have lt := pk_is hp (by decide)
          have hk45 := fhid (hgt.out.trans ((pk_get s a1 (by decide)).1 hp))
          clear hp
          obtain ⟨c0, c1, c2, c3, z1, z2, z3, hz⟩ := hb2.facts
          have hn := hb2.set1 ((a1 : Int) + 1)
          have i1 : (a1 : Int) < s.size := by omega
          have i0 : (0 : Int) ≤ a1 := by omega
          go_wp2_with fail
          refine (rnumber_ex b s (a1 + 1) f _ hs'.out (by omega) hn).mono ?_
          rintro e w3 (⟨e0, k0, a2, y2, f2, hpn2, rfl, hy2, g2, g2', hb3, hc3⟩ | ⟨t2, hpn2, htk3, d2, m1, m6, rfl, g2', hb3, hc3⟩)
          · have hc4 := fhid ((hc2.out.set 1 (.int .i64 ((a1 : Int) + 1))).trans hc3)
            clear c0 c1 c2 c3 z1 z2 z3 hz hc3 hn hb2
            obtain ⟨c0, c1, c2, c3, z1, z2, z3, hz⟩ := hb3.facts
            have hyb : (y2 == 0) = false := by simpa using hy2
            rw [← hdr.out] at hpn2
            have hbd := fhid ((pRange_sec hpn.out hk45.out).trans (pSecond_bad1 hpn2))
            clear hpn2
            go_wp2_with fail
            go_meet
            exact ⟨[], a2, y2, f2, rfl, rfl, by simp, g2', hb3, hc4.out, .inl ⟨hy2, _, _, hbd.out⟩⟩
          · have hc4 := fhid ((hc2.out.set 1 (.int .i64 ((a1 : Int) + 1))).trans hc3)
            clear c0 c1 c2 c3 z1 z2 z3 hz hc3 hn hb2
            obtain ⟨a2, ha2⟩ : ∃ a2, a2 = a1 + 1 + t2.length := ⟨_, rfl⟩
            rw [← ha2] at hb3 g2'
            obtain ⟨c0, c1, c2, c3, z1, z2, z3, hz⟩ := hb3.facts
            have v1 := fun W => value_any t1 W d1 l6
            have v2 := fun W => value_any t2 W d2 m6
            rw [← hdr.out] at hpn2
            have hle : a' ≤ a2 := by have := ha1h.out; omega
            have hk2 : t1.length + 1 + t2.length = a2 - a' := by have := ha1h.out; omega
            replace hpn2 := fhid hpn2
            replace ha2 := fhid ha2
            replace hk2 := fhid hk2
            clear htk3
            by_cases hlt : dval t2 < dval t1
            · have hltI : ((dval t2 : Nat) : Int) < (dval t1 : Nat) := by omega
              go_wp2_with (first
                | (go_at_call 146; (with_reducible refine (v2 _).mono ?_); rintro e u ⟨rfl, rfl⟩)
                | (go_at_call 146; (with_reducible refine (v1 _).mono ?_); rintro e u ⟨rfl, rfl⟩))
              go_meet
              exact ⟨t2, a2, 3, (a1 : Int) + 1, rfl, d2, m6, g2', (hb3.set2 3).set3 _, (hc4.out.set 2 _).set 3 _, .inl ⟨by decide, _, _, (pRange_sec hpn.out hk45.out).trans (pSecond_less hpn2.out hlt)⟩⟩
            · have hltI : ¬ ((dval t2 : Nat) : Int) < (dval t1 : Nat) := by omega
              go_wp2_with (first
                | (go_at_call 146; (with_reducible refine (v2 _).mono ?_); rintro e u ⟨rfl, rfl⟩)
                | (go_at_call 146; (with_reducible refine (v1 _).mono ?_); rintro e u ⟨rfl, rfl⟩))
              go_meet
              exact ⟨t2, a2, 0, f, rfl, d2, m6, g2', hb3, hc4.out, .inr ⟨rfl, rfl, hle, by omega, by rw [← hk2.out]; exact (pRange_sec hpn.out hk45.out).trans (pSecond_ok hpn2.out hlt)⟩⟩
        · have e : ¬ ((c.toNat : Int) = 45) := fun h => h45 (UInt8.toNat_inj.1 (by show c.toNat = 45; omega))
          have eb : ((c.toNat : Int) == 45) = false := by simpa using e
          have hno := fhid (show ((bl s).drop a')[t1.length]? ≠ some 45 from fun q => h45 (by rw [← hp]; exact (pk_get s a1 (by decide)).2 (hgt.out.symm.trans q)))
          have hk2 := fhid (show t1.length = a1 - a' by have := ha1h.out; omega)
          have hle : a' ≤ a1 := by have := ha1h.out; omega
          go_wp2_with fail
          go_meet
          exact ⟨t1, a1, 0, f, rfl, d1, l6, g1', hb2, hc2.out, .inr ⟨rfl, rfl, hle, Nat.le_refl _, by rw [← hk2.out]; exact pRange_one hpn.out hno.out⟩⟩
      case rest =>
        obtain ⟨t2, a2, y2, f2, rfl, d2, l2, g2', hb3, hc3, hcase⟩ := hcut
        obtain ⟨c0, c1, c2, c3, z1, z2, z3, hz⟩ := hb3.facts
        have v1 := fun W => value_any t1 W d1 l6
        have v2 := fun W => value_any t2 W d2 l2
        have dv1 := dval_app_le t1 d1 l6
        have dv2 := dval_app_le t2 d2 l2
        have hdw := fhid (fun n hn q hq => dig_width d1 l1 n hn q hq)
        have d1h := fhid d1
        replace d2 := fhid d2
        have hcw := fhid (hch.out.trans hc3.a)
        clear hb2 hc2 hch d1
        rcases hcase with ⟨hy2, e0, k0, hbd⟩ | ⟨rfl, rfl, hle, hdd, hok⟩
        · have hyb : (y2 != 0) = true := by simpa using hy2
          have hbad := fhid (allR_bad hR.out hF.out has hbd)
          clear hbd
          go_wp2_with fail
          go_ret
          obtain ⟨q1, q2, hq⟩ := hbad.out
          exact ⟨hcw.out, .inl ⟨q1, q2, a2, y2, f2, hq, rfl, hy2, g2', hb3⟩⟩
        · replace ho := fhid (ho.out.chg hc3.a hbz)
          have hz1 := str_size t1
          have i1 : (t1.length : Int) ≤ 6 := by omega
          have i2 : (1 : Int) ≤ t1.length := by omega
          replace hok := fhid hok
          obtain ⟨ch, tl, hct⟩ : ∃ ch tl, t1 = ch :: tl := by
            cases t1 with
            | nil => simp at l1
            | cons ch tl => exact ⟨ch, tl, rfl⟩
          have hg0 : ∀ h : 0 < (str t1).size, (str t1)[0] = ch := fun h => by
            subst hct
            have := bl_get (str (ch :: tl)) 0 h (by rw [bl_str]; simp)
            rw [← this]
            rfl
          have hqd : (decide (1 < t1.length) && decide (t1.head? = some 48)) = (decide (1 < t1.length) && decide (ch = 48)) := by rw [hct]; simp
          replace hct := fhid hct
          obtain ⟨Q, hQ⟩ : ∃ Q, (decide (1 < t1.length) && decide (t1.head? = some 48)) = Q := ⟨_, rfl⟩
          rw [hQ] at hqd
          replace hQ := fhid hQ
          generalize hT1 : str t1 = T1 at *
          replace hT1 := fhid hT1
          replace hdd := fhid hdd
          go_upto_region 13 with fail
          go_cut [60] (fun s60 wx => s60 = .bool Q ∧ wx = wc)
          case first =>
            by_cases h1 : 1 < t1.length
            · have j1 : (1 : Int) < t1.length := by omega
              have j0 : 0 < T1.size := by omega
              have g0 := hg0 j0
              by_cases h48 : ch = 48
              · have hQt := fhid (show true = Q by rw [hqd, decide_eq_true h1, decide_eq_true h48]; rfl)
                have n48 : ch.toNat = 48 := by rw [h48]; rfl
                have b48 := fhid (show ((ch.toNat : Int) == 48) = true by rw [n48]; rfl)
                replace hqd := fhid hqd
                replace n48 := fhid n48
                clear h48 hg0
                go_wp2_with fail
                go_meet
                first
                  | exact ⟨congrArg Value.bool (b48.out.trans hQt.out), rfl⟩
                  | exact ⟨congrArg Value.bool hQt.out, rfl⟩
              · have hQt := fhid (show false = Q by rw [hqd, decide_eq_false h48, Bool.and_false])
                have n48 : ¬ ch.toNat = 48 := fun e => h48 (UInt8.toNat_inj.1 (by rw [e]; rfl))
                have m48 : ¬ (ch.toNat : Int) = 48 := by omega
                have b48 := fhid (show ((ch.toNat : Int) == 48) = false by simpa using m48)
                replace hqd := fhid hqd
                replace n48 := fhid n48
                replace m48 := fhid m48
                clear h48 hg0
                go_wp2_with fail
                go_meet
                first
                  | exact ⟨congrArg Value.bool (b48.out.trans hQt.out), rfl⟩
                  | exact ⟨congrArg Value.bool hQt.out, rfl⟩
            · have j1 : ¬ (1 : Int) < t1.length := by omega
              have hQt := fhid (show false = Q by rw [hqd, decide_eq_false h1]; rfl)
              replace hqd := fhid hqd
              clear hg0
              go_wp2_with fail
              go_meet
              exact ⟨by rw [hQt.out], rfl⟩
          case rest =>
            obtain ⟨rfl, rfl⟩ := hcut
            clear hg0
            replace hqd := fhid hqd
            obtain ⟨wd, hwd⟩ : ∃ wd : Nat, wd = if Q = true then t1.length else 0 := ⟨_, rfl⟩
            go_upto_if 60 with fail
            go_cut [7] (fun s7 wx => s7 = .int .i64 (wd : Int) ∧ wx = wc)
            case first =>
              cases Q with
              | true =>
                have hwd2 := fhid hwd
                clear hwd
                go_wp2_with fail
                go_meet
                exact ⟨by rw [hwd2.out]; rfl, rfl⟩
              | false =>
                have hwd2 := fhid hwd
                clear hwd
                go_wp2_with fail
                go_meet
                exact ⟨by rw [hwd2.out]; rfl, rfl⟩
            case rest =>
              obtain ⟨rfl, rfl⟩ := hcut
              have hwd6 : wd ≤ 6 := by rw [hwd]; split <;> omega
              have hdw2 : ∀ n, dval t1 ≤ n → dig n wd = dig n t1.length := fun n hn => by rw [hwd]; exact hdw.out n hn Q hQ.out.symm
              replace hdw2 := fhid hdw2
              replace hwd := fhid hwd
              have dv1I : ((dval t1 : Nat) : Int) < 1000000 := by omega
              have dv2I : ((dval t2 : Nat) : Int) < 1000000 := by omega
              have dv10 : (0 : Int) ≤ (dval t1 : Nat) := by omega
              go_wp2_with (go_at_call 146; (with_reducible refine (v1 _).mono ?_); rintro e u ⟨rfl, rfl⟩)
              clear v1 c0 c1 c2 c3 z1 z2 z3 hz
              go_loopw [3, 8] (fun s3 s8 wi => ∃ m : Nat, s8 = .int .i64 ((dval t1 + m : Nat) : Int) ∧ dval t1 + m ≤ dval t2 + 1 ∧ OwnS wi w.heap.size s3 ((xs.flatMap (spanNames []) ++ firstN (dval t1) t1.length m).take 257) ∧ RB wi b s a2 0 f2 ∧ ChgA b w wi) (fun _ s8 _ => 1000001 - (intOf s8).toNat)
              case atStart => exact ⟨0, rfl, by have := hdd.out; omega, by rw [show firstN (dval t1) t1.length 0 = [] from rfl, List.append_nil]; exact ho.out, hb3, hcw.out⟩
              case round =>
                obtain ⟨m, rfl, hm, ho2, hb4, hch4⟩ := hrel
                obtain ⟨A2, cap2, rfl, _, _, _⟩ := ho2.shape
                have hz := lt_of_block hb4
                have hszb := hch4.below.size
                have hdone := fhid (fun h => names_done (xs := xs) (k := t1.length) hdd.out hm h)
                have hgrow := fhid (fun (D : List UInt8) h hD => names_grow (P := xs.flatMap (spanNames [])) (a := dval t1) (k := t1.length) (m := m) (D := D) h hD)
                have hl2 : ((xs.flatMap (spanNames []) ++ firstN (dval t1) t1.length m).take 257).length ≤ 257 := by rw [List.length_take]; omega
                obtain ⟨n, hn⟩ : ∃ n, n = dval t1 + m := ⟨_, rfl⟩
                rw [← hn] at hm ⊢
                have n0 : (0 : Int) ≤ n := by omega
                have n1 : (n : Int) ≤ 1000000 := by omega
                have hnm : dval t1 ≤ n := by omega
                have hdn := hdw2.out n hnm
                have hnx := fhid (show n + 1 = dval t1 + (m + 1) by omega)
                have hgr2 := fhid (fun h => hgrow.out (dig n wd) h (by rw [hdn, hn]))
                have hdo2 := fhid (fun h => hdone.out (by rw [← hn]; exact h))
                replace hn := fhid hn
                clear hgrow hdone hdn
                generalize hms : (xs.flatMap (spanNames []) ++ firstN (dval t1) t1.length m).take 257 = ms at *
                replace hms := fhid hms
                have hl2I : (ms.length : Int) ≤ 257 := by omega
                by_cases hq : n ≤ dval t2 ∧ ms.length ≤ 256
                · obtain ⟨q1, q2⟩ := hq
                  have q1I : (n : Int) ≤ (dval t2 : Nat) := by omega
                  have q2I : (ms.length : Int) ≤ 256 := by omega
                  have hdg := fun W => Rdigits_any n wd n wd W rfl rfl (by omega) (by omega)
                  have hnew := fhid (hgr2.out q2)
                  replace ho2 := fhid ho2
                  obtain ⟨D, hD⟩ : ∃ D, str (dig n wd) = D := ⟨_, rfl⟩
                  rw [hD] at hdg
                  replace hD := fhid hD
                  replace hb4 := fhid hb4
                  replace hch4 := fhid hch4
                  have hmlen := fhid (show ms.length ≤ 1048576 by omega)
                  clear hgr2 hdo2
                  go_wp2_with (first
                    | (go_at_call 146; (with_reducible refine (v2 _).mono ?_); rintro e u ⟨rfl, rfl⟩)
                    | (go_at_call 147; (with_reducible refine (hdg _).mono ?_); rintro e w5 ⟨rfl, b5⟩)
                    | (at_builtin
                       refine app_name rfl _ _ rfl w.heap.size _ ms (dig n wd) _ hD.out.symm _ rfl (ho2.out.below b5) rfl _ (by first | rfl | simp) rfl hmlen.out (Nat.le_trans hszb b5.size) ?_
                       intro v6 w6 o6 g6 b6))
                  go_roundw
                  case rel =>
                    exact ⟨m + 1, by rw [← hnx.out]; go_num, by have := hnx.out; omega, by rw [← hnew.out]; exact o6, (hb4.out.below b5 hz).kept g6 (ho2.out.below b5), (hch4.out.trans (ChgA.of b5 hz)).own b6 hbz⟩
                  case measure => simp [intOf]; omega
                · have hnm2 := fhid (hdo2.out (by omega))
                  have hq' : (n ≤ dval t2 ∧ ¬ ms.length ≤ 256) ∨ ¬ n ≤ dval t2 := by omega
                  clear hq hgr2 hdo2
                  rcases hq' with ⟨q1, q2⟩ | q1
                  rotate_left
                  · have q1I : ¬ (n : Int) ≤ (dval t2 : Nat) := by omega
                    have hl3 := fhid hl2
                    clear hl2 hl2I
                    go_wp2_with (go_at_call 146; (with_reducible refine (v2 _).mono ?_); rintro e u ⟨rfl, rfl⟩)
                    refine (peek_chg b s a2 0 f2 _ _ rfl hs'.out hb4).mono ?_
                    rintro e w5 ⟨rfl, hb5, hc5⟩
                    obtain ⟨c, hp⟩ : ∃ c, pk s a2 0 = c := ⟨_, rfl⟩
                    rw [hp]
                    have hc6 := fhid (hc5.set 1 (.int .i64 ((a2 : Int) + 1)))
                    have hb6 := hb5.set1 ((a2 : Int) + 1)
                    obtain ⟨c0, c1, c2, c3, z1, z2, z3, hz5⟩ := hb5.facts
                    have i3 : (0 : Int) ≤ a2 := by omega
                    replace ho2 := fhid ho2
                    replace hch4 := fhid hch4
                    by_cases h44 : c = 44
                    · subst h44
                      have lt := pk_is hp (by decide)
                      have i4 : (a2 : Int) < s.size := by omega
                      have hgo := fhid (allR_go haa hR.out hF.out hle lt hok.out ((pk_get s a2 (by decide)).1 hp))
                      clear hp
                      go_wp2_with fail
                      go_roundw
                      case rel => exact ⟨xs ++ [(dval t1, dval t2, t1.length)], a2 + 1, F - 1, by rw [← hnm2.out]; exact ho2.out.chg hc6.out.a hbz, by omega, by omega, by rw [show ((a2 + 1 : Nat) : Int) = (a2 : Int) + 1 by omega]; exact hb6, hch4.out.trans hc6.out.a, hgo.out.1, hgo.out.2⟩
                      case measure =>
                        rw [hb6.at_, hme]
                        omega
                    · by_cases h93 : c = 93
                      · subst h93
                        have lt := pk_is hp (by decide)
                        have i4 : (a2 : Int) < s.size := by omega
                        have hend := fhid (allR_end haa hR.out hF.out hle lt hok.out ((pk_get s a2 (by decide)).1 hp))
                        clear hp
                        go_wp2_with fail
                        go_ret
                        exact ⟨hch4.out.trans hc6.out.a, .inr ⟨_, _, _, hend.out, rfl, by rw [← hnm2.out]; exact ho2.out.chg hc6.out.a hbz, by omega, by rw [show ((a + (a2 + 1 - a) : Nat) : Int) = (a2 : Int) + 1 by omega]; exact hb6⟩⟩
                      · have e44 : ¬ ((c.toNat : Int) = 44) := fun h => h44 (UInt8.toNat_inj.1 (by show c.toNat = 44; omega))
                        have e93 : ¬ ((c.toNat : Int) = 93) := fun h => h93 (UInt8.toNat_inj.1 (by show c.toNat = 93; omega))
                        have b44 : ((c.toNat : Int) == 44) = false := by simpa using e44
                        have b93 : ((c.toNat : Int) == 93) = false := by simpa using e93
                        have n44 : ((c.toNat : Int) != 44) = true := by rw [bne, b44]; rfl
                        have n93 : ((c.toNat : Int) != 93) = true := by rw [bne, b93]; rfl
                        have m44 : ¬ c.toNat = 44 := by omega
                        have m93 : ¬ c.toNat = 93 := by omega
                        have hbad := fhid (allR_not hR.out hF.out hle g2' hok.out (by rw [hp]; exact h44) (by rw [hp]; exact h93))
                        generalize c.toNat = cn at *
                        have hc5h := fhid hc5
                        clear hb6 hp h44 h93
                        go_upto_if 89 with fail
                        go_wp2_with fail
                        refine (fault_set b s _ 0 f2 _ w5 hb5).mono ?_
                        rintro e w6 ⟨rfl, y6, f6, hy6, hb7, hc7⟩
                        go_wp2_with fail
                        go_ret
                        obtain ⟨q1, q2, hq⟩ := hbad.out
                        exact ⟨(hch4.out.trans hc5h.out.a).trans hc7.a, .inl ⟨q1, q2, a2, y6, f6, hq, rfl, hy6, g2', hb7⟩⟩
                  · have q1I : (n : Int) ≤ (dval t2 : Nat) := by omega
                    have q2I : ¬ (ms.length : Int) ≤ 256 := by omega
                    have hl3 := fhid hl2
                    have q3 := fhid q2I
                    clear q2 hl2 hl2I q2I
                    go_upto_if 73 with (go_at_call 146; (with_reducible refine (v2 _).mono ?_); rintro e u ⟨rfl, rfl⟩)
                    rw [decide_eq_false (show ¬ (ms.length : Int) ≤ 256 by have := q3.out; omega)]
                    go_wp2_with fail
                    refine (peek_chg b s a2 0 f2 _ _ rfl hs'.out hb4).mono ?_
                    rintro e w5 ⟨rfl, hb5, hc5⟩
                    obtain ⟨c, hp⟩ : ∃ c, pk s a2 0 = c := ⟨_, rfl⟩
                    rw [hp]
                    have hc6 := fhid (hc5.set 1 (.int .i64 ((a2 : Int) + 1)))
                    have hb6 := hb5.set1 ((a2 : Int) + 1)
                    obtain ⟨c0, c1, c2, c3, z1, z2, z3, hz5⟩ := hb5.facts
                    have i3 : (0 : Int) ≤ a2 := by omega
                    replace ho2 := fhid ho2
                    replace hch4 := fhid hch4
                    by_cases h44 : c = 44
                    · subst h44
                      have lt := pk_is hp (by decide)
                      have i4 : (a2 : Int) < s.size := by omega
                      have hgo := fhid (allR_go haa hR.out hF.out hle lt hok.out ((pk_get s a2 (by decide)).1 hp))
                      clear hp
                      go_wp2_with fail
                      go_roundw
                      case rel => exact ⟨xs ++ [(dval t1, dval t2, t1.length)], a2 + 1, F - 1, by rw [← hnm2.out]; exact ho2.out.chg hc6.out.a hbz, by omega, by omega, by rw [show ((a2 + 1 : Nat) : Int) = (a2 : Int) + 1 by omega]; exact hb6, hch4.out.trans hc6.out.a, hgo.out.1, hgo.out.2⟩
                      case measure =>
                        rw [hb6.at_, hme]
                        omega
                    · by_cases h93 : c = 93
                      · subst h93
                        have lt := pk_is hp (by decide)
                        have i4 : (a2 : Int) < s.size := by omega
                        have hend := fhid (allR_end haa hR.out hF.out hle lt hok.out ((pk_get s a2 (by decide)).1 hp))
                        clear hp
                        go_wp2_with fail
                        go_ret
                        exact ⟨hch4.out.trans hc6.out.a, .inr ⟨_, _, _, hend.out, rfl, by rw [← hnm2.out]; exact ho2.out.chg hc6.out.a hbz, by omega, by rw [show ((a + (a2 + 1 - a) : Nat) : Int) = (a2 : Int) + 1 by omega]; exact hb6⟩⟩
                      · have e44 : ¬ ((c.toNat : Int) = 44) := fun h => h44 (UInt8.toNat_inj.1 (by show c.toNat = 44; omega))
                        have e93 : ¬ ((c.toNat : Int) = 93) := fun h => h93 (UInt8.toNat_inj.1 (by show c.toNat = 93; omega))
                        have b44 : ((c.toNat : Int) == 44) = false := by simpa using e44
                        have b93 : ((c.toNat : Int) == 93) = false := by simpa using e93
                        have n44 : ((c.toNat : Int) != 44) = true := by rw [bne, b44]; rfl
                        have n93 : ((c.toNat : Int) != 93) = true := by rw [bne, b93]; rfl
                        have m44 : ¬ c.toNat = 44 := by omega
                        have m93 : ¬ c.toNat = 93 := by omega
                        have hbad := fhid (allR_not hR.out hF.out hle g2' hok.out (by rw [hp]; exact h44) (by rw [hp]; exact h93))
                        generalize c.toNat = cn at *
                        have hc5h := fhid hc5
                        clear hb6 hp h44 h93
                        go_upto_if 89 with fail
                        go_wp2_with fail
                        refine (fault_set b s _ 0 f2 _ w5 hb5).mono ?_
                        rintro e w6 ⟨rfl, y6, f6, hy6, hb7, hc7⟩
                        go_wp2_with fail
                        go_ret
                        obtain ⟨q1, q2, hq⟩ := hbad.out
                        exact ⟨(hch4.out.trans hc5h.out.a).trans hc7.a, .inl ⟨q1, q2, a2, y6, f6, hq, rfl, hy6, g2', hb7⟩⟩
end Go.Proofs.YtmnmcikbbfcjcaaGreatDoor.Hs
/-
  The document's Expand beside the plain one: plain facts.
-/
namespace Go.Proofs.YtmnmcikbbfcjcaaGreatDoor.Hs
open Go.RowKit

theorem wrg_neX (r : List UInt8) : wrg r ≠ 0 := by unfold wrg; split <;> decide
theorem pNum_badX {r : List UInt8} {e k : Nat} (h : pNum r = .bad e k) : e ≠ 0 := by
  unfold pNum at h
  split at h
  · injection h with h _; omega
  · split at h
    · injection h with h _; rw [← h]; exact wrg_neX r
    · cases h
theorem pRange_badX {r : List UInt8} {e k : Nat} (h : pRange r = .bad e k) : e ≠ 0 := by
  unfold pRange at h
  cases hn : pNum r with
  | bad e2 k2 => rw [hn] at h; injection h with h _; rw [← h]; exact pNum_badX hn
  | ok a k2 =>
    rw [hn] at h
    simp only at h
    split at h
    · unfold pSecond at h
      cases hm : pNum (r.drop (k2 + 1)) with
      | bad e3 k3 => rw [hm] at h; injection h with h _; rw [← h]; exact pNum_badX hm
      | ok b j =>
        rw [hm] at h
        simp only at h
        split at h
        · injection h with h _; omega
        · cases h
    · cases h
theorem pRanges_badX : ∀ (f : Nat) (r : List UInt8) (e k : Nat), r.length < f → pRanges f r = .bad e k → e ≠ 0
  | 0, r, e, k, h, _ => by omega
  | f + 1, r, e, k, hf, h => by
    unfold pRanges at h
    cases hn : pRange r with
    | bad e2 k2 => rw [hn] at h; injection h with h _; rw [← h]; exact pRange_badX hn
    | ok x k2 =>
      rw [hn] at h
      simp only at h
      split at h
      · cases h
      · split at h
        · rename_i h44
          have hk := (List.getElem?_eq_some_iff.1 h44).1
          cases hm : pRanges f (r.drop (k2 + 1)) with
          | bad e3 k3 =>
            rw [hm] at h
            injection h with h _
            rw [← h]
            exact pRanges_badX f _ e3 k3 (by rw [List.length_drop]; omega) hm
          | ok xs j => rw [hm] at h; cases h
        · injection h with h _; rw [← h]; exact wrg_neX _
theorem pEnd_badX {r p : List UInt8} {rs : List (Nat × Nat × Nat)} {k e j : Nat} (h : pEnd r p rs k = .bad e j) : e ≠ 0 := by
  unfold pEnd at h
  split at h
  · cases h
  · injection h with h _; omega
theorem pPart_badX {r : List UInt8} {e k : Nat} (h : pPart r = .bad e k) : e ≠ 0 := by
  unfold pPart at h
  split at h
  · injection h with h _; rw [← h]; exact wrg_neX r
  · split at h
    · cases hn : pRanges (r.length + 1) (r.drop ((r.takeWhile isBare).length + 1)) with
      | bad e2 k2 =>
        rw [hn] at h
        injection h with h _
        rw [← h]
        exact pRanges_badX _ _ e2 k2 (by rw [List.length_drop]; omega) hn
      | ok rs j =>
        rw [hn] at h
        exact pEnd_badX h
    · exact pEnd_badX h
theorem pRanges_fuel : ∀ (f g : Nat) (r : List UInt8), r.length < f → r.length < g → pRanges f r = pRanges g r
  | 0, _, _, h, _ => by omega
  | _ + 1, 0, _, _, h => by omega
  | f + 1, g + 1, r, hf, hg => by
    rw [pRanges, pRanges]
    cases pRange r with
    | bad e k => rfl
    | ok x k =>
      simp only
      by_cases h93 : r[k]? = some 93
      · rw [if_pos h93, if_pos h93]
      · rw [if_neg h93, if_neg h93]
        by_cases h44 : r[k]? = some 44
        · rw [if_pos h44, if_pos h44]
          have hk := (List.getElem?_eq_some_iff.1 h44).1
          rw [pRanges_fuel f g (r.drop (k + 1)) (by rw [List.length_drop]; omega) (by rw [List.length_drop]; omega)]
        · rw [if_neg h44, if_neg h44]
theorem pRanges_ne : ∀ (f : Nat) (r : List UInt8) (xs : List Tr) (k : Nat), pRanges f r = .ok xs k → xs ≠ []
  | 0, _, _, _, h => by cases h
  | f + 1, r, xs, k, h => by
    rw [pRanges] at h
    cases hr : pRange r with
    | bad e j => rw [hr] at h; cases h
    | ok x j =>
      rw [hr] at h
      simp only at h
      split at h
      · injection h with h _; rw [← h]; simp
      · split at h
        · cases hq : pRanges f (r.drop (j + 1)) with
          | bad e i => rw [hq] at h; cases h
          | ok ys i => rw [hq] at h; injection h with h _; rw [← h]; simp
        · cases h
/-- The names that the reader makes of ranges; of none: one without digits. -/
def namesE (rs : List Tr) : List (List UInt8) := if rs = [] then [[]] else namesR rs
theorem span_map (p : List UInt8) (x : Tr) : spanNames p x = (spanNames [] x).map (p ++ ·) := by
  unfold spanNames
  rw [List.map_map]
  rfl
theorem span_len (x : Tr) : (spanNames [] x).length = spanCount x := by unfold spanNames spanCount; simp
theorem flat_len9 (rs : List Tr) : (rs.flatMap (spanNames [])).length = (rs.map spanCount).sum := by
  induction rs with
  | nil => rfl
  | cons x rs ih => rw [List.flatMap_cons, List.length_append, ih, span_len, List.map_cons, List.sum_cons]
theorem namesE_many (n : Nat) (rs : List Tr) : (256 < n + partCount rs) ↔ (256 < n + (namesE rs).length) := by
  unfold namesE partCount
  by_cases h : rs = []
  · rw [if_pos h, if_pos h]; simp
  · rw [if_neg h, if_neg h]
    unfold namesR
    rw [List.length_take, flat_len9]
    omega
theorem namesE_le (rs : List Tr) : (namesE rs).length ≤ 257 := by
  unfold namesE
  split
  · simp
  · unfold namesR; rw [List.length_take]; omega
theorem namesE_part (p : List UInt8) (rs : List Tr) (h : ¬ 256 < partCount rs) : (namesE rs).map (p ++ ·) = partNames p rs := by
  unfold namesE partNames partCount at *
  by_cases h0 : rs = []
  · rw [if_pos h0, if_pos h0]; simp
  · rw [if_neg h0, if_neg h0] at *
    unfold namesR
    rw [List.take_of_length_le (by rw [flat_len9]; omega), List.map_flatMap]
    congr 1
    funext x
    exact (span_map p x).symm
theorem pPart_noneX {r : List UInt8} (h : r.takeWhile isBare = []) : pPart r = .bad (wrg r) 0 := by unfold pPart; rw [if_pos h]
theorem pPart_bareX {r P : List UInt8} (h : r.takeWhile isBare = P) (hP : P ≠ []) (hk : r[P.length]? ≠ some 91) : pPart r = pEnd r P [] P.length := by
  unfold pPart
  rw [h, if_neg hP, if_neg hk]
theorem pPart_okX {r P : List UInt8} {rs : List Tr} {k : Nat} (h : r.takeWhile isBare = P) (hP : P ≠ []) (hk : r[P.length]? = some 91) (hr : pRanges ((r.drop (P.length + 1)).length + 1) (r.drop (P.length + 1)) = .ok rs k) : pPart r = pEnd r P rs (P.length + 1 + k) := by
  rw [pRanges_fuel _ (r.length + 1) _ (by omega) (by rw [List.length_drop]; omega)] at hr
  unfold pPart
  rw [h, if_neg hP, if_pos hk, hr]
theorem pPart_rbadX {r P : List UInt8} {e k : Nat} (h : r.takeWhile isBare = P) (hP : P ≠ []) (hk : r[P.length]? = some 91) (hr : pRanges ((r.drop (P.length + 1)).length + 1) (r.drop (P.length + 1)) = .bad e k) : pPart r = .bad e (P.length + 1 + k) := by
  rw [pRanges_fuel _ (r.length + 1) _ (by omega) (by rw [List.length_drop]; omega)] at hr
  unfold pPart
  rw [h, if_neg hP, if_pos hk, hr]
theorem pEnd_okX {r P : List UInt8} {rs : List Tr} {k : Nat} (h : r[k]? = none ∨ r[k]? = some 44) : pEnd r P rs k = .ok (P, rs) k := by unfold pEnd; rw [if_pos h]
theorem pEnd_notX {r P : List UInt8} {rs : List Tr} {k : Nat} {c : UInt8} (h : r[k]? = some c) (hc : c ≠ 44) : pEnd r P rs k = .bad 3 k := by
  unfold pEnd
  rw [h, if_neg]
  rintro (q | q)
  · cases q
  · injection q with q; exact hc q
theorem pExpand_bad9 {f a : Nat} {r : List UInt8} {ns : List (List UInt8)} {e k : Nat} (h : pPart r = .bad e k) : pExpand (f + 1) a r ns = ([], e, a + k) := by rw [pExpand, h]
theorem pExpand_manyX {f a : Nat} {r P : List UInt8} {ns : List (List UInt8)} {rs : List Tr} {k : Nat} (h : pPart r = .ok (P, rs) k) (hm : 256 < ns.length + partCount rs) : pExpand (f + 1) a r ns = ([], 5, a) := by
  rw [pExpand, h]; simp only; rw [if_pos hm]
theorem pExpand_lastX {f a : Nat} {r P : List UInt8} {ns : List (List UInt8)} {rs : List Tr} {k : Nat} (h : pPart r = .ok (P, rs) k) (hm : ¬ 256 < ns.length + partCount rs) (hk : k = r.length) : pExpand (f + 1) a r ns = (ns ++ partNames P rs, 0, 0) := by
  rw [pExpand, h]; simp only; rw [if_neg hm, if_pos hk]
theorem pExpand_nextX {f a : Nat} {r P : List UInt8} {ns : List (List UInt8)} {rs : List Tr} {k : Nat} (h : pPart r = .ok (P, rs) k) (hm : ¬ 256 < ns.length + partCount rs) (hk : k ≠ r.length) : pExpand (f + 1) a r ns = pExpand f (a + k + 1) (r.drop (k + 1)) (ns ++ partNames P rs) := by
  rw [pExpand, h]; simp only; rw [if_neg hm, if_neg hk]
theorem bare_tw {r : List UInt8} {j : Nat} (hj : j ≤ r.length) (h : ∀ i (h : i < r.length), i < j → isBare r[i] = true) (hn : ∀ h : j < r.length, isBare r[j] = false) : r.takeWhile isBare = r.take j := by
  have e : r = r.take j ++ r.drop j := (List.take_append_drop j r).symm
  conv => lhs; rw [e]
  refine tw_app _ _ ?_ (fun c hc => ?_)
  · rw [List.all_eq_true]
    intro x hx
    obtain ⟨i, hi, rfl⟩ := List.getElem_of_mem hx
    rw [List.length_take] at hi
    rw [List.getElem_take]
    exact h i (by omega) (by omega)
  · rw [List.head?_drop] at hc
    obtain ⟨h1, rfl⟩ := List.getElem?_eq_some_iff.1 hc
    exact hn h1
end Go.Proofs.YtmnmcikbbfcjcaaGreatDoor.Hs
