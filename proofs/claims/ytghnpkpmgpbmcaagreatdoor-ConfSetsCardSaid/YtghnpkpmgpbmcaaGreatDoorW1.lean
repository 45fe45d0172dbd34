/-
  Parts: KWords KSetsM KDigits.
-/
import Derived.Test.YtghnpkpmgpbmcaaGreatDoorK1
import Derived.Lib.MapLaws
import Derived.Lib.DecodeN
import Derived.Test.YtghnpkpmgpbmcaaGreatDoorK5
import Derived.Laws.IdiomStrings
set_option linter.unusedSimpArgs false
set_option linter.unusedVariables false
/-
  A line's words, byte by byte.
-/
namespace Go.Proofs.YtghnpkpmgpbmcaaGreatDoor

def blankB (c : UInt8) : Bool := c == 32 || c == 9
/-- The words that bytes tell, behind what has come of one. -/
def wb : Option Str → Str → List Str
  | cur, [] => cur.toList
  | cur, c :: r => if blankB c = true then cur.toList ++ wb none r else wb (some (cur.getD [] ++ [c])) r
theorem wb_in : ∀ (x : Str) (cur : Option Str) (r : Str), x ≠ [] → (∀ c ∈ x, blankB c = false) → wb cur (x ++ r) = wb (some (cur.getD [] ++ x)) r
  | [], _, _, h, _ => absurd rfl h
  | c :: x, cur, r, _, hx => by
    rw [List.cons_append, wb, if_neg (by rw [hx c (by simp)]; decide)]
    by_cases h : x = []
    · subst h; rfl
    · rw [wb_in x _ r h (fun d hd => hx d (by simp [hd]))]
      simp
theorem get_at (l : Str) (i : Nat) (h : i < l.length) : (⟨l.toArray⟩ : ByteArray).get! i = l[i] := by
  simp [ByteArray.get!, h]
theorem blank_toNat (c : UInt8) : isBlankP c.toNat = blankB c := by
  unfold isBlankP blankB
  have h1 : (c.toNat == 32) = (c == 32) := by rw [Bool.eq_iff_iff]; simp [← UInt8.toNat_inj]
  have h2 : (c.toNat == 9) = (c == 9) := by rw [Bool.eq_iff_iff]; simp [← UInt8.toNat_inj]
  rw [h1, h2]
theorem blank_big {c : UInt8} (h : 128 ≤ c.toNat) : blankB c = false := by
  rw [← blank_toNat]; unfold isBlankP; simp; omega
/-- What is read at a place: how many bytes, and whether they are blank. -/
theorem rune_at (l : Str) (i : Nat) (h : i < l.length) : ∃ k, (Utf8.decode ⟨l.toArray⟩ i).2 = k ∧ 1 ≤ k ∧ i + k ≤ l.length ∧ isBlankP (Utf8.decode ⟨l.toArray⟩ i).1 = blankB l[i] ∧ (blankB l[i] = true → k = 1) ∧ ∀ j (hj : i + j < l.length), 0 < j → j < k → blankB l[i + j] = false := by
  have hz : (⟨l.toArray⟩ : ByteArray).size = l.length := by show l.toArray.size = _; simp
  rw [Lib.decode_at, hz, get_at l i h]
  have g := fun j (hj : i + j < l.length) => get_at l (i + j) hj
  rcases Lib.decodeN_shape (l.length - i) l[i].toNat ((⟨l.toArray⟩ : ByteArray).get! (i + 1)).toNat ((⟨l.toArray⟩ : ByteArray).get! (i + 2)).toNat ((⟨l.toArray⟩ : ByteArray).get! (i + 3)).toNat with ⟨h1, e⟩ | ⟨h1, h2, h3, h4, e⟩ | ⟨h1, h2, h3, h4, h5, h6, e⟩ | ⟨h1, h2, h3, h4, h5, h6, h7, e⟩ | e
  · rw [e]
    exact ⟨1, rfl, Nat.le_refl _, by omega, blank_toNat _, fun _ => rfl, fun j _ h1 h2 => by omega⟩
  · rw [e]
    have hb : blankB l[i] = false := blank_big (by omega)
    refine ⟨2, rfl, by omega, by omega, ?_, (fun hx => by rw [hb] at hx; cases hx), fun j hj h5 h6 => ?_⟩
    · rw [hb]; unfold isBlankP; simp; omega
    · obtain rfl : j = 1 := by omega
      rw [g 1 hj] at h3
      exact blank_big (by omega)
  · rw [e]
    have hb : blankB l[i] = false := blank_big (by omega)
    refine ⟨3, rfl, by omega, by omega, ?_, (fun hx => by rw [hb] at hx; cases hx), fun j hj h7 h8 => ?_⟩
    · rw [hb]; unfold isBlankP; simp; omega
    · rcases (by omega : j = 1 ∨ j = 2) with rfl | rfl
      · rw [g 1 hj] at h3
        exact blank_big (by omega)
      · rw [g 2 hj] at h4
        exact blank_big (by omega)
  · rw [e]
    have hb : blankB l[i] = false := blank_big (by omega)
    refine ⟨4, rfl, by omega, by omega, ?_, (fun hx => by rw [hb] at hx; cases hx), fun j hj h8 h9 => ?_⟩
    · rw [hb]; unfold isBlankP; simp; omega
    · rcases (by omega : j = 1 ∨ j = 2 ∨ j = 3) with rfl | rfl | rfl
      · rw [g 1 hj] at h3
        exact blank_big (by omega)
      · rw [g 2 hj] at h4
        exact blank_big (by omega)
      · rw [g 3 hj] at h5
        exact blank_big (by omega)
  · rw [e]
    by_cases h0 : l[i].toNat < 128
    · have e2 : Lib.decodeN (l.length - i) l[i].toNat ((⟨l.toArray⟩ : ByteArray).get! (i + 1)).toNat ((⟨l.toArray⟩ : ByteArray).get! (i + 2)).toNat ((⟨l.toArray⟩ : ByteArray).get! (i + 3)).toNat = (l[i].toNat, 1) := by
        unfold Lib.decodeN; rw [if_pos h0]
      rw [e] at e2
      injection e2 with e2 _
      omega
    · have hb : blankB l[i] = false := blank_big (by omega)
      exact ⟨1, rfl, by omega, by omega, by rw [hb]; rfl, fun _ => rfl, fun j _ h1 h2 => by omega⟩
theorem ext_list (l : Str) (a b : Nat) : ((⟨l.toArray⟩ : ByteArray).extract a b).data.toList = (l.drop a).take (b - a) := by
  simp [ByteArray.data_extract]
theorem spans_wb (l : Str) : ∀ (f pos : Nat) (st : Option Nat) (acc : List (Nat × Nat)), l.length ≤ pos + f → pos ≤ l.length → (∀ a, st = some a → a < pos) →
    (Lib.closeSpans ⟨l.toArray⟩ (Lib.spansFromP isBlankP ⟨l.toArray⟩ f pos st acc)).map (fun x => (l.drop x.1).take (x.2 - x.1)) = acc.map (fun x => (l.drop x.1).take (x.2 - x.1)) ++ wb (st.map fun a => (l.drop a).take (pos - a)) (l.drop pos)
  | 0, pos, st, acc, hf, hp, hs => by
    have hz : (⟨l.toArray⟩ : ByteArray).size = l.length := by show l.toArray.size = _; simp
    have e : l.drop pos = [] := List.drop_of_length_le (by omega)
    rw [e]
    unfold Lib.spansFromP Lib.closeSpans
    rw [hz, show l.length = pos by omega]
    cases st <;> simp [wb]
  | f + 1, pos, st, acc, hf, hp, hs => by
    have hz : (⟨l.toArray⟩ : ByteArray).size = l.length := by show l.toArray.size = _; simp
    unfold Lib.spansFromP
    rw [hz]
    by_cases hlt : pos < l.length
    · rw [if_pos hlt]
      obtain ⟨k, e1, h1, h2, h3, h4, h5⟩ := rune_at l pos hlt
      rw [e1, h3]
      have hd : l.drop pos = l[pos] :: l.drop (pos + 1) := List.drop_eq_getElem_cons hlt
      cases hb : blankB l[pos] with
      | true =>
        obtain rfl : k = 1 := h4 hb
        simp only [if_true]
        cases st with
        | none =>
          simp only
          rw [spans_wb l f (pos + 1) none acc (by omega) (by omega) (fun a h => by cases h), hd]
          simp [wb, hb]
        | some a =>
          simp only
          rw [spans_wb l f (pos + 1) none (acc ++ [(a, pos)]) (by omega) (by omega) (fun a h => by cases h), hd]
          simp [wb, hb]
      | false =>
        have hx : l.drop pos = (l.drop pos).take k ++ l.drop (pos + k) := by rw [← List.drop_drop, List.take_append_drop]
        have hn : (l.drop pos).take k ≠ [] := by
          intro e
          have := congrArg List.length e
          simp at this
          omega
        have hi : ∀ c ∈ (l.drop pos).take k, blankB c = false := by
          intro c hc
          obtain ⟨j, hj, rfl⟩ := List.getElem_of_mem hc
          simp at hj
          rw [List.getElem_take, List.getElem_drop]
          by_cases h0 : j = 0
          · subst h0; exact hb
          · exact h5 j (by omega) (by omega) (by omega)
        simp only [Bool.false_eq_true, if_false]
        cases st with
        | none =>
          simp only
          rw [spans_wb l f (pos + k) (some pos) acc (by omega) (by omega) (fun a h => by injection h with h; omega), hx, wb_in _ _ _ hn hi]
          simp [show pos + k - pos = k by omega]
        | some a =>
          have ha := hs a rfl
          simp only
          rw [spans_wb l f (pos + k) (some a) acc (by omega) (by omega) (fun a' h => by injection h with h; omega), hx, wb_in _ _ _ hn hi]
          have e : (l.drop a).take (pos + k - a) = (l.drop a).take (pos - a) ++ (l.drop pos).take k := by
            rw [show pos + k - a = (pos - a) + k by omega, List.take_add, List.drop_drop, show a + (pos - a) = pos by omega]
          simp [e]
    · rw [if_neg hlt]
      have e : l.drop pos = [] := List.drop_of_length_le (by omega)
      rw [e]
      unfold Lib.closeSpans
      rw [hz, show l.length = pos by omega]
      cases st <;> simp [wb]
theorem words_wb (l : Str) : words l = wb none l := by
  have hz : (⟨l.toArray⟩ : ByteArray).size = l.length := by show l.toArray.size = _; simp
  have h := spans_wb l l.length 0 none [] (by omega) (Nat.zero_le _) (fun a h => by cases h)
  unfold words Lib.goFieldsP Lib.spansOfP
  rw [hz, List.map_map]
  refine Eq.trans (List.map_congr_left fun x _ => ?_) (h.trans (by simp))
  exact ext_list l x.1 x.2
end Go.Proofs.YtghnpkpmgpbmcaaGreatDoor
/-
  ConfSets: the text that tells a value again and again, and what it comes to: plain.
-/
namespace Go.Proofs.YtghnpkpmgpbmcaaGreatDoor

def sbL1 : Str := [110, 111, 100, 101, 32, 110, 48, 32, 99, 112, 117, 61, 49]
def sbL2 : Str := [112, 97, 114, 116, 32, 112, 32, 110, 48]
def sbL3 : Str := [115, 101, 116, 32, 99, 97, 112, 32, 50, 53, 54]
def sbText : Str := sbL1 ++ 10 :: (sbL2 ++ 10 :: (sbL3 ++ [10]))
def sbC (vals : List Int) : Cfg := ⟨[[110, 48]], [(1, 0, 0)], [⟨[112], memL [0], 256, 1000000, 0⟩], [], vals⟩
def keyAt (k : Nat) : Str := (valS.getD k ⟨[], 0, 0, 0⟩).key
def lowAt (k : Nat) : Int := (valS.getD k ⟨[], 0, 0, 0⟩).least
def highAt (k : Nat) : Int := (valS.getD k ⟨[], 0, 0, 0⟩).most
/-- A line that sets a value. -/
def setLine (k v : Nat) : Str := kSet ++ 32 :: (keyAt k ++ 32 :: Vs.dec v)
def setText (k : Nat) (vs : List Nat) : Str := vs.flatMap fun v => setLine k v ++ [10]
def badV (k v : Nat) : Bool := decide ((v : Int) < lowAt k) || decide ((v : Int) > highAt k)
/-- The line of the first value that may not be; 0 if there is none. -/
def badAt (k : Nat) : List Nat → Nat → Nat
  | [], _ => 0
  | v :: vs, n => if badV k v = true then n else badAt k vs (n + 1)
def lastV (l : List Nat) (x : Int) : Int := match l.getLast? with
  | some v => v
  | none => x
theorem lines_cons : ∀ (a r : Str), 10 ∉ a → lines (a ++ 10 :: r) = a :: lines r
  | [], r, _ => by rw [List.nil_append, lines, if_pos rfl]
  | c :: a, r, h => by
    rw [List.cons_append, lines, if_neg (fun e => h (by simp [e])), lines_cons a r (fun e => h (by simp [e]))]
theorem upTo_no' {c : UInt8} : ∀ {l : Str}, c ∉ l → Vs.upTo c l = l := fun h => Vs.upTo_no h
theorem sb_line1 : lineP startC sbL1 = .ok ⟨[[110, 48]], [(1, 0, 0)], [], [], untold valS⟩ := by
  have h1 : words (Vs.upTo 35 sbL1) = [kNode, [110, 48], [99, 112, 117, 61, 49]] := by decide +kernel
  have h2 : Hs.expand [110, 48] = ([[110, 48]], 0, 0) := by decide +kernel
  have h3 : Vs.parseP [99, 112, 117, 61, 49] = ((1, 0, 0), 0) := by decide +kernel
  unfold lineP
  rw [h1]
  show nodeP startC [[110, 48], [99, 112, 117, 61, 49]] = _
  unfold nodeP
  simp only
  rw [h2, h3]
  simp only
  rw [if_neg (by decide), if_neg (by decide +kernel), if_neg (by decide +kernel), if_neg (by decide +kernel)]
  rfl
theorem sb_line2 : lineP ⟨[[110, 48]], [(1, 0, 0)], [], [], untold valS⟩ sbL2 = .ok (sbC (untold valS)) := by
  have h0 : words (Vs.upTo 35 sbL2) = [kPart, [112], [110, 48]] := by decide +kernel
  have h1 : isNameP [112] = true := by decide +kernel
  have h2 : optsP partS [] [] (untold partS) = some [256, 1000000, 0] := by decide +kernel
  have h3 : partWrong (partOf [112] (memL [0]) [256, 1000000, 0]) = false := by decide +kernel
  have h4 : setOf ⟨[[110, 48]], [(1, 0, 0)], [], [], untold valS⟩ [110, 48] = (memL [0], 0) := by
    have e : Hs.expand [110, 48] = ([[110, 48]], 0, 0) := by decide +kernel
    have g : setGo ⟨[[110, 48]], [(1, 0, 0)], [], [], untold valS⟩ [[110, 48]] [] = some [0] := by decide +kernel
    unfold setOf
    rw [e]
    simp only
    rw [if_neg (by decide), g]
  unfold lineP
  rw [h0]
  show partP ⟨[[110, 48]], [(1, 0, 0)], [], [], untold valS⟩ [[112], [110, 48]] = _
  unfold partP
  simp only
  rw [h1, h2]
  simp only
  rw [h4]
  simp only
  rw [if_neg (by decide), if_neg (by decide), if_neg (by decide), h3, if_neg (by decide)]
  rfl
theorem dec_digs (v : Nat) : ∀ c ∈ Vs.dec v, 48 ≤ c.toNat ∧ c.toNat ≤ 57 := fun c hc => (Vs.isDig_iff c).1 (List.all_eq_true.1 (Vs.dec_facts v).1 c hc)
theorem dec_len7 : ∀ (n v : Nat), v < 10 ^ n → 1 ≤ n → (Vs.dec v).length ≤ n
  | 0, _, _, h => by omega
  | 1, v, h, _ => by rw [Vs.dec_small (by simpa using h)]; simp
  | n + 2, v, h, _ => by
    by_cases h10 : v < 10
    · rw [Vs.dec_small h10]; simp
    · rw [Vs.dec_big h10, List.length_append, List.length_singleton]
      have := dec_len7 (n + 1) (v / 10) (by rw [Nat.pow_succ] at h; omega) (by omega)
      omega
theorem readNum_dec (v : Nat) (h : v < 2000000) : readNumP (Vs.dec v) = some v := by
  obtain ⟨h1, h2, h3⟩ := Vs.dec_facts v
  have hl := dec_len7 7 v (by omega) (by omega)
  have ho : isOfP (Vs.dec v) 7 digCs = true := by
    unfold isOfP
    simp only [Bool.and_eq_true, Bool.not_eq_true', List.isEmpty_eq_false_iff, decide_eq_true_eq]
    refine ⟨⟨fun e => by rw [e] at h3; simp at h3, hl⟩, List.all_eq_true.2 fun c hc => ?_⟩
    obtain ⟨a, b⟩ := dec_digs v c hc
    have hall : ∀ n : Nat, 48 ≤ n → n ≤ 57 → digCs.contains (UInt8.ofNat n) = true := by
      intro n h1 h2
      rcases (by omega : n = 48 ∨ n = 49 ∨ n = 50 ∨ n = 51 ∨ n = 52 ∨ n = 53 ∨ n = 54 ∨ n = 55 ∨ n = 56 ∨ n = 57) with rfl | rfl | rfl | rfl | rfl | rfl | rfl | rfl | rfl | rfl <;> decide
    have := hall c.toNat a b
    rwa [UInt8.ofNat_toNat] at this
  unfold readNumP
  rw [if_pos ho, h2]
theorem eight {k : Nat} (h : k < 8) : k = 0 ∨ k = 1 ∨ k = 2 ∨ k = 3 ∨ k = 4 ∨ k = 5 ∨ k = 6 ∨ k = 7 := by omega
theorem key_facts {k : Nat} (h : k < 8) : place (valS.map (·.key)) (keyAt k) = some k ∧ keyAt k ≠ [] ∧ (∀ c ∈ keyAt k, 97 ≤ c.toNat ∧ c.toNat ≤ 122) ∧ (keyAt k).length ≤ 7 := by
  rcases eight h with rfl | rfl | rfl | rfl | rfl | rfl | rfl | rfl <;> decide
theorem wb_word (x : Str) (hx : x ≠ []) (hb : ∀ c ∈ x, blankB c = false) (r : Str) : wb none (x ++ 32 :: r) = x :: wb none r := by
  rw [wb_in x none _ hx hb, wb, if_pos (by decide)]
  simp
theorem wb_last (x : Str) (hx : x ≠ []) (hb : ∀ c ∈ x, blankB c = false) : wb none x = [x] := by
  have := wb_in x none [] hx hb
  rw [List.append_nil] at this
  rw [this]
  simp [wb]
theorem plain_byte {c : UInt8} (h : 36 ≤ c.toNat) : blankB c = false ∧ c ≠ 35 ∧ c ≠ 10 := by
  refine ⟨by rw [← blank_toNat]; unfold isBlankP; simp; omega, fun e => ?_, fun e => ?_⟩ <;> (rw [e] at h; revert h; decide)
theorem set_words {k : Nat} (v : Nat) (h : k < 8) : words (Vs.upTo 35 (setLine k v)) = [kSet, keyAt k, Vs.dec v] := by
  obtain ⟨_, k2, k3, _⟩ := key_facts h
  have hd : Vs.dec v ≠ [] := fun e => by have := (Vs.dec_facts v).2.2; rw [e] at this; simp at this
  have hs : ∀ c ∈ kSet, 36 ≤ c.toNat := by decide
  have h35 : (35 : UInt8) ∉ setLine k v := by
    unfold setLine
    intro hm
    rcases List.mem_append.1 hm with hm | hm
    · exact (plain_byte (hs _ hm)).2.1 rfl
    · rcases List.mem_cons.1 hm with hm | hm
      · revert hm; decide
      · rcases List.mem_append.1 hm with hm | hm
        · have := k3 _ hm; revert this; decide
        · rcases List.mem_cons.1 hm with hm | hm
          · revert hm; decide
          · have := dec_digs v _ hm; revert this; decide
  rw [upTo_no' h35, words_wb]
  unfold setLine
  rw [wb_word kSet (by decide) (fun c hc => (plain_byte (hs c hc)).1), wb_word (keyAt k) k2 (fun c hc => (plain_byte (by have := k3 c hc; omega)).1), wb_last _ hd (fun c hc => (plain_byte (by have := dec_digs v c hc; omega)).1)]
theorem set_no10 {k : Nat} (v : Nat) (h : k < 8) : (10 : UInt8) ∉ setLine k v := by
  obtain ⟨_, k2, k3, _⟩ := key_facts h
  have hs : ∀ c ∈ kSet, 36 ≤ c.toNat := by decide
  unfold setLine
  intro hm
  rcases List.mem_append.1 hm with hm | hm
  · exact (plain_byte (hs _ hm)).2.2 rfl
  · rcases List.mem_cons.1 hm with hm | hm
    · revert hm; decide
    · rcases List.mem_append.1 hm with hm | hm
      · have := k3 _ hm; revert this; decide
      · rcases List.mem_cons.1 hm with hm | hm
        · revert hm; decide
        · have := dec_digs v _ hm; revert this; decide
/-- The values that the text comes to: the first ones, one of them another. -/
def valsAt (k : Nat) (x : Int) : List Int := (untold valS).set k x
theorem right_set {k v : Nat} (h : k < 8) : rightV valS (valsAt k v) = !badV k v := by
  unfold badV lowAt highAt valsAt
  rcases eight h with rfl | rfl | rfl | rfl | rfl | rfl | rfl | rfl <;>
    (rw [Bool.eq_iff_iff]; simp [rightV, valS, untold]; try omega)
theorem sb_set {k : Nat} (h : k < 8) (x : Int) (v : Nat) (hv : v < 2000000) : lineP (sbC (valsAt k x)) (setLine k v) = if badV k v = true then .error 12 else .ok (sbC (valsAt k v)) := by
  have hp : putP valS (valsAt k x) (keyAt k) (Vs.dec v) = some (valsAt k v) := by
    unfold putP
    rw [(key_facts h).1, readNum_dec v hv]
    simp [valsAt]
  unfold lineP
  rw [set_words v h]
  show setP (sbC (valsAt k x)) [keyAt k, Vs.dec v] = _
  unfold setP
  simp only
  rw [show (sbC (valsAt k x)).vals = valsAt k x from rfl, hp]
  simp only
  rw [right_set h]
  cases badV k v <;> rfl
theorem line_empty (c : Cfg) : lineP c [] = .ok c := by
  have h : words (Vs.upTo 35 []) = [] := by decide +kernel
  unfold lineP
  rw [h]
  rfl
theorem sets_lines {k : Nat} (h : k < 8) : ∀ (vs : List Nat) (n : Nat) (x : Int), (∀ v ∈ vs, v < 2000000) → 0 < n →
    linesP n (sbC (valsAt k x)) (lines (setText k vs)) = if badAt k vs n = 0 then .ok (sbC (valsAt k (lastV vs x))) else .error (12, badAt k vs n)
  | [], n, x, _, _ => by
    show linesP n _ (lines []) = _
    rw [show lines [] = [[]] from rfl, linesP_cons, line_empty]
    simp only [linesP_nil]
    rfl
  | v :: vs, n, x, hv, hn => by
    have e : setText k (v :: vs) = setLine k v ++ 10 :: setText k vs := by unfold setText; rw [List.flatMap_cons]; simp
    rw [e, lines_cons _ _ (set_no10 v h), linesP_cons, sb_set h x v (hv v (by simp)), badAt]
    cases hb : badV k v with
    | true => simp only [if_true]; rw [if_neg (by omega)]
    | false =>
      simp only [Bool.false_eq_true, if_false]
      rw [sets_lines h vs (n + 1) v (fun u hu => hv u (by simp [hu])) (by omega)]
      have el : lastV vs (v : Int) = lastV (v :: vs) x := by
        unfold lastV
        cases vs with
        | nil => rfl
        | cons u us =>
          rw [List.getLast?_cons_cons]
          cases hl : (u :: us).getLast? with
          | none => rw [List.getLast?_eq_none_iff] at hl; cases hl
          | some y => rfl
      rw [el]
theorem sb_right {k : Nat} (h : k < 8) (x : Int) (hr : rightV valS (valsAt k x) = true) : rightC (sbC (valsAt k x)) = !(decide (k = 4) && decide (x > 256)) := by
  have h1 : rightNodesP (sbC (valsAt k x)) = true := by
    have : rightNodesP (sbC (valsAt k x)) = rightNodesP (sbC []) := rfl
    rw [this]; decide +kernel
  have h2 : rightPartsP (sbC (valsAt k x)) = true := by
    have : rightPartsP (sbC (valsAt k x)) = rightPartsP (sbC []) := rfl
    rw [this]; decide +kernel
  have h3 : rightQosP (sbC (valsAt k x)) = true := by
    have : rightQosP (sbC (valsAt k x)) = rightQosP (sbC []) := rfl
    rw [this]; decide +kernel
  unfold rightC
  rw [h1, h2, h3, show (sbC (valsAt k x)).vals = valsAt k x from rfl, hr]
  simp only [Bool.and_self, Bool.true_and]
  rcases eight h with rfl | rfl | rfl | rfl | rfl | rfl | rfl | rfl
  · rfl
  · rfl
  · rfl
  · rfl
  · have h4 : minCap (valsAt 4 x) = decide (x ≤ 256) := rfl
    rw [h4, Bool.eq_iff_iff]
    simp
  · have h5 : minCap (valsAt 5 x) = decide (0 ≤ x) := rfl
    have hr5 : 1 ≤ x := by
      simp [valsAt, untold, valS, rightV] at hr
      exact hr.1
    rw [h5]
    simp
    omega
  · rfl
  · rfl
theorem badAt_ok {k : Nat} : ∀ (vs : List Nat) (n : Nat), 0 < n → badAt k vs n = 0 → ∀ v ∈ vs, badV k v = false
  | [], _, _, _, v, hv => by cases hv
  | u :: vs, n, hn, h, v, hv => by
    rw [badAt] at h
    cases hb : badV k u with
    | true => rw [hb, if_pos rfl] at h; omega
    | false =>
      rw [hb, if_neg (by decide)] at h
      rcases List.mem_cons.1 hv with rfl | hv
      · exact hb
      · exact badAt_ok vs (n + 1) (by omega) h v hv
theorem badAt_snoc {k : Nat} : ∀ (vs : List Nat) (v n : Nat), 0 < n → badAt k (vs ++ [v]) n = if badAt k vs n = 0 then (if badV k v = true then n + vs.length else 0) else badAt k vs n
  | [], v, n, _ => by simp [badAt]
  | u :: vs, v, n, hn => by
    rw [List.cons_append, badAt, badAt]
    cases badV k u with
    | true => simp only [if_true]; rw [if_neg (by omega)]
    | false =>
      simp only [Bool.false_eq_true, if_false]
      rw [badAt_snoc vs v (n + 1) (by omega), List.length_cons, show n + 1 + vs.length = n + (vs.length + 1) by omega]
theorem lastV_snoc (vs : List Nat) (v : Nat) (x : Int) : lastV (vs ++ [v]) x = v := by
  unfold lastV; rw [List.getLast?_append]; rfl
/-- What the whole text comes to. -/
theorem sets_parse {k : Nat} (h : k < 8) (vs : List Nat) (hv : ∀ v ∈ vs, v < 2000000) (hl : vs.length ≤ 30) :
    parseC (sbText ++ setText k vs) = if badAt k vs 4 = 0 then (if k = 4 ∧ lastV vs (-1) > 256 then (noCfg, 12, 0) else (sbC (valsAt k (lastV vs ((untold valS).getD k 0))), 0, 0)) else (noCfg, 12, badAt k vs 4) := by
  have hlen : ∀ us : List Nat, (∀ v ∈ us, v < 2000000) → (setText k us).length ≤ us.length * 21 := by
    intro us
    induction us with
    | nil => intro _; simp [setText]
    | cons u us ih =>
      intro hu
      have := ih (fun v hv => hu v (by simp [hv]))
      have e : setText k (u :: us) = setLine k u ++ 10 :: setText k us := by unfold setText; rw [List.flatMap_cons]; simp
      have k7 := (key_facts h).2.2.2
      have d7 := dec_len7 7 u (by have := hu u (by simp); omega) (by omega)
      rw [e, List.length_append, List.length_cons, List.length_cons]
      unfold setLine
      rw [List.length_append, List.length_cons, List.length_append, List.length_cons]
      have : kSet.length = 3 := rfl
      omega
  have h64 := hlen vs hv
  have hsl : sbText.length = 36 := by decide
  have hx : valsAt k ((untold valS).getD k 0) = untold valS := by
    unfold valsAt
    rcases eight h with rfl | rfl | rfl | rfl | rfl | rfl | rfl | rfl <;> rfl
  have e : lines (sbText ++ setText k vs) = sbL1 :: sbL2 :: sbL3 :: lines (setText k vs) := by
    have : sbText ++ setText k vs = sbL1 ++ 10 :: (sbL2 ++ 10 :: (sbL3 ++ 10 :: setText k vs)) := by simp [sbText]
    rw [this, lines_cons _ _ (by decide), lines_cons _ _ (by decide), lines_cons _ _ (by decide)]
  have l3 : lineP (sbC (untold valS)) sbL3 = .ok (sbC (untold valS)) := by
    have h1 : words (Vs.upTo 35 sbL3) = [kSet, kCap, [50, 53, 54]] := by decide +kernel
    have h2 : putP valS (untold valS) kCap [50, 53, 54] = some (untold valS) := by decide +kernel
    have h3 : rightV valS (untold valS) = true := by decide +kernel
    unfold lineP
    rw [h1]
    show setP (sbC (untold valS)) [kCap, [50, 53, 54]] = _
    unfold setP
    simp only
    rw [show (sbC (untold valS)).vals = untold valS from rfl, h2]
    simp only
    rw [if_pos h3]
    rfl
  have hs := sets_lines h vs 4 ((untold valS).getD k 0) hv (by decide)
  rw [hx] at hs
  unfold parseC
  rw [if_neg (by rw [List.length_append]; omega), e, linesP_cons, sb_line1]
  simp only
  rw [linesP_cons, sb_line2]
  simp only
  rw [linesP_cons, l3]
  simp only
  rw [hs]
  by_cases hb : badAt k vs 4 = 0
  · rw [if_pos hb, if_pos hb]
    simp only
    have hok := badAt_ok vs 4 (by decide) hb
    by_cases hn : vs = []
    · subst hn
      have hr : rightV valS (untold valS) = true := by decide +kernel
      have q := sb_right h ((untold valS).getD k 0) (by rw [hx]; exact hr)
      rw [show lastV [] ((untold valS).getD k 0) = (untold valS).getD k 0 from rfl, q, show lastV [] (-1) = -1 from rfl]
      rw [if_pos (show (!(decide (k = 4) && decide ((untold valS).getD k 0 > 256))) = true from by rcases eight h with rfl | rfl | rfl | rfl | rfl | rfl | rfl | rfl <;> decide), if_neg (show ¬ (k = 4 ∧ (-1 : Int) > 256) from by omega)]
    · obtain ⟨us, u, rfl⟩ : ∃ us u, vs = us ++ [u] := by
        rcases List.eq_nil_or_concat vs with h | ⟨us, u, h⟩
        · exact absurd h hn
        · exact ⟨us, u, by rw [h, List.concat_eq_append]⟩
      rw [lastV_snoc, lastV_snoc]
      have hu := hok u (by simp)
      have hr : rightV valS (valsAt k u) = true := by rw [right_set h, hu]; rfl
      rw [sb_right h u hr]
      by_cases h4 : k = 4 ∧ (u : Int) > 256
      · rw [if_pos h4, if_neg]
        simp only [Bool.not_eq_true', Bool.and_eq_false_iff, decide_eq_false_iff_not]
        omega
      · rw [if_neg h4, if_pos]
        simp only [Bool.not_eq_true', Bool.and_eq_false_iff, decide_eq_false_iff_not]
        omega
  · rw [if_neg hb, if_neg hb]
end Go.Proofs.YtghnpkpmgpbmcaaGreatDoor
/-
  The statements' own digits; the keys.
-/
namespace Go.Proofs.YtghnpkpmgpbmcaaGreatDoor
open Go.RowKit Go.Shelf Vs

theorem conv_dig (w : World) (u : Nat) (hu : u < 10) (g : Nat) (hg : g = w.heap.size) : (convert 125 9 (.slice (some ⟨g, 0, none⟩) 1 1)).run Tryz.prog (w.alloc (.cells #[.int .u8 (48 + (u : Int))] 5)) = .ok (.string (str [UInt8.ofNat (48 + u)])) (w.alloc (.cells #[.int .u8 (48 + (u : Int))] 5)) := by
  subst hg
  refine run_convert_bytes_back _ 125 9 5 ⟨w.heap.size, 0, none⟩ 1 [UInt8.ofNat (48 + u)] Tryz.underlying125 Tryz.underlying5 Tryz.underlying9 (fun j hj => ?_)
  have : j = 0 := by simpa using hj
  subst this
  have e : ((UInt8.ofNat (48 + u)).toNat : Int) = 48 + (u : Int) := by rw [UInt8.toNat_ofNat']; omega
  have hh := heap_alloc_new w (.cells #[.int .u8 (48 + (u : Int))] 5)
  rw [List.getElem_singleton, e]
  generalize (48 + (u : Int)) = x at *
  generalize w.alloc (.cells #[.int .u8 x] 5) = w' at *
  simp [World.cell?, Addr.add, hh]
theorem dec_two {u : Nat} (h : ¬ u < 10) : str (dec (u / 10)) ++ str (dec (u % 10)) = str (dec u) := by
  rw [str_app, dec_big h, dec_small (u := u % 10) (by omega)]
set_option maxRecDepth 100000 in
set_option maxHeartbeats 1000000 in
theorem digits_one (u : Nat) (w : World) (h10 : u < 10) : Calls Tryz.prog 30 #[.int .i64 (u : Int)] w fun e w' => e = .returned (.string (str (dec u))) ∧ Below w.heap.size w w' := by
  have hcv := conv_dig w u h10 w.heap.size rfl
  have hE := fhid (show str [UInt8.ofNat (48 + u)] = str (dec u) by rw [dec_small h10])
  have i0 : (0 : Int) ≤ u := by omega
  have i1 : (u : Int) < 10 := by omega
  generalize str [UInt8.ofNat (48 + u)] = C at *
  generalize (u : Int) = n at *
  go_enter Tryz.func30, Tryz.ntmps30
  go_wp2_with fail
  go_ret
  exact ⟨frets hE.out, (Below.refl _ _).alloc (Nat.le_refl _) _⟩
set_option maxRecDepth 100000 in
set_option maxHeartbeats 1000000 in
theorem digits_rec (k : Nat) : ∀ (u : Nat) (ni : Int) (w : World), ni = u → u ≤ k → u ≤ 1000000000 → Calls Tryz.prog 30 #[.int .i64 ni] w fun e w' => e = .returned (.string (str (dec u))) ∧ Below w.heap.size w w' := by
  induction k with
  | zero =>
    rintro u ni w rfl hk hb
    exact digits_one u w (by omega)
  | succ k ih =>
    rintro u ni w rfl hk hb
    have i0 : (0 : Int) ≤ u := by omega
    have i3 : (u : Int) ≤ 1000000000 := by omega
    by_cases h10 : u < 10
    · exact digits_one u w h10
    · have i1 : ¬ (u : Int) < 10 := by omega
      have h1 := fun (ni : Int) W (h : ni = ((u / 10 : Nat) : Int)) => ih (u / 10) ni W h (by omega) (by omega)
      have h2 := fun (ni : Int) W (h : ni = ((u % 10 : Nat) : Int)) => ih (u % 10) ni W h (by omega) (by omega)
      have q := dec_two h10
      have l1 : (dec (u / 10)).length ≤ 10 := dec_len7 10 _ (by omega) (by omega)
      have l2 : (dec (u % 10)).length ≤ 10 := dec_len7 10 _ (by omega) (by omega)
      have hN : ¬ 9223372036854775807 < (str (dec (u / 10))).size + (str (dec (u % 10))).size := by rw [str_size, str_size]; omega
      clear l1 l2 ih
      generalize str (dec (u / 10)) = S1 at *
      generalize str (dec (u % 10)) = S2 at *
      generalize str (dec u) = S at *
      go_enter Tryz.func30, Tryz.ntmps30
      go_wp2_with fail
      refine (h1 _ _ (by omega)).mono ?_
      rintro e w1 ⟨rfl, b1⟩
      go_wp2_with fail
      refine (h2 _ _ (by omega)).mono ?_
      rintro e w2 ⟨rfl, b2⟩
      go_wp2_with fail
      go_ret
      exact ⟨rfl, b1.trans (b2.mono b1.size)⟩
def keysL : List Str := [kSuspend, kBoot, kStop, kHalf, kMin, kCap, kRate, kRetry]
set_option maxRecDepth 100000 in
theorem keys_any (w : World) : Calls Tryz.prog 29 #[] w fun e w' => ∃ g, e = .returned (.slice (some ⟨g, 0, none⟩) 8 8) ∧ w.heap.size ≤ g ∧ Box w' g 9 (SV keysL) ∧ Below w.heap.size w w' := by
  go_enter Tryz.func29, Tryz.ntmps29
  go_wp2_with fail
  go_ret
  exact ⟨w.heap.size, rfl, Nat.le_refl _, Box.new w _ _, (Below.refl _ _).alloc (Nat.le_refl _) _⟩
end Go.Proofs.YtghnpkpmgpbmcaaGreatDoor
