/-
  Parts: KWords KSetsM KDigits KTheirs KOurs KFar.
-/
import Derived.Test.YtghnpkpmgpbmcaaGreatDoorK1
import Derived.Lib.MapLaws
import Derived.Lib.DecodeN
import Derived.Test.YtghnpkpmgpbmcaaGreatDoorK5
import Derived.Laws.IdiomStrings
import Derived.Test.YtghnpkpmgpbmcaaGreatDoorK2
set_option linter.unusedSimpArgs false
set_option linter.unusedVariables false
/-
  A line's words, byte by byte.
-/
namespace Go.Proofs.YtghnpkpmgpbmcaaGreatDoor

def blankB (c : UInt8) : Bool := c == 32 || c == 9
/-- The words that bytes tell, behind what has come of one. -/
def wb : Option Str → Str → List Str
  | cur, [] => cur.toList
  | cur, c :: r => if blankB c = true then cur.toList ++ wb none r else wb (some (cur.getD [] ++ [c])) r
theorem wb_in : ∀ (x : Str) (cur : Option Str) (r : Str), x ≠ [] → (∀ c ∈ x, blankB c = false) → wb cur (x ++ r) = wb (some (cur.getD [] ++ x)) r
  | [], _, _, h, _ => absurd rfl h
  | c :: x, cur, r, _, hx => by
    rw [List.cons_append, wb, if_neg (by rw [hx c (by simp)]; decide)]
    by_cases h : x = []
    · subst h; rfl
    · rw [wb_in x _ r h (fun d hd => hx d (by simp [hd]))]
      simp
theorem get_at (l : Str) (i : Nat) (h : i < l.length) : (⟨l.toArray⟩ : ByteArray).get! i = l[i] := by
  simp [ByteArray.get!, h]
theorem blank_toNat (c : UInt8) : isBlankP c.toNat = blankB c := by
  unfold isBlankP blankB
  have h1 : (c.toNat == 32) = (c == 32) := by rw [Bool.eq_iff_iff]; simp [← UInt8.toNat_inj]
  have h2 : (c.toNat == 9) = (c == 9) := by rw [Bool.eq_iff_iff]; simp [← UInt8.toNat_inj]
  rw [h1, h2]
theorem blank_big {c : UInt8} (h : 128 ≤ c.toNat) : blankB c = false := by
  rw [← blank_toNat]; unfold isBlankP; simp; omega
/-- What is read at a place: how many bytes, and whether they are blank. -/
theorem rune_at (l : Str) (i : Nat) (h : i < l.length) : ∃ k, (Utf8.decode ⟨l.toArray⟩ i).2 = k ∧ 1 ≤ k ∧ i + k ≤ l.length ∧ isBlankP (Utf8.decode ⟨l.toArray⟩ i).1 = blankB l[i] ∧ (blankB l[i] = true → k = 1) ∧ ∀ j (hj : i + j < l.length), 0 < j → j < k → blankB l[i + j] = false := by
  have hz : (⟨l.toArray⟩ : ByteArray).size = l.length := by show l.toArray.size = _; simp
  rw [Lib.decode_at, hz, get_at l i h]
  have g := fun j (hj : i + j < l.length) => get_at l (i + j) hj
  rcases Lib.decodeN_shape (l.length - i) l[i].toNat ((⟨l.toArray⟩ : ByteArray).get! (i + 1)).toNat ((⟨l.toArray⟩ : ByteArray).get! (i + 2)).toNat ((⟨l.toArray⟩ : ByteArray).get! (i + 3)).toNat with ⟨h1, e⟩ | ⟨h1, h2, h3, h4, e⟩ | ⟨h1, h2, h3, h4, h5, h6, e⟩ | ⟨h1, h2, h3, h4, h5, h6, h7, e⟩ | e
  · rw [e]
    exact ⟨1, rfl, Nat.le_refl _, by omega, blank_toNat _, fun _ => rfl, fun j _ h1 h2 => by omega⟩
  · rw [e]
    have hb : blankB l[i] = false := blank_big (by omega)
    refine ⟨2, rfl, by omega, by omega, ?_, (fun hx => by rw [hb] at hx; cases hx), fun j hj h5 h6 => ?_⟩
    · rw [hb]; unfold isBlankP; simp; omega
    · obtain rfl : j = 1 := by omega
      rw [g 1 hj] at h3
      exact blank_big (by omega)
  · rw [e]
    have hb : blankB l[i] = false := blank_big (by omega)
    refine ⟨3, rfl, by omega, by omega, ?_, (fun hx => by rw [hb] at hx; cases hx), fun j hj h7 h8 => ?_⟩
    · rw [hb]; unfold isBlankP; simp; omega
    · rcases (by omega : j = 1 ∨ j = 2) with rfl | rfl
      · rw [g 1 hj] at h3
        exact blank_big (by omega)
      · rw [g 2 hj] at h4
        exact blank_big (by omega)
  · rw [e]
    have hb : blankB l[i] = false := blank_big (by omega)
    refine ⟨4, rfl, by omega, by omega, ?_, (fun hx => by rw [hb] at hx; cases hx), fun j hj h8 h9 => ?_⟩
    · rw [hb]; unfold isBlankP; simp; omega
    · rcases (by omega : j = 1 ∨ j = 2 ∨ j = 3) with rfl | rfl | rfl
      · rw [g 1 hj] at h3
        exact blank_big (by omega)
      · rw [g 2 hj] at h4
        exact blank_big (by omega)
      · rw [g 3 hj] at h5
        exact blank_big (by omega)
  · rw [e]
    by_cases h0 : l[i].toNat < 128
    · have e2 : Lib.decodeN (l.length - i) l[i].toNat ((⟨l.toArray⟩ : ByteArray).get! (i + 1)).toNat ((⟨l.toArray⟩ : ByteArray).get! (i + 2)).toNat ((⟨l.toArray⟩ : ByteArray).get! (i + 3)).toNat = (l[i].toNat, 1) := by
        unfold Lib.decodeN; rw [if_pos h0]
      rw [e] at e2
      injection e2 with e2 _
      omega
    · have hb : blankB l[i] = false := blank_big (by omega)
      exact ⟨1, rfl, by omega, by omega, by rw [hb]; rfl, fun _ => rfl, fun j _ h1 h2 => by omega⟩
theorem ext_list (l : Str) (a b : Nat) : ((⟨l.toArray⟩ : ByteArray).extract a b).data.toList = (l.drop a).take (b - a) := by
  simp [ByteArray.data_extract]
theorem spans_wb (l : Str) : ∀ (f pos : Nat) (st : Option Nat) (acc : List (Nat × Nat)), l.length ≤ pos + f → pos ≤ l.length → (∀ a, st = some a → a < pos) →
    (Lib.closeSpans ⟨l.toArray⟩ (Lib.spansFromP isBlankP ⟨l.toArray⟩ f pos st acc)).map (fun x => (l.drop x.1).take (x.2 - x.1)) = acc.map (fun x => (l.drop x.1).take (x.2 - x.1)) ++ wb (st.map fun a => (l.drop a).take (pos - a)) (l.drop pos)
  | 0, pos, st, acc, hf, hp, hs => by
    have hz : (⟨l.toArray⟩ : ByteArray).size = l.length := by show l.toArray.size = _; simp
    have e : l.drop pos = [] := List.drop_of_length_le (by omega)
    rw [e]
    unfold Lib.spansFromP Lib.closeSpans
    rw [hz, show l.length = pos by omega]
    cases st <;> simp [wb]
  | f + 1, pos, st, acc, hf, hp, hs => by
    have hz : (⟨l.toArray⟩ : ByteArray).size = l.length := by show l.toArray.size = _; simp
    unfold Lib.spansFromP
    rw [hz]
    by_cases hlt : pos < l.length
    · rw [if_pos hlt]
      obtain ⟨k, e1, h1, h2, h3, h4, h5⟩ := rune_at l pos hlt
      rw [e1, h3]
      have hd : l.drop pos = l[pos] :: l.drop (pos + 1) := List.drop_eq_getElem_cons hlt
      cases hb : blankB l[pos] with
      | true =>
        obtain rfl : k = 1 := h4 hb
        simp only [if_true]
        cases st with
        | none =>
          simp only
          rw [spans_wb l f (pos + 1) none acc (by omega) (by omega) (fun a h => by cases h), hd]
          simp [wb, hb]
        | some a =>
          simp only
          rw [spans_wb l f (pos + 1) none (acc ++ [(a, pos)]) (by omega) (by omega) (fun a h => by cases h), hd]
          simp [wb, hb]
      | false =>
        have hx : l.drop pos = (l.drop pos).take k ++ l.drop (pos + k) := by rw [← List.drop_drop, List.take_append_drop]
        have hn : (l.drop pos).take k ≠ [] := by
          intro e
          have := congrArg List.length e
          simp at this
          omega
        have hi : ∀ c ∈ (l.drop pos).take k, blankB c = false := by
          intro c hc
          obtain ⟨j, hj, rfl⟩ := List.getElem_of_mem hc
          simp at hj
          rw [List.getElem_take, List.getElem_drop]
          by_cases h0 : j = 0
          · subst h0; exact hb
          · exact h5 j (by omega) (by omega) (by omega)
        simp only [Bool.false_eq_true, if_false]
        cases st with
        | none =>
          simp only
          rw [spans_wb l f (pos + k) (some pos) acc (by omega) (by omega) (fun a h => by injection h with h; omega), hx, wb_in _ _ _ hn hi]
          simp [show pos + k - pos = k by omega]
        | some a =>
          have ha := hs a rfl
          simp only
          rw [spans_wb l f (pos + k) (some a) acc (by omega) (by omega) (fun a' h => by injection h with h; omega), hx, wb_in _ _ _ hn hi]
          have e : (l.drop a).take (pos + k - a) = (l.drop a).take (pos - a) ++ (l.drop pos).take k := by
            rw [show pos + k - a = (pos - a) + k by omega, List.take_add, List.drop_drop, show a + (pos - a) = pos by omega]
          simp [e]
    · rw [if_neg hlt]
      have e : l.drop pos = [] := List.drop_of_length_le (by omega)
      rw [e]
      unfold Lib.closeSpans
      rw [hz, show l.length = pos by omega]
      cases st <;> simp [wb]
theorem words_wb (l : Str) : words l = wb none l := by
  have hz : (⟨l.toArray⟩ : ByteArray).size = l.length := by show l.toArray.size = _; simp
  have h := spans_wb l l.length 0 none [] (by omega) (Nat.zero_le _) (fun a h => by cases h)
  unfold words Lib.goFieldsP Lib.spansOfP
  rw [hz, List.map_map]
  refine Eq.trans (List.map_congr_left fun x _ => ?_) (h.trans (by simp))
  exact ext_list l x.1 x.2
end Go.Proofs.YtghnpkpmgpbmcaaGreatDoor
/-
  ConfSets: the text that tells a value again and again, and what it comes to: plain.
-/
namespace Go.Proofs.YtghnpkpmgpbmcaaGreatDoor

def sbL1 : Str := [110, 111, 100, 101, 32, 110, 48, 32, 99, 112, 117, 61, 49]
def sbL2 : Str := [112, 97, 114, 116, 32, 112, 32, 110, 48]
def sbL3 : Str := [115, 101, 116, 32, 99, 97, 112, 32, 50, 53, 54]
def sbText : Str := sbL1 ++ 10 :: (sbL2 ++ 10 :: (sbL3 ++ [10]))
def sbC (vals : List Int) : Cfg := ⟨[[110, 48]], [(1, 0, 0)], [⟨[112], memL [0], 256, 1000000, 0⟩], [], vals⟩
def keyAt (k : Nat) : Str := (valS.getD k ⟨[], 0, 0, 0⟩).key
def lowAt (k : Nat) : Int := (valS.getD k ⟨[], 0, 0, 0⟩).least
def highAt (k : Nat) : Int := (valS.getD k ⟨[], 0, 0, 0⟩).most
/-- A line that sets a value. -/
def setLine (k v : Nat) : Str := kSet ++ 32 :: (keyAt k ++ 32 :: Vs.dec v)
def setText (k : Nat) (vs : List Nat) : Str := vs.flatMap fun v => setLine k v ++ [10]
def badV (k v : Nat) : Bool := decide ((v : Int) < lowAt k) || decide ((v : Int) > highAt k)
/-- The line of the first value that may not be; 0 if there is none. -/
def badAt (k : Nat) : List Nat → Nat → Nat
  | [], _ => 0
  | v :: vs, n => if badV k v = true then n else badAt k vs (n + 1)
def lastV (l : List Nat) (x : Int) : Int := match l.getLast? with
  | some v => v
  | none => x
theorem lines_cons : ∀ (a r : Str), 10 ∉ a → lines (a ++ 10 :: r) = a :: lines r
  | [], r, _ => by rw [List.nil_append, lines, if_pos rfl]
  | c :: a, r, h => by
    rw [List.cons_append, lines, if_neg (fun e => h (by simp [e])), lines_cons a r (fun e => h (by simp [e]))]
theorem upTo_no' {c : UInt8} : ∀ {l : Str}, c ∉ l → Vs.upTo c l = l := fun h => Vs.upTo_no h
theorem sb_line1 : lineP startC sbL1 = .ok ⟨[[110, 48]], [(1, 0, 0)], [], [], untold valS⟩ := by
  have h1 : words (Vs.upTo 35 sbL1) = [kNode, [110, 48], [99, 112, 117, 61, 49]] := by decide +kernel
  have h2 : Hs.expand [110, 48] = ([[110, 48]], 0, 0) := by decide +kernel
  have h3 : Vs.parseP [99, 112, 117, 61, 49] = ((1, 0, 0), 0) := by decide +kernel
  unfold lineP
  rw [h1]
  show nodeP startC [[110, 48], [99, 112, 117, 61, 49]] = _
  unfold nodeP
  simp only
  rw [h2, h3]
  simp only
  rw [if_neg (by decide), if_neg (by decide +kernel), if_neg (by decide +kernel), if_neg (by decide +kernel)]
  rfl
theorem sb_line2 : lineP ⟨[[110, 48]], [(1, 0, 0)], [], [], untold valS⟩ sbL2 = .ok (sbC (untold valS)) := by
  have h0 : words (Vs.upTo 35 sbL2) = [kPart, [112], [110, 48]] := by decide +kernel
  have h1 : isNameP [112] = true := by decide +kernel
  have h2 : optsP partS [] [] (untold partS) = some [256, 1000000, 0] := by decide +kernel
  have h3 : partWrong (partOf [112] (memL [0]) [256, 1000000, 0]) = false := by decide +kernel
  have h4 : setOf ⟨[[110, 48]], [(1, 0, 0)], [], [], untold valS⟩ [110, 48] = (memL [0], 0) := by
    have e : Hs.expand [110, 48] = ([[110, 48]], 0, 0) := by decide +kernel
    have g : setGo ⟨[[110, 48]], [(1, 0, 0)], [], [], untold valS⟩ [[110, 48]] [] = some [0] := by decide +kernel
    unfold setOf
    rw [e]
    simp only
    rw [if_neg (by decide), g]
  unfold lineP
  rw [h0]
  show partP ⟨[[110, 48]], [(1, 0, 0)], [], [], untold valS⟩ [[112], [110, 48]] = _
  unfold partP
  simp only
  rw [h1, h2]
  simp only
  rw [h4]
  simp only
  rw [if_neg (by decide), if_neg (by decide), if_neg (by decide), h3, if_neg (by decide)]
  rfl
theorem dec_digs (v : Nat) : ∀ c ∈ Vs.dec v, 48 ≤ c.toNat ∧ c.toNat ≤ 57 := fun c hc => (Vs.isDig_iff c).1 (List.all_eq_true.1 (Vs.dec_facts v).1 c hc)
theorem dec_len7 : ∀ (n v : Nat), v < 10 ^ n → 1 ≤ n → (Vs.dec v).length ≤ n
  | 0, _, _, h => by omega
  | 1, v, h, _ => by rw [Vs.dec_small (by simpa using h)]; simp
  | n + 2, v, h, _ => by
    by_cases h10 : v < 10
    · rw [Vs.dec_small h10]; simp
    · rw [Vs.dec_big h10, List.length_append, List.length_singleton]
      have := dec_len7 (n + 1) (v / 10) (by rw [Nat.pow_succ] at h; omega) (by omega)
      omega
theorem readNum_dec (v : Nat) (h : v < 2000000) : readNumP (Vs.dec v) = some v := by
  obtain ⟨h1, h2, h3⟩ := Vs.dec_facts v
  have hl := dec_len7 7 v (by omega) (by omega)
  have ho : isOfP (Vs.dec v) 7 digCs = true := by
    unfold isOfP
    simp only [Bool.and_eq_true, Bool.not_eq_true', List.isEmpty_eq_false_iff, decide_eq_true_eq]
    refine ⟨⟨fun e => by rw [e] at h3; simp at h3, hl⟩, List.all_eq_true.2 fun c hc => ?_⟩
    obtain ⟨a, b⟩ := dec_digs v c hc
    have hall : ∀ n : Nat, 48 ≤ n → n ≤ 57 → digCs.contains (UInt8.ofNat n) = true := by
      intro n h1 h2
      rcases (by omega : n = 48 ∨ n = 49 ∨ n = 50 ∨ n = 51 ∨ n = 52 ∨ n = 53 ∨ n = 54 ∨ n = 55 ∨ n = 56 ∨ n = 57) with rfl | rfl | rfl | rfl | rfl | rfl | rfl | rfl | rfl | rfl <;> decide
    have := hall c.toNat a b
    rwa [UInt8.ofNat_toNat] at this
  unfold readNumP
  rw [if_pos ho, h2]
theorem eight {k : Nat} (h : k < 8) : k = 0 ∨ k = 1 ∨ k = 2 ∨ k = 3 ∨ k = 4 ∨ k = 5 ∨ k = 6 ∨ k = 7 := by omega
theorem key_facts {k : Nat} (h : k < 8) : place (valS.map (·.key)) (keyAt k) = some k ∧ keyAt k ≠ [] ∧ (∀ c ∈ keyAt k, 97 ≤ c.toNat ∧ c.toNat ≤ 122) ∧ (keyAt k).length ≤ 7 := by
  rcases eight h with rfl | rfl | rfl | rfl | rfl | rfl | rfl | rfl <;> decide
theorem wb_word (x : Str) (hx : x ≠ []) (hb : ∀ c ∈ x, blankB c = false) (r : Str) : wb none (x ++ 32 :: r) = x :: wb none r := by
  rw [wb_in x none _ hx hb, wb, if_pos (by decide)]
  simp
theorem wb_last (x : Str) (hx : x ≠ []) (hb : ∀ c ∈ x, blankB c = false) : wb none x = [x] := by
  have := wb_in x none [] hx hb
  rw [List.append_nil] at this
  rw [this]
  simp [wb]
theorem plain_byte {c : UInt8} (h : 36 ≤ c.toNat) : blankB c = false ∧ c ≠ 35 ∧ c ≠ 10 := by
  refine ⟨by rw [← blank_toNat]; unfold isBlankP; simp; omega, fun e => ?_, fun e => ?_⟩ <;> (rw [e] at h; revert h; decide)
theorem set_words {k : Nat} (v : Nat) (h : k < 8) : words (Vs.upTo 35 (setLine k v)) = [kSet, keyAt k, Vs.dec v] := by
  obtain ⟨_, k2, k3, _⟩ := key_facts h
  have hd : Vs.dec v ≠ [] := fun e => by have := (Vs.dec_facts v).2.2; rw [e] at this; simp at this
  have hs : ∀ c ∈ kSet, 36 ≤ c.toNat := by decide
  have h35 : (35 : UInt8) ∉ setLine k v := by
    unfold setLine
    intro hm
    rcases List.mem_append.1 hm with hm | hm
    · exact (plain_byte (hs _ hm)).2.1 rfl
    · rcases List.mem_cons.1 hm with hm | hm
      · revert hm; decide
      · rcases List.mem_append.1 hm with hm | hm
        · have := k3 _ hm; revert this; decide
        · rcases List.mem_cons.1 hm with hm | hm
          · revert hm; decide
          · have := dec_digs v _ hm; revert this; decide
  rw [upTo_no' h35, words_wb]
  unfold setLine
  rw [wb_word kSet (by decide) (fun c hc => (plain_byte (hs c hc)).1), wb_word (keyAt k) k2 (fun c hc => (plain_byte (by have := k3 c hc; omega)).1), wb_last _ hd (fun c hc => (plain_byte (by have := dec_digs v c hc; omega)).1)]
theorem set_no10 {k : Nat} (v : Nat) (h : k < 8) : (10 : UInt8) ∉ setLine k v := by
  obtain ⟨_, k2, k3, _⟩ := key_facts h
  have hs : ∀ c ∈ kSet, 36 ≤ c.toNat := by decide
  unfold setLine
  intro hm
  rcases List.mem_append.1 hm with hm | hm
  · exact (plain_byte (hs _ hm)).2.2 rfl
  · rcases List.mem_cons.1 hm with hm | hm
    · revert hm; decide
    · rcases List.mem_append.1 hm with hm | hm
      · have := k3 _ hm; revert this; decide
      · rcases List.mem_cons.1 hm with hm | hm
        · revert hm; decide
        · have := dec_digs v _ hm; revert this; decide
/-- The values that the text comes to: the first ones, one of them another. -/
def valsAt (k : Nat) (x : Int) : List Int := (untold valS).set k x
theorem right_set {k v : Nat} (h : k < 8) : rightV valS (valsAt k v) = !badV k v := by
  unfold badV lowAt highAt valsAt
  rcases eight h with rfl | rfl | rfl | rfl | rfl | rfl | rfl | rfl <;>
    (rw [Bool.eq_iff_iff]; simp [rightV, valS, untold]; try omega)
theorem sb_set {k : Nat} (h : k < 8) (x : Int) (v : Nat) (hv : v < 2000000) : lineP (sbC (valsAt k x)) (setLine k v) = if badV k v = true then .error 12 else .ok (sbC (valsAt k v)) := by
  have hp : putP valS (valsAt k x) (keyAt k) (Vs.dec v) = some (valsAt k v) := by
    unfold putP
    rw [(key_facts h).1, readNum_dec v hv]
    simp [valsAt]
  unfold lineP
  rw [set_words v h]
  show setP (sbC (valsAt k x)) [keyAt k, Vs.dec v] = _
  unfold setP
  simp only
  rw [show (sbC (valsAt k x)).vals = valsAt k x from rfl, hp]
  simp only
  rw [right_set h]
  cases badV k v <;> rfl
theorem line_empty (c : Cfg) : lineP c [] = .ok c := by
  have h : words (Vs.upTo 35 []) = [] := by decide +kernel
  unfold lineP
  rw [h]
  rfl
theorem sets_lines {k : Nat} (h : k < 8) : ∀ (vs : List Nat) (n : Nat) (x : Int), (∀ v ∈ vs, v < 2000000) → 0 < n →
    linesP n (sbC (valsAt k x)) (lines (setText k vs)) = if badAt k vs n = 0 then .ok (sbC (valsAt k (lastV vs x))) else .error (12, badAt k vs n)
  | [], n, x, _, _ => by
    show linesP n _ (lines []) = _
    rw [show lines [] = [[]] from rfl, linesP_cons, line_empty]
    simp only [linesP_nil]
    rfl
  | v :: vs, n, x, hv, hn => by
    have e : setText k (v :: vs) = setLine k v ++ 10 :: setText k vs := by unfold setText; rw [List.flatMap_cons]; simp
    rw [e, lines_cons _ _ (set_no10 v h), linesP_cons, sb_set h x v (hv v (by simp)), badAt]
    cases hb : badV k v with
    | true => simp only [if_true]; rw [if_neg (by omega)]
    | false =>
      simp only [Bool.false_eq_true, if_false]
      rw [sets_lines h vs (n + 1) v (fun u hu => hv u (by simp [hu])) (by omega)]
      have el : lastV vs (v : Int) = lastV (v :: vs) x := by
        unfold lastV
        cases vs with
        | nil => rfl
        | cons u us =>
          rw [List.getLast?_cons_cons]
          cases hl : (u :: us).getLast? with
          | none => rw [List.getLast?_eq_none_iff] at hl; cases hl
          | some y => rfl
      rw [el]
theorem sb_right {k : Nat} (h : k < 8) (x : Int) (hr : rightV valS (valsAt k x) = true) : rightC (sbC (valsAt k x)) = !(decide (k = 4) && decide (x > 256)) := by
  have h1 : rightNodesP (sbC (valsAt k x)) = true := by
    have : rightNodesP (sbC (valsAt k x)) = rightNodesP (sbC []) := rfl
    rw [this]; decide +kernel
  have h2 : rightPartsP (sbC (valsAt k x)) = true := by
    have : rightPartsP (sbC (valsAt k x)) = rightPartsP (sbC []) := rfl
    rw [this]; decide +kernel
  have h3 : rightQosP (sbC (valsAt k x)) = true := by
    have : rightQosP (sbC (valsAt k x)) = rightQosP (sbC []) := rfl
    rw [this]; decide +kernel
  unfold rightC
  rw [h1, h2, h3, show (sbC (valsAt k x)).vals = valsAt k x from rfl, hr]
  simp only [Bool.and_self, Bool.true_and]
  rcases eight h with rfl | rfl | rfl | rfl | rfl | rfl | rfl | rfl
  · rfl
  · rfl
  · rfl
  · rfl
  · have h4 : minCap (valsAt 4 x) = decide (x ≤ 256) := rfl
    rw [h4, Bool.eq_iff_iff]
    simp
  · have h5 : minCap (valsAt 5 x) = decide (0 ≤ x) := rfl
    have hr5 : 1 ≤ x := by
      simp [valsAt, untold, valS, rightV] at hr
      exact hr.1
    rw [h5]
    simp
    omega
  · rfl
  · rfl
theorem badAt_ok {k : Nat} : ∀ (vs : List Nat) (n : Nat), 0 < n → badAt k vs n = 0 → ∀ v ∈ vs, badV k v = false
  | [], _, _, _, v, hv => by cases hv
  | u :: vs, n, hn, h, v, hv => by
    rw [badAt] at h
    cases hb : badV k u with
    | true => rw [hb, if_pos rfl] at h; omega
    | false =>
      rw [hb, if_neg (by decide)] at h
      rcases List.mem_cons.1 hv with rfl | hv
      · exact hb
      · exact badAt_ok vs (n + 1) (by omega) h v hv
theorem badAt_snoc {k : Nat} : ∀ (vs : List Nat) (v n : Nat), 0 < n → badAt k (vs ++ [v]) n = if badAt k vs n = 0 then (if badV k v = true then n + vs.length else 0) else badAt k vs n
  | [], v, n, _ => by simp [badAt]
  | u :: vs, v, n, hn => by
    rw [List.cons_append, badAt, badAt]
    cases badV k u with
    | true => simp only [if_true]; rw [if_neg (by omega)]
    | false =>
      simp only [Bool.false_eq_true, if_false]
      rw [badAt_snoc vs v (n + 1) (by omega), List.length_cons, show n + 1 + vs.length = n + (vs.length + 1) by omega]
theorem lastV_snoc (vs : List Nat) (v : Nat) (x : Int) : lastV (vs ++ [v]) x = v := by
  unfold lastV; rw [List.getLast?_append]; rfl
/-- What the whole text comes to. -/
theorem sets_parse {k : Nat} (h : k < 8) (vs : List Nat) (hv : ∀ v ∈ vs, v < 2000000) (hl : vs.length ≤ 30) :
    parseC (sbText ++ setText k vs) = if badAt k vs 4 = 0 then (if k = 4 ∧ lastV vs (-1) > 256 then (noCfg, 12, 0) else (sbC (valsAt k (lastV vs ((untold valS).getD k 0))), 0, 0)) else (noCfg, 12, badAt k vs 4) := by
  have hlen : ∀ us : List Nat, (∀ v ∈ us, v < 2000000) → (setText k us).length ≤ us.length * 21 := by
    intro us
    induction us with
    | nil => intro _; simp [setText]
    | cons u us ih =>
      intro hu
      have := ih (fun v hv => hu v (by simp [hv]))
      have e : setText k (u :: us) = setLine k u ++ 10 :: setText k us := by unfold setText; rw [List.flatMap_cons]; simp
      have k7 := (key_facts h).2.2.2
      have d7 := dec_len7 7 u (by have := hu u (by simp); omega) (by omega)
      rw [e, List.length_append, List.length_cons, List.length_cons]
      unfold setLine
      rw [List.length_append, List.length_cons, List.length_append, List.length_cons]
      have : kSet.length = 3 := rfl
      omega
  have h64 := hlen vs hv
  have hsl : sbText.length = 36 := by decide
  have hx : valsAt k ((untold valS).getD k 0) = untold valS := by
    unfold valsAt
    rcases eight h with rfl | rfl | rfl | rfl | rfl | rfl | rfl | rfl <;> rfl
  have e : lines (sbText ++ setText k vs) = sbL1 :: sbL2 :: sbL3 :: lines (setText k vs) := by
    have : sbText ++ setText k vs = sbL1 ++ 10 :: (sbL2 ++ 10 :: (sbL3 ++ 10 :: setText k vs)) := by simp [sbText]
    rw [this, lines_cons _ _ (by decide), lines_cons _ _ (by decide), lines_cons _ _ (by decide)]
  have l3 : lineP (sbC (untold valS)) sbL3 = .ok (sbC (untold valS)) := by
    have h1 : words (Vs.upTo 35 sbL3) = [kSet, kCap, [50, 53, 54]] := by decide +kernel
    have h2 : putP valS (untold valS) kCap [50, 53, 54] = some (untold valS) := by decide +kernel
    have h3 : rightV valS (untold valS) = true := by decide +kernel
    unfold lineP
    rw [h1]
    show setP (sbC (untold valS)) [kCap, [50, 53, 54]] = _
    unfold setP
    simp only
    rw [show (sbC (untold valS)).vals = untold valS from rfl, h2]
    simp only
    rw [if_pos h3]
    rfl
  have hs := sets_lines h vs 4 ((untold valS).getD k 0) hv (by decide)
  rw [hx] at hs
  unfold parseC
  rw [if_neg (by rw [List.length_append]; omega), e, linesP_cons, sb_line1]
  simp only
  rw [linesP_cons, sb_line2]
  simp only
  rw [linesP_cons, l3]
  simp only
  rw [hs]
  by_cases hb : badAt k vs 4 = 0
  · rw [if_pos hb, if_pos hb]
    simp only
    have hok := badAt_ok vs 4 (by decide) hb
    by_cases hn : vs = []
    · subst hn
      have hr : rightV valS (untold valS) = true := by decide +kernel
      have q := sb_right h ((untold valS).getD k 0) (by rw [hx]; exact hr)
      rw [show lastV [] ((untold valS).getD k 0) = (untold valS).getD k 0 from rfl, q, show lastV [] (-1) = -1 from rfl]
      rw [if_pos (show (!(decide (k = 4) && decide ((untold valS).getD k 0 > 256))) = true from by rcases eight h with rfl | rfl | rfl | rfl | rfl | rfl | rfl | rfl <;> decide), if_neg (show ¬ (k = 4 ∧ (-1 : Int) > 256) from by omega)]
    · obtain ⟨us, u, rfl⟩ : ∃ us u, vs = us ++ [u] := by
        rcases List.eq_nil_or_concat vs with h | ⟨us, u, h⟩
        · exact absurd h hn
        · exact ⟨us, u, by rw [h, List.concat_eq_append]⟩
      rw [lastV_snoc, lastV_snoc]
      have hu := hok u (by simp)
      have hr : rightV valS (valsAt k u) = true := by rw [right_set h, hu]; rfl
      rw [sb_right h u hr]
      by_cases h4 : k = 4 ∧ (u : Int) > 256
      · rw [if_pos h4, if_neg]
        simp only [Bool.not_eq_true', Bool.and_eq_false_iff, decide_eq_false_iff_not]
        omega
      · rw [if_neg h4, if_pos]
        simp only [Bool.not_eq_true', Bool.and_eq_false_iff, decide_eq_false_iff_not]
        omega
  · rw [if_neg hb, if_neg hb]
end Go.Proofs.YtghnpkpmgpbmcaaGreatDoor
/-
  The statements' own digits; the keys.
-/
namespace Go.Proofs.YtghnpkpmgpbmcaaGreatDoor
open Go.RowKit Go.Shelf Vs

theorem conv_dig (w : World) (u : Nat) (hu : u < 10) (g : Nat) (hg : g = w.heap.size) : (convert 125 9 (.slice (some ⟨g, 0, none⟩) 1 1)).run Tryz.prog (w.alloc (.cells #[.int .u8 (48 + (u : Int))] 5)) = .ok (.string (str [UInt8.ofNat (48 + u)])) (w.alloc (.cells #[.int .u8 (48 + (u : Int))] 5)) := by
  subst hg
  refine run_convert_bytes_back _ 125 9 5 ⟨w.heap.size, 0, none⟩ 1 [UInt8.ofNat (48 + u)] Tryz.underlying125 Tryz.underlying5 Tryz.underlying9 (fun j hj => ?_)
  have : j = 0 := by simpa using hj
  subst this
  have e : ((UInt8.ofNat (48 + u)).toNat : Int) = 48 + (u : Int) := by rw [UInt8.toNat_ofNat']; omega
  have hh := heap_alloc_new w (.cells #[.int .u8 (48 + (u : Int))] 5)
  rw [List.getElem_singleton, e]
  generalize (48 + (u : Int)) = x at *
  generalize w.alloc (.cells #[.int .u8 x] 5) = w' at *
  simp [World.cell?, Addr.add, hh]
theorem dec_two {u : Nat} (h : ¬ u < 10) : str (dec (u / 10)) ++ str (dec (u % 10)) = str (dec u) := by
  rw [str_app, dec_big h, dec_small (u := u % 10) (by omega)]
set_option maxRecDepth 100000 in
set_option maxHeartbeats 1000000 in
theorem digits_one (u : Nat) (w : World) (h10 : u < 10) : Calls Tryz.prog 30 #[.int .i64 (u : Int)] w fun e w' => e = .returned (.string (str (dec u))) ∧ Below w.heap.size w w' := by
  have hcv := conv_dig w u h10 w.heap.size rfl
  have hE := fhid (show str [UInt8.ofNat (48 + u)] = str (dec u) by rw [dec_small h10])
  have i0 : (0 : Int) ≤ u := by omega
  have i1 : (u : Int) < 10 := by omega
  generalize str [UInt8.ofNat (48 + u)] = C at *
  generalize (u : Int) = n at *
  go_enter Tryz.func30, Tryz.ntmps30
  go_wp2_with fail
  go_ret
  exact ⟨frets hE.out, (Below.refl _ _).alloc (Nat.le_refl _) _⟩
set_option maxRecDepth 100000 in
set_option maxHeartbeats 1000000 in
theorem digits_rec (k : Nat) : ∀ (u : Nat) (ni : Int) (w : World), ni = u → u ≤ k → u ≤ 1000000000 → Calls Tryz.prog 30 #[.int .i64 ni] w fun e w' => e = .returned (.string (str (dec u))) ∧ Below w.heap.size w w' := by
  induction k with
  | zero =>
    rintro u ni w rfl hk hb
    exact digits_one u w (by omega)
  | succ k ih =>
    rintro u ni w rfl hk hb
    have i0 : (0 : Int) ≤ u := by omega
    have i3 : (u : Int) ≤ 1000000000 := by omega
    by_cases h10 : u < 10
    · exact digits_one u w h10
    · have i1 : ¬ (u : Int) < 10 := by omega
      have h1 := fun (ni : Int) W (h : ni = ((u / 10 : Nat) : Int)) => ih (u / 10) ni W h (by omega) (by omega)
      have h2 := fun (ni : Int) W (h : ni = ((u % 10 : Nat) : Int)) => ih (u % 10) ni W h (by omega) (by omega)
      have q := dec_two h10
      have l1 : (dec (u / 10)).length ≤ 10 := dec_len7 10 _ (by omega) (by omega)
      have l2 : (dec (u % 10)).length ≤ 10 := dec_len7 10 _ (by omega) (by omega)
      have hN : ¬ 9223372036854775807 < (str (dec (u / 10))).size + (str (dec (u % 10))).size := by rw [str_size, str_size]; omega
      clear l1 l2 ih
      generalize str (dec (u / 10)) = S1 at *
      generalize str (dec (u % 10)) = S2 at *
      generalize str (dec u) = S at *
      go_enter Tryz.func30, Tryz.ntmps30
      go_wp2_with fail
      refine (h1 _ _ (by omega)).mono ?_
      rintro e w1 ⟨rfl, b1⟩
      go_wp2_with fail
      refine (h2 _ _ (by omega)).mono ?_
      rintro e w2 ⟨rfl, b2⟩
      go_wp2_with fail
      go_ret
      exact ⟨rfl, b1.trans (b2.mono b1.size)⟩
def keysL : List Str := [kSuspend, kBoot, kStop, kHalf, kMin, kCap, kRate, kRetry]
set_option maxRecDepth 100000 in
theorem keys_any (w : World) : Calls Tryz.prog 29 #[] w fun e w' => ∃ g, e = .returned (.slice (some ⟨g, 0, none⟩) 8 8) ∧ w.heap.size ≤ g ∧ Box w' g 9 (SV keysL) ∧ Below w.heap.size w w' := by
  go_enter Tryz.func29, Tryz.ntmps29
  go_wp2_with fail
  go_ret
  exact ⟨w.heap.size, rfl, Nat.le_refl _, Box.new w _ _, (Below.refl _ _).alloc (Nat.le_refl _) _⟩
end Go.Proofs.YtghnpkpmgpbmcaaGreatDoor
/-
  The statements' config made into the program's.
-/
namespace Go.Proofs.YtghnpkpmgpbmcaaGreatDoor
open Go.RowKit Go.Shelf Vs

abbrev TRConf : TypeId := 38
abbrev TRPart : TypeId := 94
abbrev TRQos : TypeId := 53
abbrev TVals : TypeId := 36
theorem FX.below {X : Nat → Prop} {w w' : World} {B : Nat} (h : FX X w w') (hX : ∀ k, X k → B ≤ k) (hB : B ≤ w.heap.size) : Below B w w' :=
  ⟨h.os, h.tape, h.output, h.size, fun i hi => h.block i (Nat.lt_of_lt_of_le hi hB) (fun hx => by have := hX i hx; omega)⟩
theorem FX.box {X : Nat → Prop} {w w' : World} {b : Nat} {T : TypeId} {cs : List Value} (h : FX X w w') (hb : Box w b T cs) (hx : ¬ X b) : Box w' b T cs := fx_at h hb hx
theorem own_fx {X : Nat → Prop} {w w' : World} {base : Nat} {e : TypeId} {size n : Nat} {v : Value} {xs : List Value} (h : w.ownsRow base e size v n xs) (hf : FX X w w') (hr : ∀ k, v.ownBlock = some k → ¬ X k) : w'.ownsRow base e size v n xs := by
  refine ⟨h.1, ?_⟩
  rcases h.2 with ⟨rfl, hn⟩ | ⟨g, cap, cur, rfl, hb, hh, rest⟩
  · exact .inl ⟨rfl, hn⟩
  · exact .inr ⟨g, cap, cur, rfl, hb, (hf.block g (Array.getElem?_eq_some_iff.1 hh).1 (hr g rfl)).trans hh, rest⟩
theorem fill_box {W : World} {b : Nat} {T : TypeId} {z0 z1 z2 z3 z4 z5 z6 z7 z8 z9 z10 z11 : Value} (h : Box W b T [z0, z1, z2, z3, z4, z5, z6, z7, z8, z9, z10, z11]) (v0 v1 v2 v3 v4 v5 v6 v7 v8 v9 v10 v11 : Value) :
    Box ((((((((((((W.setCell ⟨b, 0, none⟩ v0).setCell ⟨b, 1, none⟩ v1).setCell ⟨b, 2, none⟩ v2).setCell ⟨b, 3, none⟩ v3).setCell ⟨b, 4, none⟩ v4).setCell ⟨b, 5, none⟩ v5).setCell ⟨b, 6, none⟩ v6).setCell ⟨b, 7, none⟩ v7).setCell ⟨b, 8, none⟩ v8).setCell ⟨b, 9, none⟩ v9).setCell ⟨b, 10, none⟩ v10).setCell ⟨b, 11, none⟩ v11) b T [v0, v1, v2, v3, v4, v5, v6, v7, v8, v9, v10, v11] := by
  have q := h.set 0 v0
  replace q := q.set 1 v1
  replace q := q.set 2 v2
  replace q := q.set 3 v3
  replace q := q.set 4 v4
  replace q := q.set 5 v5
  replace q := q.set 6 v6
  replace q := q.set 7 v7
  replace q := q.set 8 v8
  replace q := q.set 9 v9
  replace q := q.set 10 v10
  replace q := q.set 11 v11
  exact q
theorem fill_fx {X : Nat → Prop} {W0 W : World} {b : Nat} (h : FX X W0 W) (hb : X b) (v0 v1 v2 v3 v4 v5 v6 v7 v8 v9 v10 v11 : Value) :
    FX X W0 ((((((((((((W.setCell ⟨b, 0, none⟩ v0).setCell ⟨b, 1, none⟩ v1).setCell ⟨b, 2, none⟩ v2).setCell ⟨b, 3, none⟩ v3).setCell ⟨b, 4, none⟩ v4).setCell ⟨b, 5, none⟩ v5).setCell ⟨b, 6, none⟩ v6).setCell ⟨b, 7, none⟩ v7).setCell ⟨b, 8, none⟩ v8).setCell ⟨b, 9, none⟩ v9).setCell ⟨b, 10, none⟩ v10).setCell ⟨b, 11, none⟩ v11) :=
  (((((((((((h.set hb 0 v0).set hb 1 v1).set hb 2 v2).set hb 3 v3).set hb 4 v4).set hb 5 v5).set hb 6 v6).set hb 7 v7).set hb 8 v8).set hb 9 v9).set hb 10 v10).set hb 11 v11
theorem four_boxes (w : World) (T1 T2 T3 T4 : TypeId) (c1 c2 c3 c4 : List Value) : ∃ W, W = ((((w.alloc (.cells c1.toArray T1)).alloc (.cells c2.toArray T2)).alloc (.cells c3.toArray T3)).alloc (.cells c4.toArray T4)) ∧ Box W w.heap.size T1 c1 ∧ Box W (w.heap.size + 1) T2 c2 ∧ Box W (w.heap.size + 1 + 1) T3 c3 ∧ Box W (w.heap.size + 1 + 1 + 1) T4 c4 ∧ Below w.heap.size w W ∧ W.heap.size = w.heap.size + 1 + 1 + 1 + 1 := by
  have hn : ∀ (u : World) (o : Obj) (k : Nat), u.heap.size = k → (u.alloc o).heap[k]? = some o ∧ (u.alloc o).heap.size = k + 1 := fun u o k h => by subst h; exact ⟨heap_alloc_new u o, by simp⟩
  have ho : ∀ (u : World) (o : Obj) (k : Nat) (c : Option Obj), k < u.heap.size → u.heap[k]? = c → (u.alloc o).heap[k]? = c := fun u o k c hk h => (Below.heap_alloc u o k hk).trans h
  obtain ⟨a1, z1⟩ := hn w (.cells c1.toArray T1) _ rfl
  obtain ⟨a2, z2⟩ := hn _ (.cells c2.toArray T2) _ z1
  obtain ⟨a3, z3⟩ := hn _ (.cells c3.toArray T3) _ z2
  obtain ⟨a4, z4⟩ := hn _ (.cells c4.toArray T4) _ z3
  exact ⟨_, rfl, ho _ _ _ _ (by omega) (ho _ _ _ _ (by omega) (ho _ _ _ _ (by omega) a1)), ho _ _ _ _ (by omega) (ho _ _ _ _ (by omega) a2), ho _ _ _ _ (by omega) a3, a4, ((((Below.refl _ _).alloc (Nat.le_refl _) _).alloc (by omega) _).alloc (by omega) _).alloc (by omega) _, z4⟩
/-- What a call that makes a config comes to. -/
def ConfP (w : World) (c : Cfg) (e : Ending) (w' : World) : Prop := ∃ v, e = .returned v ∧ CR w' v c ∧ Below w.heap.size w w'
/-- The block of the call's own that turns. -/
def At3 (b : Nat) (k : Nat) : Prop := k = b
/-- Between two rounds of the loop over partitions, and of that over qualities. -/
def TI (T : TypeId) (w1 : World) (b base : Nat) (ps : List PartC) (vN vV vQ : Value) (us : List Value) (e : TypeId) (k : Nat) (wr : World) : Prop :=
  ∃ A cap, Box wr b T ([vN, vV, .slice A k cap, vQ] ++ us) ∧ wr.ownsRow base e 8 (.slice A k cap) k (PVs (ps.take k)) ∧ FX (At3 b) w1 wr
def TJ (T : TypeId) (w1 : World) (b base : Nat) (qs : List QosC) (vN vV vP : Value) (us : List Value) (e : TypeId) (k : Nat) (wr : World) : Prop :=
  ∃ A cap, Box wr b T ([vN, vV, vP, .slice A k cap] ++ us) ∧ wr.ownsRow base e 3 (.slice A k cap) k (QVs (qs.take k)) ∧ FX (At3 b) w1 wr
/-- One more of a row of partitions, of whichever type. -/
theorem more_part {T e Ts : TypeId} {w1 wr Wb : World} {b base k g : Nat} {ps : List PartC} {vN vV vQ : Value} {us : List Value} {A : Option Addr} {cap : Nat} (hTe : T ≠ e)
    (hTs : Tryz.prog.underlying Ts = some (.slice e)) (hinfo : (Tryz.prog.info? e).map (fun i => (i.zero, i.size, i.bytes)) = some (some (.agg #[.string ⟨#[]⟩, .int .u64 0, .int .u64 0, .int .u64 0, .int .u64 0, .int .i64 0, .int .i64 0, .int .i64 0]), 8, 72))
    (hk : k < ps.length) (hk60 : ps.length ≤ 60) (hx : Box wr b T ([vN, vV, .slice A k cap, vQ] ++ us)) (ho : wr.ownsRow base e 8 (.slice A k cap) k (PVs (ps.take k))) (hf : FX (At3 b) w1 wr) (hb : Below wr.heap.size wr Wb)
    (hb1 : w1.heap.size ≤ base) (hb2 : base ≤ Wb.heap.size) (hg : Box Wb g e (partV ps[k])) (ty : TypeId) :
    ∃ A' c' w7, (Builtin.append_ #[Ts, Ts] ty #[.slice A k cap, .slice (some ⟨g, 0, none⟩) 1 1]).run Tryz.prog Wb = .ok (.slice A' (k + 1) c') w7 ∧ Box w7 b T ([vN, vV, .slice A k cap, vQ] ++ us) ∧ TI T w1 b base ps vN vV vQ us e (k + 1) (w7.setCell ⟨b, 2, none⟩ (.slice A' (k + 1) c')) := by
  have o2 := ownsRow_below ho hb
  have x2 : Box Wb b T ([vN, vV, .slice A k cap, vQ] ++ us) := Box.below hx hb (Box.lt hx)
  obtain ⟨v', w', h1, h2, h3, h4⟩ := app_run (w := Wb) Ts e _ 8 72 hTs hinfo rfl (by decide) ty base (.slice A k cap) k (PVs (ps.take k)) o2 Wb.heap.size (some ⟨g, 0, none⟩) 1 1 (partV ps[k]) (fun _ => ⟨g, 0, rfl, Box.lt hg, fun j hj => by rw [Nat.zero_add, Box.cell hg]; exact List.getElem?_eq_getElem hj⟩) rfl (part_one _) (by omega) (by omega) hb2
  obtain ⟨A', c', rfl, -, -, -⟩ := ownsRow_shape h2
  have x7 := Box.grown x2 h3 (own_tag o2 x2 hTe)
  have t : ps.take (k + 1) = ps.take k ++ [ps[k]] := List.take_succ_eq_append_getElem hk
  refine ⟨A', c', w', h1, x7, A', c', Box.set x7 2 _, ?_, ((hf.on hb).step h3 fun j e => .inr (Nat.le_trans hb1 (ownsRow_ge o2 j e))).set rfl 2 _⟩
  rw [t, PVs_app]
  exact own_set h2 x7 hTe 2 _
theorem more_qos {T e Ts : TypeId} {w1 wr Wb : World} {b base k g : Nat} {qs : List QosC} {vN vV vP : Value} {us : List Value} {A : Option Addr} {cap : Nat} (hTe : T ≠ e)
    (hTs : Tryz.prog.underlying Ts = some (.slice e)) (hinfo : (Tryz.prog.info? e).map (fun i => (i.zero, i.size, i.bytes)) = some (some (.agg #[.string ⟨#[]⟩, .int .i64 0, .int .i64 0]), 3, 32))
    (hk : k < qs.length) (hk60 : qs.length ≤ 60) (hx : Box wr b T ([vN, vV, vP, .slice A k cap] ++ us)) (ho : wr.ownsRow base e 3 (.slice A k cap) k (QVs (qs.take k))) (hf : FX (At3 b) w1 wr) (hb : Below wr.heap.size wr Wb)
    (hb1 : w1.heap.size ≤ base) (hb2 : base ≤ Wb.heap.size) (hg : Box Wb g e (qosV qs[k])) (ty : TypeId) :
    ∃ A' c' w7, (Builtin.append_ #[Ts, Ts] ty #[.slice A k cap, .slice (some ⟨g, 0, none⟩) 1 1]).run Tryz.prog Wb = .ok (.slice A' (k + 1) c') w7 ∧ Box w7 b T ([vN, vV, vP, .slice A k cap] ++ us) ∧ TJ T w1 b base qs vN vV vP us e (k + 1) (w7.setCell ⟨b, 3, none⟩ (.slice A' (k + 1) c')) := by
  have o2 := ownsRow_below ho hb
  have x2 : Box Wb b T ([vN, vV, vP, .slice A k cap] ++ us) := Box.below hx hb (Box.lt hx)
  obtain ⟨v', w', h1, h2, h3, h4⟩ := app_run (w := Wb) Ts e _ 3 32 hTs hinfo rfl (by decide) ty base (.slice A k cap) k (QVs (qs.take k)) o2 Wb.heap.size (some ⟨g, 0, none⟩) 1 1 (qosV qs[k]) (fun _ => ⟨g, 0, rfl, Box.lt hg, fun j hj => by rw [Nat.zero_add, Box.cell hg]; exact List.getElem?_eq_getElem hj⟩) rfl (qos_one _) (by omega) (by omega) hb2
  obtain ⟨A', c', rfl, -, -, -⟩ := ownsRow_shape h2
  have x7 := Box.grown x2 h3 (own_tag o2 x2 hTe)
  have t : qs.take (k + 1) = qs.take k ++ [qs[k]] := List.take_succ_eq_append_getElem hk
  refine ⟨A', c', w', h1, x7, A', c', Box.set x7 3 _, ?_, ((hf.on hb).step h3 fun j e => .inr (Nat.le_trans hb1 (ownsRow_ge o2 j e))).set rfl 3 _⟩
  rw [t, QVs_app]
  exact own_set h2 x7 hTe 3 _
theorem alloc2 (w : World) (T1 T2 : TypeId) (c1 c2 : List Value) : Below w.heap.size w ((w.alloc (.cells c1.toArray T1)).alloc (.cells c2.toArray T2)) ∧ Box ((w.alloc (.cells c1.toArray T1)).alloc (.cells c2.toArray T2)) (w.heap.size + 1) T2 c2 ∧ ((w.alloc (.cells c1.toArray T1)).alloc (.cells c2.toArray T2)).heap.size = w.heap.size + 2 := by
  refine ⟨((Below.refl _ _).alloc (Nat.le_refl _) _).alloc (by simp) _, ?_, by simp⟩
  have := Box.new (w.alloc (.cells c1.toArray T1)) T2 c2
  rwa [World.size_alloc] at this
set_option maxRecDepth 100000 in
set_option maxHeartbeats 16000000 in
theorem theirs_any (v : Value) (c : Cfg) (w : World) (h : CR w v c) (hp : c.parts.length ≤ 60) (hq : c.qos.length ≤ 60) : Calls Tryz.prog 15 #[v] w (ConfP w c) := by
  obtain ⟨AN, cN, AV, cV, AP, cP, AQ, cQ, a0, a1, a2, a3, a4, a5, a6, a7, rfl, ev, r1, r2, r3, r4⟩ := h
  have hE := fhid (show ∀ (W : World) (AP' AQ' : Option Addr) (cP' cQ' : Nat), Below w.heap.size w W → RdS W AP' c.parts.length cP' (PVs c.parts) → RdS W AQ' c.qos.length cQ' (QVs c.qos) → ConfP w c (.returned (.agg #[.slice AN c.names.length cN, .slice AV c.vecs.length cV, .slice AP' c.parts.length cP', .slice AQ' c.qos.length cQ', .int .i64 a0, .int .i64 a1, .int .i64 a2, .int .i64 a3, .int .i64 a4, .int .i64 a5, .int .i64 a6, .int .i64 a7])) W from
    fun W AP' AQ' cP' cQ' hb h3 h4 => ⟨_, rfl, ⟨AN, cN, AV, cV, AP', cP', AQ', cQ', a0, a1, a2, a3, a4, a5, a6, a7, rfl, ev, r1.below hb, r2.below hb, h3, h4⟩, hb⟩)
  generalize ConfP w c = P at *
  clear r1 r2 ev
  generalize c.names.length = nN at *
  generalize c.vecs.length = nV at *
  generalize c.parts = ps at *
  generalize c.qos = qs at *
  have e3 := r3.1
  have e4 := r4.1
  obtain ⟨w1, hw1, X0, X2, -, X4, B1, hz1⟩ := four_boxes w TRConf TConf TVals TConf [.slice AN nN cN, .slice AV nV cV, .slice AP ps.length cP, .slice AQ qs.length cQ, .int .i64 a0, .int .i64 a1, .int .i64 a2, .int .i64 a3, .int .i64 a4, .int .i64 a5, .int .i64 a6, .int .i64 a7] zeros12 [.int .i64 a0, .int .i64 a1, .int .i64 a2, .int .i64 a3, .int .i64 a4, .int .i64 a5, .int .i64 a6, .int .i64 a7] [.slice AN nN cN, .slice AV nV cV, .slice none 0 0, .slice none 0 0, .int .i64 a0, .int .i64 a1, .int .i64 a2, .int .i64 a3, .int .i64 a4, .int .i64 a5, .int .i64 a6, .int .i64 a7]
  have h0 := fhid (show TI TConf w1 (w.heap.size + 1 + 1 + 1) w1.heap.size ps (.slice AN nN cN) (.slice AV nV cV) (.slice none 0 0) [.int .i64 a0, .int .i64 a1, .int .i64 a2, .int .i64 a3, .int .i64 a4, .int .i64 a5, .int .i64 a6, .int .i64 a7] TPart 0 w1 from
    ⟨none, 0, X4, World.ownsRow_nil _ _ _ _, FX.of (Below.refl _ _)⟩)
  replace hw1 := fhid hw1
  replace hz1 := fhid hz1
  go_enter Tryz.func15, Tryz.ntmps15
  go_upto_region 3 with fail
  rw [← hw1.out]
  clear hw1
  obtain ⟨y0, y1, y2, y3, -⟩ := Box.twelve X0
  have xl := Box.lt X0
  replace X2 := fhid X2
  replace X4 := fhid X4
  replace r3 := fhid r3
  replace r4 := fhid r4
  go_wp2
  go_loopw [35] (fun i wr => ∃ k : Nat, k ≤ ps.length ∧ i = .int .i64 k ∧ TI TConf w1 (w.heap.size + 1 + 1 + 1) w1.heap.size ps (.slice AN nN cN) (.slice AV nV cV) (.slice none 0 0) [.int .i64 a0, .int .i64 a1, .int .i64 a2, .int .i64 a3, .int .i64 a4, .int .i64 a5, .int .i64 a6, .int .i64 a7] TPart k wr) (fun i _ => ps.length - (intOf i).toNat)
  case atStart => exact ⟨0, Nat.zero_le _, rfl, h0.out⟩
  case round =>
    obtain ⟨k, hk, rfl, A, cap, Xr, O, F⟩ := hrel
    have Bw := B1.trans (F.below (B := w.heap.size) (fun j hj => by unfold At3 at hj; omega) B1.size)
    have X0r := F.box X0 (by unfold At3; omega)
    obtain ⟨y0', y1', y2', y3', -⟩ := Box.twelve X0r
    have xl' := Box.lt X0r
    have i0 : (0 : Int) ≤ k := by omega
    by_cases hlt : k < ps.length
    · have i1 : (k : Int) < ps.length := by omega
      obtain ⟨pb, po, rfl, hpb, e0, e1, e2, e3', e4', e5, e6, e7⟩ := RdS.part r3.out hlt
      have g0 := (Bw.cell (p := ⟨pb, po + k * 8, none⟩) hpb).trans e0
      have g1 := (Bw.cell (p := ⟨pb, po + k * 8 + 1, none⟩) hpb).trans e1
      have g2 := (Bw.cell (p := ⟨pb, po + k * 8 + 2, none⟩) hpb).trans e2
      have g3 := (Bw.cell (p := ⟨pb, po + k * 8 + 3, none⟩) hpb).trans e3'
      have g4 := (Bw.cell (p := ⟨pb, po + k * 8 + 4, none⟩) hpb).trans e4'
      have g5 := (Bw.cell (p := ⟨pb, po + k * 8 + 5, none⟩) hpb).trans e5
      have g6 := (Bw.cell (p := ⟨pb, po + k * 8 + 6, none⟩) hpb).trans e6
      have g7 := (Bw.cell (p := ⟨pb, po + k * 8 + 7, none⟩) hpb).trans e7
      have hpb' := Nat.lt_of_lt_of_le hpb Bw.size
      clear e0 e1 e2 e3' e4' e5 e6 e7
      obtain ⟨bA, XA, sA⟩ := alloc2 wr TRPart TPart (partV ps[k]) (partV ps[k])
      obtain ⟨A', c', w7, hap, x7, nx⟩ := more_part (T := TConf) (e := TPart) (Ts := TParts) (by decide) Tryz.underlying25 infoPart hlt hp Xr O F bA (Nat.le_refl _) (Nat.le_trans F.size bA.size) XA TParts
      have z0 : wr.cell? ⟨w.heap.size + 1 + 1 + 1, 2, none⟩ = some (.slice A k cap) := Box.cell Xr 2
      have zl := Box.lt Xr
      have z7 : w7.cell? ⟨w.heap.size + 1 + 1 + 1, 2, none⟩ = some (.slice A k cap) := Box.cell x7 2
      have f7 : w7.frozen? ⟨w.heap.size + 1 + 1 + 1, 2, none⟩ = false := Box.free x7 2
      have zl7 := Box.lt x7
      have hne : w.heap.size + 1 + 1 + 1 ≠ wr.heap.size := by omega
      have hne2 : w.heap.size + 1 + 1 + 1 ≠ wr.heap.size + 1 := by omega
      unfold partV at hap
      replace nx := fhid nx
      replace hap := fhid hap
      replace x7 := fhid x7
      replace XA := fhid XA
      replace bA := fhid bA
      replace O := fhid O
      replace F := fhid F
      replace Xr := fhid Xr
      replace X0r := fhid X0r
      replace Bw := fhid Bw
      replace sA := fhid sA
      generalize ps[k].max = q5 at *
      generalize ps[k].time = q6 at *
      generalize ps[k].prio = q7 at *
      generalize (Bs.word ps[k].nodes 0 : Int) = q1 at *
      generalize (Bs.word ps[k].nodes 1 : Int) = q2 at *
      generalize (Bs.word ps[k].nodes 2 : Int) = q3 at *
      generalize (Bs.word ps[k].nodes 3 : Int) = q4 at *
      generalize str ps[k].name = q0 at *
      go_wp2_with (at_builtin; refine wp_app TParts rfl (.tmp 40) (.tmp 52) rfl (.slice A k cap) (.slice (some ⟨wr.heap.size + 1, 0, none⟩) 1 1) rfl rfl (.slice A' (k + 1) c') w7 hap.out ?_)
      go_roundw
      case rel => exact ⟨k + 1, by omega, by go_num, nx.out⟩
      case measure => simp [intOf]; omega
    · obtain rfl : k = ps.length := by omega
      obtain ⟨w2, rfl⟩ : ∃ w2 : World, w2 = wr := ⟨_, rfl⟩
      rw [List.take_of_length_le (Nat.le_refl _)] at O
      have hn3 := O.2
      obtain ⟨A2', cap2', e2', R2⟩ := ownsRow_shape O
      injection e2' with e2a _ e2c
      subst e2a
      subst e2c
      have tg := own_tag O Xr (by decide)
      have h02 := fhid (show TJ TConf w2 (w.heap.size + 1 + 1 + 1) w2.heap.size qs (.slice AN nN cN) (.slice AV nV cV) (.slice A ps.length cap) [.int .i64 a0, .int .i64 a1, .int .i64 a2, .int .i64 a3, .int .i64 a4, .int .i64 a5, .int .i64 a6, .int .i64 a7] TQos 0 w2 from
        ⟨none, 0, Xr, World.ownsRow_nil _ _ _ _, FX.of (Below.refl _ _)⟩)
      have X2r := fhid (F.box X2.out (by unfold At3; omega))
      replace O := fhid O
      replace F := fhid F
      replace Xr := fhid Xr
      replace Bw := fhid Bw
      replace tg := fhid tg
      clear R2 hn3
      go_wp2
      go_loopw [59] (fun i wr => ∃ k : Nat, k ≤ qs.length ∧ i = .int .i64 k ∧ TJ TConf w2 (w.heap.size + 1 + 1 + 1) w2.heap.size qs (.slice AN nN cN) (.slice AV nV cV) (.slice A ps.length cap) [.int .i64 a0, .int .i64 a1, .int .i64 a2, .int .i64 a3, .int .i64 a4, .int .i64 a5, .int .i64 a6, .int .i64 a7] TQos k wr) (fun i _ => qs.length - (intOf i).toNat)
      case atStart => exact ⟨0, Nat.zero_le _, rfl, h02.out⟩
      case round =>
        obtain ⟨k, hk, rfl, AJ, capJ, XJ, OJ, FJ⟩ := hrel
        have Bj := Bw.out.trans (FJ.below (B := w.heap.size) (fun j hj => by unfold At3 at hj; omega) Bw.out.size)
        have i0 : (0 : Int) ≤ k := by omega
        by_cases hlt : k < qs.length
        · have i1 : (k : Int) < qs.length := by omega
          obtain ⟨pb, po, rfl, hpb, e0, e1, e2⟩ := RdS.qos r4.out hlt
          have g0 := (Bj.cell (p := ⟨pb, po + k * 3, none⟩) hpb).trans e0
          have g1 := (Bj.cell (p := ⟨pb, po + k * 3 + 1, none⟩) hpb).trans e1
          have g2 := (Bj.cell (p := ⟨pb, po + k * 3 + 2, none⟩) hpb).trans e2
          have hpb' := Nat.lt_of_lt_of_le hpb Bj.size
          clear e0 e1 e2
          obtain ⟨bA, XA, sA⟩ := alloc2 wr TRQos TQos (qosV qs[k]) (qosV qs[k])
          obtain ⟨A', c', w7, hap, x7, nx⟩ := more_qos (T := TConf) (e := TQos) (Ts := TQoss) (by decide) Tryz.underlying26 infoQos hlt hq XJ OJ FJ bA (Nat.le_refl _) (Nat.le_trans FJ.size bA.size) XA TQoss
          have z0 : wr.cell? ⟨w.heap.size + 1 + 1 + 1, 3, none⟩ = some (.slice AJ k capJ) := Box.cell XJ 3
          have zl := Box.lt XJ
          have z7 : w7.cell? ⟨w.heap.size + 1 + 1 + 1, 3, none⟩ = some (.slice AJ k capJ) := Box.cell x7 3
          have f7 : w7.frozen? ⟨w.heap.size + 1 + 1 + 1, 3, none⟩ = false := Box.free x7 3
          have zl7 := Box.lt x7
          have hne : w.heap.size + 1 + 1 + 1 ≠ wr.heap.size := by omega
          have hne2 : w.heap.size + 1 + 1 + 1 ≠ wr.heap.size + 1 := by omega
          unfold qosV at hap
          replace nx := fhid nx
          replace hap := fhid hap
          replace x7 := fhid x7
          replace XA := fhid XA
          replace bA := fhid bA
          replace OJ := fhid OJ
          replace FJ := fhid FJ
          replace XJ := fhid XJ
          replace Bj := fhid Bj
          replace sA := fhid sA
          generalize qs[k].max = q2 at *
          generalize qs[k].prio = q1 at *
          generalize str qs[k].name = q0 at *
          go_wp2_with (at_builtin; refine wp_app TQoss rfl (.tmp 64) (.tmp 72) rfl (.slice AJ k capJ) (.slice (some ⟨wr.heap.size + 1, 0, none⟩) 1 1) rfl rfl (.slice A' (k + 1) c') w7 hap.out ?_)
          go_roundw
          case rel => exact ⟨k + 1, by omega, by go_num, nx.out⟩
          case measure => simp [intOf]; omega
        · obtain rfl : k = qs.length := by omega
          rw [List.take_of_length_le (Nat.le_refl _)] at OJ
          have X2s := FJ.box X2r.out (by unfold At3; omega)
          have OP := own_fx O.out FJ (fun j hj => fun e => tg.out (by unfold At3 at e; rw [hj, e]))
          obtain ⟨_, _, p1, P1⟩ := ownsRow_shape OP
          injection p1 with p1a _ p1c
          subst p1a
          subst p1c
          obtain ⟨_, _, p2, P2⟩ := ownsRow_shape OJ
          injection p2 with p2a _ p2c
          subst p2a
          subst p2c
          obtain ⟨c0, c1, c2, c3, c4, c5, c6, c7, c8, c9, c10, c11⟩ := Box.twelve XJ
          have zl := Box.lt XJ
          have rl := Box.lt X2s
          have fr := Box.free X2s
          obtain ⟨d0, d1, d2, d3, d4, d5, d6, d7, d8, d9, d10, d11⟩ := Box.twelve X2s
          have XQ := fhid (fill_box X2s (.slice AN nN cN) (.slice AV nV cV) (.slice A ps.length cap) (.slice AJ qs.length capJ) (.int .i64 a0) (.int .i64 a1) (.int .i64 a2) (.int .i64 a3) (.int .i64 a4) (.int .i64 a5) (.int .i64 a6) (.int .i64 a7))
          have FQ := fill_fx (FX.of (X := At3 (w.heap.size + 1)) (Below.refl wr.heap.size wr)) rfl (.slice AN nN cN) (.slice AV nV cV) (.slice A ps.length cap) (.slice AJ qs.length capJ) (.int .i64 a0) (.int .i64 a1) (.int .i64 a2) (.int .i64 a3) (.int .i64 a4) (.int .i64 a5) (.int .i64 a6) (.int .i64 a7)
          replace FQ := fhid FQ
          replace X2s := fhid X2s
          replace XJ := fhid XJ
          replace P1 := fhid P1
          replace P2 := fhid P2
          replace OP := fhid OP
          replace OJ := fhid OJ
          replace FJ := fhid FJ
          go_wp2
          generalize World.setCell (World.setCell (World.setCell (World.setCell (World.setCell (World.setCell (World.setCell (World.setCell (World.setCell (World.setCell (World.setCell (World.setCell _ _ _) _ _) _ _) _ _) _ _) _ _) _ _) _ _) _ _) _ _) _ _) _ _ = W6 at *
          have q12 := Box.twelve XQ.out
          obtain ⟨u0, u1, u2, u3, u4, u5, u6, u7, u8, u9, u10, u11⟩ := q12
          have B6 : Below w.heap.size w W6 := Bj.trans (FQ.out.below (B := w.heap.size) (fun j hj => by unfold At3 at hj; omega) Bj.size)
          refine bodyPost_ret (v := .agg #[.slice AN nN cN, .slice AV nV cV, .slice A ps.length cap, .slice AJ qs.length capJ, .int .i64 a0, .int .i64 a1, .int .i64 a2, .int .i64 a3, .int .i64 a4, .int .i64 a5, .int .i64 a6, .int .i64 a7]) (by simp [results, Tryz.results15, go_sem, u0, u1, u2, u3, u4, u5, u6, u7, u8, u9, u10, u11]) rfl (hE.out W6 _ _ _ _ B6 ?_ ?_)
          · obtain ⟨_, _, p3, P3⟩ := ownsRow_shape (own_fx OP.out FQ.out (fun j hj e => by have := ownsRow_ge OP.out j hj; have := hz1.out; unfold At3 at e; omega))
            injection p3 with p3a _ p3c
            subst p3a
            subst p3c
            exact P3
          · obtain ⟨_, _, p3, P3⟩ := ownsRow_shape (own_fx OJ.out FQ.out (fun j hj e => by have := ownsRow_ge OJ.out j hj; have := hz1.out; have := F.out.size; unfold At3 at e; omega))
            injection p3 with p3a _ p3c
            subst p3a
            subst p3c
            exact P3
end Go.Proofs.YtghnpkpmgpbmcaaGreatDoor
/-
  The program's config made into the statements'.
-/
namespace Go.Proofs.YtghnpkpmgpbmcaaGreatDoor
open Go.RowKit Go.Shelf Vs

abbrev TRParts : TypeId := 34
abbrev TRQoss : TypeId := 35
theorem infoRPart : (Tryz.prog.info? TRPart).map (fun i => (i.zero, i.size, i.bytes)) = some (some (.agg #[.string ⟨#[]⟩, .int .u64 0, .int .u64 0, .int .u64 0, .int .u64 0, .int .i64 0, .int .i64 0, .int .i64 0]), 8, 72) := by kernel_rfl
theorem infoRQos : (Tryz.prog.info? TRQos).map (fun i => (i.zero, i.size, i.bytes)) = some (some (.agg #[.string ⟨#[]⟩, .int .i64 0, .int .i64 0]), 3, 32) := by kernel_rfl
theorem three_boxes (w : World) (T1 T2 T3 : TypeId) (c1 c2 c3 : List Value) : ∃ W, W = (((w.alloc (.cells c1.toArray T1)).alloc (.cells c2.toArray T2)).alloc (.cells c3.toArray T3)) ∧ Box W w.heap.size T1 c1 ∧ Box W (w.heap.size + 1) T2 c2 ∧ Box W (w.heap.size + 1 + 1) T3 c3 ∧ Below w.heap.size w W ∧ W.heap.size = w.heap.size + 1 + 1 + 1 := by
  have hn : ∀ (u : World) (o : Obj) (k : Nat), u.heap.size = k → (u.alloc o).heap[k]? = some o ∧ (u.alloc o).heap.size = k + 1 := fun u o k h => by subst h; exact ⟨heap_alloc_new u o, by simp⟩
  have ho : ∀ (u : World) (o : Obj) (k : Nat) (c : Option Obj), k < u.heap.size → u.heap[k]? = c → (u.alloc o).heap[k]? = c := fun u o k c hk h => (Below.heap_alloc u o k hk).trans h
  obtain ⟨a1, z1⟩ := hn w (.cells c1.toArray T1) _ rfl
  obtain ⟨a2, z2⟩ := hn _ (.cells c2.toArray T2) _ z1
  obtain ⟨a3, z3⟩ := hn _ (.cells c3.toArray T3) _ z2
  exact ⟨_, rfl, ho _ _ _ _ (by omega) (ho _ _ _ _ (by omega) a1), ho _ _ _ _ (by omega) a2, a3, (((Below.refl _ _).alloc (Nat.le_refl _) _).alloc (by omega) _).alloc (by omega) _, z3⟩
set_option maxRecDepth 100000 in
set_option maxHeartbeats 16000000 in
theorem ours_any (v : Value) (c : Cfg) (w : World) (h : CR w v c) (hp : c.parts.length ≤ 60) (hq : c.qos.length ≤ 60) : Calls Tryz.prog 12 #[v] w (ConfP w c) := by
  obtain ⟨AN, cN, AV, cV, AP, cP, AQ, cQ, a0, a1, a2, a3, a4, a5, a6, a7, rfl, ev, r1, r2, r3, r4⟩ := h
  have hE := fhid (show ∀ (W : World) (AP' AQ' : Option Addr) (cP' cQ' : Nat), Below w.heap.size w W → RdS W AP' c.parts.length cP' (PVs c.parts) → RdS W AQ' c.qos.length cQ' (QVs c.qos) → ConfP w c (.returned (.agg #[.slice AN c.names.length cN, .slice AV c.vecs.length cV, .slice AP' c.parts.length cP', .slice AQ' c.qos.length cQ', .int .i64 a0, .int .i64 a1, .int .i64 a2, .int .i64 a3, .int .i64 a4, .int .i64 a5, .int .i64 a6, .int .i64 a7])) W from
    fun W AP' AQ' cP' cQ' hb h3 h4 => ⟨_, rfl, ⟨AN, cN, AV, cV, AP', cP', AQ', cQ', a0, a1, a2, a3, a4, a5, a6, a7, rfl, ev, r1.below hb, r2.below hb, h3, h4⟩, hb⟩)
  generalize ConfP w c = P at *
  clear r1 r2 ev
  generalize c.names.length = nN at *
  generalize c.vecs.length = nV at *
  generalize c.parts = ps at *
  generalize c.qos = qs at *
  have e3 := r3.1
  have e4 := r4.1
  obtain ⟨w1, hw1, X0, X2, X4, B1, hz1⟩ := three_boxes w TConf TRConf TRConf [.slice AN nN cN, .slice AV nV cV, .slice AP ps.length cP, .slice AQ qs.length cQ, .int .i64 a0, .int .i64 a1, .int .i64 a2, .int .i64 a3, .int .i64 a4, .int .i64 a5, .int .i64 a6, .int .i64 a7] zeros12 [.slice AN nN cN, .slice AV nV cV, .slice none 0 0, .slice none 0 0, .int .i64 a0, .int .i64 a1, .int .i64 a2, .int .i64 a3, .int .i64 a4, .int .i64 a5, .int .i64 a6, .int .i64 a7]
  have h0 := fhid (show TI TRConf w1 (w.heap.size + 1 + 1) w1.heap.size ps (.slice AN nN cN) (.slice AV nV cV) (.slice none 0 0) [.int .i64 a0, .int .i64 a1, .int .i64 a2, .int .i64 a3, .int .i64 a4, .int .i64 a5, .int .i64 a6, .int .i64 a7] TRPart 0 w1 from
    ⟨none, 0, X4, World.ownsRow_nil _ _ _ _, FX.of (Below.refl _ _)⟩)
  replace hw1 := fhid hw1
  replace hz1 := fhid hz1
  go_enter Tryz.func12, Tryz.ntmps12
  go_upto_region 2 with fail
  rw [← hw1.out]
  clear hw1
  obtain ⟨y0, y1, y2, y3, -⟩ := Box.twelve X0
  have xl := Box.lt X0
  replace X2 := fhid X2
  replace X4 := fhid X4
  replace r3 := fhid r3
  replace r4 := fhid r4
  go_wp2
  go_loopw [33] (fun i wr => ∃ k : Nat, k ≤ ps.length ∧ i = .int .i64 k ∧ TI TRConf w1 (w.heap.size + 1 + 1) w1.heap.size ps (.slice AN nN cN) (.slice AV nV cV) (.slice none 0 0) [.int .i64 a0, .int .i64 a1, .int .i64 a2, .int .i64 a3, .int .i64 a4, .int .i64 a5, .int .i64 a6, .int .i64 a7] TRPart k wr) (fun i _ => ps.length - (intOf i).toNat)
  case atStart => exact ⟨0, Nat.zero_le _, rfl, h0.out⟩
  case round =>
    obtain ⟨k, hk, rfl, A, cap, Xr, O, F⟩ := hrel
    have Bw := B1.trans (F.below (B := w.heap.size) (fun j hj => by unfold At3 at hj; omega) B1.size)
    have X0r := F.box X0 (by unfold At3; omega)
    obtain ⟨y0', y1', y2', y3', -⟩ := Box.twelve X0r
    have xl' := Box.lt X0r
    have i0 : (0 : Int) ≤ k := by omega
    by_cases hlt : k < ps.length
    · have i1 : (k : Int) < ps.length := by omega
      obtain ⟨pb, po, rfl, hpb, e0, e1, e2, e3', e4', e5, e6, e7⟩ := RdS.part r3.out hlt
      have g0 := (Bw.cell (p := ⟨pb, po + k * 8, none⟩) hpb).trans e0
      have g1 := (Bw.cell (p := ⟨pb, po + k * 8 + 1, none⟩) hpb).trans e1
      have g2 := (Bw.cell (p := ⟨pb, po + k * 8 + 2, none⟩) hpb).trans e2
      have g3 := (Bw.cell (p := ⟨pb, po + k * 8 + 3, none⟩) hpb).trans e3'
      have g4 := (Bw.cell (p := ⟨pb, po + k * 8 + 4, none⟩) hpb).trans e4'
      have g5 := (Bw.cell (p := ⟨pb, po + k * 8 + 5, none⟩) hpb).trans e5
      have g6 := (Bw.cell (p := ⟨pb, po + k * 8 + 6, none⟩) hpb).trans e6
      have g7 := (Bw.cell (p := ⟨pb, po + k * 8 + 7, none⟩) hpb).trans e7
      have hpb' := Nat.lt_of_lt_of_le hpb Bw.size
      clear e0 e1 e2 e3' e4' e5 e6 e7
      obtain ⟨bA, XA, sA⟩ := alloc2 wr TPart TRPart (partV ps[k]) (partV ps[k])
      obtain ⟨A', c', w7, hap, x7, nx⟩ := more_part (T := TRConf) (e := TRPart) (Ts := TRParts) (by decide) Tryz.underlying34 infoRPart hlt hp Xr O F bA (Nat.le_refl _) (Nat.le_trans F.size bA.size) XA TRParts
      have z0 : wr.cell? ⟨w.heap.size + 1 + 1, 2, none⟩ = some (.slice A k cap) := Box.cell Xr 2
      have zl := Box.lt Xr
      have z7 : w7.cell? ⟨w.heap.size + 1 + 1, 2, none⟩ = some (.slice A k cap) := Box.cell x7 2
      have f7 : w7.frozen? ⟨w.heap.size + 1 + 1, 2, none⟩ = false := Box.free x7 2
      have zl7 := Box.lt x7
      have hne : w.heap.size + 1 + 1 ≠ wr.heap.size := by omega
      have hne2 : w.heap.size + 1 + 1 ≠ wr.heap.size + 1 := by omega
      unfold partV at hap
      replace nx := fhid nx
      replace hap := fhid hap
      replace x7 := fhid x7
      replace XA := fhid XA
      replace bA := fhid bA
      replace O := fhid O
      replace F := fhid F
      replace Xr := fhid Xr
      replace X0r := fhid X0r
      replace Bw := fhid Bw
      replace sA := fhid sA
      generalize ps[k].max = q5 at *
      generalize ps[k].time = q6 at *
      generalize ps[k].prio = q7 at *
      generalize (Bs.word ps[k].nodes 0 : Int) = q1 at *
      generalize (Bs.word ps[k].nodes 1 : Int) = q2 at *
      generalize (Bs.word ps[k].nodes 2 : Int) = q3 at *
      generalize (Bs.word ps[k].nodes 3 : Int) = q4 at *
      generalize str ps[k].name = q0 at *
      go_wp2_with (at_builtin; refine wp_app TRParts rfl (.tmp 38) (.tmp 50) rfl (.slice A k cap) (.slice (some ⟨wr.heap.size + 1, 0, none⟩) 1 1) rfl rfl (.slice A' (k + 1) c') w7 hap.out ?_)
      go_roundw
      case rel => exact ⟨k + 1, by omega, by go_num, nx.out⟩
      case measure => simp [intOf]; omega
    · obtain rfl : k = ps.length := by omega
      obtain ⟨w2, rfl⟩ : ∃ w2 : World, w2 = wr := ⟨_, rfl⟩
      rw [List.take_of_length_le (Nat.le_refl _)] at O
      have hn3 := O.2
      obtain ⟨A2', cap2', e2', R2⟩ := ownsRow_shape O
      injection e2' with e2a _ e2c
      subst e2a
      subst e2c
      have tg := own_tag O Xr (by decide)
      have h02 := fhid (show TJ TRConf w2 (w.heap.size + 1 + 1) w2.heap.size qs (.slice AN nN cN) (.slice AV nV cV) (.slice A ps.length cap) [.int .i64 a0, .int .i64 a1, .int .i64 a2, .int .i64 a3, .int .i64 a4, .int .i64 a5, .int .i64 a6, .int .i64 a7] TRQos 0 w2 from
        ⟨none, 0, Xr, World.ownsRow_nil _ _ _ _, FX.of (Below.refl _ _)⟩)
      have X2r := fhid (F.box X2.out (by unfold At3; omega))
      replace O := fhid O
      replace F := fhid F
      replace Xr := fhid Xr
      replace Bw := fhid Bw
      replace tg := fhid tg
      clear R2 hn3
      go_wp2
      go_loopw [57] (fun i wr => ∃ k : Nat, k ≤ qs.length ∧ i = .int .i64 k ∧ TJ TRConf w2 (w.heap.size + 1 + 1) w2.heap.size qs (.slice AN nN cN) (.slice AV nV cV) (.slice A ps.length cap) [.int .i64 a0, .int .i64 a1, .int .i64 a2, .int .i64 a3, .int .i64 a4, .int .i64 a5, .int .i64 a6, .int .i64 a7] TRQos k wr) (fun i _ => qs.length - (intOf i).toNat)
      case atStart => exact ⟨0, Nat.zero_le _, rfl, h02.out⟩
      case round =>
        obtain ⟨k, hk, rfl, AJ, capJ, XJ, OJ, FJ⟩ := hrel
        have Bj := Bw.out.trans (FJ.below (B := w.heap.size) (fun j hj => by unfold At3 at hj; omega) Bw.out.size)
        have i0 : (0 : Int) ≤ k := by omega
        by_cases hlt : k < qs.length
        · have i1 : (k : Int) < qs.length := by omega
          obtain ⟨pb, po, rfl, hpb, e0, e1, e2⟩ := RdS.qos r4.out hlt
          have g0 := (Bj.cell (p := ⟨pb, po + k * 3, none⟩) hpb).trans e0
          have g1 := (Bj.cell (p := ⟨pb, po + k * 3 + 1, none⟩) hpb).trans e1
          have g2 := (Bj.cell (p := ⟨pb, po + k * 3 + 2, none⟩) hpb).trans e2
          have hpb' := Nat.lt_of_lt_of_le hpb Bj.size
          clear e0 e1 e2
          obtain ⟨bA, XA, sA⟩ := alloc2 wr TQos TRQos (qosV qs[k]) (qosV qs[k])
          obtain ⟨A', c', w7, hap, x7, nx⟩ := more_qos (T := TRConf) (e := TRQos) (Ts := TRQoss) (by decide) Tryz.underlying35 infoRQos hlt hq XJ OJ FJ bA (Nat.le_refl _) (Nat.le_trans FJ.size bA.size) XA TRQoss
          have z0 : wr.cell? ⟨w.heap.size + 1 + 1, 3, none⟩ = some (.slice AJ k capJ) := Box.cell XJ 3
          have zl := Box.lt XJ
          have z7 : w7.cell? ⟨w.heap.size + 1 + 1, 3, none⟩ = some (.slice AJ k capJ) := Box.cell x7 3
          have f7 : w7.frozen? ⟨w.heap.size + 1 + 1, 3, none⟩ = false := Box.free x7 3
          have zl7 := Box.lt x7
          have hne : w.heap.size + 1 + 1 ≠ wr.heap.size := by omega
          have hne2 : w.heap.size + 1 + 1 ≠ wr.heap.size + 1 := by omega
          unfold qosV at hap
          replace nx := fhid nx
          replace hap := fhid hap
          replace x7 := fhid x7
          replace XA := fhid XA
          replace bA := fhid bA
          replace OJ := fhid OJ
          replace FJ := fhid FJ
          replace XJ := fhid XJ
          replace Bj := fhid Bj
          replace sA := fhid sA
          generalize qs[k].max = q2 at *
          generalize qs[k].prio = q1 at *
          generalize str qs[k].name = q0 at *
          go_wp2_with (at_builtin; refine wp_app TRQoss rfl (.tmp 62) (.tmp 70) rfl (.slice AJ k capJ) (.slice (some ⟨wr.heap.size + 1, 0, none⟩) 1 1) rfl rfl (.slice A' (k + 1) c') w7 hap.out ?_)
          go_roundw
          case rel => exact ⟨k + 1, by omega, by go_num, nx.out⟩
          case measure => simp [intOf]; omega
        · obtain rfl : k = qs.length := by omega
          rw [List.take_of_length_le (Nat.le_refl _)] at OJ
          have X2s := FJ.box X2r.out (by unfold At3; omega)
          have OP := own_fx O.out FJ (fun j hj => fun e => tg.out (by unfold At3 at e; rw [hj, e]))
          obtain ⟨_, _, p1, P1⟩ := ownsRow_shape OP
          injection p1 with p1a _ p1c
          subst p1a
          subst p1c
          obtain ⟨_, _, p2, P2⟩ := ownsRow_shape OJ
          injection p2 with p2a _ p2c
          subst p2a
          subst p2c
          obtain ⟨c0, c1, c2, c3, c4, c5, c6, c7, c8, c9, c10, c11⟩ := Box.twelve XJ
          have zl := Box.lt XJ
          have rl := Box.lt X2s
          have fr := Box.free X2s
          obtain ⟨d0, d1, d2, d3, d4, d5, d6, d7, d8, d9, d10, d11⟩ := Box.twelve X2s
          have XQ := fhid (fill_box X2s (.slice AN nN cN) (.slice AV nV cV) (.slice A ps.length cap) (.slice AJ qs.length capJ) (.int .i64 a0) (.int .i64 a1) (.int .i64 a2) (.int .i64 a3) (.int .i64 a4) (.int .i64 a5) (.int .i64 a6) (.int .i64 a7))
          have FQ := fill_fx (FX.of (X := At3 (w.heap.size + 1)) (Below.refl wr.heap.size wr)) rfl (.slice AN nN cN) (.slice AV nV cV) (.slice A ps.length cap) (.slice AJ qs.length capJ) (.int .i64 a0) (.int .i64 a1) (.int .i64 a2) (.int .i64 a3) (.int .i64 a4) (.int .i64 a5) (.int .i64 a6) (.int .i64 a7)
          replace FQ := fhid FQ
          replace X2s := fhid X2s
          replace XJ := fhid XJ
          replace P1 := fhid P1
          replace P2 := fhid P2
          replace OP := fhid OP
          replace OJ := fhid OJ
          replace FJ := fhid FJ
          go_wp2
          generalize World.setCell (World.setCell (World.setCell (World.setCell (World.setCell (World.setCell (World.setCell (World.setCell (World.setCell (World.setCell (World.setCell (World.setCell _ _ _) _ _) _ _) _ _) _ _) _ _) _ _) _ _) _ _) _ _) _ _) _ _ = W6 at *
          have q12 := Box.twelve XQ.out
          obtain ⟨u0, u1, u2, u3, u4, u5, u6, u7, u8, u9, u10, u11⟩ := q12
          have B6 : Below w.heap.size w W6 := Bj.trans (FQ.out.below (B := w.heap.size) (fun j hj => by unfold At3 at hj; omega) Bj.size)
          refine bodyPost_ret (v := .agg #[.slice AN nN cN, .slice AV nV cV, .slice A ps.length cap, .slice AJ qs.length capJ, .int .i64 a0, .int .i64 a1, .int .i64 a2, .int .i64 a3, .int .i64 a4, .int .i64 a5, .int .i64 a6, .int .i64 a7]) (by simp [results, Tryz.results12, go_sem, u0, u1, u2, u3, u4, u5, u6, u7, u8, u9, u10, u11]) rfl (hE.out W6 _ _ _ _ B6 ?_ ?_)
          · obtain ⟨_, _, p3, P3⟩ := ownsRow_shape (own_fx OP.out FQ.out (fun j hj e => by have := ownsRow_ge OP.out j hj; have := hz1.out; unfold At3 at e; omega))
            injection p3 with p3a _ p3c
            subst p3a
            subst p3c
            exact P3
          · obtain ⟨_, _, p3, P3⟩ := ownsRow_shape (own_fx OJ.out FQ.out (fun j hj e => by have := ownsRow_ge OJ.out j hj; have := hz1.out; have := F.out.size; unfold At3 at e; omega))
            injection p3 with p3a _ p3c
            subst p3a
            subst p3c
            exact P3
end Go.Proofs.YtghnpkpmgpbmcaaGreatDoor
/-
  Whether a config is too large.
-/
namespace Go.Proofs.YtghnpkpmgpbmcaaGreatDoor
open Go.RowKit Go.Shelf Vs

def longN (l : List Str) : Bool := l.any fun s => decide (100 < s.length)
def farP (c : Cfg) : Bool := longN (c.names.take 300) || (decide (300 < c.names.length) || (decide (300 < c.vecs.length) || (decide (60 < c.parts.length) || decide (60 < c.qos.length))))
theorem longN_yes {l : List Str} {k m : Nat} (hk : k < l.length) (hm : k < m) (h : 100 < l[k].length) : longN (l.take m) = true := by
  unfold longN
  rw [List.any_eq_true]
  exact ⟨l[k], by rw [List.mem_take_iff_getElem]; exact ⟨k, by omega, rfl⟩, by simpa using h⟩
theorem longN_next {l : List Str} {k : Nat} (hk : k < l.length) (h : ¬ 100 < l[k].length) (h0 : longN (l.take k) = false) : longN (l.take (k + 1)) = false := by
  unfold longN at *
  rw [List.take_succ_eq_append_getElem hk, List.any_append, h0]
  simp; omega
theorem far_small {c : Cfg} (h : farP c = false) : c.names.length ≤ 300 ∧ c.vecs.length ≤ 300 ∧ c.parts.length ≤ 60 ∧ c.qos.length ≤ 60 := by
  unfold farP at h
  simp only [Bool.or_eq_false_iff, decide_eq_false_iff_not] at h
  omega
set_option maxRecDepth 100000 in
set_option maxHeartbeats 4000000 in
theorem far_any (v : Value) (c : Cfg) (w : World) (h : CR w v c) : Calls Tryz.prog 13 #[v] w (BoolP w (farP c)) := by
  obtain ⟨AN, cN, AV, cV, AP, cP, AQ, cQ, a0, a1, a2, a3, a4, a5, a6, a7, rfl, ev, r1, r2, r3, r4⟩ := h
  have hz := r1.1
  have hz2 : cN ≤ 9223372036854775807 := by have := r1.2.1; unfold maxLen at this; omega
  have hvz : c.vecs.length ≤ 9223372036854775807 := by have := r2.1; have := r2.2.1; unfold maxLen at this; omega
  have hpz : c.parts.length ≤ 9223372036854775807 := by have := r3.1; have := r3.2.1; unfold maxLen at this; omega
  have hqz : c.qos.length ≤ 9223372036854775807 := by have := r4.1; have := r4.2.1; unfold maxLen at this; omega
  have hcell := fun k (hk : k < c.names.length) => RdS.name r1 hk
  have hfar : farP c = (longN (c.names.take 300) || (decide (300 < c.names.length) || (decide (300 < c.vecs.length) || (decide (60 < c.parts.length) || decide (60 < c.qos.length))))) := rfl
  unfold BoolP
  generalize farP c = R at *
  generalize c.vecs.length = nV at *
  generalize c.parts.length = nP at *
  generalize c.qos.length = nQ at *
  generalize c.names = ns at *
  have X0 : Box (w.alloc (.cells #[.slice AN ns.length cN, .slice AV nV cV, .slice AP nP cP, .slice AQ nQ cQ, .int .i64 a0, .int .i64 a1, .int .i64 a2, .int .i64 a3, .int .i64 a4, .int .i64 a5, .int .i64 a6, .int .i64 a7] 38)) w.heap.size 38 [.slice AN ns.length cN, .slice AV nV cV, .slice AP nP cP, .slice AQ nQ cQ, .int .i64 a0, .int .i64 a1, .int .i64 a2, .int .i64 a3, .int .i64 a4, .int .i64 a5, .int .i64 a6, .int .i64 a7] := Box.new w _ _
  have B0 : Below w.heap.size w (w.alloc (.cells #[.slice AN ns.length cN, .slice AV nV cV, .slice AP nP cP, .slice AQ nQ cQ, .int .i64 a0, .int .i64 a1, .int .i64 a2, .int .i64 a3, .int .i64 a4, .int .i64 a5, .int .i64 a6, .int .i64 a7] 38)) := (Below.refl _ _).alloc (Nat.le_refl _) _
  clear r1 r2 r3 r4 ev
  replace hcell := fhid hcell
  replace hfar := fhid hfar
  obtain ⟨m, hm⟩ : ∃ m : Nat, m = min ns.length 300 := ⟨_, rfl⟩
  have hmx : ns.take m = ns.take 300 := by
    by_cases h : ns.length ≤ 300
    · rw [List.take_of_length_le h, List.take_of_length_le (by omega)]
    · rw [show m = 300 by omega]
  have hmi : min (ns.length : Int) 300 = (m : Int) := by omega
  have hm0 : m ≤ ns.length := by omega
  have hm3 : m ≤ 300 := by omega
  replace hmx := fhid hmx
  clear hm
  go_enter Tryz.func13, Tryz.ntmps13
  go_upto_region 1 with fail
  generalize w.alloc _ = w1 at *
  obtain ⟨y0, y1, y2, y3, -⟩ := Box.twelve X0
  have xl := Box.lt X0
  clear X0
  go_wp2
  go_loopw [13] (fun i wr => ∃ k : Nat, k ≤ m ∧ i = .int .i64 k ∧ Hid (longN (ns.take k) = false) ∧ w1 = wr) (fun i _ => m - (intOf i).toNat)
  case atStart => exact ⟨0, Nat.zero_le _, rfl, fhid rfl, rfl⟩
  case round =>
    obtain ⟨k, hk, rfl, hno, rfl⟩ := hrel
    have i0 : (0 : Int) ≤ k := by omega
    by_cases hlt : k < m
    · have i1 : (k : Int) < m := by omega
      have hkn : k < ns.length := by omega
      obtain ⟨bb, oo, rfl, hbb, hc0⟩ := hcell.out k hkn
      have hc := (B0.cell (p := ⟨bb, oo + k, none⟩) hbb).trans hc0
      have hsz := str_size ns[k]
      have hyes := fun h => fhid (longN_yes (m := 300) hkn (by omega) h)
      have hnext := fun h => fhid (longN_next hkn h hno.out)
      clear hc0
      generalize str ns[k] = S at *
      generalize ns[k].length = L at *
      subst hsz
      by_cases hL : 100 < S.size
      · have j1 : (S.size : Int) > 100 := by omega
        have E := hyes hL
        clear hyes hnext
        go_wp2
        go_ret
        exact ⟨fretb (by rw [hfar.out, E.out]; rfl), B0⟩
      · have j1 : ¬ (S.size : Int) > 100 := by omega
        have E := hnext hL
        clear hyes hnext
        go_wp2
        go_roundw
        case rel => exact ⟨k + 1, by omega, by go_num, E, trivial⟩
        case measure => simp [intOf]; omega
    · obtain rfl : k = m := by omega
      have hno2 := fhid (hno.out)
      have E := fhid (hfar.out.trans (by rw [← hmx.out, hno.out, Bool.false_or]))
      by_cases d1 : 300 < ns.length
      · have j1 : (ns.length : Int) > 300 := by omega
        go_wp2
        go_ret
        exact ⟨fretb (by rw [E.out, decide_eq_true d1]; rfl), B0⟩
      · have j1 : ¬ (ns.length : Int) > 300 := by omega
        by_cases d2 : 300 < nV
        · have j2 : (nV : Int) > 300 := by omega
          go_wp2
          go_ret
          exact ⟨fretb (by rw [E.out, decide_eq_true d2]; simp), B0⟩
        · have j2 : ¬ (nV : Int) > 300 := by omega
          by_cases d3 : 60 < nP
          · have j3 : (nP : Int) > 60 := by omega
            go_wp2
            go_ret
            exact ⟨fretb (by rw [E.out, decide_eq_true d3]; simp), B0⟩
          · have j3 : ¬ (nP : Int) > 60 := by omega
            by_cases d4 : 60 < nQ
            · have j4 : (nQ : Int) > 60 := by omega
              go_wp2
              go_ret
              exact ⟨fretb (by rw [E.out, decide_eq_true d4]; simp), B0⟩
            · have j4 : ¬ (nQ : Int) > 60 := by omega
              go_wp2
              go_ret
              exact ⟨fretb (by rw [E.out, decide_eq_false d1, decide_eq_false d2, decide_eq_false d3, decide_eq_false d4]; rfl), B0⟩
end Go.Proofs.YtghnpkpmgpbmcaaGreatDoor
