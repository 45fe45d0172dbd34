/-
  Parts: KWords KSetsM KDigits.
-/
import Derived.Test.YtmnmcikbbfcjcaaGreatDoorK1
import Derived.Lib.MapLaws
import Derived.Lib.DecodeN
import Derived.Test.YtmnmcikbbfcjcaaGreatDoorK5
import Derived.Laws.IdiomStrings
set_option linter.unusedSimpArgs false
set_option linter.unusedVariables false
/-
  A line's words, byte by byte.
-/
namespace Go.Proofs.YtmnmcikbbfcjcaaGreatDoor

def blankB (c : UInt8) : Bool := c == 32 || c == 9
/-- The words that bytes tell, behind what has come of one. -/
def wb : Option Str → Str → List Str
  | cur, [] => cur.toList
  | cur, c :: r => if blankB c = true then cur.toList ++ wb none r else wb (some (cur.getD [] ++ [c])) r
theorem wb_in : ∀ (x : Str) (cur : Option Str) (r : Str), x ≠ [] → (∀ c ∈ x, blankB c = false) → wb cur (x ++ r) = wb (some (cur.getD [] ++ x)) r
  | [], _, _, h, _ => absurd rfl h
  | c :: x, cur, r, _, hx => by
    rw [List.cons_append, wb, if_neg (by rw [hx c (by simp)]; decide)]
    by_cases h : x = []
    · subst h; rfl
    · rw [wb_in x _ r h (fun d hd => hx d (by simp [hd]))]
      simp
theorem get_at (l : Str) (i : Nat) (h : i < l.length) : (⟨l.toArray⟩ : ByteArray).get! i = l[i] := by
  simp [ByteArray.get!, h]
theorem blank_toNat (c : UInt8) : isBlankP c.toNat = blankB c := by
  unfold isBlankP blankB
  have h1 : (c.toNat == 32) = (c == 32) := by rw [Bool.eq_iff_iff]; simp [← UInt8.toNat_inj]
  have h2 : (c.toNat == 9) = (c == 9) := by rw [Bool.eq_iff_iff]; simp [← UInt8.toNat_inj]
  rw [h1, h2]
theorem blank_big {c : UInt8} (h : 128 ≤ c.toNat) : blankB c = false := by
  rw [← blank_toNat]; unfold isBlankP; simp; omega
/-- What is read at a place: how many bytes, and whether they are blank. -/
theorem rune_at (l : Str) (i : Nat) (h : i < l.length) : ∃ k, (Utf8.decode ⟨l.toArray⟩ i).2 = k ∧ 1 ≤ k ∧ i + k ≤ l.length ∧ isBlankP (Utf8.decode ⟨l.toArray⟩ i).1 = blankB l[i] ∧ (blankB l[i] = true → k = 1) ∧ ∀ j (hj : i + j < l.length), 0 < j → j < k → blankB l[i + j] = false := by
  have hz : (⟨l.toArray⟩ : ByteArray).size = l.length := by show l.toArray.size = _; simp
  rw [Lib.decode_at, hz, get_at l i h]
  have g := fun j (hj : i + j < l.length) => get_at l (i + j) hj
  rcases Lib.decodeN_shape (l.length - i) l[i].toNat ((⟨l.toArray⟩ : ByteArray).get! (i + 1)).toNat ((⟨l.toArray⟩ : ByteArray).get! (i + 2)).toNat ((⟨l.toArray⟩ : ByteArray).get! (i + 3)).toNat with ⟨h1, e⟩ | ⟨h1, h2, h3, h4, e⟩ | ⟨h1, h2, h3, h4, h5, h6, e⟩ | ⟨h1, h2, h3, h4, h5, h6, h7, e⟩ | e
  · rw [e]
    exact ⟨1, rfl, Nat.le_refl _, by omega, blank_toNat _, fun _ => rfl, fun j _ h1 h2 => by omega⟩
  · rw [e]
    have hb : blankB l[i] = false := blank_big (by omega)
    refine ⟨2, rfl, by omega, by omega, ?_, (fun hx => by rw [hb] at hx; cases hx), fun j hj h5 h6 => ?_⟩
    · rw [hb]; unfold isBlankP; simp; omega
    · obtain rfl : j = 1 := by omega
      rw [g 1 hj] at h3
      exact blank_big (by omega)
  · rw [e]
    have hb : blankB l[i] = false := blank_big (by omega)
    refine ⟨3, rfl, by omega, by omega, ?_, (fun hx => by rw [hb] at hx; cases hx), fun j hj h7 h8 => ?_⟩
    · rw [hb]; unfold isBlankP; simp; omega
    · rcases (by omega : j = 1 ∨ j = 2) with rfl | rfl
      · rw [g 1 hj] at h3
        exact blank_big (by omega)
      · rw [g 2 hj] at h4
        exact blank_big (by omega)
  · rw [e]
    have hb : blankB l[i] = false := blank_big (by omega)
    refine ⟨4, rfl, by omega, by omega, ?_, (fun hx => by rw [hb] at hx; cases hx), fun j hj h8 h9 => ?_⟩
    · rw [hb]; unfold isBlankP; simp; omega
    · rcases (by omega : j = 1 ∨ j = 2 ∨ j = 3) with rfl | rfl | rfl
      · rw [g 1 hj] at h3
        exact blank_big (by omega)
      · rw [g 2 hj] at h4
        exact blank_big (by omega)
      · rw [g 3 hj] at h5
        exact blank_big (by omega)
  · rw [e]
    by_cases h0 : l[i].toNat < 128
    · have e2 : Lib.decodeN (l.length - i) l[i].toNat ((⟨l.toArray⟩ : ByteArray).get! (i + 1)).toNat ((⟨l.toArray⟩ : ByteArray).get! (i + 2)).toNat ((⟨l.toArray⟩ : ByteArray).get! (i + 3)).toNat = (l[i].toNat, 1) := by
        unfold Lib.decodeN; rw [if_pos h0]
      rw [e] at e2
      injection e2 with e2 _
      omega
    · have hb : blankB l[i] = false := blank_big (by omega)
      exact ⟨1, rfl, by omega, by omega, by rw [hb]; rfl, fun _ => rfl, fun j _ h1 h2 => by omega⟩
theorem ext_list (l : Str) (a b : Nat) : ((⟨l.toArray⟩ : ByteArray).extract a b).data.toList = (l.drop a).take (b - a) := by
  simp [ByteArray.data_extract]
theorem spans_wb (l : Str) : ∀ (f pos : Nat) (st : Option Nat) (acc : List (Nat × Nat)), l.length ≤ pos + f → pos ≤ l.length → (∀ a, st = some a → a < pos) →
    (Lib.closeSpans ⟨l.toArray⟩ (Lib.spansFromP isBlankP ⟨l.toArray⟩ f pos st acc)).map (fun x => (l.drop x.1).take (x.2 - x.1)) = acc.map (fun x => (l.drop x.1).take (x.2 - x.1)) ++ wb (st.map fun a => (l.drop a).take (pos - a)) (l.drop pos)
  | 0, pos, st, acc, hf, hp, hs => by
    have hz : (⟨l.toArray⟩ : ByteArray).size = l.length := by show l.toArray.size = _; simp
    have e : l.drop pos = [] := List.drop_of_length_le (by omega)
    rw [e]
    unfold Lib.spansFromP Lib.closeSpans
    rw [hz, show l.length = pos by omega]
    cases st <;> simp [wb]
  | f + 1, pos, st, acc, hf, hp, hs => by
    have hz : (⟨l.toArray⟩ : ByteArray).size = l.length := by show l.toArray.size = _; simp
    unfold Lib.spansFromP
    rw [hz]
    by_cases hlt : pos < l.length
    · rw [if_pos hlt]
      obtain ⟨k, e1, h1, h2, h3, h4, h5⟩ := rune_at l pos hlt
      rw [e1, h3]
      have hd : l.drop pos = l[pos] :: l.drop (pos + 1) := List.drop_eq_getElem_cons hlt
      cases hb : blankB l[pos] with
      | true =>
        obtain rfl : k = 1 := h4 hb
        simp only [if_true]
        cases st with
        | none =>
          simp only
          rw [spans_wb l f (pos + 1) none acc (by omega) (by omega) (fun a h => by cases h), hd]
          simp [wb, hb]
        | some a =>
          simp only
          rw [spans_wb l f (pos + 1) none (acc ++ [(a, pos)]) (by omega) (by omega) (fun a h => by cases h), hd]
          simp [wb, hb]
      | false =>
        have hx : l.drop pos = (l.drop pos).take k ++ l.drop (pos + k) := by rw [← List.drop_drop, List.take_append_drop]
        have hn : (l.drop pos).take k ≠ [] := by
          intro e
          have := congrArg List.length e
          simp at this
          omega
        have hi : ∀ c ∈ (l.drop pos).take k, blankB c = false := by
          intro c hc
          obtain ⟨j, hj, rfl⟩ := List.getElem_of_mem hc
          simp at hj
          rw [List.getElem_take, List.getElem_drop]
          by_cases h0 : j = 0
          · subst h0; exact hb
          · exact h5 j (by omega) (by omega) (by omega)
        simp only [Bool.false_eq_true, if_false]
        cases st with
        | none =>
          simp only
          rw [spans_wb l f (pos + k) (some pos) acc (by omega) (by omega) (fun a h => by injection h with h; omega), hx, wb_in _ _ _ hn hi]
          simp [show pos + k - pos = k by omega]
        | some a =>
          have ha := hs a rfl
          simp only
          rw [spans_wb l f (pos + k) (some a) acc (by omega) (by omega) (fun a' h => by injection h with h; omega), hx, wb_in _ _ _ hn hi]
          have e : (l.drop a).take (pos + k - a) = (l.drop a).take (pos - a) ++ (l.drop pos).take k := by
            rw [show pos + k - a = (pos - a) + k by omega, List.take_add, List.drop_drop, show a + (pos - a) = pos by omega]
          simp [e]
    · rw [if_neg hlt]
      have e : l.drop pos = [] := List.drop_of_length_le (by omega)
      rw [e]
      unfold Lib.closeSpans
      rw [hz, show l.length = pos by omega]
      cases st <;> simp [wb]
theorem words_wb (l : Str) : words l = wb none l := by
  have hz : (⟨l.toArray⟩ : ByteArray).size = l.length := by show l.toArray.size = _; simp
  have h := spans_wb l l.length 0 none [] (by omega) (Nat.zero_le _) (fun a h => by cases h)
  unfold words Lib.goFieldsP Lib.spansOfP
  rw [hz, List.map_map]
  refine Eq.trans (List.map_congr_left fun x _ => ?_) (h.trans (by simp))
  exact ext_list l x.1 x.2
end Go.Proofs.YtmnmcikbbfcjcaaGreatDoor
/-
  ConfSets: the text that tells a value again and again, and what it comes to: plain.
-/
namespace Go.Proofs.YtmnmcikbbfcjcaaGreatDoor

theorem eight {k : Nat} (h : k < 8) : k = 0 ∨ k = 1 ∨ k = 2 ∨ k = 3 ∨ k = 4 ∨ k = 5 ∨ k = 6 ∨ k = 7 := by omega
end Go.Proofs.YtmnmcikbbfcjcaaGreatDoor
/-
  The statements' own digits; the keys.
-/
namespace Go.Proofs.YtmnmcikbbfcjcaaGreatDoor
open Go.RowKit Go.Shelf Vs

def keysL : List Str := [kSuspend, kBoot, kStop, kHalf, kMin, kCap, kRate, kRetry]
set_option maxRecDepth 100000 in
theorem keys_any (w : World) : Calls Tryz.prog 122 #[] w fun e w' => ∃ g, e = .returned (.slice (some ⟨g, 0, none⟩) 8 8) ∧ w.heap.size ≤ g ∧ Box w' g 9 (SV keysL) ∧ Below w.heap.size w w' := by
  go_enter Tryz.func122, Tryz.ntmps122
  go_wp2_with fail
  go_ret
  exact ⟨w.heap.size, rfl, Nat.le_refl _, Box.new w _ _, (Below.refl _ _).alloc (Nat.le_refl _) _⟩
end Go.Proofs.YtmnmcikbbfcjcaaGreatDoor
