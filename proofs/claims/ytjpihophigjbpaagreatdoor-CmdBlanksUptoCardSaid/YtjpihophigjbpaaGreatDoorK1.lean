/-
  Parts: KMath KWords KLeaf KSet KNums KUntold KPut KAft KFields.
-/
import Derived.Test.YtjpihophigjbpaaGreatDoorH1
import Derived.Test.YtjpihophigjbpaaGreatDoorV1
import Derived.Lib.FieldsP
import Derived.Lib.MapLaws
import Derived.Lib.DecodeN
import Derived.Test.YtjpihophigjbpaaGreatDoorH2
import Derived.Shelf.Strings.SlTrimAscii
import Derived.MapKept
import Derived.ChangeMaps5
import Derived.WideLaws
import Derived.BigRegion
import Derived.Deep.RegionLaw
import Derived.BigQuiet
set_option linter.unusedSimpArgs false
set_option linter.unusedVariables false
/-
  What a config is, and what its text tells, as plain functions.
-/
namespace Go.Proofs.YtjpihophigjbpaaGreatDoor

abbrev Str := List UInt8
def kTime : Str := [116, 105, 109, 101]
def kPart : Str := [112, 97, 114, 116]
def kQos : Str := [113, 111, 115]
def digCs : Str := [48, 49, 50, 51, 52, 53, 54, 55, 56, 57]
def nameCs : Str := [97, 98, 99, 100, 101, 102, 103, 104, 105, 106, 107, 108, 109, 110, 111, 112, 113, 114, 115, 116, 117, 118, 119, 120, 121, 122, 45, 95] ++ digCs
def isOfP (s : Str) (n : Nat) (cs : Str) : Bool := !s.isEmpty && decide (s.length ≤ n) && s.all (cs.contains ·)
def isNameP (s : Str) : Bool := isOfP s 16 nameCs
def readNumP (s : Str) : Option Nat := if isOfP s 7 digCs = true then some (Vs.dval s) else none
/-- The first place of a text among some. -/
def place (l : List Str) (s : Str) : Option Nat := l.findIdx? (· == s)
def isBlankP (r : Nat) : Bool := r == 32 || r == 9
def words (s : Str) : List Str := (Lib.goFieldsP isBlankP ⟨s.toArray⟩).map fun x => x.data.toList
def within (n : Nat) (p : Nat → Bool) : Bool := (List.range 256).all fun j => !p j || decide (j < n)
end Go.Proofs.YtjpihophigjbpaaGreatDoor
/-
  A line's words, byte by byte.
-/
namespace Go.Proofs.YtjpihophigjbpaaGreatDoor

def blankB (c : UInt8) : Bool := c == 32 || c == 9
/-- The words that bytes tell, behind what has come of one. -/
def wb : Option Str → Str → List Str
  | cur, [] => cur.toList
  | cur, c :: r => if blankB c = true then cur.toList ++ wb none r else wb (some (cur.getD [] ++ [c])) r
theorem wb_in : ∀ (x : Str) (cur : Option Str) (r : Str), x ≠ [] → (∀ c ∈ x, blankB c = false) → wb cur (x ++ r) = wb (some (cur.getD [] ++ x)) r
  | [], _, _, h, _ => absurd rfl h
  | c :: x, cur, r, _, hx => by
    rw [List.cons_append, wb, if_neg (by rw [hx c (by simp)]; decide)]
    by_cases h : x = []
    · subst h; rfl
    · rw [wb_in x _ r h (fun d hd => hx d (by simp [hd]))]
      simp
theorem get_at (l : Str) (i : Nat) (h : i < l.length) : (⟨l.toArray⟩ : ByteArray).get! i = l[i] := by
  simp [ByteArray.get!, h]
theorem blank_toNat (c : UInt8) : isBlankP c.toNat = blankB c := by
  unfold isBlankP blankB
  have h1 : (c.toNat == 32) = (c == 32) := by rw [Bool.eq_iff_iff]; simp [← UInt8.toNat_inj]
  have h2 : (c.toNat == 9) = (c == 9) := by rw [Bool.eq_iff_iff]; simp [← UInt8.toNat_inj]
  rw [h1, h2]
theorem blank_big {c : UInt8} (h : 128 ≤ c.toNat) : blankB c = false := by
  rw [← blank_toNat]; unfold isBlankP; simp; omega
/-- What is read at a place: how many bytes, and whether they are blank. -/
theorem rune_at (l : Str) (i : Nat) (h : i < l.length) : ∃ k, (Utf8.decode ⟨l.toArray⟩ i).2 = k ∧ 1 ≤ k ∧ i + k ≤ l.length ∧ isBlankP (Utf8.decode ⟨l.toArray⟩ i).1 = blankB l[i] ∧ (blankB l[i] = true → k = 1) ∧ ∀ j (hj : i + j < l.length), 0 < j → j < k → blankB l[i + j] = false := by
  have hz : (⟨l.toArray⟩ : ByteArray).size = l.length := by show l.toArray.size = _; simp
  rw [Lib.decode_at, hz, get_at l i h]
  have g := fun j (hj : i + j < l.length) => get_at l (i + j) hj
  rcases Lib.decodeN_shape (l.length - i) l[i].toNat ((⟨l.toArray⟩ : ByteArray).get! (i + 1)).toNat ((⟨l.toArray⟩ : ByteArray).get! (i + 2)).toNat ((⟨l.toArray⟩ : ByteArray).get! (i + 3)).toNat with ⟨h1, e⟩ | ⟨h1, h2, h3, h4, e⟩ | ⟨h1, h2, h3, h4, h5, h6, e⟩ | ⟨h1, h2, h3, h4, h5, h6, h7, e⟩ | e
  · rw [e]
    exact ⟨1, rfl, Nat.le_refl _, by omega, blank_toNat _, fun _ => rfl, fun j _ h1 h2 => by omega⟩
  · rw [e]
    have hb : blankB l[i] = false := blank_big (by omega)
    refine ⟨2, rfl, by omega, by omega, ?_, (fun hx => by rw [hb] at hx; cases hx), fun j hj h5 h6 => ?_⟩
    · rw [hb]; unfold isBlankP; simp; omega
    · obtain rfl : j = 1 := by omega
      rw [g 1 hj] at h3
      exact blank_big (by omega)
  · rw [e]
    have hb : blankB l[i] = false := blank_big (by omega)
    refine ⟨3, rfl, by omega, by omega, ?_, (fun hx => by rw [hb] at hx; cases hx), fun j hj h7 h8 => ?_⟩
    · rw [hb]; unfold isBlankP; simp; omega
    · rcases (by omega : j = 1 ∨ j = 2) with rfl | rfl
      · rw [g 1 hj] at h3
        exact blank_big (by omega)
      · rw [g 2 hj] at h4
        exact blank_big (by omega)
  · rw [e]
    have hb : blankB l[i] = false := blank_big (by omega)
    refine ⟨4, rfl, by omega, by omega, ?_, (fun hx => by rw [hb] at hx; cases hx), fun j hj h8 h9 => ?_⟩
    · rw [hb]; unfold isBlankP; simp; omega
    · rcases (by omega : j = 1 ∨ j = 2 ∨ j = 3) with rfl | rfl | rfl
      · rw [g 1 hj] at h3
        exact blank_big (by omega)
      · rw [g 2 hj] at h4
        exact blank_big (by omega)
      · rw [g 3 hj] at h5
        exact blank_big (by omega)
  · rw [e]
    by_cases h0 : l[i].toNat < 128
    · have e2 : Lib.decodeN (l.length - i) l[i].toNat ((⟨l.toArray⟩ : ByteArray).get! (i + 1)).toNat ((⟨l.toArray⟩ : ByteArray).get! (i + 2)).toNat ((⟨l.toArray⟩ : ByteArray).get! (i + 3)).toNat = (l[i].toNat, 1) := by
        unfold Lib.decodeN; rw [if_pos h0]
      rw [e] at e2
      injection e2 with e2 _
      omega
    · have hb : blankB l[i] = false := blank_big (by omega)
      exact ⟨1, rfl, by omega, by omega, by rw [hb]; rfl, fun _ => rfl, fun j _ h1 h2 => by omega⟩
theorem ext_list (l : Str) (a b : Nat) : ((⟨l.toArray⟩ : ByteArray).extract a b).data.toList = (l.drop a).take (b - a) := by
  simp [ByteArray.data_extract]
theorem spans_wb (l : Str) : ∀ (f pos : Nat) (st : Option Nat) (acc : List (Nat × Nat)), l.length ≤ pos + f → pos ≤ l.length → (∀ a, st = some a → a < pos) →
    (Lib.closeSpans ⟨l.toArray⟩ (Lib.spansFromP isBlankP ⟨l.toArray⟩ f pos st acc)).map (fun x => (l.drop x.1).take (x.2 - x.1)) = acc.map (fun x => (l.drop x.1).take (x.2 - x.1)) ++ wb (st.map fun a => (l.drop a).take (pos - a)) (l.drop pos)
  | 0, pos, st, acc, hf, hp, hs => by
    have hz : (⟨l.toArray⟩ : ByteArray).size = l.length := by show l.toArray.size = _; simp
    have e : l.drop pos = [] := List.drop_of_length_le (by omega)
    rw [e]
    unfold Lib.spansFromP Lib.closeSpans
    rw [hz, show l.length = pos by omega]
    cases st <;> simp [wb]
  | f + 1, pos, st, acc, hf, hp, hs => by
    have hz : (⟨l.toArray⟩ : ByteArray).size = l.length := by show l.toArray.size = _; simp
    unfold Lib.spansFromP
    rw [hz]
    by_cases hlt : pos < l.length
    · rw [if_pos hlt]
      obtain ⟨k, e1, h1, h2, h3, h4, h5⟩ := rune_at l pos hlt
      rw [e1, h3]
      have hd : l.drop pos = l[pos] :: l.drop (pos + 1) := List.drop_eq_getElem_cons hlt
      cases hb : blankB l[pos] with
      | true =>
        obtain rfl : k = 1 := h4 hb
        simp only [if_true]
        cases st with
        | none =>
          simp only
          rw [spans_wb l f (pos + 1) none acc (by omega) (by omega) (fun a h => by cases h), hd]
          simp [wb, hb]
        | some a =>
          simp only
          rw [spans_wb l f (pos + 1) none (acc ++ [(a, pos)]) (by omega) (by omega) (fun a h => by cases h), hd]
          simp [wb, hb]
      | false =>
        have hx : l.drop pos = (l.drop pos).take k ++ l.drop (pos + k) := by rw [← List.drop_drop, List.take_append_drop]
        have hn : (l.drop pos).take k ≠ [] := by
          intro e
          have := congrArg List.length e
          simp at this
          omega
        have hi : ∀ c ∈ (l.drop pos).take k, blankB c = false := by
          intro c hc
          obtain ⟨j, hj, rfl⟩ := List.getElem_of_mem hc
          simp at hj
          rw [List.getElem_take, List.getElem_drop]
          by_cases h0 : j = 0
          · subst h0; exact hb
          · exact h5 j (by omega) (by omega) (by omega)
        simp only [Bool.false_eq_true, if_false]
        cases st with
        | none =>
          simp only
          rw [spans_wb l f (pos + k) (some pos) acc (by omega) (by omega) (fun a h => by injection h with h; omega), hx, wb_in _ _ _ hn hi]
          simp [show pos + k - pos = k by omega]
        | some a =>
          have ha := hs a rfl
          simp only
          rw [spans_wb l f (pos + k) (some a) acc (by omega) (by omega) (fun a' h => by injection h with h; omega), hx, wb_in _ _ _ hn hi]
          have e : (l.drop a).take (pos + k - a) = (l.drop a).take (pos - a) ++ (l.drop pos).take k := by
            rw [show pos + k - a = (pos - a) + k by omega, List.take_add, List.drop_drop, show a + (pos - a) = pos by omega]
          simp [e]
    · rw [if_neg hlt]
      have e : l.drop pos = [] := List.drop_of_length_le (by omega)
      rw [e]
      unfold Lib.closeSpans
      rw [hz, show l.length = pos by omega]
      cases st <;> simp [wb]
theorem words_wb (l : Str) : words l = wb none l := by
  have hz : (⟨l.toArray⟩ : ByteArray).size = l.length := by show l.toArray.size = _; simp
  have h := spans_wb l l.length 0 none [] (by omega) (Nat.zero_le _) (fun a h => by cases h)
  unfold words Lib.goFieldsP Lib.spansOfP
  rw [hz, List.map_map]
  refine Eq.trans (List.map_congr_left fun x _ => ?_) (h.trans (by simp))
  exact ext_list l x.1 x.2
end Go.Proofs.YtjpihophigjbpaaGreatDoor
/-
  The smallest calls: blanks, places, names, numbers.
-/
namespace Go.Proofs.YtjpihophigjbpaaGreatDoor
open Go.RowKit Go.Shelf Vs

theorem dw_nil (p : UInt8 → Bool) : ∀ l : Str, l.dropWhile p = [] ↔ ∀ x ∈ l, p x = true
  | [] => by simp
  | c :: r => by
    rw [List.dropWhile_cons]
    by_cases h : p c = true
    · rw [if_pos h, dw_nil p r]; simp [h]
    · rw [if_neg h]; simp [h]
theorem dw_head (p : UInt8 → Bool) : ∀ (l : Str) (c : UInt8) (r : Str), l.dropWhile p = c :: r → p c = false
  | [], c, r, h => by simp at h
  | d :: l, c, r, h => by
    rw [List.dropWhile_cons] at h
    by_cases hd : p d = true
    · rw [if_pos hd] at h; exact dw_head p l c r h
    · rw [if_neg hd] at h
      injection h with h1 _
      subst h1
      simpa using hd
theorem trimS_nil (l cs : Str) : Lib.trimS l cs = [] ↔ l.all (fun x => cs.contains x) = true := by
  unfold Lib.trimS Lib.trimLeftS Lib.trimRightS
  rw [dw_nil, List.all_eq_true]
  constructor
  · intro h
    have hd : l.reverse.dropWhile (fun x => cs.contains x) = [] := by
      cases hx : l.reverse.dropWhile (fun x => cs.contains x) with
      | nil => rfl
      | cons x r =>
        have h1 := h x (by rw [hx]; simp)
        have h2 := dw_head _ _ _ _ hx
        rw [h1] at h2
        cases h2
    intro x hx
    exact (dw_nil _ _).1 hd x (by simpa using hx)
  · intro h x hx
    have h1 : x ∈ l.reverse.dropWhile (fun x => cs.contains x) := by simpa using hx
    have := (List.dropWhile_sublist (fun x => cs.contains x) (l := l.reverse)).subset h1
    exact h x (by simpa using this)
def BoolP (w : World) (b : Bool) (e : Ending) (w' : World) : Prop := e = .returned (.bool b) ∧ Below w.heap.size w w'
theorem isBlank_any (r : Int) (w : World) : Calls Tryz.prog 28 #[.int .i32 r] w fun e w' => e = .returned (.bool (r == 32 || r == 9)) ∧ ∃ q, w' = w.drewN q := by
  by_cases h1 : r = 32
  · subst h1
    go_enter Tryz.func28, Tryz.ntmps28
    go_wp2
    go_ret
    exact ⟨rfl, 0, rfl⟩
  · have h2 : (r == 32) = false := by simpa using h1
    rw [h2, Bool.false_or]
    generalize hb : (r == 9) = b at *
    go_enter Tryz.func28, Tryz.ntmps28
    go_wp2
    go_ret
    exact ⟨rfl, 0, rfl⟩
theorem ascii_nameCs : ∀ (j : Nat) (b : UInt8), (str nameCs).data.toList[j]? = some b → b.toNat < 128 := by
  have h : ∀ b ∈ nameCs, b.toNat < 128 := by decide
  intro j b hb
  exact h b (List.mem_of_getElem? (show nameCs[j]? = some b from hb))
theorem ascii_digCs : ∀ (j : Nat) (b : UInt8), (str digCs).data.toList[j]? = some b → b.toNat < 128 := by
  have h : ∀ b ∈ digCs, b.toNat < 128 := by decide
  intro j b hb
  exact h b (List.mem_of_getElem? (show digCs[j]? = some b from hb))
set_option maxRecDepth 100000 in
set_option maxHeartbeats 1000000 in
theorem isOf_any (s cs : ByteArray) (n : Nat) (w : World) (hs : n ≤ 140737488355328) (hcs : cs.size < 4294967281) (ha : ∀ (j : Nat) (b : UInt8), cs.data.toList[j]? = some b → b.toNat < 128) :
    Calls Tryz.prog 57 #[.string s, .int .i64 n, .string cs] w (BoolP w (isOfP (bl s) n (bl cs))) := by
  have ht : s.size ≤ n → ∀ W, Calls Tryz.prog 87 #[.string s, .string cs] W fun e w' => e = .returned (.string ⟨(Lib.trimS s.data.toList cs.data.toList).toArray⟩) ∧ Below W.heap.size W w' := fun hn W => Any.strings_Trim_laid Tryz.lays160 (by kernel_rfl) s cs W (by omega) hcs ha
  unfold isOfP BoolP
  rw [bl_len]
  by_cases h0 : bl s = []
  · have h1 : s.toList = [] := by rw [ByteArray.toList_eq]; exact h0
    rw [h0]
    clear h0 ht
    go_enter Tryz.func57, Tryz.ntmps57
    go_wp2_with fail
    go_ret
    exact ⟨rfl, Below.refl _ _⟩
  · have h1 : ¬ s.toList = [] := by rw [ByteArray.toList_eq]; exact h0
    have h2 : s.toList.isEmpty = false := by simpa using h1
    have h3 : (bl s).isEmpty = false := by simpa using h0
    by_cases hn : s.size ≤ n
    · have ht := ht hn
      have i1 : (s.size : Int) ≤ n := by omega
      have hT : (⟨(Lib.trimS s.data.toList cs.data.toList).toArray⟩ : ByteArray).toList.isEmpty = (bl s).all (fun x => (bl cs).contains x) := by
        rw [ByteArray.toList_eq, Bool.eq_iff_iff]
        simp only [List.isEmpty_iff]
        exact trimS_nil _ _
      rw [h3, decide_eq_true hn]
      generalize (bl s).all (fun x => (bl cs).contains x) = R at *
      generalize (⟨(Lib.trimS s.data.toList cs.data.toList).toArray⟩ : ByteArray) = T at *
      clear h0 h3
      go_enter Tryz.func57, Tryz.ntmps57
      go_wp2_with (go_at_call 87; (with_reducible refine (ht _).mono ?_); rintro e w1 ⟨rfl, b1⟩)
      go_ret
      exact ⟨by rfl, b1⟩
    · have i1 : ¬ (s.size : Int) ≤ n := by omega
      rw [h3, decide_eq_false hn]
      clear h0 h3 ht
      go_enter Tryz.func57, Tryz.ntmps57
      go_wp2_with fail
      go_ret
      exact ⟨rfl, Below.refl _ _⟩
set_option maxRecDepth 100000 in
theorem isName0 (s : ByteArray) (w : World) : Calls Tryz.prog 62 #[.string s] w (BoolP w (isNameP (bl s))) := by
  have ho : ∀ W, Calls Tryz.prog 57 #[.string s, .int .i64 16, .string ⟨#[97, 98, 99, 100, 101, 102, 103, 104, 105, 106, 107, 108, 109, 110, 111, 112, 113, 114, 115, 116, 117, 118, 119, 120, 121, 122, 45, 95, 48, 49, 50, 51, 52, 53, 54, 55, 56, 57]⟩] W (BoolP W (isNameP (bl s))) :=
    fun W => isOf_any s (str nameCs) 16 W (by decide) (by decide) ascii_nameCs
  unfold BoolP at *
  generalize isNameP (bl s) = R at *
  go_enter Tryz.func62, Tryz.ntmps62
  go_wp2_with (go_at_call 57; (with_reducible refine (ho _).mono ?_); rintro e w1 ⟨rfl, b1⟩)
  go_ret
  exact ⟨rfl, b1⟩
theorem isName_any (s : ByteArray) (w : World) (_ : s.size ≤ 140737488355328) : Calls Tryz.prog 62 #[.string s] w (BoolP w (isNameP (bl s))) := isName0 s w
theorem isDig_digCs (c : UInt8) : digCs.contains c = isDig c := by
  have h : ∀ n : Fin 256, digCs.contains (UInt8.ofNat n.val) = isDig (UInt8.ofNat n.val) := by decide +kernel
  have := h ⟨c.toNat, c.toNat_lt⟩
  simpa using this
theorem atoi_digits (l : Str) (h0 : l ≠ []) (ha : l.all isDig = true) (hl : l.length ≤ 7) : Lib.atoiAll l = .ok (dval l) ∧ dval l < 10000000 := by
  have hlt := dval_lt l.length l rfl ha
  have hp : (10 : Nat) ^ l.length ≤ 10 ^ 7 := Nat.pow_le_pow_right (by decide) hl
  have hlt2 : dval l < 10000000 := by omega
  refine ⟨?_, hlt2⟩
  have hm : Lib.parseMag l = .ok (dval l) := by
    unfold Lib.parseMag
    rw [if_neg h0]
    exact uint_digits l 0 ha (by show dval l < _; omega)
  cases l with
  | nil => exact absurd rfl h0
  | cons c r =>
    have hd := (isDig_iff c).1 (by rw [List.all_cons, Bool.and_eq_true] at ha; exact ha.1)
    rw [Lib.atoiAll_plain c r (by omega) (by omega), hm]
    show (if 9223372036854775808 ≤ dval (c :: r) then _ else _) = _
    rw [if_neg (by omega)]
/-- What a call that reads a number answers. -/
def numV (o : Option Nat) : Value := match o with
  | some n => .tuple #[.int .i64 (n : Int), .bool true]
  | none => .tuple #[.int .i64 0, .bool false]
set_option maxRecDepth 100000 in
set_option maxHeartbeats 1000000 in
theorem readNumber_any (s : ByteArray) (w : World) (hw : Env w) (hs : s.size ≤ 140737488355328) : Calls Tryz.prog 39 #[.string s] w fun e w' => e = .returned (numV (readNumP (bl s))) ∧ Below w.heap.size w w' := by
  have ho : ∀ W, Calls Tryz.prog 57 #[.string s, .int .i64 7, .string ⟨#[48, 49, 50, 51, 52, 53, 54, 55, 56, 57]⟩] W (BoolP W (isOfP (bl s) 7 digCs)) :=
    fun W => isOf_any s (str digCs) 7 W (by decide) (by decide) ascii_digCs
  unfold BoolP at ho
  have hat := fun W (hW : Env W) => atoi_any s hs W hW
  unfold AtoiPost at hat
  cases hc : isOfP (bl s) 7 digCs with
  | false =>
    have hn : readNumP (bl s) = none := by unfold readNumP; rw [hc]; rfl
    rw [hn]
    rw [hc] at ho
    clear hat
    go_enter Tryz.func39, Tryz.ntmps39
    go_wp2_with (go_at_call 57; (with_reducible refine (ho _).mono ?_); rintro e w1 ⟨rfl, b1⟩)
    exact bodyPost_ret (v := .tuple #[.int .i64 0, .bool false]) (by simp [results, Tryz.results39, go_sem]) rfl ⟨rfl, b1⟩
  | true =>
    have hn : readNumP (bl s) = some (dval (bl s)) := by unfold readNumP; rw [if_pos hc]
    rw [hn]
    rw [hc] at ho
    unfold isOfP at hc
    simp only [Bool.and_eq_true, decide_eq_true_eq] at hc
    have h1 := (atoi_digits (bl s) (by intro e; rw [e] at hc; simp at hc) (by
      rw [List.all_eq_true]
      intro x hx
      rw [← isDig_digCs]
      exact List.all_eq_true.1 hc.2 x hx) hc.1.2).1
    rw [h1] at hat
    clear hc hn h1
    unfold numV
    simp only at hat ⊢
    generalize (dval (bl s) : Nat) = N at *
    replace hw := fhid hw
    go_enter Tryz.func39, Tryz.ntmps39
    go_wp2_with (first
      | (go_at_call 57; (with_reducible refine (ho _).mono ?_); rintro e w1 ⟨rfl, b1⟩)
      | (go_at_call 58; (with_reducible refine (hat _ (hw.out.below b1)).mono ?_); rintro e w2 ⟨rfl, b2⟩))
    go_quiet (fail)
    go_wp2
    exact bodyPost_ret (v := .tuple #[.int .i64 N, .bool true]) (by simp [results, Tryz.results39, go_sem]) rfl ⟨rfl, Vs.below_drewN (b1.trans (b2.mono b1.size)) _⟩
end Go.Proofs.YtjpihophigjbpaaGreatDoor
/-
  A map that is a set of names; a name put to it.
-/
namespace Go.Proofs.YtjpihophigjbpaaGreatDoor
open Go.RowKit Go.Shelf Vs

abbrev unit : Value := .agg #[]
/-- The map in block b has just these keys, in the order in which they came. -/
def SMap (w : World) (b : Nat) (l : List Str) : Prop := ∃ es clock, w.heap[b]? = some (.map es clock) ∧ es.toList.map (fun e => (e.key, e.val)) = l.map fun s => (Value.string (str s), unit)
section
variable {w w' : World} {b B : Nat} {l : List Str}
theorem SMap.new (w : World) : SMap (w.alloc (.map #[] 0)) w.heap.size [] := ⟨#[], 0, heap_alloc_new w _, rfl⟩
theorem SMap.keep (h : SMap w b l) (hk : w'.heap[b]? = w.heap[b]?) : SMap w' b l := by
  obtain ⟨es, c, a, e⟩ := h
  exact ⟨es, c, hk.trans a, e⟩
theorem SMap.lt (h : SMap w b l) : b < w.heap.size := by
  obtain ⟨es, c, a, _⟩ := h
  exact lt_of_block a
theorem SMap.below (h : SMap w b l) (hb : Below B w w') (hB : b < B) : SMap w' b l := h.keep (hb.block b hB)
end
theorem zeroUnit (w : World) : (zeroValue 171).run Tryz.prog w = .ok unit w := by kernel_rfl
/-- A world in which but one block that was there may have changed. -/
abbrev Aft (b : Nat) (w w' : World) : Prop := w.grownBy w' (some b)
theorem Aft.of {b : Nat} {w w' : World} (h : Below w.heap.size w w') : Aft b w w' := ⟨h.os, h.tape, h.output, h.size, fun i hi _ => h.block i hi⟩
theorem Aft.below {b B : Nat} {w w' : World} (h : Aft b w w') (hB : B ≤ b) (hs : B ≤ w.heap.size) : Below B w w' :=
  ⟨h.os, h.tape, h.output, h.size, fun k hk => h.block k (by omega) (by intro e; injection e with e; omega)⟩
theorem Aft.trans {b : Nat} {w w1 w2 : World} (h : Aft b w w1) (k : Aft b w1 w2) : Aft b w w2 :=
  ⟨k.os.trans h.os, k.tape.trans h.tape, k.output.trans h.output, Nat.le_trans h.size k.size, fun i hi hb => (k.block i (Nat.lt_of_lt_of_le hi h.size) hb).trans (h.block i hi hb)⟩
end Go.Proofs.YtjpihophigjbpaaGreatDoor
/-
  Rows of numbers that point into a block: how they are made.
-/
namespace Go.Proofs.YtjpihophigjbpaaGreatDoor
open Go.RowKit Go.Shelf Vs

end Go.Proofs.YtjpihophigjbpaaGreatDoor
/-
  Numbers made what they are if no text tells them.
-/
namespace Go.Proofs.YtjpihophigjbpaaGreatDoor
open Go.RowKit Go.Shelf Vs

/-- Block b holds these cells. -/
def Box (w : World) (b : Nat) (T : TypeId) (cs : List Value) : Prop := w.heap[b]? = some (.cells cs.toArray T)
theorem Box.lt {w : World} {b : Nat} {T : TypeId} {cs : List Value} (h : Box w b T cs) : b < w.heap.size := lt_of_block h
theorem Box.below {w w' : World} {b B : Nat} {T : TypeId} {cs : List Value} (h : Box w b T cs) (hb : Below B w w') (hB : b < B) : Box w' b T cs := (hb.block b hB).trans h
theorem Box.cell {w : World} {b : Nat} {T : TypeId} {cs : List Value} (h : Box w b T cs) (i : Nat) : w.cell? ⟨b, i, none⟩ = cs[i]? := by
  unfold Box at h
  simp [World.cell?, h]
theorem Box.free {w : World} {b : Nat} {T : TypeId} {cs : List Value} (h : Box w b T cs) (i : Nat) : w.frozen? ⟨b, i, none⟩ = false := by
  unfold Box at h
  simp [World.frozen?, h]
theorem Box.set {w : World} {b : Nat} {T : TypeId} {cs : List Value} (h : Box w b T cs) (i : Nat) (v : Value) : Box (w.setCell ⟨b, i, none⟩ v) b T (cs.set i v) := by
  unfold Box at *
  unfold World.setCell
  simp only [Array.getElem?_modify, if_true, h, Option.map_some]
  simp
theorem Box.other {w : World} {b : Nat} {T : TypeId} {cs : List Value} (h : Box w b T cs) {a : Addr} (ha : b ≠ a.block) (v : Value) : Box (w.setCell a v) b T cs := by
  unfold Box at *
  rw [Below.heap_setCell _ _ _ _ ha]; exact h
theorem Box.new (w : World) (T : TypeId) (cs : List Value) : Box (w.alloc (.cells cs.toArray T)) w.heap.size T cs := heap_alloc_new w _
/-- Numbers, as cells. -/
def iv (l : List Int) : List Value := l.map (.int .i64 ·)
/-- A block whose cells from o on are these numbers. -/
def VBox (w : World) (b : Nat) (T : TypeId) (pre : List Value) (vs : List Int) (post : List Value) : Prop := Box w b T (pre ++ iv vs ++ post)
theorem set_mid (pre : List Value) (vs : List Int) (post : List Value) (i : Nat) (n : Int) : (pre ++ iv vs ++ post).set (pre.length + i) (.int .i64 n) = if i < vs.length then pre ++ iv (vs.set i n) ++ post else pre ++ iv vs ++ post.set (i - vs.length) (.int .i64 n) := by
  have hl : (iv vs).length = vs.length := by simp [iv]
  rw [List.append_assoc, List.set_append_right _ _ (by omega), Nat.add_sub_cancel_left]
  by_cases h : i < vs.length
  · rw [if_pos h, List.set_append_left _ _ (by omega), ← List.append_assoc]
    congr 2
    simp [iv]
  · rw [if_neg h, List.set_append_right _ _ (by omega), hl, List.append_assoc]
theorem VBox.below {w w' : World} {b B : Nat} {T : TypeId} {pre : List Value} {vs : List Int} {post : List Value} (h : VBox w b T pre vs post) (hb : Below B w w') (hB : b < B) : VBox w' b T pre vs post := Box.below h hb hB
theorem Aft.set {b : Nat} {w w' : World} (h : Aft b w w') (i : Nat) (v : Value) : Aft b w (w'.setCell ⟨b, i, none⟩ v) :=
  ⟨h.os, h.tape, h.output, by have := h.size; rw [World.size_setCell]; exact this, fun j hj hb => (Below.heap_setCell _ _ _ _ (fun e => hb (by rw [e]))).trans (h.block j hj hb)⟩
theorem VBox.set {w : World} {b : Nat} {T : TypeId} {pre : List Value} {vs : List Int} {post : List Value} (h : VBox w b T pre vs post) {i k : Nat} (hi : i < vs.length) (hk : k = pre.length + i) (n : Int) : VBox (w.setCell ⟨b, k, none⟩ (.int .i64 n)) b T pre (vs.set i n) post := by
  have := Box.set h k (.int .i64 n)
  rw [hk, set_mid, if_pos hi] at this
  rw [hk]
  exact this
theorem VBox.cell {w : World} {b : Nat} {T : TypeId} {pre : List Value} {vs : List Int} {post : List Value} (h : VBox w b T pre vs post) {i k : Nat} (hi : i < vs.length) (hk : k = pre.length + i) : w.cell? ⟨b, k, none⟩ = some (.int .i64 vs[i]) := by
  have hl : (iv vs).length = vs.length := by simp [iv]
  rw [Box.cell h, hk, List.append_assoc, List.getElem?_append_right (by omega), Nat.add_sub_cancel_left, List.getElem?_append_left (by omega)]
  simp [iv, hi]
end Go.Proofs.YtjpihophigjbpaaGreatDoor
/-
  A number put where its key says; whether all numbers are as they may be.
-/
namespace Go.Proofs.YtjpihophigjbpaaGreatDoor
open Go.RowKit Go.Shelf Vs

/-- The first place at which something holds, or -1. -/
def IdxP (q : Nat → Bool) (n : Nat) (w : World) (e : Ending) (w' : World) : Prop :=
  ((∃ i, i < n ∧ q i = true ∧ (∀ j, j < i → q j = false) ∧ e = .returned (.int .i64 (i : Int))) ∨ ((∀ j, j < n → q j = false) ∧ e = .returned (.int .i64 (-1)))) ∧ Below w.heap.size w w'
theorem place_some (l : List Str) (s : Str) (i : Nat) (hi : i < l.length) (h : l[i] = s) (hn : ∀ j (hj : j < i), l[j]'(by omega) ≠ s) : place l s = some i := by
  unfold place
  rw [List.findIdx?_eq_some_iff_getElem]
  exact ⟨hi, by simpa using h, fun j hj => by simpa using hn j hj⟩
theorem place_none (l : List Str) (s : Str) (h : ∀ j (hj : j < l.length), l[j] ≠ s) : place l s = none := by
  unfold place
  rw [List.findIdx?_eq_none_iff]
  intro x hx
  obtain ⟨j, hj, rfl⟩ := List.getElem_of_mem hx
  simpa using h j hj
end Go.Proofs.YtjpihophigjbpaaGreatDoor
/-
  Where the library's variables lie; worlds of which one block alone has turned.
-/
namespace Go.Proofs.YtjpihophigjbpaaGreatDoor
open Go.RowKit Go.Shelf Vs

/-- The library's variables lie in blocks below B. -/
def EnvAt (B : Nat) (w : World) : Prop := ∃ w0, Env w0 ∧ w0.heap.size ≤ B ∧ Below w0.heap.size w0 w
theorem EnvAt.below {B : Nat} {w w' : World} (h : EnvAt B w) (hb : Below B w w') : EnvAt B w' := by
  obtain ⟨w0, a, b, c⟩ := h
  exact ⟨w0, a, b, c.trans (hb.mono b)⟩
theorem EnvAt.mono {B B' : Nat} {w : World} (h : EnvAt B w) (hB : B ≤ B') : EnvAt B' w := by
  obtain ⟨w0, a, b, c⟩ := h
  exact ⟨w0, a, Nat.le_trans b hB, c⟩
theorem EnvAt.of {w : World} (h : Env w) : EnvAt w.heap.size w := ⟨w, h, Nat.le_refl _, Below.refl _ _⟩
theorem Aft.cell {b : Nat} {w w' : World} (h : Aft b w w') {p : Addr} (hp : p.block < w.heap.size) (hb : p.block ≠ b) : w'.cell? p = w.cell? p := by
  exact World.cell?_of_block (h.block p.block hp (fun e => hb (Option.some.inj e)))
theorem Aft.on {b : Nat} {w w1 w2 : World} (h : Aft b w w1) (hx : Below w.heap.size w1 w2) : Aft b w w2 :=
  ⟨hx.os.trans h.os, hx.tape.trans h.tape, hx.output.trans h.output, Nat.le_trans h.size hx.size, fun i hi hb => (hx.block i hi).trans (h.block i hi hb)⟩
theorem Aft.then {b : Nat} {w w1 w2 : World} (h : Aft b w w1) (k : Aft b w1 w2) : Aft b w w2 := h.trans k
end Go.Proofs.YtjpihophigjbpaaGreatDoor
/-
  A text's words, as the program parts them.
-/
namespace Go.Proofs.YtjpihophigjbpaaGreatDoor
open Go.RowKit Go.Shelf Vs

theorem spans_len (p : Nat → Bool) (s : ByteArray) : ∀ (f pos : Nat) (st : Option Nat) (acc : List (Nat × Nat)), (Lib.spansFromP p s f pos st acc).1.length ≤ acc.length + f
  | 0, _, _, _ => by simp [Lib.spansFromP]
  | f + 1, pos, st, acc => by
    unfold Lib.spansFromP
    split
    · split
      · cases st with
        | none => have := spans_len p s f (pos + (Utf8.decode s pos).2) none acc; simp only; omega
        | some a => have := spans_len p s f (pos + (Utf8.decode s pos).2) none (acc ++ [(a, pos)]); simp at this ⊢; omega
      · cases st with
        | none => have := spans_len p s f (pos + (Utf8.decode s pos).2) (some pos) acc; simp only; omega
        | some a => have := spans_len p s f (pos + (Utf8.decode s pos).2) (some a) acc; simp only; omega
    · simp
theorem words_count (l : Str) : (words l).length ≤ l.length + 1 := by
  unfold words Lib.goFieldsP Lib.spansOfP
  rw [List.length_map, List.length_map]
  have h := spans_len isBlankP ⟨l.toArray⟩ (ByteArray.size ⟨l.toArray⟩) 0 none []
  have hz : (⟨l.toArray⟩ : ByteArray).size = l.length := str_size l
  rw [hz] at h ⊢
  generalize Lib.spansFromP isBlankP ⟨l.toArray⟩ l.length 0 none [] = R at *
  obtain ⟨r1, r2⟩ := R
  unfold Lib.closeSpans
  cases r2 <;> simp at h ⊢ <;> omega
theorem words_len (l : Str) : ∀ x ∈ words l, x.length ≤ l.length := by
  intro x hx
  unfold words Lib.goFieldsP at hx
  rw [List.map_map] at hx
  obtain ⟨y, _, rfl⟩ := List.mem_map.1 hx
  show (bl (ByteArray.extract _ _ _)).length ≤ _
  rw [bl_len, ByteArray.size_extract, show (⟨l.toArray⟩ : ByteArray).size = l.length from str_size l]
  omega
theorem fields_words (l : Str) : (Lib.goFieldsP isBlankP (str l)).map Value.string = SV (words l) := by
  unfold SV words
  rw [List.map_map]
  refine List.map_congr_left fun x _ => ?_
  show Value.string x = Value.string (str (bl x))
  rw [str_bl]
theorem fields_len (l : Str) : (Lib.goFieldsP isBlankP (str l)).length = (words l).length := by unfold words; rw [List.length_map]; rfl
theorem fields0_any (l : Str) (w : World) (hl : l.length ≤ 65536) : Calls Tryz.prog 27 #[.string (str l), .func (.func 28) #[] #[]] w fun e w' => ∃ A, e = .returned (.slice (some ⟨A, 0, none⟩) (words l).length (words l).length) ∧ w.heap.size ≤ A ∧ OwnS w' w.heap.size (.slice (some ⟨A, 0, none⟩) (words l).length (words l).length) (words l) ∧ Below w.heap.size w w' := by
  have h := Tryz.strings_FieldsFunc_grows 28 #[] (enters_of Tryz.func28 (by kernel_rfl) rfl) isBlankP (str l) w (by rw [str_size]; omega) (fun W x _ _ => by
    refine (isBlank_any (x : Int) W).mono ?_
    rintro e w' ⟨rfl, q, rfl⟩
    refine ⟨?_, Vs.below_drewN (Below.refl _ _) _⟩
    have e1 : ((x : Int) == 32) = (x == 32) := by rw [Bool.eq_iff_iff]; simp; omega
    have e2 : ((x : Int) == 9) = (x == 9) := by rw [Bool.eq_iff_iff]; simp; omega
    rw [e1, e2]
    rfl)
  rw [fields_words, fields_len] at h
  exact h
set_option maxRecDepth 100000 in
theorem fields_any (l : Str) (w : World) (hl : l.length ≤ 65536) : Calls Tryz.prog 16 #[.string (str l)] w fun e w' => ∃ A, e = .returned (.slice (some ⟨A, 0, none⟩) (words l).length (words l).length) ∧ w.heap.size ≤ A ∧ OwnS w' w.heap.size (.slice (some ⟨A, 0, none⟩) (words l).length (words l).length) (words l) ∧ Below w.heap.size w w' := by
  have hf := fun W => fields0_any l W hl
  generalize words l = ws at *
  go_enter Tryz.func16, Tryz.ntmps16
  go_wp2_with (go_at_call 27; (with_reducible refine (hf _).mono ?_); rintro e w2 ⟨A, rfl, hA, own, b2⟩)
  go_ret
  exact ⟨A, rfl, hA, own, b2⟩
end Go.Proofs.YtjpihophigjbpaaGreatDoor
