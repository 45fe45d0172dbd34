/-
  Parts: VBase VMath VLeaf VStr VApp VCmp VInto VAllR VSafe VComb VComb2 VAdd VSum VFmt VSplit VLaw VRead VParse.
-/
import Derived.Test.YtjpihophigjbpaaGreatDoorProg
import Derived.WalkKit
import Derived.Below
import Derived.IntWalk
import Derived.Laws.DeepStrings4
import Derived.Outline
import Derived.Deep.Draws
import Derived.Sort.Grow
import Derived.Lib.Hide
import Derived.ChangeKeysEq
import Derived.Lib.ItoaNum
import Derived.Lib.Join
import Derived.Lib.AtoiAllCases
import Derived.Test.YtjpihophigjbpaaGreatDoorS0
import Derived.BigRegion
import Derived.BigQuiet
import Derived.Deep.QuietTactic
import Derived.Deep.DeepCutAuto
import Derived.Lib.AppendIntMem
import Derived.Laws.IdiomStrings
import Derived.Lib.ConvBytes
import Derived.Maps.AppendAt
import Derived.Laws.AppendOwnNone
import Derived.OwnWalk
import Derived.StillTailTactics
import Derived.Lib.ItoaLen
import Derived.RangeFuncNested
import Derived.RangeFuncBound
import Derived.RangeFuncCalls
import Derived.RangeFuncLeaves
import Derived.RangeFuncBox
import Derived.Shelf.Abstract
import Derived.Shelf.RegionOpen
import Derived.OwnWalkIn
import Derived.TacticsInMore
import Derived.LoopNIn
import Derived.LoopIn
import Derived.RegionIn
import Derived.Sort.QuietIn
set_option linter.unusedSimpArgs false
set_option linter.unusedVariables false
/-
  Strings as bytes, worlds that only grow, vectors as values; the smallest calls.
-/
namespace Go.Proofs.YtjpihophigjbpaaGreatDoor.Vs
open Go.RowKit

theorem fhid {p : Prop} (h : p) : Hid p := h
theorem fret1 {k : IntKind} {a b : Int} (h : a = b) : Ending.returned (.int k a) = .returned (.int k b) := by rw [h]
theorem fretb {a b : Bool} (h : a = b) : Ending.returned (.bool a) = .returned (.bool b) := by rw [h]
theorem frets {a b : ByteArray} (h : a = b) : Ending.returned (.string a) = .returned (.string b) := by rw [h]
theorem below_drewN {B : Nat} {a w : World} (h : Below B a w) (n : Nat) : Below B a (w.drewN n) := ⟨h.os, h.tape, h.output, h.size, h.block⟩
/-- Bytes, as a string; a string, as bytes. -/
def str (l : List UInt8) : ByteArray := ⟨l.toArray⟩
def bl (s : ByteArray) : List UInt8 := s.data.toList
theorem bl_str (l : List UInt8) : bl (str l) = l := by simp [bl, str]
theorem str_bl (s : ByteArray) : str (bl s) = s := by unfold str bl; simp
theorem bl_inj {s t : ByteArray} (h : bl s = bl t) : s = t := by rw [← str_bl s, h, str_bl]
theorem bl_len (s : ByteArray) : (bl s).length = s.size := by unfold bl; rw [Array.length_toList]; rfl
theorem str_size (l : List UInt8) : (str l).size = l.length := by simp [str, ByteArray.size]
theorem bl_get (s : ByteArray) (k : Nat) (h : k < s.size) (h' : k < (bl s).length) : (bl s)[k] = s[k]'h := by
  unfold bl; rfl
theorem ext_str (s : ByteArray) (a b : Nat) : s.extract a b = str (((bl s).drop a).take (b - a)) := by
  obtain ⟨⟨l⟩⟩ := s
  rw [show (⟨⟨l⟩⟩ : ByteArray) = ByteArray.mk l.toArray from rfl, ByteArray.extract_mk]
  rfl
theorem ext_to (s : ByteArray) (b : Nat) : s.extract 0 b = str ((bl s).take b) := by rw [ext_str]; rfl
theorem ext_from (s : ByteArray) (a : Nat) : s.extract a s.size = str ((bl s).drop a) := by
  rw [ext_str, ← bl_len, List.take_of_length_le (by rw [List.length_drop]; omega)]
theorem str_eq (s t : ByteArray) : (s.toList == t.toList) = decide (bl s = bl t) := by
  rw [ByteArray.toList_eq, ByteArray.toList_eq, Bool.eq_iff_iff]
  simp [bl]
theorem str_app (a b : List UInt8) : str a ++ str b = str (a ++ b) := by
  apply ByteArray.ext
  simp [str]
theorem heap_alloc_new (w : World) (o : Obj) : (w.alloc o).heap[w.heap.size]? = some o := by
  show (w.heap.push o)[w.heap.size]? = _
  simp
theorem lt_of_block {w : World} {b : Nat} {o : Obj} (h : w.heap[b]? = some o) : b < w.heap.size := (Array.getElem?_eq_some_iff.1 h).1
theorem below_grow (w : World) (k : Nat) (os : Array Obj) : Below w.heap.size w (Go.Sort.grow (w.drewN k) os) :=
  ⟨rfl, rfl, rfl, by show _ ≤ (w.heap ++ os).size; rw [Array.size_append]; omega, fun j hj => by
    show (w.heap ++ os)[j]? = _
    rw [Array.getElem?_append_left hj]⟩
/-- Draws, and blocks behind all that was there. -/
def Grew (w w' : World) : Prop := ∃ q os, w' = Go.Sort.grow (w.drewN q) os
theorem Grew.below {w w' : World} (h : Grew w w') : Below w.heap.size w w' := by
  obtain ⟨q, os, rfl⟩ := h
  exact below_grow w q os
theorem Grew.refl (w : World) : Grew w w := ⟨0, #[], by unfold Go.Sort.grow; rw [Array.append_empty]; rfl⟩
theorem Grew.trans {a b c : World} (h : Grew a b) (k : Grew b c) : Grew a c := by
  obtain ⟨q, os, rfl⟩ := h
  obtain ⟨q', os', rfl⟩ := k
  refine ⟨q + q', os ++ os', ?_⟩
  show World.mk (a.heap ++ os ++ os') _ _ _ _ = World.mk (a.heap ++ (os ++ os')) _ _ _ _
  rw [Array.append_assoc]
  congr 1
  show a.drawn + q + q' = a.drawn + (q + q')
  omega
theorem Grew.drew {a b : World} (h : Grew a b) : Grew a b.drew := h.trans ⟨1, #[], by unfold Go.Sort.grow; rw [Array.append_empty]; rfl⟩
theorem Grew.drewN {a b : World} (h : Grew a b) (n : Nat) : Grew a (b.drewN n) := h.trans ⟨n, #[], by unfold Go.Sort.grow; rw [Array.append_empty]⟩
theorem Grew.alloc {a b : World} (h : Grew a b) (o : Obj) : Grew a (b.alloc o) := h.trans ⟨0, #[o], rfl⟩

/-- A vector, as a value; its cells. -/
abbrev vec (a b c : Int) : Value := .agg #[.int .i64 a, .int .i64 b, .int .i64 c]
/-- What an int of 64 bits may be. -/
def I64 (n : Int) : Prop := -9223372036854775808 ≤ n ∧ n ≤ 9223372036854775807
abbrev V3 := Int × Int × Int
abbrev vv (v : V3) : Value := vec v.1 v.2.1 v.2.2
/-- Each part may be. -/
def part (n : Int) : Bool := decide (0 ≤ n ∧ n ≤ 1073741824)
def right (a b c : Int) : Bool := decide (0 ≤ a ∧ 0 ≤ b ∧ 0 ≤ c) && decide (a ≤ 1073741824 ∧ b ≤ 1073741824 ∧ c ≤ 1073741824)
theorem right_iff {a b c : Int} : right a b c = true ↔ (0 ≤ a ∧ a ≤ 1073741824) ∧ (0 ≤ b ∧ b ≤ 1073741824) ∧ (0 ≤ c ∧ c ≤ 1073741824) := by
  unfold right; simp; omega
def BP (w : World) (b : Bool) (e : Ending) (w' : World) : Prop := e = .returned (.bool b) ∧ Grew w w'
theorem BP.mk' {w w' : World} {b c : Bool} (h : b = c) (g : Grew w w') : BP w c (.returned (.bool b)) w' := ⟨fretb h, g⟩

set_option maxRecDepth 100000 in
set_option maxHeartbeats 1000000 in
theorem Fits_any (a b c d e f : Int) (w : World) : Calls Tryz.prog 96 #[vec a b c, vec d e f] w (BP w (decide (a ≤ d ∧ b ≤ e ∧ c ≤ f))) := by
  by_cases h1 : a ≤ d <;> by_cases h2 : b ≤ e <;> by_cases h3 : c ≤ f
  all_goals
    go_enter Tryz.func96, Tryz.ntmps96
    go_wp2
    go_ret
    exact BP.mk' (by simp [h1, h2, h3]) (((Grew.refl w).alloc _).alloc _)
end Go.Proofs.YtjpihophigjbpaaGreatDoor.Vs
/-
  Plain mathematics: numbers' digits, a vector's text, what a text's parts tell. No model in it.
-/
namespace Go.Proofs.YtjpihophigjbpaaGreatDoor.Vs

def isDig (c : UInt8) : Bool := 48 ≤ c && c ≤ 57
/-- A byte that is a digit, as a number. -/
def dv (c : UInt8) : Nat := c.toNat - 48
/-- The number of digits. -/
def dval (l : List UInt8) : Nat := l.foldl (fun n c => 10 * n + dv c) 0
theorem dval_snoc (l : List UInt8) (c : UInt8) : dval (l ++ [c]) = 10 * dval l + dv c := by simp [dval, List.foldl_append]
theorem isDig_iff (c : UInt8) : isDig c = true ↔ 48 ≤ c.toNat ∧ c.toNat ≤ 57 := by
  unfold isDig
  simp [UInt8.le_iff_toNat_le]
theorem dv_lt {c : UInt8} (h : isDig c = true) : dv c ≤ 9 := by
  have := (isDig_iff c).1 h
  unfold dv; omega
theorem all_snoc {p : UInt8 → Bool} {l : List UInt8} {c : UInt8} : (l ++ [c]).all p = true ↔ l.all p = true ∧ p c = true := by simp
theorem dval_lt : ∀ (k : Nat) (l : List UInt8), l.length = k → l.all isDig = true → dval l < 10 ^ k
  | 0, l, h, _ => by
    have := List.eq_nil_of_length_eq_zero h
    subst this; decide
  | k + 1, l, h, ha => by
    rcases List.eq_nil_or_concat l with rfl | ⟨m, c, rfl⟩
    · simp at h
    · rw [List.concat_eq_append] at *
      rw [dval_snoc, Nat.pow_succ]
      obtain ⟨a1, a2⟩ := all_snoc.1 ha
      have := dval_lt k m (by simpa using h) a1
      have := dv_lt a2
      omega
/-- The decimal digits of a number, by themselves. -/
abbrev dec (u : Nat) : List UInt8 := Go.Lib.decDigits u
theorem dig_ofNat (k : Nat) (h : k < 10) : isDig (UInt8.ofNat (48 + k)) = true ∧ dv (UInt8.ofNat (48 + k)) = k := by
  have e : (UInt8.ofNat (48 + k)).toNat = 48 + k := by rw [UInt8.toNat_ofNat']; omega
  exact ⟨(isDig_iff _).2 (by omega), by unfold dv; omega⟩
theorem dec_small {u : Nat} (h : u < 10) : dec u = [UInt8.ofNat (48 + u)] := by unfold dec; rw [Go.Lib.decDigits, dif_pos h]
theorem dec_big {u : Nat} (h : ¬ u < 10) : dec u = dec (u / 10) ++ [UInt8.ofNat (48 + u % 10)] := by unfold dec; rw [Go.Lib.decDigits, dif_neg h]
theorem dec_facts (u : Nat) : (dec u).all isDig = true ∧ dval (dec u) = u ∧ 1 ≤ (dec u).length := by
  induction u using Nat.strongRecOn with
  | _ u ih =>
    by_cases h : u < 10
    · rw [dec_small h]
      have := dig_ofNat u h
      refine ⟨by rw [List.all_cons, this.1]; rfl, ?_, by simp⟩
      show dval ([] ++ [_]) = u
      rw [dval_snoc, this.2]; simp [dval]
    · rw [dec_big h]
      obtain ⟨h1, h2, _⟩ := ih (u / 10) (by omega)
      have := dig_ofNat (u % 10) (by omega)
      refine ⟨all_snoc.2 ⟨h1, this.1⟩, ?_, by simp⟩
      rw [dval_snoc, h2, this.2]; omega

theorem fold_le : ∀ (l : List UInt8) (n : Nat), n ≤ l.foldl (fun n c => 10 * n + dv c) n
  | [], n => Nat.le_refl n
  | c :: r, n => Nat.le_trans (by omega) (fold_le r (10 * n + dv c))
theorem uint_digits : ∀ (l : List UInt8) (n : Nat), l.all isDig = true → l.foldl (fun n c => 10 * n + dv c) n < 18446744073709551616 → Go.Lib.parseUint10 n l = .ok (l.foldl (fun n c => 10 * n + dv c) n)
  | [], n, _, _ => rfl
  | c :: r, n, ha, hb => by
    rw [List.all_cons, Bool.and_eq_true] at ha
    have hc := (isDig_iff c).1 ha.1
    have hl := fold_le r (10 * n + dv c)
    rw [List.foldl_cons] at hb
    have hd : dv c = c.toNat - 48 := rfl
    have e : n * 10 + (c.toNat - 48) = 10 * n + dv c := by omega
    rw [List.foldl_cons]
    unfold Go.Lib.parseUint10
    rw [if_pos hc, if_neg (by omega), e, if_neg (by omega)]
    exact uint_digits r _ ha.2 hb
theorem mag_dec (u : Nat) (h : u < 18446744073709551616) : Go.Lib.parseMag (dec u) = .ok u := by
  obtain ⟨h1, h2, h3⟩ := dec_facts u
  unfold Go.Lib.parseMag
  rw [if_neg (by intro e; rw [e] at h3; simp at h3)]
  have := uint_digits (dec u) 0 h1 (by show dval (dec u) < _; rw [h2]; exact h)
  rw [this]
  exact congrArg _ h2
/-- A number's text, with its sign. -/
abbrev num (n : Int) : List UInt8 := Go.Lib.itoa n
theorem num_pos {n : Int} (h : 0 ≤ n) : num n = dec n.toNat := by unfold num Go.Lib.itoa; rw [if_neg (by omega)]
theorem num_neg {n : Int} (h : n < 0) : num n = 45 :: dec n.natAbs := by unfold num Go.Lib.itoa; rw [if_pos h]
theorem dec_head (u : Nat) : ∃ c r, dec u = c :: r ∧ isDig c = true ∧ r.all isDig = true := by
  obtain ⟨h1, _, h3⟩ := dec_facts u
  cases h : dec u with
  | nil => rw [h] at h3; simp at h3
  | cons c r => rw [h, List.all_cons, Bool.and_eq_true] at h1; exact ⟨c, r, rfl, h1.1, h1.2⟩
theorem atoi_num (n : Int) (h : I64 n) : Go.Lib.atoiAll (num n) = .ok n := by
  obtain ⟨h0, h1⟩ := h
  by_cases hn : 0 ≤ n
  · rw [num_pos hn]
    obtain ⟨c, r, e, hc, _⟩ := dec_head n.toNat
    have hd := (isDig_iff c).1 hc
    rw [e, Go.Lib.atoiAll_plain c r (by omega) (by omega), ← e, mag_dec _ (by omega)]
    show (if 9223372036854775808 ≤ n.toNat then _ else _) = _
    rw [if_neg (by omega)]
    exact congrArg _ (by omega)
  · rw [num_neg (by omega), Go.Lib.atoiAll_minus, mag_dec _ (by omega)]
    show (if 9223372036854775808 < n.natAbs then _ else _) = _
    rw [if_neg (by omega)]
    exact congrArg _ (by omega)
/-- No byte of a number's text is c, where c is no digit and no sign. -/
theorem num_no (n : Int) (c : UInt8) (hc : isDig c = false) (h45 : c ≠ 45) : c ∉ num n := by
  have hd : ∀ u, c ∉ dec u := fun u hm => by
    have := List.all_eq_true.1 (dec_facts u).1 c hm
    rw [hc] at this; cases this
  by_cases hn : 0 ≤ n
  · rw [num_pos hn]; exact hd _
  · rw [num_neg (by omega)]
    intro hm
    rcases List.mem_cons.1 hm with e | e
    · exact h45 e
    · exact hd _ e
theorem num_ne (n : Int) : num n ≠ [] := by
  by_cases hn : 0 ≤ n
  · rw [num_pos hn]
    obtain ⟨c, r, e, _⟩ := dec_head n.toNat
    rw [e]; exact List.cons_ne_nil _ _
  · rw [num_neg (by omega)]; exact List.cons_ne_nil _ _

/-! ### A text's pieces, with ',' between -/
def pieces : List UInt8 → List (List UInt8)
  | [] => [[]]
  | c :: r => if c = 44 then [] :: pieces r else match pieces r with
    | [] => [[c]]
    | x :: xs => (c :: x) :: xs
def upTo (c : UInt8) (l : List UInt8) : List UInt8 := l.takeWhile (fun x => x != c)
def behind (c : UInt8) (l : List UInt8) : List UInt8 := l.drop ((upTo c l).length + 1)
theorem upTo_cons (c x : UInt8) (r : List UInt8) : upTo c (x :: r) = if x = c then [] else x :: upTo c r := by
  unfold upTo
  rw [List.takeWhile_cons]
  by_cases h : x = c
  · rw [if_pos h, if_neg (by simp [h])]
  · rw [if_neg h, if_pos (by simp [h])]
theorem pieces_step (l : List UInt8) : pieces l = upTo 44 l :: (if 44 ∈ l then pieces (behind 44 l) else []) := by
  induction l with
  | nil => rfl
  | cons c r ih =>
    by_cases h : c = 44
    · subst h
      rw [if_pos (by simp)]
      simp [pieces, upTo, behind]
    · have hm : (44 ∈ c :: r) ↔ 44 ∈ r := by
        simp only [List.mem_cons]
        exact ⟨fun hh => hh.resolve_left (fun e => h e.symm), .inr⟩
      have hu : upTo 44 (c :: r) = c :: upTo 44 r := by rw [upTo_cons, if_neg h]
      have hb : behind 44 (c :: r) = behind 44 r := by unfold behind; rw [hu]; rfl
      conv => lhs; unfold pieces
      rw [if_neg h, ih, hu, hb]
      by_cases h2 : 44 ∈ r
      · rw [if_pos h2, if_pos (hm.2 h2)]
      · rw [if_neg h2, if_neg (fun e => h2 (hm.1 e))]
theorem upTo_no {c : UInt8} {l : List UInt8} (h : c ∉ l) : upTo c l = l := by
  induction l with
  | nil => rfl
  | cons x r ih =>
    rw [upTo_cons, if_neg (fun e => h (by rw [e]; simp)), ih (fun e => h (by simp [e]))]
theorem upTo_app {c : UInt8} {l r : List UInt8} (h : c ∉ l) : upTo c (l ++ c :: r) = l := by
  induction l with
  | nil => rw [List.nil_append, upTo_cons, if_pos rfl]
  | cons x t ih =>
    rw [List.cons_append, upTo_cons, if_neg (fun e => h (by rw [e]; simp)), ih (fun e => h (by simp [e]))]
theorem behind_app {c : UInt8} {l r : List UInt8} (h : c ∉ l) : behind c (l ++ c :: r) = r := by
  unfold behind
  rw [upTo_app h, List.drop_append]
  simp
theorem pieces_one {l : List UInt8} (h : 44 ∉ l) : pieces l = [l] := by rw [pieces_step, if_neg h, upTo_no h]
theorem pieces_more {l r : List UInt8} (h : 44 ∉ l) : pieces (l ++ 44 :: r) = l :: pieces r := by rw [pieces_step, if_pos (by simp), upTo_app h, behind_app h]

/-! ### A vector's text -/
def kCpu : List UInt8 := [99, 112, 117]
def kMem : List UInt8 := [109, 101, 109]
def kGpu : List UInt8 := [103, 112, 117]
def noneT : List UInt8 := [110, 111, 110, 101]
def pc (k : List UInt8) (n : Int) : List UInt8 := k ++ [61] ++ num n
def pcs (k : List UInt8) (n : Int) : List (List UInt8) := if n = 0 then [] else [pc k n]
def allPcs (v : V3) : List (List UInt8) := pcs kCpu v.1 ++ pcs kMem v.2.1 ++ pcs kGpu v.2.2
def fmt (v : V3) : List UInt8 := if v.1 = 0 ∧ v.2.1 = 0 ∧ v.2.2 = 0 then noneT else Go.Lib.join (allPcs v) [44]
/-- One piece's part. -/
def step (v : V3) (p : List UInt8) : Option V3 :=
  match Go.Lib.atoiAll (behind 61 p) with
  | .ok n => if upTo 61 p = kCpu then some (n, v.2.1, v.2.2) else if upTo 61 p = kMem then some (v.1, n, v.2.2) else if upTo 61 p = kGpu then some (v.1, v.2.1, n) else none
  | _ => none
def foldP : V3 → List (List UInt8) → Option V3
  | v, [] => some v
  | v, p :: r => (step v p).bind (fun v' => foldP v' r)
theorem foldP_snoc (v : V3) (l : List (List UInt8)) (p : List UInt8) : foldP v (l ++ [p]) = (foldP v l).bind (fun v' => step v' p) := by
  induction l generalizing v with
  | nil => simp [foldP]
  | cons x r ih =>
    simp only [List.cons_append, foldP]
    cases step v x with
    | none => rfl
    | some v' => exact ih v'
def readP (s : List UInt8) : Option V3 := if s = noneT then some (0, 0, 0) else foldP (0, 0, 0) (pieces s)
theorem pc_cut (k : List UInt8) (n : Int) (h : 61 ∉ k) : upTo 61 (pc k n) = k ∧ behind 61 (pc k n) = num n := by
  have e : pc k n = k ++ 61 :: num n := by unfold pc; simp
  rw [e]
  exact ⟨upTo_app h, behind_app h⟩
theorem step_cpu (v : V3) (n : Int) (h : I64 n) : step v (pc kCpu n) = some (n, v.2.1, v.2.2) := by
  obtain ⟨h1, h2⟩ := pc_cut kCpu n (by decide)
  unfold step
  rw [h1, h2, atoi_num n h]
  rfl
theorem step_mem (v : V3) (n : Int) (h : I64 n) : step v (pc kMem n) = some (v.1, n, v.2.2) := by
  obtain ⟨h1, h2⟩ := pc_cut kMem n (by decide)
  unfold step
  rw [h1, h2, atoi_num n h]
  rfl
theorem step_gpu (v : V3) (n : Int) (h : I64 n) : step v (pc kGpu n) = some (v.1, v.2.1, n) := by
  obtain ⟨h1, h2⟩ := pc_cut kGpu n (by decide)
  unfold step
  rw [h1, h2, atoi_num n h]
  rfl
theorem pc_no (k : List UInt8) (n : Int) (c : UInt8) (hk : c ∉ k) (hc : isDig c = false) (h45 : c ≠ 45) (h61 : c ≠ 61) : c ∉ pc k n := by
  unfold pc
  intro h
  rcases List.mem_append.1 h with h | h
  · rcases List.mem_append.1 h with h | h
    · exact hk h
    · exact h61 (by simpa using h)
  · exact num_no n c hc h45 h
theorem join_two (x y : List UInt8) : Go.Lib.join [x, y] [44] = x ++ 44 :: y := by rw [Go.Lib.join_cons]; simp [Go.Lib.joinTail]
theorem join_three (x y z : List UInt8) : Go.Lib.join [x, y, z] [44] = x ++ 44 :: (y ++ 44 :: z) := by rw [Go.Lib.join_cons]; simp [Go.Lib.joinTail]
theorem c44 (n : Int) : 44 ∉ pc kCpu n ∧ 44 ∉ pc kMem n ∧ 44 ∉ pc kGpu n :=
  ⟨pc_no _ n 44 (by decide) (by decide) (by decide) (by decide), pc_no _ n 44 (by decide) (by decide) (by decide) (by decide), pc_no _ n 44 (by decide) (by decide) (by decide) (by decide)⟩
theorem no_none (k : List UInt8) (n : Int) (t : List UInt8) (c : UInt8) (r : List UInt8) (hk : k = c :: r) (hc : c ≠ 110) : pc k n ++ t ≠ noneT := by
  subst hk
  unfold pc noneT
  intro h
  injection h with h1 _
  exact hc h1
theorem read_fmt (v : V3) (h1 : I64 v.1) (h2 : I64 v.2.1) (h3 : I64 v.2.2) : readP (fmt v) = some v := by
  obtain ⟨a, b, c⟩ := v
  simp only at h1 h2 h3
  unfold fmt allPcs pcs
  simp only
  by_cases ha : a = 0 <;> by_cases hb : b = 0 <;> by_cases hc : c = 0
  · subst ha hb hc; rfl
  all_goals
    rw [if_neg (by omega)]
    simp only [ha, hb, hc, if_true, if_false, List.nil_append, List.append_nil, List.cons_append, Go.Lib.join_one, join_two, join_three]
  · unfold readP
    rw [if_neg (by have := no_none kGpu c [] 103 _ rfl (by decide); rwa [List.append_nil] at this), pieces_one (c44 c).2.2]
    simp [foldP, step_gpu _ c h3]
  · unfold readP
    rw [if_neg (by have := no_none kMem b [] 109 _ rfl (by decide); rwa [List.append_nil] at this), pieces_one (c44 b).2.1]
    simp [foldP, step_mem _ b h2]
  · unfold readP
    rw [if_neg (no_none kMem b _ 109 _ rfl (by decide)), pieces_more (c44 b).2.1, pieces_one (c44 c).2.2]
    simp [foldP, step_mem _ b h2, step_gpu _ c h3]
  · unfold readP
    rw [if_neg (by have := no_none kCpu a [] 99 _ rfl (by decide); rwa [List.append_nil] at this), pieces_one (c44 a).1]
    simp [foldP, step_cpu _ a h1]
  · unfold readP
    rw [if_neg (no_none kCpu a _ 99 _ rfl (by decide)), pieces_more (c44 a).1, pieces_one (c44 c).2.2]
    simp [foldP, step_cpu _ a h1, step_gpu _ c h3]
  · unfold readP
    rw [if_neg (no_none kCpu a _ 99 _ rfl (by decide)), pieces_more (c44 a).1, pieces_one (c44 b).2.1]
    simp [foldP, step_cpu _ a h1, step_mem _ b h2]
  · unfold readP
    rw [if_neg (no_none kCpu a _ 99 _ rfl (by decide)), pieces_more (c44 a).1, pieces_more (c44 b).2.1, pieces_one (c44 c).2.2]
    simp [foldP, step_cpu _ a h1, step_mem _ b h2, step_gpu _ c h3]
/-- A text's vector, or the fault. -/
def parseP (s : List UInt8) : V3 × Int := match readP s with
  | some v => if right v.1 v.2.1 v.2.2 = true ∧ fmt v = s then (v, 0) else ((0, 0, 0), 3)
  | none => ((0, 0, 0), 3)
theorem parse_fmt (v : V3) (h1 : I64 v.1) (h2 : I64 v.2.1) (h3 : I64 v.2.2) : parseP (fmt v) = if right v.1 v.2.1 v.2.2 = true then (v, 0) else ((0, 0, 0), 3) := by
  unfold parseP
  rw [read_fmt v h1 h2 h3]
  by_cases h : right v.1 v.2.1 v.2.2 = true
  · simp [h]
  · simp [h]
theorem right_I64 {v : V3} (h : right v.1 v.2.1 v.2.2 = true) : I64 v.1 ∧ I64 v.2.1 ∧ I64 v.2.2 := by
  have := right_iff.1 h
  exact ⟨⟨by omega, by omega⟩, ⟨by omega, by omega⟩, ⟨by omega, by omega⟩⟩
end Go.Proofs.YtjpihophigjbpaaGreatDoor.Vs
/-
  The small calls: whether a vector may be, how one stands to another.
-/
namespace Go.Proofs.YtjpihophigjbpaaGreatDoor.Vs
open Go.RowKit

set_option maxRecDepth 100000 in
set_option maxHeartbeats 1000000 in
theorem Right_any (a b c : Int) (w : World) : Calls Tryz.prog 67 #[vec a b c] w (BP w (right a b c)) := by
  have h1 := fun W => Fits_any 0 0 0 a b c W
  have h2 := fun W => Fits_any a b c 1073741824 1073741824 1073741824 W
  have e := fhid (show right a b c = (decide (0 ≤ a ∧ 0 ≤ b ∧ 0 ≤ c) && decide (a ≤ 1073741824 ∧ b ≤ 1073741824 ∧ c ≤ 1073741824)) from rfl)
  generalize decide (0 ≤ a ∧ 0 ≤ b ∧ 0 ≤ c) = q1 at *
  generalize decide (a ≤ 1073741824 ∧ b ≤ 1073741824 ∧ c ≤ 1073741824) = q2 at *
  cases q1 with
  | false =>
    go_enter Tryz.func67, Tryz.ntmps67
    go_wp2_with (first
      | (go_at_call 96; (with_reducible refine (h1 _).mono ?_); rintro e w1 ⟨rfl, g1⟩))
    go_ret
    exact BP.mk' (by rw [e.out]; rfl) (((Grew.refl w).alloc _).trans g1)
  | true =>
    go_enter Tryz.func67, Tryz.ntmps67
    go_wp2_with (go_at_call 96; (with_reducible refine (h1 _).mono ?_); rintro e w1 ⟨rfl, g1⟩
                 have hbk := (g1.below.block w.heap.size (by simp)).trans (heap_alloc_new w (.cells #[.int .i64 a, .int .i64 b, .int .i64 c] 23))
                 have c0 : w1.cell? ⟨w.heap.size, 0, none⟩ = some (.int .i64 a) := by simp [World.cell?, hbk]
                 have c1 : w1.cell? ⟨w.heap.size, 1, none⟩ = some (.int .i64 b) := by simp [World.cell?, hbk]
                 have c2 : w1.cell? ⟨w.heap.size, 2, none⟩ = some (.int .i64 c) := by simp [World.cell?, hbk]
                 go_wp2_with (go_at_call 96; (with_reducible refine (h2 _).mono ?_); rintro e w2 ⟨rfl, g2⟩))
    go_ret
    exact BP.mk' (by rw [e.out]; cases q2 <;> rfl) ((((Grew.refl w).alloc _).trans g1).trans g2)
end Go.Proofs.YtjpihophigjbpaaGreatDoor.Vs
/-
  The library's strings: Cut at '=', Atoi, Itoa, Index at ','.
-/
namespace Go.Proofs.YtjpihophigjbpaaGreatDoor.Vs
open Go.RowKit

/-- The library's table of powers of ten reads as the program's text lays it. -/
def Tab (w : World) : Prop := Lib.TabIs Tryz.prog w "internal/strconv.uint64pow10" .u64 Lib.pow10Tab
theorem tab_below {w w' : World} (h : Tab w) (hb : Below w.heap.size w w') : Tab w' := ((Lib.tabBelow_of_tabIs h).on hb).here
/-- The table, and the library's two errors. -/
def Env (w : World) : Prop := Tab w ∧ (∃ t p, w.cell? ⟨2, 0, none⟩ = some (.iface t p)) ∧ (∃ t p, w.cell? ⟨3, 0, none⟩ = some (.iface t p))
theorem Env.below {w w' : World} (h : Env w) (hb : Below w.heap.size w w') : Env w' := by
  refine ⟨tab_below h.1 hb, ?_⟩
  first
    | (obtain ⟨_, ⟨t, p, h2⟩, u, q, h3⟩ := h
       exact ⟨⟨t, p, (hb.cell (block_lt_of_cell h2)).trans h2⟩, u, q, (hb.cell (block_lt_of_cell h3)).trans h3⟩)
    | trivial
theorem Env.grew {w w' : World} (h : Env w) (g : Grew w w') : Env w' := h.below g.below
theorem bytes_grew (w : World) (s : ByteArray) : Grew w (Lib.bytesWorld w 5 s) := by
  have h1 := run_bytes_of_string (P := Tryz.prog) w 9 138 5 s Tryz.underlying9 Tryz.underlying138 Tryz.underlying5
  have h2 := Lib.run_convert_string_bytes (P := Tryz.prog) w 9 138 5 s Tryz.underlying9 Tryz.underlying138 Tryz.underlying5
  rw [h1] at h2
  injection h2 with _ h2
  rw [← h2]
  exact ((Grew.refl w).drew).alloc _
/-- What Atoi answers: a number, or some number and an error. -/
def AtoiPost (w : World) (l : List UInt8) (e : Ending) (w' : World) : Prop :=
  (match Lib.atoiAll l with
  | .ok n => e = .returned (.tuple #[.int .i64 n, .nilIface])
  | _ => ∃ n N, e = .returned (.tuple #[.int .i64 n, .iface 190 (.pointer (some ⟨N, 0, none⟩))])) ∧ Below w.heap.size w w'
theorem atoi_any (s : ByteArray) (hs : s.size ≤ 140737488355328) (w : World) (hw : Env w) : Calls Tryz.prog 58 #[.string s] w (AtoiPost w (bl s)) := by
  obtain ⟨_, ⟨t, p, h2⟩, u, q, h3⟩ := hw
  unfold AtoiPost
  cases h : Lib.atoiAll (bl s) with
  | ok n =>
    refine (Tryz.strconv_Atoi_ok s (by omega) n h w).mono ?_
    rintro e w' ⟨rfl, rfl | ⟨t, rfl⟩⟩
    · exact ⟨rfl, Below.refl _ _⟩
    · exact ⟨rfl, (bytes_grew w t).below⟩
  | range =>
    refine (Tryz.strconv_Atoi_range s (by omega) h _ w h3 (.inr ⟨_, _, rfl⟩)).mono ?_
    rintro e w' ⟨N, rfl, _, _, hb⟩
    exact ⟨⟨_, _, rfl⟩, hb⟩
  | _ =>
    refine (Tryz.strconv_Atoi_syntax s (by omega) h _ w h2 (.inr ⟨_, _, rfl⟩)).mono ?_
    rintro e w' ⟨N, rfl, _, _, hb⟩
    exact ⟨⟨_, _, rfl⟩, hb⟩
theorem itoa_any (n : Int) (w : World) (hw : Env w) (h : I64 n) : Calls Tryz.prog 26 #[.int .i64 n] w fun e w' => e = .returned (.string (str (num n))) ∧ Grew w w' := by
  refine (Tryz.strconv_Itoa n h.1 h.2 w hw.1).mono ?_
  rintro e w' ⟨rfl, k, os, rfl⟩
  exact ⟨rfl, k, os, rfl⟩
theorem idx_none {c : UInt8} {l : List UInt8} (h : c ∉ l) : Lib.indexByte l c = -1 := by
  induction l with
  | nil => rfl
  | cons x r ih =>
    unfold Lib.indexByte
    rw [if_neg (by simpa using fun e : x = c => h (by rw [e]; simp)), ih (fun e => h (by simp [e]))]
    rfl
theorem idx_some {c : UInt8} {l : List UInt8} (h : c ∈ l) : Lib.indexByte l c = ((upTo c l).length : Int) ∧ (upTo c l).length < l.length := by
  induction l with
  | nil => simp at h
  | cons x r ih =>
    unfold Lib.indexByte
    rw [upTo_cons]
    by_cases e : x = c
    · rw [if_pos (by simp [e]), if_pos e]; simp
    · obtain ⟨h1, h2⟩ := ih (by rcases List.mem_cons.1 h with h | h; exact absurd h.symm e; exact h)
      rw [if_neg (by simpa using e), if_neg e, h1, if_neg (by simp)]
      simp; omega
theorem upTo_take (c : UInt8) (l : List UInt8) : upTo c l = l.take (upTo c l).length := by
  exact List.prefix_iff_eq_take.1 (List.takeWhile_prefix _)
def cutV (l : List UInt8) : Value := .tuple #[.string (str (upTo 61 l)), .string (str (behind 61 l)), .bool (decide (61 ∈ l))]
set_option maxRecDepth 100000 in
set_option maxHeartbeats 1000000 in
theorem cut0_any (s : ByteArray) (hs : s.size ≤ 140737488355328) (w : World) : Calls Tryz.prog 56 #[.string s, .string ⟨#[61]⟩] w fun e w' => e = .returned (cutV (bl s)) ∧ Grew w w' := by
  have hi := fun W => Tryz.stringslite_Index_one s 61 W
  by_cases h : 61 ∈ bl s
  · obtain ⟨h1, h2⟩ := idx_some h
    have h1' : Lib.indexByte s.data.toList 61 = ((upTo 61 (bl s)).length : Int) := h1
    rw [h1'] at hi
    rw [bl_len] at h2
    have e1 : s.extract 0 (upTo 61 (bl s)).length = str (upTo 61 (bl s)) := by rw [ext_to, ← upTo_take]
    have e2 : s.extract ((upTo 61 (bl s)).length + 1) s.size = str (behind 61 (bl s)) := by rw [ext_from]; rfl
    have hE := fhid (show cutV (bl s) = .tuple #[.string (str (upTo 61 (bl s))), .string (str (behind 61 (bl s))), .bool true] by unfold cutV; rw [decide_eq_true h])
    clear h h1 h1'
    generalize str (upTo 61 (bl s)) = A1 at *
    generalize str (behind 61 (bl s)) = A2 at *
    generalize (upTo 61 (bl s)).length = k at *
    have i1 : (0 : Int) ≤ k := by omega
    have i2 : (k : Int) < s.size := by omega
    have i3 : (s.size : Int) ≤ 140737488355328 := by omega
    have i4 : ((k : Int) + 1).toNat = k + 1 := by omega
    have i5 : (k : Int) + 1 ≤ s.size := by omega
    go_enter Tryz.func56, Tryz.ntmps56
    go_wp2_with (go_at_call 86; (with_reducible refine (hi _).mono ?_); rintro e w1 ⟨rfl, rfl⟩)
    go_quiet (fail)
    go_wp2_with fail
    exact bodyPost_ret (v := .tuple #[.string A1, .string A2, .bool true]) (by simp [results, Tryz.results56, go_sem]) rfl ⟨by rw [hE.out], (Grew.refl _).drewN _⟩
  · have h1' : Lib.indexByte s.data.toList 61 = -1 := idx_none h
    rw [h1'] at hi
    have hE := fhid (show cutV (bl s) = .tuple #[.string s, .string ⟨#[]⟩, .bool false] by
      unfold cutV
      rw [decide_eq_false h, upTo_no h, str_bl]
      unfold behind
      rw [upTo_no h, List.drop_of_length_le (by omega)]
      rfl)
    clear h1' h
    go_enter Tryz.func56, Tryz.ntmps56
    go_wp2_with (go_at_call 86; (with_reducible refine (hi _).mono ?_); rintro e w1 ⟨rfl, rfl⟩)
    exact bodyPost_ret (v := .tuple #[.string s, .string ⟨#[]⟩, .bool false]) (by simp [results, Tryz.results56, go_sem]) rfl ⟨by rw [hE.out], Grew.refl _⟩
set_option maxRecDepth 100000 in
set_option maxHeartbeats 1000000 in
theorem cut_any (s : ByteArray) (hs : s.size ≤ 140737488355328) (w : World) : Calls Tryz.prog 35 #[.string s, .string ⟨#[61]⟩] w fun e w' => e = .returned (cutV (bl s)) ∧ Grew w w' := by
  have h := fun W => cut0_any s hs W
  have hE := fhid (show cutV (bl s) = .tuple #[.string (str (upTo 61 (bl s))), .string (str (behind 61 (bl s))), .bool (decide (61 ∈ bl s))] from rfl)
  simp only [hE.out] at h ⊢
  generalize str (upTo 61 (bl s)) = A1 at *
  generalize str (behind 61 (bl s)) = A2 at *
  generalize decide (61 ∈ bl s) = A3 at *
  clear hE
  go_enter Tryz.func35, Tryz.ntmps35
  go_wp2_with (go_at_call 56; (with_reducible refine (h _).mono ?_); rintro e w1 ⟨rfl, g1⟩)
  exact bodyPost_ret (v := .tuple #[.string A1, .string A2, .bool A3]) (by simp [results, Tryz.results35, go_sem]) rfl ⟨rfl, g1⟩
end Go.Proofs.YtjpihophigjbpaaGreatDoor.Vs
/-
  Rows of the call's own; a name put behind others.
-/
namespace Go.Proofs.YtjpihophigjbpaaGreatDoor.Vs
open Go.RowKit

/-- The slice at address A holds these cells, in a block below B. -/
def SegC (w : World) (B : Nat) (A : Option Addr) (vs : List Value) : Prop :=
  0 < vs.length → ∃ b o, A = some ⟨b, o, none⟩ ∧ b < B ∧ ∀ j (h : j < vs.length), w.cell? ⟨b, o + j, none⟩ = some vs[j]
section
variable {w w' : World} {B B' : Nat} {A : Option Addr} {vs : List Value}
theorem SegC.nil (w : World) (B : Nat) (A : Option Addr) : SegC w B A [] := fun h => absurd h (Nat.lt_irrefl 0)
theorem SegC.keep (h : SegC w B A vs) (hk : ∀ p : Addr, p.block < B → w'.cell? p = w.cell? p) : SegC w' B A vs := fun h0 => by
  obtain ⟨b, o, e, hb, hc⟩ := h h0
  exact ⟨b, o, e, hb, fun j hj => (hk _ hb).trans (hc j hj)⟩
theorem SegC.more (h : SegC w B A vs) (hB : B ≤ B') : SegC w B' A vs := fun h0 => by
  obtain ⟨b, o, e, hb, hc⟩ := h h0
  exact ⟨b, o, e, by omega, hc⟩
theorem SegC.below (h : SegC w B A vs) (hb : Below B w w') : SegC w' B A vs := h.keep fun _ hp => hb.cell hp
theorem SegC.take (h : SegC w B A vs) (k : Nat) : SegC w B A (vs.take k) := fun h0 => by
  rw [List.length_take] at h0
  obtain ⟨b, o, e, hb, hc⟩ := h (by omega)
  refine ⟨b, o, e, hb, fun j hj => ?_⟩
  rw [List.length_take] at hj
  rw [List.getElem_take]
  exact hc j (by omega)
theorem SegC.drop (h : SegC w B A vs) {k cap : Nat} (hk : k ≤ vs.length) (hc : vs.length ≤ cap) : SegC w B (if cap = k then A else A.map (·.add k)) (vs.drop k) := fun h0 => by
  rw [List.length_drop] at h0
  obtain ⟨b, o, rfl, hb, hcell⟩ := h (by omega)
  rw [if_neg (by omega)]
  refine ⟨b, o + k, ?_, hb, fun j hj => ?_⟩
  · show some (Addr.add _ _) = _
    unfold Addr.add
    by_cases h0 : k = 0
    · rw [if_pos h0, h0, Nat.add_zero]
    · rw [if_neg h0]
  · rw [List.getElem_drop, Nat.add_assoc]
    exact hcell (k + j) (by rw [List.length_drop] at hj; omega)
end
theorem ownsRow_below {w w' : World} {base : Nat} {e : TypeId} {size n : Nat} {v : Value} {xs : List Value} (h : w.ownsRow base e size v n xs) (hb : Below w.heap.size w w') : w'.ownsRow base e size v n xs := by
  refine ⟨h.1, ?_⟩
  rcases h.2 with ⟨rfl, hn⟩ | ⟨g, cap, cur, rfl, hg, hh, rest⟩
  · exact .inl ⟨rfl, hn⟩
  · exact .inr ⟨g, cap, cur, rfl, hg, (hb.block g (Array.getElem?_eq_some_iff.1 hh).1).trans hh, rest⟩
theorem ownsRow_base {w : World} {base base' : Nat} {e : TypeId} {size n : Nat} {v : Value} {xs : List Value} (h : w.ownsRow base e size v n xs) (hb : base' ≤ base) : w.ownsRow base' e size v n xs := by
  refine ⟨h.1, ?_⟩
  rcases h.2 with ⟨rfl, hn⟩ | ⟨g, cap, cur, rfl, hg, hh, rest⟩
  · exact .inl ⟨rfl, hn⟩
  · exact .inr ⟨g, cap, cur, rfl, by omega, hh, rest⟩
theorem ownsRow_shape {w : World} {base : Nat} {e : TypeId} {size n : Nat} {v : Value} {xs : List Value} (h : w.ownsRow base e size v n xs) : ∃ A cap, v = .slice A n cap ∧ n ≤ cap ∧ cap ≤ maxLen ∧ SegC w w.heap.size A xs := by
  obtain ⟨hl, ⟨rfl, rfl⟩ | ⟨g, cap, cur, rfl, _, hg, hle, hcm, hsz, ht⟩⟩ := h
  · rw [Nat.zero_mul] at hl
    rw [List.eq_nil_of_length_eq_zero hl]
    exact ⟨none, 0, rfl, Nat.le_refl _, by unfold maxLen; omega, SegC.nil _ _ _⟩
  · refine ⟨some ⟨g, 0, none⟩, cap, rfl, hle, hcm, fun h0 => ⟨g, 0, rfl, (Array.getElem?_eq_some_iff.1 hg).1, fun j hj => ?_⟩⟩
    have e : (cur.toList.take (n * size))[j]? = some xs[j] := by rw [ht, List.getElem?_eq_getElem hj]
    rw [List.getElem?_take, if_pos (by omega), Array.getElem?_toList] at e
    simp only [World.cell?, hg, Nat.zero_add]
    simpa using e
theorem ownsRow_ge {w : World} {base : Nat} {e : TypeId} {size n : Nat} {v : Value} {xs : List Value} (h : w.ownsRow base e size v n xs) (k : Nat) (hk : v.ownBlock = some k) : base ≤ k := by
  obtain ⟨_, ⟨rfl, _⟩ | ⟨g, cap, cur, rfl, hg, _⟩⟩ := h
  · simp [Value.ownBlock] at hk
  · simp [Value.ownBlock] at hk; omega
theorem ownsRow_nil (w : World) (base : Nat) (e : TypeId) (size : Nat) : w.ownsRow base e size (.slice none 0 0) 0 [] := ⟨by simp, .inl ⟨rfl, rfl⟩⟩
/-- A block with another tag than the row's is not the row's. -/
theorem own_tag {w : World} {base b : Nat} {e T : TypeId} {size n : Nat} {v : Value} {xs : List Value} {cs : Array Value} {fr : Nat × Nat} (h : w.ownsRow base e size v n xs) (hb : w.heap[b]? = some (.cells cs T fr)) (hT : T ≠ e) : some b ≠ v.ownBlock := by
  obtain ⟨_, ⟨rfl, _⟩ | ⟨g, cap, cur, rfl, _, hg, _⟩⟩ := h
  · simp [Value.ownBlock]
  · intro he
    have : b = g := by simpa [Value.ownBlock] using he
    subst this
    rw [hb] at hg
    injection hg with hg
    injection hg with _ ht
    exact hT ht

/-- Values put behind a row of the call's own. -/
theorem app_own {w : World} {ops : Array Oper} {rest : List Oper} {o : Oper} {a : Act} {Q : Exit → Act → World → Prop} (T e : TypeId) (z : Value) (size bytes : Nat)
    (hT : Tryz.prog.underlying T = some (.slice e)) (hinfo : (Tryz.prog.info? e).map (fun i => (i.zero, i.size, i.bytes)) = some (some z, size, bytes)) (hzs : z.cells.size = size) (hsz : 0 < size)
    (hgd : o.guard = none) (s x : Operand) (ho : o.op = .call { callee := .builtin .append, args := #[s, x], argTypes := #[T, T] })
    (base : Nat) (v : Value) (n : Nat) (xs : List Value) (hs : a.eval s = v) (hown : w.ownsRow base e size v n xs)
    (B : Nat) (A : Option Addr) (m c : Nat) (us : List Value) (hx : a.eval x = .slice A m c) (hr : SegC w B A us) (hl : us.length = m * size) (h1 : ∀ u ∈ us, u.oneCell' = true) (hA : A = none → m = 0)
    (hlen : (n + m) * bytes ≤ 140737488355328) (hnm : n + m ≤ 140737488355328) (hbase : base ≤ w.heap.size)
    (h : ∀ v' w', w'.ownsRow base e size v' (n + m) (xs ++ us) → w.grownBy w' v.ownBlock → Below base w w' → wpList Tryz.prog ops Q rest (a.put o.dst v') w') : wpList Tryz.prog ops Q (o :: rest) a w := by
  obtain ⟨i0, hi, hz0, hz1, hz2⟩ := info_parts hinfo
  have hrun : ∃ v' w', (Builtin.append_ #[T, T] o.type #[v, .slice A m c]).run Tryz.prog w = .ok v' w' ∧ w'.ownsRow base e size v' (n + m) (xs ++ us) ∧ w.grownBy w' v.ownBlock := by
    by_cases h0 : 0 < m
    · obtain ⟨b, of, rfl, _, hc⟩ := hr (by rw [hl]; exact Nat.mul_pos h0 hsz)
      obtain ⟨v', w', hrun, h2, h3, _, _⟩ := run_append_own_at (P := Tryz.prog) w base T o.type e i0 z size bytes hT hi hz0 hz1 hz2 hzs hsz v n xs hown ⟨b, of, none⟩ m c us hl (fun j u hu => by
          obtain ⟨hj, rfl⟩ := List.getElem?_eq_some_iff.1 hu
          have := hc j hj
          unfold Addr.add
          by_cases hz : j = 0
          · subst hz; rw [if_pos rfl]; exact this
          · rw [if_neg hz]; exact this) h1 (by unfold maxLen; omega) hlen hbase
      exact ⟨v', w', hrun, h2, h3⟩
    · have hm : m = 0 := by omega
      subst hm
      have hu : us = [] := List.eq_nil_of_length_eq_zero (by omega)
      subst hu
      cases A with
      | none =>
        refine ⟨v, w, ?_, by simpa using hown, ⟨rfl, rfl, rfl, Nat.le_refl _, fun _ _ _ => rfl⟩⟩
        rcases hown.2 with ⟨rfl, rfl⟩ | ⟨g, cap, cur, rfl, _, _, hnc, _⟩
        · simp [Builtin.append_, run_underlying hT, sizeOf, typeInfo, hi, Builtin.lenOf, Builtin.firstCells]
        · simp [Builtin.append_, run_underlying hT, sizeOf, typeInfo, hi, Builtin.lenOf, Builtin.firstCells, hnc, storeCells]
      | some ad =>
        obtain ⟨v', w', hrun, h2, h3, _, _⟩ := run_append_own_at (P := Tryz.prog) w base T o.type e i0 z size bytes hT hi hz0 hz1 hz2 hzs hsz v n xs hown ad 0 c [] (by simp) (fun j u hu => by simp at hu) (fun u hu => by simp at hu) (by unfold maxLen; omega) hlen hbase
        exact ⟨v', w', hrun, h2, h3⟩
  obtain ⟨v', w', hrun, h2, h3⟩ := hrun
  refine wpList_plain hgd fun K hK => ?_
  unfold Oper.wp execOp
  simp only [ho, resolve, invoke, builtin, Sem.run_bind, Sem.run_pure, Result.andThen_ok, List.map_toArray, List.map_cons, List.map_nil, hs, hx, hrun]
  exact hK _ _ (h v' w' h2 h3 ((Below.refl _ _).grown h3 hbase (fun k hk => ownsRow_ge hown k hk)))

/-- Names as cells. -/
def SV (ns : List (List UInt8)) : List Value := ns.map fun l => .string (str l)
theorem SV_len (ns : List (List UInt8)) : (SV ns).length = ns.length := List.length_map _
theorem SV_get (ns : List (List UInt8)) (j : Nat) (h : j < ns.length) (h' : j < (SV ns).length) : (SV ns)[j] = .string (str ns[j]) := by simp [SV]
theorem SV_app (a b : List (List UInt8)) : SV (a ++ b) = SV a ++ SV b := List.map_append
theorem SV_one (ns : List (List UInt8)) : ∀ u ∈ SV ns, u.oneCell' = true := by
  intro u hu
  obtain ⟨c, _, rfl⟩ := List.mem_map.1 hu
  rfl
theorem infoString : (Tryz.prog.info? 9).map (fun i => (i.zero, i.size, i.bytes)) = some (some (.string ⟨#[]⟩), 1, 16) := by kernel_rfl
/-- The slice at address A reads as these names. -/
def Strs (w : World) (B : Nat) (A : Option Addr) (ns : List (List UInt8)) : Prop := SegC w B A (SV ns)
theorem Strs.at_ {w : World} {B : Nat} {A : Option Addr} {ns : List (List UInt8)} (h : Strs w B A ns) {k : Nat} (hk : k < ns.length) : ∃ b o, A = some ⟨b, o, none⟩ ∧ b < B ∧ w.cell? ⟨b, o + k, none⟩ = some (.string (str ns[k])) := by
  obtain ⟨b, o, e, hb, hc⟩ := h (by rw [SV_len]; omega)
  refine ⟨b, o, e, hb, ?_⟩
  have := hc k (by rw [SV_len]; exact hk)
  rwa [SV_get ns k hk] at this
/-- A slice of the call's own holds these names. -/
def OwnS (w : World) (base : Nat) (v : Value) (ns : List (List UInt8)) : Prop := w.ownsRow base 9 1 v ns.length (SV ns)
theorem one_cells (w : World) (cs : List Value) (T : TypeId) : SegC (w.alloc (.cells cs.toArray T)) (w.heap.size + 1) (some ⟨w.heap.size, 0, none⟩) cs := fun _ => by
  refine ⟨w.heap.size, 0, rfl, Nat.lt_succ_self _, fun j hj => ?_⟩
  have h := heap_alloc_new w (.cells cs.toArray T)
  simp only [World.cell?, h, Nat.zero_add]
  simp [List.getElem?_eq_getElem hj]
section
variable {w : World} {ops : Array Oper} {rest : List Oper} {o : Oper} {a : Act} {Q : Exit → Act → World → Prop}
theorem app_name (hgd : o.guard = none) (s x : Operand) (ho : o.op = .call { callee := .builtin .append, args := #[s, x], argTypes := #[51, 51] })
    (base : Nat) (v : Value) (ns : List (List UInt8)) (n : List UInt8) (S : ByteArray) (hS : S = str n) (w0 : World) (hs : a.eval s = v) (hown : OwnS w0 base v ns)
    (hw : w = w0.alloc (.cells #[.string S] 9)) (g : Nat) (hg : g = w0.heap.size) (hx : a.eval x = .slice (some ⟨g, 0, none⟩) 1 1) (hlen : ns.length ≤ 1048576) (hbase : base ≤ w0.heap.size)
    (h : ∀ v' w', OwnS w' base v' (ns ++ [n]) → w0.grownBy w' v.ownBlock → Below base w0 w' → wpList Tryz.prog ops Q rest (a.put o.dst v') w') : wpList Tryz.prog ops Q (o :: rest) a w := by
  subst hS
  subst hw
  subst hg
  refine app_own 51 9 (.string ⟨#[]⟩) 1 16 Tryz.underlying51 infoString rfl (by decide) hgd s x ho base v ns.length (SV ns) hs (World.ownsRow.alloc hown _) (w0.heap.size + 1) (some ⟨w0.heap.size, 0, none⟩) 1 1 [.string (str n)] hx (one_cells w0 _ _) rfl (fun u hu => by simp at hu; rcases hu with rfl; rfl) (fun h => by cases h) (by omega) (by omega) (by rw [World.size_alloc]; omega) ?_
  intro v' w' h1 h2 h3
  refine h v' w' ?_ ⟨h2.os, h2.tape, h2.output, Nat.le_trans (by rw [World.size_alloc]; omega) h2.size, fun k hk hne => (h2.block k (by rw [World.size_alloc]; omega) hne).trans (Below.heap_alloc _ _ _ hk)⟩ (((Below.refl _ _).alloc hbase _).trans h3)
  unfold OwnS
  rw [SV_app, List.length_append]
  exact h1
end
theorem OwnS.below {w w' : World} {base : Nat} {v : Value} {ns : List (List UInt8)} (h : OwnS w base v ns) (hb : Below w.heap.size w w') : OwnS w' base v ns := ownsRow_below h hb
theorem OwnS.nil (w : World) (base : Nat) : OwnS w base (.slice none 0 0) [] := ownsRow_nil _ _ _ _
end Go.Proofs.YtjpihophigjbpaaGreatDoor.Vs
/-
  How two vectors stand to each other.
-/
namespace Go.Proofs.YtjpihophigjbpaaGreatDoor.Vs
open Go.RowKit

end Go.Proofs.YtjpihophigjbpaaGreatDoor.Vs
/-
  Which comes ahead; how often one fits into another one.
-/
namespace Go.Proofs.YtjpihophigjbpaaGreatDoor.Vs
open Go.RowKit

end Go.Proofs.YtjpihophigjbpaaGreatDoor.Vs
/-
  Lists of vectors in memory; whether all may be; Into and the document's.
-/
namespace Go.Proofs.YtjpihophigjbpaaGreatDoor.Vs
open Go.RowKit

/-- The slice at address A reads as these vectors. -/
def SegV (w : World) (B : Nat) (A : Option Addr) (l : List V3) : Prop :=
  0 < l.length → ∃ b o, A = some ⟨b, o, none⟩ ∧ b < B ∧ ∀ j (h : j < l.length), w.cell? ⟨b, o + j * 3, none⟩ = some (.int .i64 l[j].1) ∧ w.cell? ⟨b, o + j * 3 + 1, none⟩ = some (.int .i64 l[j].2.1) ∧ w.cell? ⟨b, o + j * 3 + 2, none⟩ = some (.int .i64 l[j].2.2)
theorem SegV.below {w w' : World} {B : Nat} {A : Option Addr} {l : List V3} (h : SegV w B A l) (hb : Below B w w') : SegV w' B A l := fun h0 => by
  obtain ⟨b, o, e, hlt, hc⟩ := h h0
  refine ⟨b, o, e, hlt, fun j hj => ?_⟩
  obtain ⟨h1, h2, h3⟩ := hc j hj
  exact ⟨(hb.cell (p := ⟨b, _, none⟩) hlt).trans h1, (hb.cell (p := ⟨b, _, none⟩) hlt).trans h2, (hb.cell (p := ⟨b, _, none⟩) hlt).trans h3⟩
theorem SegV.more {w : World} {B B' : Nat} {A : Option Addr} {l : List V3} (h : SegV w B A l) (hB : B ≤ B') : SegV w B' A l := fun h0 => by
  obtain ⟨b, o, e, hlt, hc⟩ := h h0
  exact ⟨b, o, e, by omega, hc⟩
end Go.Proofs.YtjpihophigjbpaaGreatDoor.Vs
/-
  Sums, differences, multiples of vectors.
-/
namespace Go.Proofs.YtjpihophigjbpaaGreatDoor.Vs
open Go.RowKit

theorem eql_vec (a b c d e f : Int) (w : World) : (binOp .eql 23 (vec a b c) (vec d e f)).run Tryz.prog w = .ok (.bool (decide (a = d ∧ b = e ∧ c = f))) w := by
  have hS : Tryz.prog.underlying 23 = some (.struct (Tryz.prog.fieldsOf 23)) := by kernel_rfl
  have hp : Tryz.prog.stoodInHeld 23 = false := by kernel_rfl
  rw [run_eql_struct, show (10000 : Nat) = 9999 + 1 from rfl, run_equalIn_agg w 9999 23 _ _ hS hp]
  simp only [Program.fieldsOf, Tryz.underlying23]
  go_simp
  by_cases h1 : a = d <;> by_cases h2 : b = e <;> by_cases h3 : c = f <;> simp [h1, h2, h3]
def VP (w : World) (r : V3 × Int) (e : Ending) (w' : World) : Prop := e = .returned (.tuple #[vv r.1, .int .i64 r.2]) ∧ Below w.heap.size w w'
end Go.Proofs.YtjpihophigjbpaaGreatDoor.Vs
/-
  combine, at whatever is done to the parts.
-/
namespace Go.Proofs.YtjpihophigjbpaaGreatDoor.Vs
open Go.RowKit

/-- A vector's box. -/
def VB (w : World) (b : Nat) (x y z : Int) : Prop := w.heap[b]? = some (.cells #[.int .i64 x, .int .i64 y, .int .i64 z] 23 (0, 0))
theorem VB.facts {w : World} {b : Nat} {x y z : Int} (h : VB w b x y z) : w.cell? ⟨b, 0, none⟩ = some (.int .i64 x) ∧ w.cell? ⟨b, 1, none⟩ = some (.int .i64 y) ∧ w.cell? ⟨b, 2, none⟩ = some (.int .i64 z) ∧ (w.frozen? ⟨b, 0, none⟩ = false ∧ w.frozen? ⟨b, 1, none⟩ = false ∧ w.frozen? ⟨b, 2, none⟩ = false) ∧ b < w.heap.size := by
  unfold VB at h
  exact ⟨by simp [World.cell?, h], by simp [World.cell?, h], by simp [World.cell?, h], ⟨by simp [World.frozen?, h], by simp [World.frozen?, h], by simp [World.frozen?, h]⟩, lt_of_block h⟩
theorem VB.grew {w w' : World} {b : Nat} {x y z : Int} (h : VB w b x y z) (g : Grew w w') : VB w' b x y z := (g.below.block b (lt_of_block h)).trans h
theorem VB.on {w w' : World} {b : Nat} {x y z : Int} (h : VB w b x y z) (g : Below w.heap.size w w') : VB w' b x y z := (g.block b (lt_of_block h)).trans h
theorem VB.new (w : World) (x y z : Int) (g : Nat) (hg : g = w.heap.size) : VB (w.alloc (.cells #[.int .i64 x, .int .i64 y, .int .i64 z] 23)) g x y z := by subst hg; exact heap_alloc_new _ _
end Go.Proofs.YtjpihophigjbpaaGreatDoor.Vs
/-
  combine, walked.
-/
namespace Go.Proofs.YtjpihophigjbpaaGreatDoor.Vs
open Go.RowKit

theorem set3 {w u : World} (h : Below w.heap.size w u) {b : Nat} (hb : w.heap.size ≤ b) (x y z : Value) : Below w.heap.size w (((u.setCell ⟨b, 0, none⟩ x).setCell ⟨b, 1, none⟩ y).setCell ⟨b, 2, none⟩ z) :=
  ((h.setCell (p := ⟨b, 0, none⟩) hb _).setCell (p := ⟨b, 1, none⟩) hb _).setCell (p := ⟨b, 2, none⟩) hb _
end Go.Proofs.YtjpihophigjbpaaGreatDoor.Vs
/-
  Add, Sub, Times.
-/
namespace Go.Proofs.YtjpihophigjbpaaGreatDoor.Vs
open Go.RowKit

theorem VP.ret {w w' : World} {r : V3 × Int} {x y z e : Int} (h : ((x, y, z), e) = r) (b : Below w.heap.size w w') : VP w r (.returned (.tuple #[vec x y z, .int .i64 e])) w' := by subst h; exact ⟨rfl, b⟩

end Go.Proofs.YtjpihophigjbpaaGreatDoor.Vs
/-
  Times; Add.
-/
namespace Go.Proofs.YtjpihophigjbpaaGreatDoor.Vs
open Go.RowKit

theorem block_set {w : World} {b : Nat} {cs : Array Value} {t : TypeId} (i : Nat) (u : Value) (h : w.heap[b]? = some (.cells cs t (0, 0))) : (w.setCell ⟨b, i, none⟩ u).heap[b]? = some (.cells (cs.setIfInBounds i u) t (0, 0)) := by
  have hlt := lt_of_block h
  have h' : w.heap[b] = .cells cs t (0, 0) := by simpa [Array.getElem?_eq_getElem hlt] using h
  show (w.heap.modify b _)[b]? = _
  rw [Array.getElem?_eq_getElem (by simpa using hlt), Array.getElem_modify_self, h']
  rfl
theorem block_other {w : World} {b c : Nat} {o : Option Obj} (i : Nat) (u : Value) (h : w.heap[b]? = o) (hne : b ≠ c) : (w.setCell ⟨c, i, none⟩ u).heap[b]? = o := (Below.heap_setCell _ _ _ _ hne).trans h
theorem VB.put {w : World} {b : Nat} {x y z : Int} (h : VB w b x y z) (p q r : Int) : VB (((w.setCell ⟨b, 0, none⟩ (.int .i64 p)).setCell ⟨b, 1, none⟩ (.int .i64 q)).setCell ⟨b, 2, none⟩ (.int .i64 r)) b p q r := block_set 2 _ (block_set 1 _ (block_set 0 _ h))
theorem VB.other {w : World} {b c : Nat} {x y z : Int} (h : VB w b x y z) (hne : b ≠ c) (p q r : Value) : VB (((w.setCell ⟨c, 0, none⟩ p).setCell ⟨c, 1, none⟩ q).setCell ⟨c, 2, none⟩ r) b x y z := block_other 2 _ (block_other 1 _ (block_other 0 _ h hne) hne) hne
end Go.Proofs.YtjpihophigjbpaaGreatDoor.Vs
/-
  A vector's text.
-/
namespace Go.Proofs.YtjpihophigjbpaaGreatDoor.Vs
open Go.RowKit

theorem num_len (n : Int) (h : I64 n) : (num n).length ≤ 21 := Go.Lib.itoa_length_le n h.1 h.2
set_option maxRecDepth 100000 in
set_option maxHeartbeats 2000000 in
theorem appendPart_any (base : Nat) (v : Value) (ns : List (List UInt8)) (k : List UInt8) (K : ByteArray) (hK : K = str k) (n : Int) (w : World) (hw : Env w) (hn : I64 n) (hown : OwnS w base v ns) (hb : base ≤ w.heap.size) (hl : ns.length ≤ 10) (hk : k.length ≤ 10) :
    Calls Tryz.prog 68 #[v, .string K, .int .i64 n] w fun e w' => ∃ v', e = .returned v' ∧ OwnS w' base v' (ns ++ pcs k n) ∧ Below base w w' := by
  subst hK
  by_cases h0 : n = 0
  · subst h0
    have hE := fhid (show ns ++ pcs k 0 = ns by unfold pcs; rw [if_pos rfl, List.append_nil])
    replace hown := fhid hown
    clear hn
    go_enter Tryz.func68, Tryz.ntmps68
    go_wp2_with fail
    go_ret
    exact ⟨_, rfl, by rw [hE.out]; exact hown.out, Below.refl _ _⟩
  · have hE := fhid (show ns ++ pcs k n = ns ++ [pc k n] by unfold pcs; rw [if_neg h0])
    have hi := fun W (hW : Grew w W) => itoa_any n W (hw.grew hW) hn
    have hz : (n == 0) = false := by simpa using h0
    have hnl := num_len n hn
    have q1 : str k ++ ⟨#[61]⟩ = str (k ++ [61]) := str_app k [61]
    have q2 : str (k ++ [61]) ++ str (num n) = str (pc k n) := str_app _ _
    have s1 := str_size k
    have s2 := str_size (k ++ [61])
    have s3 := str_size (num n)
    rw [List.length_append, List.length_singleton] at s2
    have b1 : ¬ 9223372036854775807 < (str k).size + 1 := by omega
    have b2 : ¬ 9223372036854775807 < (str (k ++ [61])).size + (str (num n)).size := by omega
    clear s1 s2 s3 hnl
    generalize hQ : str (pc k n) = Q at *
    replace hQ := fhid hQ
    generalize str (k ++ [61]) = K1 at *
    generalize str (num n) = N1 at *
    generalize str k = K0 at *
    replace hown := fhid hown
    go_enter Tryz.func68, Tryz.ntmps68
    go_wp2_with (first
      | (go_at_call 26; (with_reducible refine (hi _ (Grew.refl w)).mono ?_); rintro e w1 ⟨rfl, g1⟩)
      | (at_builtin
         refine app_name rfl _ _ rfl base v ns (pc k n) Q hQ.out.symm _ rfl (hown.out.below g1.below) rfl _ (by first | rfl | simp) rfl (by omega) (Nat.le_trans hb g1.below.size) ?_
         intro v' w2 o2 r2 b2))
    go_ret
    exact ⟨_, rfl, by rw [hE.out]; exact o2, (g1.below.mono hb).trans b2⟩
theorem pcs_len (k : List UInt8) (n : Int) : (pcs k n).length ≤ 1 := by unfold pcs; split <;> simp
theorem pcs_each (k : List UInt8) (n : Int) (h : I64 n) (hk : k.length = 3) : ∀ x ∈ pcs k n, x.length ≤ 25 := by
  intro x hx
  unfold pcs at hx
  split at hx
  · simp at hx
  · have := num_len n h
    simp at hx
    subst hx
    unfold pc
    simp [hk]
    omega
theorem allPcs_facts (v : V3) (h1 : I64 v.1) (h2 : I64 v.2.1) (h3 : I64 v.2.2) : (allPcs v).length ≤ 3 ∧ ∀ x ∈ allPcs v, x.length ≤ 25 := by
  have a := pcs_len kCpu v.1
  have b := pcs_len kMem v.2.1
  have c := pcs_len kGpu v.2.2
  unfold allPcs
  refine ⟨by rw [List.length_append, List.length_append]; omega, fun x hx => ?_⟩
  rcases List.mem_append.1 hx with hx | hx
  · rcases List.mem_append.1 hx with hx | hx
    · exact pcs_each _ _ h1 rfl x hx
    · exact pcs_each _ _ h2 rfl x hx
  · exact pcs_each _ _ h3 rfl x hx
theorem joinTail_le (r : List (List UInt8)) (h : ∀ x ∈ r, x.length ≤ 25) : (Go.Lib.joinTail [44] r).length ≤ 26 * r.length := by
  induction r with
  | nil => simp [Go.Lib.joinTail]
  | cons x r ih =>
    have h1 := h x (by simp)
    have h2 := ih (fun y hy => h y (by simp [hy]))
    have e : Go.Lib.joinTail [44] (x :: r) = ([44] ++ x) ++ Go.Lib.joinTail [44] r := by simp [Go.Lib.joinTail]
    rw [e, List.length_append, List.length_append, List.length_cons, List.length_cons, List.length_nil]
    omega
theorem join_le (ns : List (List UInt8)) (hl : ns.length ≤ 3) (h : ∀ x ∈ ns, x.length ≤ 25) : (Go.Lib.join ns [44]).length ≤ 100 := by
  cases ns with
  | nil => decide
  | cons x r =>
    have h1 := h x (by simp)
    have h2 := joinTail_le r (fun y hy => h y (by simp [hy]))
    rw [Go.Lib.join_cons, List.length_append]
    rw [List.length_cons] at hl
    omega
theorem fmt_le (v : V3) (h1 : I64 v.1) (h2 : I64 v.2.1) (h3 : I64 v.2.2) : (fmt v).length ≤ 100 := by
  obtain ⟨a, b⟩ := allPcs_facts v h1 h2 h3
  unfold fmt
  split
  · decide
  · exact join_le _ a b
theorem map_str (ns : List (List UInt8)) : (ns.map str).map (fun x => x.data.toList) = ns := by
  induction ns with
  | nil => rfl
  | cons x r ih => simp [str] at ih ⊢; exact ih
/-- Names of the call's own, joined. -/
theorem join_any (base : Nat) (v : Value) (ns : List (List UInt8)) (w : World) (hown : OwnS w base v ns) (h0 : ns ≠ []) (hl : ns.length ≤ 3) (h : ∀ x ∈ ns, x.length ≤ 25) :
    Calls Tryz.prog 69 #[v, .string ⟨#[44]⟩] w fun e w' => e = .returned (.string (str (Go.Lib.join ns [44]))) ∧ Below w.heap.size w w' := by
  obtain ⟨A, cap, rfl, hc, _, hs⟩ := ownsRow_shape hown
  have hp : 0 < ns.length := List.length_pos_iff.2 h0
  obtain ⟨b, o, rfl, hb, hcell⟩ := hs (by rw [SV_len]; exact hp)
  have := Tryz.strings_Join b o cap (ns.map str) ⟨#[44]⟩ w (fun j x hx => by
    rw [List.getElem?_map] at hx
    cases hn : ns[j]? with
    | none => rw [hn] at hx; cases hx
    | some y =>
      rw [hn] at hx
      obtain ⟨hj, rfl⟩ := List.getElem?_eq_some_iff.1 hn
      have hx' : str ns[j] = x := by simpa using hx
      subst hx'
      rw [hcell j (by rw [SV_len]; exact hj), SV_get ns j hj]) hb (by rw [List.length_map]; omega) (by rw [List.length_map]; exact hc) (by
        rw [map_str]
        have := join_le ns hl h
        show (Go.Lib.join ns [44]).length ≤ _
        omega)
  rw [map_str, List.length_map] at this
  exact this
set_option maxRecDepth 100000 in
set_option maxHeartbeats 4000000 in
theorem Format_any (a b c : Int) (w : World) (hw : Env w) (ha : I64 a) (hb : I64 b) (hc : I64 c) :
    Calls Tryz.prog 46 #[vec a b c] w fun e w' => e = .returned (.string (str (fmt (a, b, c)))) ∧ Below w.heap.size w w' := by
  have hq := fun W => eql_vec a b c 0 0 0 W
  by_cases h0 : a = 0 ∧ b = 0 ∧ c = 0
  · rw [decide_eq_true h0] at hq
    have hE := fhid (show fmt (a, b, c) = noneT from if_pos h0)
    clear h0 ha hb hc
    go_enter Tryz.func46, Tryz.ntmps46
    go_wp2_with fail
    go_ret
    exact ⟨frets (by rw [hE.out]; rfl), (Below.refl _ _).alloc (Nat.le_refl _) _⟩
  · rw [decide_eq_false h0] at hq
    obtain ⟨f1, f2⟩ := allPcs_facts (a, b, c) ha hb hc
    have f3 : allPcs (a, b, c) ≠ [] := by
      unfold allPcs pcs
      simp
      by_cases h1 : a = 0
      · by_cases h2 : b = 0
        · simp [h1, h2]; intro h3; exact h0 ⟨h1, h2, h3⟩
        · simp [h1, h2]
      · simp [h1]
    have hE := fhid (show fmt (a, b, c) = Go.Lib.join (allPcs (a, b, c)) [44] from if_neg h0)
    have l1 := pcs_len kCpu a
    have l2 := pcs_len kMem b
    have ap1 := fun (v : Value) (base : Nat) (W : World) (hW : Env W) (o : OwnS W base v []) (h : base ≤ W.heap.size) => appendPart_any base v [] kCpu ⟨#[99, 112, 117]⟩ rfl a W hW ha o h (by simp) (by decide)
    have ap2 := fun (v : Value) (base : Nat) (W : World) (hW : Env W) (o : OwnS W base v ([] ++ pcs kCpu a)) (h : base ≤ W.heap.size) => appendPart_any base v ([] ++ pcs kCpu a) kMem ⟨#[109, 101, 109]⟩ rfl b W hW hb o h (by rw [List.nil_append]; omega) (by decide)
    have ap3 := fun (v : Value) (base : Nat) (W : World) (hW : Env W) (o : OwnS W base v ([] ++ pcs kCpu a ++ pcs kMem b)) (h : base ≤ W.heap.size) => appendPart_any base v ([] ++ pcs kCpu a ++ pcs kMem b) kGpu ⟨#[103, 112, 117]⟩ rfl c W hW hc o h (by rw [List.nil_append, List.length_append]; omega) (by decide)
    rw [show [] ++ pcs kCpu a ++ pcs kMem b ++ pcs kGpu c = allPcs (a, b, c) by rw [List.nil_append]; rfl] at ap3
    generalize allPcs (a, b, c) = L3 at *
    generalize [] ++ pcs kCpu a ++ pcs kMem b = L2 at *
    generalize [] ++ pcs kCpu a = L1 at *
    have jn := fun (v : Value) (base : Nat) (W : World) (o : OwnS W base v L3) => join_any base v L3 W o f3 f1 f2
    clear h0 ha hb hc l1 l2 f1 f2 f3
    generalize Go.Lib.join L3 [44] = J at *
    replace hw := fhid hw
    go_enter Tryz.func46, Tryz.ntmps46
    go_upto_region 1 with fail
    have hz := fhid (World.size_alloc w (.cells #[.int .i64 a, .int .i64 b, .int .i64 c] 23))
    have v1 := VB.new w a b c _ rfl
    have g1 := fhid ((Grew.refl w).alloc (.cells #[.int .i64 a, .int .i64 b, .int .i64 c] 23))
    generalize w.alloc _ = w1 at *
    have k1 := fhid v1
    obtain ⟨c0, c1, c2, _⟩ := v1.facts
    clear v1
    go_wp2_with (first
      | (go_at_call 68
         (with_reducible refine (ap1 _ w1.heap.size w1 (hw.out.grew g1.out) (OwnS.nil _ _) (Nat.le_refl _)).mono ?_); clear ap1
         rintro e w2 ⟨p2, rfl, o2, b2⟩
         have k2 := fhid (k1.out.on b2)
         clear c0 c1 c2
         obtain ⟨c0, c1, c2, _⟩ := k2.out.facts)
      | (go_at_call 68
         (with_reducible refine (ap2 _ w1.heap.size w2 ((hw.out.grew g1.out).below b2) o2 b2.size).mono ?_); clear ap2
         rintro e w3 ⟨p3, rfl, o3, b3⟩
         have y3 := b2.trans b3
         have k3 := fhid (k1.out.on y3)
         clear c0 c1 c2
         obtain ⟨c0, c1, c2, _⟩ := k3.out.facts)
      | (go_at_call 68
         (with_reducible refine (ap3 _ w1.heap.size w3 ((hw.out.grew g1.out).below y3) o3 y3.size).mono ?_); clear ap3
         rintro e w4 ⟨p4, rfl, o4, b4⟩
         have y4 := y3.trans b4)
      | (go_at_call 69
         (with_reducible refine (jn _ w1.heap.size w4 o4).mono ?_)
         rintro e w5 ⟨rfl, b5⟩))
    go_ret
    have y5 := y4.trans (b5.mono y4.size)
    exact ⟨frets (by rw [hE.out]), g1.out.below.trans (y5.mono (by have := hz.out; omega))⟩
end Go.Proofs.YtjpihophigjbpaaGreatDoor.Vs
/-
  strings.SplitSeq at ',': the iterator, which keeps what is left in a cell of its own.
-/
namespace Go.Proofs.YtjpihophigjbpaaGreatDoor.Vs
open Go.RowKit Go.Shelf
attribute [local go_sem] Oper.semAt_some

/-- A piece: no longer than a string may be. -/
abbrev Pc := { x : List UInt8 // x.length ≤ 140737488355328 }
def raw (l : List Pc) : List (List UInt8) := l.map (·.1)
theorem raw_snoc (l : List Pc) (x : Pc) : raw (l ++ [x]) = raw l ++ [x.1] := by simp [raw]
def pcV (x : Pc) : Value := .string (str x.1)
/-- How much is left. -/
def leftLen (Bs : Nat) (W : World) : Nat := match W.cell? ⟨Bs, 0, none⟩ with
  | some (.string s) => s.size
  | _ => 0
theorem leftLen_boxed {W : World} {Bs : Nat} {T : TypeId} {s : ByteArray} (h : Boxed W Bs T (.string s)) : leftLen Bs W = s.size := by
  unfold leftLen; rw [h.cell]
theorem behind_le (c : UInt8) (l : List UInt8) : (behind c l).length ≤ l.length := by unfold behind; rw [List.length_drop]; omega
set_option maxRecDepth 100000 in
set_option maxHeartbeats 2000000 in
theorem split1_in (n : Nat) (hn : 1 ≤ n) (lp Bp Bs Bk : Nat) (_hps : Bp ≠ Bs) (_hks : Bk ≠ Bs) (l : List UInt8) (hlen : l.length ≤ 140737488355328)
    (J : List Pc → World → Prop) (Jx : World → Prop)
    (_hJd : ∀ pre W k, J pre W → J pre (World.drewN W k)) (hJs : ∀ pre W v, J pre W → J pre (World.setCell W ⟨Bs, 0, none⟩ v))
    (hJb : ∀ pre W, J pre W → Boxed W Bp 9 (.string ⟨#[44]⟩) ∧ Boxed W Bk 3 (.int .i64 0))
    (hY : ∀ pre x W, raw (pre ++ [x]) <+: pieces l → J pre W → YieldAt Fence.wide (n - 1) Tryz.prog lp #[pcV x] W fun e W' =>
      (e = .returned (.bool true) ∧ J (pre ++ [x]) W' ∧ W'.heap[Bs]? = W.heap[Bs]?) ∨ (e = .returned (.bool false) ∧ Jx W'))
    (W : World) (hBs : Boxed W Bs 9 (.string (str l))) (h0 : J [] W) :
    CallsIn Fence.wide n Tryz.prog 160 #[.func (.yield lp) #[] #[], .pointer (some ⟨Bp, 0, none⟩), .pointer (some ⟨Bs, 0, none⟩), .pointer (some ⟨Bk, 0, none⟩)] W fun e W' => (∃ v, e = .returned v) ∧
      ((∃ ys : List Pc, raw ys = pieces l ∧ J ys W') ∨ Jx W') := by
  obtain ⟨bP0, bK0⟩ := hJb [] W h0
  have cP0 := bP0.cell
  refine callsIn_of_wp Tryz.func160 rfl trivial ?_ rfl
  simp only [Tryz.ntmps160, List.size_toArray, List.length_cons, List.length_nil, Nat.reduceAdd, Nat.reduceSub, Array.replicate_succ, Array.replicate_zero, List.push_toArray, List.append_toArray, List.nil_append, List.cons_append]
  have hd : 1 ≤ n := hn
  gi_wp2
  clear cP0 bP0 bK0
  gi_loopw [] (fun wr => ∃ (pre : List Pc) (r : List UInt8), r.length ≤ 140737488355328 ∧ pieces l = raw pre ++ pieces r ∧ J pre wr ∧ Boxed wr Bs 9 (.string (str r)))
    (fun wr => leftLen Bs wr)
  case atStart => exact ⟨[], l, hlen, rfl, h0, hBs⟩
  case round =>
    obtain ⟨pre, r, hr, hpre, hJr, bS⟩ := hrel
    obtain ⟨bP, bK⟩ := hJb pre wr hJr
    have cP := bP.cell
    have cK := bK.cell
    have cS := bS.cell
    have fS := bS.frozen
    have hi := fun W => Tryz.strings_Index_one (str r) 44 W
    have hbl : (str r).data.toList = r := bl_str r
    rw [hbl] at hi
    have hsz := str_size r
    have hst := pieces_step r
    by_cases h : 44 ∈ r
    · obtain ⟨h1, h2⟩ := idx_some h
      rw [h1] at hi
      rw [if_pos h] at hst
      have e1 : (str r).extract 0 (upTo 44 r).length = str (upTo 44 r) := by rw [ext_to, bl_str, ← upTo_take]
      have e2 : (str r).extract ((upTo 44 r).length + 1) (str r).size = str (behind 44 r) := by rw [ext_from, bl_str]; rfl
      have e3 : (str r).extract ((upTo 44 r).length + 1) r.length = str (behind 44 r) := by rw [← e2, str_size]
      have hms := fhid (show (str (behind 44 r)).size < (str r).size by rw [str_size, str_size]; unfold behind; rw [List.length_drop]; omega)
      have hb := fhid (show (behind 44 r).length ≤ 140737488355328 from Nat.le_trans (behind_le 44 r) hr)
      have hu : (upTo 44 r).length ≤ 140737488355328 := by omega
      obtain ⟨x, hx⟩ : ∃ x : Pc, x.1 = upTo 44 r := ⟨⟨upTo 44 r, hu⟩, rfl⟩
      have hpc := fhid (show pieces l = raw (pre ++ [x]) ++ pieces (behind 44 r) by rw [raw_snoc, hpre, hst, hx]; simp)
      obtain ⟨fn, tmps, assign, body, hy, hR⟩ := hY pre x wr ⟨_, hpc.out.symm⟩ hJr
      simp only [pcV, hx] at hy
      generalize hk : (upTo 44 r).length = k at *
      generalize str (upTo 44 r) = F1 at *
      have hS2 := fhid (show str (behind 44 r) = str (behind 44 r) from rfl)
      generalize hF2 : str (behind 44 r) = F2 at *
      replace hF2 := fhid hF2
      generalize hS : str r = S at *
      replace hk := fhid hk
      have i0 : (0 : Int) ≤ k := by omega
      have i1 : ¬ (k : Int) < 0 := by omega
      have i2 : (k : Int) ≤ S.size := by omega
      have i3 : (k : Int) + 1 ≤ S.size := by omega
      have i4 : (S.size : Int) ≤ 140737488355328 := by omega
      have i5 : ((k : Int) + 1).toNat = k + 1 := by omega
      clear hst hpre hbl h h1 h2 hS hS2 hx hu
      gi_wp2_with (first
        | (refine ⟨trivial, ?_⟩; gi_at_call 161; refine (callsIn_wide.2 (hi _)).mono ?_; rintro e w1 ⟨rfl, rfl⟩))
      refine hR.mono ?_
      rintro e W3 (⟨rfl, hJ3, hk3⟩ | ⟨rfl, hJx3⟩)
      · have b3 : Boxed W3 Bs 9 (.string S) := hk3.trans bS
        obtain ⟨bP3, bK3⟩ := hJb _ W3 hJ3
        have c3 := b3.cell
        have f3 := b3.frozen
        have p3 := bP3.cell
        have q3 := bK3.cell
        have bF := b3.set (.string F2)
        have hJ4 := hJs _ W3 (.string F2) hJ3
        have hml := fhid (show leftLen Bs (W3.setCell ⟨Bs, 0, none⟩ (.string F2)) < leftLen Bs w1 by
          rw [leftLen_boxed bF, leftLen_boxed bS]; exact hms.out)
        replace hJ4 := fhid hJ4
        replace bF := fhid bF
        clear hJ3 hk3 hR hy
        gi_wp2
        go_roundw
        case rel => exact ⟨_, _, hb.out, hpc.out, hJ4.out, by rw [hF2.out]; exact bF.out⟩
        case measure => exact hml.out
      · gi_wp2
        refine bodyPost_ret (results_none rfl _ _ _) rfl ?_
        exact ⟨⟨_, rfl⟩, .inr hJx3⟩
    · have h1 := idx_none h
      rw [h1] at hi
      rw [if_neg h, upTo_no h] at hst
      have hpc := fhid (show raw (pre ++ [⟨r, hr⟩]) = pieces l by rw [raw_snoc, hpre, hst])
      obtain ⟨fn, tmps, assign, body, hy, hR⟩ := hY pre ⟨r, hr⟩ wr ⟨[], by rw [List.append_nil]; exact hpc.out⟩ hJr
      simp only [pcV] at hy
      generalize str r = S at *
      clear hst hpre hbl h h1
      gi_wp2_with (first
        | (refine ⟨trivial, ?_⟩; gi_at_call 161; refine (callsIn_wide.2 (hi _)).mono ?_; rintro e w1 ⟨rfl, rfl⟩))
      refine hR.mono ?_
      rintro e W3 (⟨rfl, hJ3, hk3⟩ | ⟨rfl, hJx3⟩)
      · gi_wp2
        go_end0
        exact ⟨⟨_, rfl⟩, .inl ⟨_, hpc.out, hJ3⟩⟩
      · gi_wp2
        go_end0
        exact ⟨⟨_, rfl⟩, .inr hJx3⟩
end Go.Proofs.YtjpihophigjbpaaGreatDoor.Vs
/-
  A range over strings.SplitSeq, whose body may return: the loop's invariant speaks of what lay ahead of the loop, and bears the iterator's own cell.
-/
namespace Go.Proofs.YtjpihophigjbpaaGreatDoor.Vs
open Go.RowKit Go.Shelf
attribute [local go_sem] Oper.semAt_some

set_option maxRecDepth 100000 in
theorem splitSeq0_any (s : ByteArray) (w : World) : Calls Tryz.prog 135 #[.string s, .string ⟨#[44]⟩, .int .i64 0] w fun e w' => e = .returned (.func (.func 160) #[] #[.pointer (some ⟨w.heap.size + 1, 0, none⟩), .pointer (some ⟨w.heap.size, 0, none⟩), .pointer (some ⟨w.heap.size + 2, 0, none⟩)]) ∧
    w' = ((w.alloc (.cells #[.string s] 9)).alloc (.cells #[.string ⟨#[44]⟩] 9)).alloc (.cells #[.int .i64 0] 3) := by
  go_enter Tryz.func135, Tryz.ntmps135
  go_wp2
  go_ret
  exact ⟨rfl, rfl⟩
set_option maxRecDepth 100000 in
theorem splitSeq_any (s : ByteArray) (w : World) : Calls Tryz.prog 95 #[.string s, .string ⟨#[44]⟩] w fun e w' => e = .returned (.func (.func 160) #[] #[.pointer (some ⟨w.heap.size + 1, 0, none⟩), .pointer (some ⟨w.heap.size, 0, none⟩), .pointer (some ⟨w.heap.size + 2, 0, none⟩)]) ∧
    w' = ((w.alloc (.cells #[.string s] 9)).alloc (.cells #[.string ⟨#[44]⟩] 9)).alloc (.cells #[.int .i64 0] 3) := by
  have h := splitSeq0_any s w
  go_enter Tryz.func95, Tryz.ntmps95
  go_wp2_with (go_at_call 135; (with_reducible refine h.mono ?_); rintro e w1 ⟨rfl, rfl⟩)
  go_ret
  exact ⟨rfl, rfl⟩

/-- A block put anew at or beyond B. -/
theorem below_put {B : Nat} {W : World} {b : Nat} (o : Obj) (h : B ≤ b) (hs : B ≤ W.heap.size) : Below B W (W.putObj b o) :=
  (Below.refl B W).grown (grownBy_putObj' W b o) hs (fun k e => by cases e; exact h)
/-- What a round leaves of the loop's own blocks, and of the iterator's cell. -/
def Kept (n₀ : Nat) (W W' : World) : Prop := W'.heap[n₀]? = W.heap[n₀]? ∧ W'.heap[n₀ + 1]? = W.heap[n₀ + 1]?
/-- How a round's body may be left. -/
def roundP (n₀ Bs : Nat) (I : List Pc → World → Prop) (Ix : World → Prop) (pre : List Pc) (W : World) : Exit → Act → World → Prop
  | .normal, _, W' => Kept n₀ W W' ∧ W'.heap[Bs]? = W.heap[Bs]? ∧ I pre W'
  | .ret, _, W' => Kept n₀ W W' ∧ Ix W'
  | _, _, _ => False
abbrev onHeap (a : Act) (n₀ : Nat) : Act := { a with defers := { target := .collected n₀, args := #[] } :: a.defers }
set_option maxHeartbeats 1000000 in
theorem range_pieces {n : Nat} (hn : 2 ≤ n) {g : Operand} {ps : Array Tmp} {assign body : Code} {Q : Exit → Act → World → Prop} {a : Act} {w : World} {Bp Bs Bk : Nat} (hp : Bp ≠ Bs) (hk : Bk ≠ Bs) (hBs : Bs < w.heap.size)
    (hg : a.eval g = .func (.func 160) #[] #[.pointer (some ⟨Bp, 0, none⟩), .pointer (some ⟨Bs, 0, none⟩), .pointer (some ⟨Bk, 0, none⟩)]) (hps : ps.size = 1)
    (l : List UInt8) (hlen : l.length ≤ 140737488355328) (hbx : Boxed w Bs 9 (.string (str l)))
    (I : List Pc → World → Prop) (Ix : World → Prop)
    (hI : ∀ pre W W', I pre W → Below w.heap.size W W' → I pre W') (hIx : ∀ W W', Ix W → Below w.heap.size W W' → Ix W')
    (hIs : ∀ pre W v, I pre W → I pre (World.setCell W ⟨Bs, 0, none⟩ v))
    (hIb : ∀ pre W, I pre W → Boxed W Bp 9 (.string ⟨#[44]⟩) ∧ Boxed W Bk 3 (.int .i64 0))
    (h0 : I [] w) (a₁ : Pc → Act)
    (hassign : ∀ (lp : Nat) (x : Pc) (W : World) (K : Act → World → Prop), K (a₁ x) W → assign.wpIn (Fence.wide.inRound lp) (n - 1 - 1) Tryz.prog (Exit.then K (fun _ _ _ => False)) { tmps := (ps.zip #[pcV x]).foldl (fun t (p, v) => t.setIfInBounds p v) a.tmps, defers := [] } W)
    (hbody : ∀ (lp : Nat) (pre : List Pc) (x : Pc) (W : World), w.heap.size + 1 < W.heap.size → raw (pre ++ [x]) <+: pieces l → I pre W → body.wpIn (Fence.wide.inRound lp) (n - 1 - 1) Tryz.prog (roundP w.heap.size Bs I Ix (pre ++ [x]) W) (a₁ x) W)
    (hdone : ∀ (ys : List Pc) (W : World), raw ys = pieces l → I ys W → W.heap[w.heap.size]? = some (.deferred (some [])) → Q .normal (onHeap a w.heap.size) W)
    (hstop : ∀ (W : World), Ix W → W.heap[w.heap.size]? = some (.deferred (some [])) → Code.ret.wpIn Fence.wide n Tryz.prog Q (onHeap a w.heap.size) W) :
    (Code.rangeFunc g ps assign body).wpIn Fence.wide n Tryz.prog Q a w := by
  refine wpIn_rangeFunc fun fn hfn => ?_
  let R : LoopState → Option Code → Loop := fun st pe => { state := st, pending := pe, fn, tmps := a.tmps, params := ps, assign, body, defers := w.heap.size }
  let w1 := (w.alloc (.deferred (some []))).alloc (.loop (R .ready none))
  have hw1 : Below w.heap.size w w1 := ((Below.refl _ w).alloc (Nat.le_refl _) _).alloc (by simp) _
  have q0 : w1.heap[w.heap.size]? = some (.deferred (some [])) := (Below.heap_alloc _ _ _ (by simp)).trans (heap_alloc_new w _)
  have q1 : w1.heap[w.heap.size + 1]? = some (.loop (R .ready none)) := by
    have := heap_alloc_new (w.alloc (.deferred (some []))) (.loop (R .ready none))
    rwa [World.size_alloc] at this
  refine ⟨w.heap.size + 1, [{ target := .collected w.heap.size, args := #[] }], w1, { target := .fn (.func 160) #[.pointer (some ⟨Bp, 0, none⟩), .pointer (some ⟨Bs, 0, none⟩), .pointer (some ⟨Bk, 0, none⟩)], args := #[.func (.yield (w.heap.size + 1)) #[] #[]] }, w1, 160,
    #[.func (.yield (w.heap.size + 1)) #[] #[], .pointer (some ⟨Bp, 0, none⟩), .pointer (some ⟨Bs, 0, none⟩), .pointer (some ⟨Bk, 0, none⟩)], w1, run_enterLoop_outer _ _ _ _ _, ?_, fun _ _ => trivial, ?_, fun _ => by omega, ?_⟩
  · simp only [resolve, hg]
    simp [go_sem]
  · simp [invoke, go_sem]
  refine (split1_in (n - 1) (by omega) (w.heap.size + 1) Bp Bs Bk hp hk l hlen
    (fun pre W => I pre W ∧ W.heap[w.heap.size]? = some (.deferred (some [])) ∧ W.heap[w.heap.size + 1]? = some (.loop (R .ready none)))
    (fun W => Ix W ∧ W.heap[w.heap.size]? = some (.deferred (some [])) ∧ W.heap[w.heap.size + 1]? = some (.loop (R .done (some .ret))))
    (fun pre W k h => ⟨hI _ _ _ h.1 (below_drewN (Below.refl _ _) k), h.2.1, h.2.2⟩)
    (fun pre W v h => ⟨hIs _ _ v h.1, (Below.heap_setCell W ⟨Bs, 0, none⟩ v _ (by show w.heap.size ≠ Bs; omega)).trans h.2.1, (Below.heap_setCell W ⟨Bs, 0, none⟩ v _ (by show w.heap.size + 1 ≠ Bs; omega)).trans h.2.2⟩)
    (fun pre W h => hIb _ _ h.1) ?round w1 ((hw1.block Bs hBs).trans hbx) ⟨hI _ _ _ h0 hw1, q0, q1⟩).mono ?_
  case round =>
    rintro pre x W hpf ⟨hi, hd, hl⟩
    have hlt := lt_of_block hl
    have hb : ∀ o, Below w.heap.size W (W.putObj (w.heap.size + 1) o) := fun o => below_put o (by omega) (by omega)
    have hl2 : (W.putObj (w.heap.size + 1) (.loop (R .busy none))).heap[w.heap.size + 1]? = some (.loop (R .busy none)) := World.putObj_heap_same hlt
    have hd2 : (W.putObj (w.heap.size + 1) (.loop (R .busy none))).heap[w.heap.size]? = some (.deferred (some [])) := (World.putObj_heap_other (by omega)).trans hd
    have hs2 : (W.putObj (w.heap.size + 1) (.loop (R .busy none))).heap[Bs]? = W.heap[Bs]? := World.putObj_heap_other (by omega)
    have hz2 : w.heap.size + 1 < (W.putObj (w.heap.size + 1) (.loop (R .busy none))).heap.size := Nat.lt_of_lt_of_le hlt (hb (.loop (R .busy none))).size
    refine ⟨fn, _, assign, body, run_yield (r := R .ready none) hl (by rw [hps]; rfl), roundIn_of_wpIn hfn (hassign _ x W _ ⟨_, run_beginRound (r := R .ready none) hl rfl, ?_⟩)⟩
    refine wpIn_mono (hbody _ pre x _ hz2 hpf (hI _ _ _ hi (hb _))) ?_
    rintro e a3 W3 hq
    match e, hq with
    | .normal, ⟨⟨k0, k1⟩, ks, hi3⟩ =>
      have hl3 := k1.trans hl2
      have hlt3 := lt_of_block hl3
      exact ⟨_, _, run_endRound (r := R .busy none) none hl3, .inl ⟨rfl, ⟨hI _ _ _ hi3 (below_put _ (by omega) (by omega)), (World.putObj_heap_other (by omega)).trans (k0.trans hd2), World.putObj_heap_same hlt3⟩, (World.putObj_heap_other (by omega)).trans (ks.trans hs2)⟩⟩
    | .ret, ⟨⟨k0, k1⟩, hi3⟩ =>
      have hl3 := k1.trans hl2
      have hlt3 := lt_of_block hl3
      exact ⟨_, _, run_endRound (r := R .busy none) (some .ret) hl3, .inr ⟨rfl, hIx _ _ hi3 (below_put _ (by omega) (by omega)), (World.putObj_heap_other (by omega)).trans (k0.trans hd2), World.putObj_heap_same hlt3⟩⟩
  rintro e W2 ⟨⟨v, rfl⟩, (⟨ys, hys, hi, hd, hl⟩ | ⟨hi, hd, hl⟩)⟩
  · have hlt := lt_of_block hl
    exact ⟨none, _, run_endLoop (r := R .ready none) hl (by simp [R]), hdone ys _ hys (hI _ _ _ hi (below_put _ (by omega) (by omega))) ((World.putObj_heap_other (by omega)).trans hd)⟩
  · have hlt := lt_of_block hl
    exact ⟨some .ret, _, run_endLoop (r := R .done (some .ret)) hl (by simp [R]), hstop _ (hIx _ _ hi (below_put _ (by omega) (by omega))) ((World.putObj_heap_other (by omega)).trans hd)⟩
end Go.Proofs.YtjpihophigjbpaaGreatDoor.Vs
/-
  read: what a text's parts tell.
-/
namespace Go.Proofs.YtjpihophigjbpaaGreatDoor.Vs
open Go.RowKit Go.Shelf
attribute [local go_sem] Oper.semAt_some

/-- What read answers. -/
def readV (o : Option V3) : Value := match o with
  | some v => .tuple #[vv v, .bool true]
  | none => .tuple #[vec 0 0 0, .bool false]
def RP (w : World) (o : Option V3) (e : Ending) (w' : World) : Prop := e = .returned (readV o) ∧ Below w.heap.size w w'
theorem foldP_app (v : V3) (a b : List (List UInt8)) : foldP v (a ++ b) = (foldP v a).bind (fun v' => foldP v' b) := by
  induction a generalizing v with
  | nil => rfl
  | cons x r ih =>
    simp only [List.cons_append, foldP]
    cases step v x with
    | none => rfl
    | some v' => exact ih v'
theorem foldP_none {v : V3} {a l : List (List UInt8)} (h : foldP v a = none) (hp : a <+: l) : foldP v l = none := by
  obtain ⟨b, rfl⟩ := hp
  rw [foldP_app, h]; rfl
theorem six (s : ByteArray) (w : World) : let W := ((((((w.alloc (.cells #[.int .i64 0, .int .i64 0, .int .i64 0] 23)).alloc (.cells #[.bool false] 4)).alloc (.cells #[.int .i64 0, .int .i64 0, .int .i64 0] 23)).alloc (.cells #[.string s] 9)).alloc (.cells #[.string ⟨#[44]⟩] 9)).alloc (.cells #[.int .i64 0] 3))
    VB W w.heap.size 0 0 0 ∧ Boxed W (w.heap.size + 1) 4 (.bool false) ∧ VB W (w.heap.size + 2) 0 0 0 ∧ Boxed W (w.heap.size + 3) 9 (.string s) ∧ Boxed W (w.heap.size + 4) 9 (.string ⟨#[44]⟩) ∧ Boxed W (w.heap.size + 5) 3 (.int .i64 0) ∧ Below w.heap.size w W ∧ W.heap.size = w.heap.size + 6 := by
  intro W
  have hn : ∀ (u : World) (o : Obj) (k : Nat), u.heap.size = k → (u.alloc o).heap[k]? = some o ∧ (u.alloc o).heap.size = k + 1 := fun u o k h => by subst h; exact ⟨heap_alloc_new u o, by simp⟩
  have ho : ∀ (u : World) (o : Obj) (k : Nat) (c : Option Obj), k < u.heap.size → u.heap[k]? = c → (u.alloc o).heap[k]? = c := fun u o k c hk h => (Below.heap_alloc u o k hk).trans h
  obtain ⟨a1, z1⟩ := hn w (.cells #[.int .i64 0, .int .i64 0, .int .i64 0] 23) _ rfl
  obtain ⟨a2, z2⟩ := hn _ (.cells #[.bool false] 4) _ z1
  obtain ⟨a3, z3⟩ := hn _ (.cells #[.int .i64 0, .int .i64 0, .int .i64 0] 23) _ z2
  obtain ⟨a4, z4⟩ := hn _ (.cells #[.string s] 9) _ z3
  obtain ⟨a5, z5⟩ := hn _ (.cells #[.string ⟨#[44]⟩] 9) _ z4
  obtain ⟨a6, z6⟩ := hn _ (.cells #[.int .i64 0] 3) _ z5
  refine ⟨?_, ?_, ?_, ?_, ?_, a6, ((((((Grew.refl w).alloc _).alloc _).alloc _).alloc _).alloc _).alloc _ |>.below, z6⟩
  · exact ho _ _ _ _ (by omega) (ho _ _ _ _ (by omega) (ho _ _ _ _ (by omega) (ho _ _ _ _ (by omega) (ho _ _ _ _ (by omega) a1))))
  · exact ho _ _ _ _ (by omega) (ho _ _ _ _ (by omega) (ho _ _ _ _ (by omega) (ho _ _ _ _ (by omega) a2)))
  · exact ho _ _ _ _ (by omega) (ho _ _ _ _ (by omega) (ho _ _ _ _ (by omega) a3))
  · exact ho _ _ _ _ (by omega) (ho _ _ _ _ (by omega) a4)
  · exact ho _ _ _ _ (by omega) a5
/-- Between two rounds: the parts told so far lie in the vector's box; the results are as they began. -/
def RI (w : World) (n₀ : Nat) (pre : List Pc) (W : World) : Prop :=
  (∃ v : V3, foldP (0, 0, 0) (raw pre) = some v ∧ VB W (n₀ + 2) v.1 v.2.1 v.2.2) ∧ VB W n₀ 0 0 0 ∧ Boxed W (n₀ + 1) 4 (.bool false) ∧ Boxed W (n₀ + 4) 9 (.string ⟨#[44]⟩) ∧ Boxed W (n₀ + 5) 3 (.int .i64 0) ∧ Below n₀ w W
def RX (w : World) (n₀ : Nat) (l : List UInt8) (W : World) : Prop := foldP (0, 0, 0) (pieces l) = none ∧ VB W n₀ 0 0 0 ∧ Boxed W (n₀ + 1) 4 (.bool false) ∧ Below n₀ w W
theorem RI.on {w W W' : World} {n₀ : Nat} {pre : List Pc} (h : RI w n₀ pre W) {B : Nat} (hb : Below B W W') (hB : n₀ + 6 ≤ B) : RI w n₀ pre W' := by
  obtain ⟨⟨v, h1, h2⟩, h3, h4, h5, h6, h7⟩ := h
  exact ⟨⟨v, h1, (hb.block _ (by omega)).trans h2⟩, (hb.block _ (by omega)).trans h3, (hb.block _ (by omega)).trans h4, (hb.block _ (by omega)).trans h5, (hb.block _ (by omega)).trans h6, h7.trans (hb.mono (by omega))⟩
theorem RX.on {w W W' : World} {n₀ : Nat} {l : List UInt8} (h : RX w n₀ l W) {B : Nat} (hb : Below B W W') (hB : n₀ + 6 ≤ B) : RX w n₀ l W' := by
  obtain ⟨h1, h2, h3, h7⟩ := h
  exact ⟨h1, (hb.block _ (by omega)).trans h2, (hb.block _ (by omega)).trans h3, h7.trans (hb.mono (by omega))⟩
theorem RI.iter {w W : World} {n₀ : Nat} {pre : List Pc} (h : RI w n₀ pre W) (v : Value) : RI w n₀ pre (W.setCell ⟨n₀ + 3, 0, none⟩ v) := by
  obtain ⟨⟨u, h1, h2⟩, h3, h4, h5, h6, h7⟩ := h
  exact ⟨⟨u, h1, block_other 0 v h2 (by omega)⟩, block_other 0 v h3 (by omega), block_other 0 v h4 (by omega), block_other 0 v h5 (by omega), block_other 0 v h6 (by omega), h7.setCell (p := ⟨n₀ + 3, 0, none⟩) (by show n₀ ≤ n₀ + 3; omega) v⟩
theorem kept_set {n₀ c i : Nat} {W W3 : World} (v : Value) (g : Below W.heap.size W W3) (hlt : n₀ + 1 < W.heap.size) (hc : c < n₀) : Kept n₀ W (W3.setCell ⟨c, i, none⟩ v) :=
  ⟨block_other i v (g.block _ (by omega)) (by omega), block_other i v (g.block _ (by omega)) (by omega)⟩
theorem round_ok {w W W3 : World} {n₁ : Nat} {pre : List Pc} {x : Pc} {l : List UInt8} {a : Act} (hn : n₁ = w.heap.size + 6) (hlt : n₁ + 1 < W.heap.size) (g : Below W.heap.size W W3) (hI : RI w w.heap.size pre W) (i : Nat) (u : Value) (v' : V3)
    (hv : foldP (0, 0, 0) (raw (pre ++ [x])) = some v') (hvb : VB (W3.setCell ⟨w.heap.size + 2, i, none⟩ u) (w.heap.size + 2) v'.1 v'.2.1 v'.2.2) :
    roundP n₁ (w.heap.size + 3) (RI w w.heap.size) (RX w w.heap.size l) (pre ++ [x]) W .normal a (W3.setCell ⟨w.heap.size + 2, i, none⟩ u) := by
  obtain ⟨_, h3, h4, h5, h6, h7⟩ := hI.on g (by omega)
  exact ⟨kept_set u g hlt (by omega), block_other i u (g.block _ (by omega)) (by omega), ⟨v', hv, hvb⟩, block_other i u h3 (by omega), block_other i u h4 (by omega), block_other i u h5 (by omega), block_other i u h6 (by omega), h7.setCell (p := ⟨w.heap.size + 2, i, none⟩) (by show w.heap.size ≤ w.heap.size + 2; omega) u⟩
theorem round_bad {w W W3 : World} {n₁ : Nat} {pre : List Pc} {x : Pc} {l : List UInt8} {a : Act} (hn : n₁ = w.heap.size + 6) (hlt : n₁ + 1 < W.heap.size) (g : Below W.heap.size W W3) (hI : RI w w.heap.size pre W)
    (hv : foldP (0, 0, 0) (raw (pre ++ [x])) = none) (hp : raw (pre ++ [x]) <+: pieces l) (c : Nat) (hc : c = w.heap.size + 1) :
    roundP n₁ (w.heap.size + 3) (RI w w.heap.size) (RX w w.heap.size l) (pre ++ [x]) W .ret a ((((W3.setCell ⟨w.heap.size, 0, none⟩ (.int .i64 0)).setCell ⟨w.heap.size, 1, none⟩ (.int .i64 0)).setCell ⟨w.heap.size, 2, none⟩ (.int .i64 0)).setCell ⟨c, 0, none⟩ (.bool false)) := by
  subst hc
  obtain ⟨_, h3, h4, h5, h6, h7⟩ := hI.on g (by omega)
  have k3 := block_other 0 (.bool false) (h3.put 0 0 0) (show w.heap.size ≠ w.heap.size + 1 by omega)
  have k4 : Boxed (((W3.setCell ⟨w.heap.size, 0, none⟩ (.int .i64 0)).setCell ⟨w.heap.size, 1, none⟩ (.int .i64 0)).setCell ⟨w.heap.size, 2, none⟩ (.int .i64 0)) (w.heap.size + 1) 4 (.bool false) := block_other 2 _ (block_other 1 _ (block_other 0 _ h4 (by omega)) (by omega)) (by omega)
  have q : ∀ j, n₁ ≤ j → j < W.heap.size → ((((W3.setCell ⟨w.heap.size, 0, none⟩ (.int .i64 0)).setCell ⟨w.heap.size, 1, none⟩ (.int .i64 0)).setCell ⟨w.heap.size, 2, none⟩ (.int .i64 0)).setCell ⟨w.heap.size + 1, 0, none⟩ (.bool false)).heap[j]? = W.heap[j]? := fun j hj hl =>
    block_other 0 _ (block_other 2 _ (block_other 1 _ (block_other 0 _ (g.block _ hl) (by omega)) (by omega)) (by omega)) (by omega)
  exact ⟨⟨q _ (Nat.le_refl _) (by omega), q _ (by omega) (by omega)⟩, foldP_none hv hp, k3, k4.set _, (set3 h7 (Nat.le_refl _) _ _ _).setCell (p := ⟨w.heap.size + 1, 0, none⟩) (by show w.heap.size ≤ w.heap.size + 1; omega) _⟩
set_option maxRecDepth 100000 in
set_option maxHeartbeats 4000000 in
theorem read_any (s : ByteArray) (hs : s.size ≤ 140737488355328) (w : World) (hw : Env w) : Calls Tryz.prog 66 #[.string s] w (RP w (readP (bl s))) := by
  have hq := str_eq s ⟨#[110, 111, 110, 101]⟩
  have hnn : bl (⟨#[110, 111, 110, 101]⟩ : ByteArray) = noneT := rfl
  have hlb : (⟨#[110, 111, 110, 101]⟩ : ByteArray).toList = [110, 111, 110, 101] := by rw [ByteArray.toList_eq]
  rw [hnn, hlb] at hq
  by_cases h : bl s = noneT
  · rw [decide_eq_true h] at hq
    have hE := fhid (show readP (bl s) = some (0, 0, 0) from if_pos h)
    clear hnn hlb h
    go_enter Tryz.func66, Tryz.ntmps66
    go_wp2
    exact bodyPost_ret (v := .tuple #[vec 0 0 0, .bool true]) (by simp [results, Tryz.results66, go_sem]) rfl ⟨by rw [hE.out]; rfl, ((((Grew.refl w).alloc _).alloc _).alloc _).below⟩
  · rw [decide_eq_false h] at hq
    have hE := fhid (show readP (bl s) = foldP (0, 0, 0) (pieces (bl s)) from if_neg h)
    clear hnn hlb h
    refine (callsIn_wide (n := 6)).1 ?_
    refine callsIn_of_wp_marks Tryz.func66 rfl trivial ?_ rfl
    simp only [Tryz.ntmps66, List.size_toArray, List.length_cons, List.length_nil, Nat.reduceAdd, Nat.reduceSub, Array.replicate_succ, Array.replicate_zero, List.push_toArray, List.append_toArray, List.nil_append, List.cons_append]
    gi_wp2_with (refine ⟨trivial, ?_⟩; gi_at_call 95; refine (callsIn_wide.2 (splitSeq_any s _)).mono ?_; rintro e w1 ⟨rfl, rfl⟩)
    obtain ⟨v0, v1, v2, v3, v4, v5, hB, hz⟩ := six s w
    generalize ((((((w.alloc _).alloc _).alloc _).alloc _).alloc _).alloc _) = w1 at *
    have hlen : (bl s).length ≤ 140737488355328 := by rw [bl_len]; exact hs
    rw [← str_bl s] at v3
    refine range_pieces (n := 6) (by omega) (Bp := w.heap.size + 4) (Bs := w.heap.size + 3) (Bk := w.heap.size + 5) (by omega) (by omega) (by omega) rfl rfl (bl s) hlen v3 (RI w w.heap.size) (RX w w.heap.size (bl s))
      (fun pre W W' h hb => h.on hb (by omega)) (fun W W' h hb => h.on hb (by omega)) (fun pre W v h => h.iter v) (fun pre W h => ⟨h.2.2.2.1, h.2.2.2.2.1⟩) ⟨⟨(0, 0, 0), rfl, v2⟩, v0, v1, v4, v5, hB⟩
      (fun x => { tmps := #[.string s, undef, .pointer (some ⟨w.heap.size, 0, none⟩), .pointer (some ⟨w.heap.size + 1, 0, none⟩), .pointer (some ⟨w.heap.size + 1 + 1, 0, none⟩), pcV x, undef, undef, undef, undef, undef, .string s, .bool false, undef, .string s,
        .func (.func 160) #[] #[.pointer (some ⟨w.heap.size + 1 + 1 + 1 + 1, 0, none⟩), .pointer (some ⟨w.heap.size + 1 + 1 + 1, 0, none⟩), .pointer (some ⟨w.heap.size + 1 + 1 + 1 + 2, 0, none⟩)],
        pcV x, undef, undef, undef, undef, undef, undef, undef, undef, undef, undef, undef, undef, undef, undef, undef, undef, undef, undef, undef, undef, undef, undef, undef, undef, undef, undef, undef, undef, undef], defers := [] }) ?assign ?body ?done ?stop
    case assign =>
      intro l x W K hK
      gi_wp2
      exact hK
    case body =>
      intro lp pre x W hlt hpf hI
      have hRI := fhid hI
      obtain ⟨⟨⟨x1, x2, x3⟩, hu, b2⟩, b0, b1, b4, b5, hBW⟩ := hI
      simp only at b2
      have hd : 1 ≤ 6 - 1 - 1 := by omega
      have hmx : Tryz.prog.follows .mixedOrders = true := by kernel_rfl
      have hst : foldP (0, 0, 0) (raw (pre ++ [x])) = step (x1, x2, x3) x.1 := by rw [raw_snoc, foldP_snoc, hu]; rfl
      have hxs : (str x.1).size ≤ 140737488355328 := by rw [str_size]; exact x.2
      have hbs : (str (behind 61 x.1)).size ≤ 140737488355328 := by rw [str_size]; exact Nat.le_trans (behind_le 61 x.1) x.2
      have hcut := fun V => cut_any (str x.1) hxs V
      rw [bl_str] at hcut
      unfold cutV at hcut
      have hat := fun V (hV : Env V) => atoi_any (str (behind 61 x.1)) hbs V hV
      rw [bl_str] at hat
      unfold AtoiPost at hat
      have hwW := fhid (hw.below hBW)
      have n1 := str_eq (str (upTo 61 x.1)) ⟨#[99, 112, 117]⟩
      have n2 := str_eq (str (upTo 61 x.1)) ⟨#[109, 101, 109]⟩
      have n3 := str_eq (str (upTo 61 x.1)) ⟨#[103, 112, 117]⟩
      rw [bl_str, show bl (⟨#[99, 112, 117]⟩ : ByteArray) = kCpu from rfl, show (⟨#[99, 112, 117]⟩ : ByteArray).toList = [99, 112, 117] by rw [ByteArray.toList_eq]] at n1
      rw [bl_str, show bl (⟨#[109, 101, 109]⟩ : ByteArray) = kMem from rfl, show (⟨#[109, 101, 109]⟩ : ByteArray).toList = [109, 101, 109] by rw [ByteArray.toList_eq]] at n2
      rw [bl_str, show bl (⟨#[103, 112, 117]⟩ : ByteArray) = kGpu from rfl, show (⟨#[103, 112, 117]⟩ : ByteArray).toList = [103, 112, 117] by rw [ByteArray.toList_eq]] at n3
      unfold step at hst
      replace b0 := fhid b0
      replace b1 := fhid b1
      replace b2 := fhid b2
      replace b4 := fhid b4
      replace b5 := fhid b5
      replace hBW := fhid hBW
      replace hpf := fhid hpf
      have hzW := fhid (show w.heap.size + 6 ≤ W.heap.size by omega)
      replace hlt := fhid hlt
      clear hu hxs hbs
      unfold pcV
      generalize str x.1 = X at *
      generalize str (behind 61 x.1) = D at *
      generalize decide (61 ∈ x.1) = fd at *
      cases hA : Lib.atoiAll (behind 61 x.1) with
      | ok n =>
        rw [hA] at hst hat
        simp only at hst hat
        clear hA
        by_cases k1 : upTo 61 x.1 = kCpu
        · rw [decide_eq_true k1] at n1
          rw [if_pos k1] at hst
          clear n2 n3 k1
          replace hst := fhid hst
          generalize str (upTo 61 x.1) = N at *
          gi_wp2_with (first
            | (refine ⟨trivial, ?_⟩; gi_at_call 35; refine (CallsIn.inRound lp (callsIn_wide.2 (hcut _))).mono ?_; rintro e w2 ⟨rfl, g2⟩)
            | (refine ⟨trivial, ?_⟩; gi_at_call 58; refine (CallsIn.inRound lp (callsIn_wide.2 (hat w2 (hwW.out.grew g2)))).mono ?_
               rintro e w3 ⟨rfl, b3⟩
               have g3 := fhid (g2.below.trans (b3.mono g2.below.size))
               have c2 := fhid (b2.out.on g3.out)
               obtain ⟨e0, e1, e2, ⟨f0, f1, f2⟩, ez⟩ := c2.out.facts))
          exact round_ok hz hlt.out g3.out hRI.out 0 _ _ hst.out (block_set 0 _ c2.out)
        · rw [decide_eq_false k1] at n1
          rw [if_neg k1] at hst
          clear k1
          by_cases k1 : upTo 61 x.1 = kMem
          · rw [decide_eq_true k1] at n2
            rw [if_pos k1] at hst
            clear n3 k1
            replace hst := fhid hst
            generalize str (upTo 61 x.1) = N at *
            gi_wp2_with (first
              | (refine ⟨trivial, ?_⟩; gi_at_call 35; refine (CallsIn.inRound lp (callsIn_wide.2 (hcut _))).mono ?_; rintro e w2 ⟨rfl, g2⟩)
              | (refine ⟨trivial, ?_⟩; gi_at_call 58; refine (CallsIn.inRound lp (callsIn_wide.2 (hat w2 (hwW.out.grew g2)))).mono ?_
                 rintro e w3 ⟨rfl, b3⟩
                 have g3 := fhid (g2.below.trans (b3.mono g2.below.size))
                 have c2 := fhid (b2.out.on g3.out)
                 obtain ⟨e0, e1, e2, ⟨f0, f1, f2⟩, ez⟩ := c2.out.facts))
            exact round_ok hz hlt.out g3.out hRI.out 1 _ _ hst.out (block_set 1 _ c2.out)
          · rw [decide_eq_false k1] at n2
            rw [if_neg k1] at hst
            clear k1
            by_cases k1 : upTo 61 x.1 = kGpu
            · rw [decide_eq_true k1] at n3
              rw [if_pos k1] at hst
              clear k1
              replace hst := fhid hst
              generalize str (upTo 61 x.1) = N at *
              gi_wp2_with (first
                | (refine ⟨trivial, ?_⟩; gi_at_call 35; refine (CallsIn.inRound lp (callsIn_wide.2 (hcut _))).mono ?_; rintro e w2 ⟨rfl, g2⟩)
                | (refine ⟨trivial, ?_⟩; gi_at_call 58; refine (CallsIn.inRound lp (callsIn_wide.2 (hat w2 (hwW.out.grew g2)))).mono ?_
                   rintro e w3 ⟨rfl, b3⟩
                   have g3 := fhid (g2.below.trans (b3.mono g2.below.size))
                   have c2 := fhid (b2.out.on g3.out)
                   obtain ⟨e0, e1, e2, ⟨f0, f1, f2⟩, ez⟩ := c2.out.facts))
              exact round_ok hz hlt.out g3.out hRI.out 2 _ _ hst.out (block_set 2 _ c2.out)
            · rw [decide_eq_false k1] at n3
              rw [if_neg k1] at hst
              clear k1
              replace hst := fhid hst
              generalize str (upTo 61 x.1) = N at *
              gi_wp2_with (first
                | (refine ⟨trivial, ?_⟩; gi_at_call 35; refine (CallsIn.inRound lp (callsIn_wide.2 (hcut _))).mono ?_; rintro e w2 ⟨rfl, g2⟩)
                | (refine ⟨trivial, ?_⟩; gi_at_call 58; refine (CallsIn.inRound lp (callsIn_wide.2 (hat w2 (hwW.out.grew g2)))).mono ?_
                   rintro e w3 ⟨rfl, b3⟩
                   have g3 := fhid (g2.below.trans (b3.mono g2.below.size))
                   have c2 := fhid (b0.out.on g3.out)
                   obtain ⟨e0, e1, e2, ⟨f0, f1, f2⟩, ez⟩ := c2.out.facts
                   have c3 := fhid (show Boxed w3 (w.heap.size + 1) 4 (.bool false) from (g3.out.block _ (by have := hzW.out; omega)).trans b1.out)
                   have d0 := c3.out.cell
                   have d1 := c3.out.frozen))
              exact round_bad hz hlt.out g3.out hRI.out hst.out hpf.out _ rfl
      | _ =>
        rw [hA] at hst hat
        simp only at hst hat
        replace hst := fhid hst
        clear hA n1 n2 n3
        generalize str (upTo 61 x.1) = N at *
        gi_wp2_with (first
          | (refine ⟨trivial, ?_⟩; gi_at_call 35; refine (CallsIn.inRound lp (callsIn_wide.2 (hcut _))).mono ?_; rintro e w2 ⟨rfl, g2⟩)
          | (refine ⟨trivial, ?_⟩; gi_at_call 58; refine (CallsIn.inRound lp (callsIn_wide.2 (hat w2 (hwW.out.grew g2)))).mono ?_
             rintro e w3 ⟨⟨nn, NN, rfl⟩, b3⟩
             have g3 := fhid (g2.below.trans (b3.mono g2.below.size))
             have c2 := fhid (b0.out.on g3.out)
             obtain ⟨e0, e1, e2, ⟨f0, f1, f2⟩, ez⟩ := c2.out.facts
             have c3 := fhid (show Boxed w3 (w.heap.size + 1) 4 (.bool false) from (g3.out.block _ (by have := hzW.out; omega)).trans b1.out)
             have d0 := c3.out.cell
             have d1 := c3.out.frozen))
        exact round_bad hz hlt.out g3.out hRI.out hst.out hpf.out _ rfl
    case done =>
      rintro ys W hys ⟨⟨v, hv, b2⟩, b0, b1, b4, b5, hBW⟩ hK
      rw [hys] at hv
      have hE2 := fhid (hE.out.trans hv)
      obtain ⟨v1', v2', v3'⟩ := v
      simp only at b2
      obtain ⟨e0, e1, e2, ⟨f0, f1, f2⟩, ez⟩ := b2.facts
      obtain ⟨d0, d1, d2, ⟨u0, u1, u2⟩, dz⟩ := b0.facts
      have c0 := b1.cell
      have c1 := b1.frozen
      have cz := b1.lt
      rw [hz] at hK
      clear hq v0 v1 v2 v3 v4 v5 hB
      gi_wp2
      refine ⟨by simp, .inl ⟨_, _, rfl, run_takeDeferred (block_other 0 _ (block_other 2 _ (block_other 1 _ (block_other 0 _ hK (by omega)) (by omega)) (by omega)) (by omega)), ?_⟩⟩
      have b0' := fhid (block_other 0 (.bool true) (b0.put v1' v2' v3') (show w.heap.size ≠ w.heap.size + 1 by omega))
      have b1' := fhid (Boxed.set (.bool true) (show Boxed (((W.setCell ⟨w.heap.size, 0, none⟩ (.int .i64 v1')).setCell ⟨w.heap.size, 1, none⟩ (.int .i64 v2')).setCell ⟨w.heap.size, 2, none⟩ (.int .i64 v3')) (w.heap.size + 1) 4 (.bool false) from block_other 2 _ (block_other 1 _ (block_other 0 _ b1 (by omega)) (by omega)) (by omega)))
      have hBB := fhid ((set3 hBW (Nat.le_refl _) (.int .i64 v1') (.int .i64 v2') (.int .i64 v3')).setCell (p := ⟨w.heap.size + 1, 0, none⟩) (by show w.heap.size ≤ w.heap.size + 1; omega) (.bool true))
      clear e0 e1 e2 f0 f1 f2 ez d0 d1 d2 u0 u1 u2 dz c0 c1 cz b0 b1 b2 b4 b5 hBW hK
      generalize ((((W.setCell _ _).setCell _ _).setCell _ _).setCell _ _) = W5 at *
      have b0'' := fhid (show VB (W5.putObj (w.heap.size + 6) (.deferred none)) w.heap.size v1' v2' v3' from (World.putObj_heap_other (by omega)).trans b0'.out)
      have b1'' := fhid (show Boxed (W5.putObj (w.heap.size + 6) (.deferred none)) (w.heap.size + 1) 4 (.bool true) from (World.putObj_heap_other (by omega)).trans b1'.out)
      have hB2 := fhid (hBB.out.trans (below_put (W := W5) (b := w.heap.size + 6) (.deferred none) (show w.heap.size ≤ w.heap.size + 6 by omega) hBB.out.size))
      generalize W5.putObj _ _ = W6 at *
      obtain ⟨d0, d1, d2, _, dz⟩ := b0''.out.facts
      have c0 := b1''.out.cell
      exact ⟨.tuple #[vec v1' v2' v3', .bool true], by simp [results, Tryz.results66, go_sem, d0, d1, d2, c0], by rw [hE2.out]; rfl, hB2.out⟩
    case stop =>
      rintro W ⟨hv, b0, b1, hBW⟩ hK
      have hE2 := fhid (hE.out.trans hv)
      rw [hz] at hK
      clear hq v0 v1 v2 v3 v4 v5 hB
      simp only [onHeap, hz]
      gi_wp2
      refine ⟨by simp, .inl ⟨_, _, rfl, run_takeDeferred hK, ?_⟩⟩
      have b0'' := fhid (show VB (W.putObj (w.heap.size + 6) (.deferred none)) w.heap.size 0 0 0 from (World.putObj_heap_other (by omega)).trans b0)
      have b1'' := fhid (show Boxed (W.putObj (w.heap.size + 6) (.deferred none)) (w.heap.size + 1) 4 (.bool false) from (World.putObj_heap_other (by omega)).trans b1)
      have hB2 := fhid (hBW.trans (below_put (W := W) (b := w.heap.size + 6) (.deferred none) (show w.heap.size ≤ w.heap.size + 6 by omega) hBW.size))
      clear b0 b1 hBW hK
      generalize W.putObj _ _ = W6 at *
      obtain ⟨d0, d1, d2, _, dz⟩ := b0''.out.facts
      have c0 := b1''.out.cell
      exact ⟨.tuple #[vec 0 0 0, .bool false], by simp [results, Tryz.results66, go_sem, d0, d1, d2, c0], by rw [hE2.out]; rfl, hB2.out⟩
end Go.Proofs.YtjpihophigjbpaaGreatDoor.Vs
/-
  Parse; what each statement asks beside: a text's vector, back and forth.
-/
namespace Go.Proofs.YtjpihophigjbpaaGreatDoor.Vs
open Go.RowKit

set_option maxRecDepth 100000 in
set_option maxHeartbeats 4000000 in
theorem Parse_any (s : ByteArray) (hs : s.size ≤ 140737488355328) (w : World) (hw : Env w) : Calls Tryz.prog 44 #[.string s] w (VP w (parseP (bl s))) := by
  obtain ⟨R, hR⟩ : ∃ R, parseP (bl s) = R := ⟨_, rfl⟩
  rw [hR]
  unfold parseP at hR
  have hrd := fun W (hW : Env W) => read_any s hs W hW
  have hrng : ∀ v, readP (bl s) = some v → I64 v.1 ∧ I64 v.2.1 ∧ I64 v.2.2 ∨ True := fun _ _ => .inr trivial
  unfold RP at hrd
  cases ho : readP (bl s) with
  | none =>
    rw [ho] at hR hrd
    simp only [readV] at hR hrd
    replace hR := fhid hR
    clear ho hrng
    replace hw := fhid hw
    go_enter Tryz.func44, Tryz.ntmps44
    go_upto_region 1 with fail
    have b2 := fhid (VB.new w 0 0 0 _ rfl)
    have g0 := (Grew.refl w).alloc (.cells #[.int .i64 0, .int .i64 0, .int .i64 0] 23)
    generalize w.alloc _ = w1 at *
    go_wp2_with (go_at_call 66; (with_reducible refine (hrd _ (hw.out.grew g0)).mono ?_); rintro r w3 ⟨rfl, b3⟩
                 have r5 := fhid ((b2.out.on b3).grew ((Grew.refl w3).alloc (.cells #[.int .i64 0, .int .i64 0, .int .i64 0] 23)))
                 obtain ⟨d0, d1, d2, ⟨u0, u1, u2⟩, yy⟩ := r5.out.facts)
    have zb := g0.below.trans (b3.mono g0.below.size)
    exact bodyPost_ret (v := .tuple #[vec 0 0 0, .int .i64 3]) (by simp [results, Tryz.results44, go_sem, d0, d1, d2]) rfl (VP.ret hR.out (set3 (zb.trans (((Grew.refl w3).alloc (.cells #[.int .i64 0, .int .i64 0, .int .i64 0] 23)).below.mono zb.size)) (by omega) _ _ _))
  | some v =>
    obtain ⟨a, b, c⟩ := v
    rw [ho] at hR hrd
    simp only [readV, vv] at hR hrd
    clear ho hrng
    have hri := fun W => Right_any a b c W
    have hri2 := @right_I64 (a, b, c)
    simp only at hri2
    replace hw := fhid hw
    cases hq : right a b c with
    | false =>
      rw [hq] at hR hri
      rw [if_neg (by simp)] at hR
      clear hq hri2
      replace hR := fhid hR
      go_enter Tryz.func44, Tryz.ntmps44
      go_upto_region 1 with fail
      have b2 := fhid (VB.new w 0 0 0 _ rfl)
      have g0 := (Grew.refl w).alloc (.cells #[.int .i64 0, .int .i64 0, .int .i64 0] 23)
      generalize w.alloc _ = w1 at *
      go_wp2_with (first
        | (go_at_call 66; (with_reducible refine (hrd _ (hw.out.grew g0)).mono ?_); rintro r w3 ⟨rfl, b3⟩
           have zb := fhid (g0.below.trans (b3.mono g0.below.size))
           have r4 := fhid ((b2.out.on b3).grew ((Grew.refl w3).alloc (.cells #[.int .i64 a, .int .i64 b, .int .i64 c] 23))))
        | (go_at_call 67; (with_reducible refine (hri _).mono ?_); rintro r w5 ⟨rfl, g5⟩
           have r5 := fhid (r4.out.grew g5)
           obtain ⟨d0, d1, d2, ⟨u0, u1, u2⟩, yy⟩ := r5.out.facts))
      exact bodyPost_ret (v := .tuple #[vec 0 0 0, .int .i64 3]) (by simp [results, Tryz.results44, go_sem, d0, d1, d2]) rfl (VP.ret hR.out (set3 (zb.out.trans ((((Grew.refl w3).alloc (.cells #[.int .i64 a, .int .i64 b, .int .i64 c] 23)).trans g5).below.mono zb.out.size)) (by omega) _ _ _))
    | true =>
      obtain ⟨i1, i2, i3⟩ := hri2 hq
      have hf := fun W (hW : Env W) => Format_any a b c W hW i1 i2 i3
      have hse := str_eq (str (fmt (a, b, c))) s
      rw [bl_str] at hse
      rw [hq] at hR hri
      clear hq hri2 i1 i2 i3
      by_cases hfs : fmt (a, b, c) = bl s
      · rw [decide_eq_true hfs] at hse
        rw [if_pos ⟨rfl, hfs⟩] at hR
        clear hfs
        generalize str (fmt (a, b, c)) = F at *
        replace hR := fhid hR
        go_enter Tryz.func44, Tryz.ntmps44
        go_upto_region 1 with fail
        have b2 := fhid (VB.new w 0 0 0 _ rfl)
        have g0 := (Grew.refl w).alloc (.cells #[.int .i64 0, .int .i64 0, .int .i64 0] 23)
        generalize w.alloc _ = w1 at *
        go_wp2_with (first
          | (go_at_call 66; (with_reducible refine (hrd _ (hw.out.grew g0)).mono ?_); rintro r w3 ⟨rfl, b3⟩
             have zb := fhid (g0.below.trans (b3.mono g0.below.size))
             have n4 := fhid (VB.new w3 a b c _ rfl)
             have r4 := fhid ((b2.out.on b3).grew ((Grew.refl w3).alloc (.cells #[.int .i64 a, .int .i64 b, .int .i64 c] 23))))
          | (go_at_call 67; (with_reducible refine (hri _).mono ?_); rintro r w5 ⟨rfl, g5⟩
             have z5 := fhid (zb.out.trans ((((Grew.refl w3).alloc (.cells #[.int .i64 a, .int .i64 b, .int .i64 c] 23)).trans g5).below.mono zb.out.size))
             have r5 := fhid (r4.out.grew g5)
             have n5 := fhid (n4.out.grew g5)
             obtain ⟨e0, e1, e2, _⟩ := n5.out.facts)
          | (go_at_call 46; (with_reducible refine (hf _ (hw.out.below z5.out)).mono ?_); rintro r w6 ⟨rfl, b6⟩
             have r6 := fhid (r5.out.on b6)
             clear e0 e1 e2
             obtain ⟨e0, e1, e2, _⟩ := (n5.out.on b6).facts
             obtain ⟨d0, d1, d2, ⟨u0, u1, u2⟩, yy⟩ := r6.out.facts))
        have z6 := z5.out.trans (b6.mono z5.out.size)
        exact bodyPost_ret (v := .tuple #[vec a b c, .int .i64 0]) (by simp [results, Tryz.results44, go_sem, d0, d1, d2]) rfl (VP.ret hR.out (set3 z6 (by omega) _ _ _))
      · rw [decide_eq_false hfs] at hse
        rw [if_neg (fun h => hfs h.2)] at hR
        clear hfs
        generalize str (fmt (a, b, c)) = F at *
        replace hR := fhid hR
        go_enter Tryz.func44, Tryz.ntmps44
        go_upto_region 1 with fail
        have b2 := fhid (VB.new w 0 0 0 _ rfl)
        have g0 := (Grew.refl w).alloc (.cells #[.int .i64 0, .int .i64 0, .int .i64 0] 23)
        generalize w.alloc _ = w1 at *
        go_wp2_with (first
          | (go_at_call 66; (with_reducible refine (hrd _ (hw.out.grew g0)).mono ?_); rintro r w3 ⟨rfl, b3⟩
             have zb := fhid (g0.below.trans (b3.mono g0.below.size))
             have n4 := fhid (VB.new w3 a b c _ rfl)
             have r4 := fhid ((b2.out.on b3).grew ((Grew.refl w3).alloc (.cells #[.int .i64 a, .int .i64 b, .int .i64 c] 23))))
          | (go_at_call 67; (with_reducible refine (hri _).mono ?_); rintro r w5 ⟨rfl, g5⟩
             have z5 := fhid (zb.out.trans ((((Grew.refl w3).alloc (.cells #[.int .i64 a, .int .i64 b, .int .i64 c] 23)).trans g5).below.mono zb.out.size))
             have r5 := fhid (r4.out.grew g5)
             have n5 := fhid (n4.out.grew g5)
             obtain ⟨e0, e1, e2, _⟩ := n5.out.facts)
          | (go_at_call 46; (with_reducible refine (hf _ (hw.out.below z5.out)).mono ?_); rintro r w6 ⟨rfl, b6⟩
             have r6 := fhid (r5.out.on b6)
             obtain ⟨d0, d1, d2, ⟨u0, u1, u2⟩, yy⟩ := r6.out.facts))
        have z6 := z5.out.trans (b6.mono z5.out.size)
        exact bodyPost_ret (v := .tuple #[vec 0 0 0, .int .i64 3]) (by simp [results, Tryz.results44, go_sem, d0, d1, d2]) rfl (VP.ret hR.out (set3 z6 (by omega) _ _ _))
end Go.Proofs.YtjpihophigjbpaaGreatDoor.Vs
