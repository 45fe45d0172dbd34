/-
  Parts: VBase VMath VLeaf VStr VApp VCmp VInto VAllR VSafe VComb VComb2 VAdd VSum VFmt VSplit VLaw VRead VParse VAppI.
-/
import Derived.Test.YtmnmcikbbfcjcaaGreatDoorProg
import Derived.WalkKit
import Derived.Below
import Derived.IntWalk
import Derived.Laws.DeepStrings4
import Derived.Outline
import Derived.Deep.Draws
import Derived.Sort.Grow
import Derived.Lib.Hide
import Derived.ChangeKeysEq
import Derived.Lib.ItoaNum
import Derived.Lib.Join
import Derived.Lib.AtoiAllCases
import Derived.Test.YtmnmcikbbfcjcaaGreatDoorS0
import Derived.BigRegion
import Derived.BigQuiet
import Derived.Deep.QuietTactic
import Derived.Deep.DeepCutAuto
import Derived.Lib.AppendIntMem
import Derived.Laws.IdiomStrings
import Derived.Lib.ConvBytes
import Derived.Maps.AppendAt
import Derived.Laws.AppendOwnNone
import Derived.OwnWalk
import Derived.StillTailTactics
import Derived.Lib.ItoaLen
import Derived.RangeFuncNested
import Derived.RangeFuncBound
import Derived.RangeFuncCalls
import Derived.RangeFuncLeaves
import Derived.RangeFuncBox
import Derived.Shelf.Abstract
import Derived.Shelf.RegionOpen
import Derived.OwnWalkIn
import Derived.TacticsInMore
import Derived.LoopNIn
import Derived.LoopIn
import Derived.RegionIn
import Derived.Sort.QuietIn
set_option linter.unusedSimpArgs false
set_option linter.unusedVariables false
/-
  Strings as bytes, worlds that only grow, vectors as values; the smallest calls.
-/
namespace Go.Proofs.YtmnmcikbbfcjcaaGreatDoor.Vs
open Go.RowKit

theorem fhid {p : Prop} (h : p) : Hid p := h
theorem fret1 {k : IntKind} {a b : Int} (h : a = b) : Ending.returned (.int k a) = .returned (.int k b) := by rw [h]
theorem fretb {a b : Bool} (h : a = b) : Ending.returned (.bool a) = .returned (.bool b) := by rw [h]
theorem frets {a b : ByteArray} (h : a = b) : Ending.returned (.string a) = .returned (.string b) := by rw [h]
theorem below_drewN {B : Nat} {a w : World} (h : Below B a w) (n : Nat) : Below B a (w.drewN n) := ⟨h.os, h.tape, h.output, h.size, h.block⟩
/-- Bytes, as a string; a string, as bytes. -/
def str (l : List UInt8) : ByteArray := ⟨l.toArray⟩
def bl (s : ByteArray) : List UInt8 := s.data.toList
theorem bl_str (l : List UInt8) : bl (str l) = l := by simp [bl, str]
theorem str_bl (s : ByteArray) : str (bl s) = s := by unfold str bl; simp
theorem bl_len (s : ByteArray) : (bl s).length = s.size := by unfold bl; rw [Array.length_toList]; rfl
theorem str_size (l : List UInt8) : (str l).size = l.length := by simp [str, ByteArray.size]
theorem bl_get (s : ByteArray) (k : Nat) (h : k < s.size) (h' : k < (bl s).length) : (bl s)[k] = s[k]'h := by
  unfold bl; rfl
theorem ext_str (s : ByteArray) (a b : Nat) : s.extract a b = str (((bl s).drop a).take (b - a)) := by
  obtain ⟨⟨l⟩⟩ := s
  rw [show (⟨⟨l⟩⟩ : ByteArray) = ByteArray.mk l.toArray from rfl, ByteArray.extract_mk]
  rfl
theorem str_eq (s t : ByteArray) : (s.toList == t.toList) = decide (bl s = bl t) := by
  rw [ByteArray.toList_eq, ByteArray.toList_eq, Bool.eq_iff_iff]
  simp [bl]
theorem str_app (a b : List UInt8) : str a ++ str b = str (a ++ b) := by
  apply ByteArray.ext
  simp [str]
theorem heap_alloc_new (w : World) (o : Obj) : (w.alloc o).heap[w.heap.size]? = some o := by
  show (w.heap.push o)[w.heap.size]? = _
  simp
theorem lt_of_block {w : World} {b : Nat} {o : Obj} (h : w.heap[b]? = some o) : b < w.heap.size := (Array.getElem?_eq_some_iff.1 h).1
theorem below_grow (w : World) (k : Nat) (os : Array Obj) : Below w.heap.size w (Go.Sort.grow (w.drewN k) os) :=
  ⟨rfl, rfl, rfl, by show _ ≤ (w.heap ++ os).size; rw [Array.size_append]; omega, fun j hj => by
    show (w.heap ++ os)[j]? = _
    rw [Array.getElem?_append_left hj]⟩
/-- Draws, and blocks behind all that was there. -/
def Grew (w w' : World) : Prop := ∃ q os, w' = Go.Sort.grow (w.drewN q) os
theorem Grew.below {w w' : World} (h : Grew w w') : Below w.heap.size w w' := by
  obtain ⟨q, os, rfl⟩ := h
  exact below_grow w q os
theorem Grew.refl (w : World) : Grew w w := ⟨0, #[], by unfold Go.Sort.grow; rw [Array.append_empty]; rfl⟩
theorem Grew.trans {a b c : World} (h : Grew a b) (k : Grew b c) : Grew a c := by
  obtain ⟨q, os, rfl⟩ := h
  obtain ⟨q', os', rfl⟩ := k
  refine ⟨q + q', os ++ os', ?_⟩
  show World.mk (a.heap ++ os ++ os') _ _ _ _ = World.mk (a.heap ++ (os ++ os')) _ _ _ _
  rw [Array.append_assoc]
  congr 1
  show a.drawn + q + q' = a.drawn + (q + q')
  omega
theorem Grew.drew {a b : World} (h : Grew a b) : Grew a b.drew := h.trans ⟨1, #[], by unfold Go.Sort.grow; rw [Array.append_empty]; rfl⟩
theorem Grew.drewN {a b : World} (h : Grew a b) (n : Nat) : Grew a (b.drewN n) := h.trans ⟨n, #[], by unfold Go.Sort.grow; rw [Array.append_empty]⟩
theorem Grew.alloc {a b : World} (h : Grew a b) (o : Obj) : Grew a (b.alloc o) := h.trans ⟨0, #[o], rfl⟩

/-- A vector, as a value; its cells. -/
abbrev vec (a b c : Int) : Value := .agg #[.int .i64 a, .int .i64 b, .int .i64 c]
/-- What an int of 64 bits may be. -/
def I64 (n : Int) : Prop := -9223372036854775808 ≤ n ∧ n ≤ 9223372036854775807
abbrev V3 := Int × Int × Int
abbrev vv (v : V3) : Value := vec v.1 v.2.1 v.2.2
/-- Each part may be. -/
def part (n : Int) : Bool := decide (0 ≤ n ∧ n ≤ 1073741824)
def right (a b c : Int) : Bool := decide (0 ≤ a ∧ 0 ≤ b ∧ 0 ≤ c) && decide (a ≤ 1073741824 ∧ b ≤ 1073741824 ∧ c ≤ 1073741824)
theorem right_iff {a b c : Int} : right a b c = true ↔ (0 ≤ a ∧ a ≤ 1073741824) ∧ (0 ≤ b ∧ b ≤ 1073741824) ∧ (0 ≤ c ∧ c ≤ 1073741824) := by
  unfold right; simp; omega
theorem right_parts (a b c : Int) : right a b c = (part a && part b && part c) := by
  rw [Bool.eq_iff_iff, right_iff]; unfold part; simp; omega
def BP (w : World) (b : Bool) (e : Ending) (w' : World) : Prop := e = .returned (.bool b) ∧ Grew w w'
theorem BP.mk' {w w' : World} {b c : Bool} (h : b = c) (g : Grew w w') : BP w c (.returned (.bool b)) w' := ⟨fretb h, g⟩

set_option maxRecDepth 100000 in
set_option maxHeartbeats 1000000 in
theorem Fits_any (a b c d e f : Int) (w : World) : Calls Tryz.prog 107 #[vec a b c, vec d e f] w (BP w (decide (a ≤ d ∧ b ≤ e ∧ c ≤ f))) := by
  by_cases h1 : a ≤ d <;> by_cases h2 : b ≤ e <;> by_cases h3 : c ≤ f
  all_goals
    go_enter Tryz.func107, Tryz.ntmps107
    go_wp2
    go_ret
    exact BP.mk' (by simp [h1, h2, h3]) (((Grew.refl w).alloc _).alloc _)
end Go.Proofs.YtmnmcikbbfcjcaaGreatDoor.Vs
/-
  Plain mathematics: numbers' digits, a vector's text, what a text's parts tell. No model in it.
-/
namespace Go.Proofs.YtmnmcikbbfcjcaaGreatDoor.Vs

def isDig (c : UInt8) : Bool := 48 ≤ c && c ≤ 57
/-- A byte that is a digit, as a number. -/
def dv (c : UInt8) : Nat := c.toNat - 48
/-- The number of digits. -/
def dval (l : List UInt8) : Nat := l.foldl (fun n c => 10 * n + dv c) 0
theorem dval_snoc (l : List UInt8) (c : UInt8) : dval (l ++ [c]) = 10 * dval l + dv c := by simp [dval, List.foldl_append]
theorem isDig_iff (c : UInt8) : isDig c = true ↔ 48 ≤ c.toNat ∧ c.toNat ≤ 57 := by
  unfold isDig
  simp [UInt8.le_iff_toNat_le]
theorem dv_lt {c : UInt8} (h : isDig c = true) : dv c ≤ 9 := by
  have := (isDig_iff c).1 h
  unfold dv; omega
theorem all_snoc {p : UInt8 → Bool} {l : List UInt8} {c : UInt8} : (l ++ [c]).all p = true ↔ l.all p = true ∧ p c = true := by simp
theorem dval_lt : ∀ (k : Nat) (l : List UInt8), l.length = k → l.all isDig = true → dval l < 10 ^ k
  | 0, l, h, _ => by
    have := List.eq_nil_of_length_eq_zero h
    subst this; decide
  | k + 1, l, h, ha => by
    rcases List.eq_nil_or_concat l with rfl | ⟨m, c, rfl⟩
    · simp at h
    · rw [List.concat_eq_append] at *
      rw [dval_snoc, Nat.pow_succ]
      obtain ⟨a1, a2⟩ := all_snoc.1 ha
      have := dval_lt k m (by simpa using h) a1
      have := dv_lt a2
      omega
/-- The decimal digits of a number, by themselves. -/
abbrev dec (u : Nat) : List UInt8 := Go.Lib.decDigits u
theorem dig_ofNat (k : Nat) (h : k < 10) : isDig (UInt8.ofNat (48 + k)) = true ∧ dv (UInt8.ofNat (48 + k)) = k := by
  have e : (UInt8.ofNat (48 + k)).toNat = 48 + k := by rw [UInt8.toNat_ofNat']; omega
  exact ⟨(isDig_iff _).2 (by omega), by unfold dv; omega⟩
theorem dec_small {u : Nat} (h : u < 10) : dec u = [UInt8.ofNat (48 + u)] := by unfold dec; rw [Go.Lib.decDigits, dif_pos h]
theorem dec_big {u : Nat} (h : ¬ u < 10) : dec u = dec (u / 10) ++ [UInt8.ofNat (48 + u % 10)] := by unfold dec; rw [Go.Lib.decDigits, dif_neg h]
theorem dec_facts (u : Nat) : (dec u).all isDig = true ∧ dval (dec u) = u ∧ 1 ≤ (dec u).length := by
  induction u using Nat.strongRecOn with
  | _ u ih =>
    by_cases h : u < 10
    · rw [dec_small h]
      have := dig_ofNat u h
      refine ⟨by rw [List.all_cons, this.1]; rfl, ?_, by simp⟩
      show dval ([] ++ [_]) = u
      rw [dval_snoc, this.2]; simp [dval]
    · rw [dec_big h]
      obtain ⟨h1, h2, _⟩ := ih (u / 10) (by omega)
      have := dig_ofNat (u % 10) (by omega)
      refine ⟨all_snoc.2 ⟨h1, this.1⟩, ?_, by simp⟩
      rw [dval_snoc, h2, this.2]; omega

theorem fold_le : ∀ (l : List UInt8) (n : Nat), n ≤ l.foldl (fun n c => 10 * n + dv c) n
  | [], n => Nat.le_refl n
  | c :: r, n => Nat.le_trans (by omega) (fold_le r (10 * n + dv c))
theorem uint_digits : ∀ (l : List UInt8) (n : Nat), l.all isDig = true → l.foldl (fun n c => 10 * n + dv c) n < 18446744073709551616 → Go.Lib.parseUint10 n l = .ok (l.foldl (fun n c => 10 * n + dv c) n)
  | [], n, _, _ => rfl
  | c :: r, n, ha, hb => by
    rw [List.all_cons, Bool.and_eq_true] at ha
    have hc := (isDig_iff c).1 ha.1
    have hl := fold_le r (10 * n + dv c)
    rw [List.foldl_cons] at hb
    have hd : dv c = c.toNat - 48 := rfl
    have e : n * 10 + (c.toNat - 48) = 10 * n + dv c := by omega
    rw [List.foldl_cons]
    unfold Go.Lib.parseUint10
    rw [if_pos hc, if_neg (by omega), e, if_neg (by omega)]
    exact uint_digits r _ ha.2 hb
theorem mag_dec (u : Nat) (h : u < 18446744073709551616) : Go.Lib.parseMag (dec u) = .ok u := by
  obtain ⟨h1, h2, h3⟩ := dec_facts u
  unfold Go.Lib.parseMag
  rw [if_neg (by intro e; rw [e] at h3; simp at h3)]
  have := uint_digits (dec u) 0 h1 (by show dval (dec u) < _; rw [h2]; exact h)
  rw [this]
  exact congrArg _ h2
/-- A number's text, with its sign. -/
abbrev num (n : Int) : List UInt8 := Go.Lib.itoa n
theorem num_pos {n : Int} (h : 0 ≤ n) : num n = dec n.toNat := by unfold num Go.Lib.itoa; rw [if_neg (by omega)]
theorem num_neg {n : Int} (h : n < 0) : num n = 45 :: dec n.natAbs := by unfold num Go.Lib.itoa; rw [if_pos h]
theorem dec_head (u : Nat) : ∃ c r, dec u = c :: r ∧ isDig c = true ∧ r.all isDig = true := by
  obtain ⟨h1, _, h3⟩ := dec_facts u
  cases h : dec u with
  | nil => rw [h] at h3; simp at h3
  | cons c r => rw [h, List.all_cons, Bool.and_eq_true] at h1; exact ⟨c, r, rfl, h1.1, h1.2⟩
theorem atoi_num (n : Int) (h : I64 n) : Go.Lib.atoiAll (num n) = .ok n := by
  obtain ⟨h0, h1⟩ := h
  by_cases hn : 0 ≤ n
  · rw [num_pos hn]
    obtain ⟨c, r, e, hc, _⟩ := dec_head n.toNat
    have hd := (isDig_iff c).1 hc
    rw [e, Go.Lib.atoiAll_plain c r (by omega) (by omega), ← e, mag_dec _ (by omega)]
    show (if 9223372036854775808 ≤ n.toNat then _ else _) = _
    rw [if_neg (by omega)]
    exact congrArg _ (by omega)
  · rw [num_neg (by omega), Go.Lib.atoiAll_minus, mag_dec _ (by omega)]
    show (if 9223372036854775808 < n.natAbs then _ else _) = _
    rw [if_neg (by omega)]
    exact congrArg _ (by omega)
/-- No byte of a number's text is c, where c is no digit and no sign. -/
theorem num_no (n : Int) (c : UInt8) (hc : isDig c = false) (h45 : c ≠ 45) : c ∉ num n := by
  have hd : ∀ u, c ∉ dec u := fun u hm => by
    have := List.all_eq_true.1 (dec_facts u).1 c hm
    rw [hc] at this; cases this
  by_cases hn : 0 ≤ n
  · rw [num_pos hn]; exact hd _
  · rw [num_neg (by omega)]
    intro hm
    rcases List.mem_cons.1 hm with e | e
    · exact h45 e
    · exact hd _ e
/-! ### A text's pieces, with ',' between -/
def pieces : List UInt8 → List (List UInt8)
  | [] => [[]]
  | c :: r => if c = 44 then [] :: pieces r else match pieces r with
    | [] => [[c]]
    | x :: xs => (c :: x) :: xs
def upTo (c : UInt8) (l : List UInt8) : List UInt8 := l.takeWhile (fun x => x != c)
def behind (c : UInt8) (l : List UInt8) : List UInt8 := l.drop ((upTo c l).length + 1)
theorem upTo_cons (c x : UInt8) (r : List UInt8) : upTo c (x :: r) = if x = c then [] else x :: upTo c r := by
  unfold upTo
  rw [List.takeWhile_cons]
  by_cases h : x = c
  · rw [if_pos h, if_neg (by simp [h])]
  · rw [if_neg h, if_pos (by simp [h])]
theorem pieces_step (l : List UInt8) : pieces l = upTo 44 l :: (if 44 ∈ l then pieces (behind 44 l) else []) := by
  induction l with
  | nil => rfl
  | cons c r ih =>
    by_cases h : c = 44
    · subst h
      rw [if_pos (by simp)]
      simp [pieces, upTo, behind]
    · have hm : (44 ∈ c :: r) ↔ 44 ∈ r := by
        simp only [List.mem_cons]
        exact ⟨fun hh => hh.resolve_left (fun e => h e.symm), .inr⟩
      have hu : upTo 44 (c :: r) = c :: upTo 44 r := by rw [upTo_cons, if_neg h]
      have hb : behind 44 (c :: r) = behind 44 r := by unfold behind; rw [hu]; rfl
      conv => lhs; unfold pieces
      rw [if_neg h, ih, hu, hb]
      by_cases h2 : 44 ∈ r
      · rw [if_pos h2, if_pos (hm.2 h2)]
      · rw [if_neg h2, if_neg (fun e => h2 (hm.1 e))]
theorem upTo_no {c : UInt8} {l : List UInt8} (h : c ∉ l) : upTo c l = l := by
  induction l with
  | nil => rfl
  | cons x r ih =>
    rw [upTo_cons, if_neg (fun e => h (by rw [e]; simp)), ih (fun e => h (by simp [e]))]
theorem upTo_app {c : UInt8} {l r : List UInt8} (h : c ∉ l) : upTo c (l ++ c :: r) = l := by
  induction l with
  | nil => rw [List.nil_append, upTo_cons, if_pos rfl]
  | cons x t ih =>
    rw [List.cons_append, upTo_cons, if_neg (fun e => h (by rw [e]; simp)), ih (fun e => h (by simp [e]))]
theorem behind_app {c : UInt8} {l r : List UInt8} (h : c ∉ l) : behind c (l ++ c :: r) = r := by
  unfold behind
  rw [upTo_app h, List.drop_append]
  simp
theorem pieces_one {l : List UInt8} (h : 44 ∉ l) : pieces l = [l] := by rw [pieces_step, if_neg h, upTo_no h]
theorem pieces_more {l r : List UInt8} (h : 44 ∉ l) : pieces (l ++ 44 :: r) = l :: pieces r := by rw [pieces_step, if_pos (by simp), upTo_app h, behind_app h]

/-! ### A vector's text -/
def kCpu : List UInt8 := [99, 112, 117]
def kMem : List UInt8 := [109, 101, 109]
def kGpu : List UInt8 := [103, 112, 117]
def noneT : List UInt8 := [110, 111, 110, 101]
def pc (k : List UInt8) (n : Int) : List UInt8 := k ++ [61] ++ num n
def pcs (k : List UInt8) (n : Int) : List (List UInt8) := if n = 0 then [] else [pc k n]
def allPcs (v : V3) : List (List UInt8) := pcs kCpu v.1 ++ pcs kMem v.2.1 ++ pcs kGpu v.2.2
def fmt (v : V3) : List UInt8 := if v.1 = 0 ∧ v.2.1 = 0 ∧ v.2.2 = 0 then noneT else Go.Lib.join (allPcs v) [44]
/-- One piece's part. -/
def step (v : V3) (p : List UInt8) : Option V3 :=
  match Go.Lib.atoiAll (behind 61 p) with
  | .ok n => if upTo 61 p = kCpu then some (n, v.2.1, v.2.2) else if upTo 61 p = kMem then some (v.1, n, v.2.2) else if upTo 61 p = kGpu then some (v.1, v.2.1, n) else none
  | _ => none
def foldP : V3 → List (List UInt8) → Option V3
  | v, [] => some v
  | v, p :: r => (step v p).bind (fun v' => foldP v' r)
def readP (s : List UInt8) : Option V3 := if s = noneT then some (0, 0, 0) else foldP (0, 0, 0) (pieces s)
theorem pc_cut (k : List UInt8) (n : Int) (h : 61 ∉ k) : upTo 61 (pc k n) = k ∧ behind 61 (pc k n) = num n := by
  have e : pc k n = k ++ 61 :: num n := by unfold pc; simp
  rw [e]
  exact ⟨upTo_app h, behind_app h⟩
theorem step_cpu (v : V3) (n : Int) (h : I64 n) : step v (pc kCpu n) = some (n, v.2.1, v.2.2) := by
  obtain ⟨h1, h2⟩ := pc_cut kCpu n (by decide)
  unfold step
  rw [h1, h2, atoi_num n h]
  rfl
theorem step_mem (v : V3) (n : Int) (h : I64 n) : step v (pc kMem n) = some (v.1, n, v.2.2) := by
  obtain ⟨h1, h2⟩ := pc_cut kMem n (by decide)
  unfold step
  rw [h1, h2, atoi_num n h]
  rfl
theorem step_gpu (v : V3) (n : Int) (h : I64 n) : step v (pc kGpu n) = some (v.1, v.2.1, n) := by
  obtain ⟨h1, h2⟩ := pc_cut kGpu n (by decide)
  unfold step
  rw [h1, h2, atoi_num n h]
  rfl
theorem pc_no (k : List UInt8) (n : Int) (c : UInt8) (hk : c ∉ k) (hc : isDig c = false) (h45 : c ≠ 45) (h61 : c ≠ 61) : c ∉ pc k n := by
  unfold pc
  intro h
  rcases List.mem_append.1 h with h | h
  · rcases List.mem_append.1 h with h | h
    · exact hk h
    · exact h61 (by simpa using h)
  · exact num_no n c hc h45 h
theorem join_two (x y : List UInt8) : Go.Lib.join [x, y] [44] = x ++ 44 :: y := by rw [Go.Lib.join_cons]; simp [Go.Lib.joinTail]
theorem join_three (x y z : List UInt8) : Go.Lib.join [x, y, z] [44] = x ++ 44 :: (y ++ 44 :: z) := by rw [Go.Lib.join_cons]; simp [Go.Lib.joinTail]
theorem c44 (n : Int) : 44 ∉ pc kCpu n ∧ 44 ∉ pc kMem n ∧ 44 ∉ pc kGpu n :=
  ⟨pc_no _ n 44 (by decide) (by decide) (by decide) (by decide), pc_no _ n 44 (by decide) (by decide) (by decide) (by decide), pc_no _ n 44 (by decide) (by decide) (by decide) (by decide)⟩
theorem no_none (k : List UInt8) (n : Int) (t : List UInt8) (c : UInt8) (r : List UInt8) (hk : k = c :: r) (hc : c ≠ 110) : pc k n ++ t ≠ noneT := by
  subst hk
  unfold pc noneT
  intro h
  injection h with h1 _
  exact hc h1
theorem read_fmt (v : V3) (h1 : I64 v.1) (h2 : I64 v.2.1) (h3 : I64 v.2.2) : readP (fmt v) = some v := by
  obtain ⟨a, b, c⟩ := v
  simp only at h1 h2 h3
  unfold fmt allPcs pcs
  simp only
  by_cases ha : a = 0 <;> by_cases hb : b = 0 <;> by_cases hc : c = 0
  · subst ha hb hc; rfl
  all_goals
    rw [if_neg (by omega)]
    simp only [ha, hb, hc, if_true, if_false, List.nil_append, List.append_nil, List.cons_append, Go.Lib.join_one, join_two, join_three]
  · unfold readP
    rw [if_neg (by have := no_none kGpu c [] 103 _ rfl (by decide); rwa [List.append_nil] at this), pieces_one (c44 c).2.2]
    simp [foldP, step_gpu _ c h3]
  · unfold readP
    rw [if_neg (by have := no_none kMem b [] 109 _ rfl (by decide); rwa [List.append_nil] at this), pieces_one (c44 b).2.1]
    simp [foldP, step_mem _ b h2]
  · unfold readP
    rw [if_neg (no_none kMem b _ 109 _ rfl (by decide)), pieces_more (c44 b).2.1, pieces_one (c44 c).2.2]
    simp [foldP, step_mem _ b h2, step_gpu _ c h3]
  · unfold readP
    rw [if_neg (by have := no_none kCpu a [] 99 _ rfl (by decide); rwa [List.append_nil] at this), pieces_one (c44 a).1]
    simp [foldP, step_cpu _ a h1]
  · unfold readP
    rw [if_neg (no_none kCpu a _ 99 _ rfl (by decide)), pieces_more (c44 a).1, pieces_one (c44 c).2.2]
    simp [foldP, step_cpu _ a h1, step_gpu _ c h3]
  · unfold readP
    rw [if_neg (no_none kCpu a _ 99 _ rfl (by decide)), pieces_more (c44 a).1, pieces_one (c44 b).2.1]
    simp [foldP, step_cpu _ a h1, step_mem _ b h2]
  · unfold readP
    rw [if_neg (no_none kCpu a _ 99 _ rfl (by decide)), pieces_more (c44 a).1, pieces_more (c44 b).2.1, pieces_one (c44 c).2.2]
    simp [foldP, step_cpu _ a h1, step_mem _ b h2, step_gpu _ c h3]
/-- A text's vector, or the fault. -/
def parseP (s : List UInt8) : V3 × Int := match readP s with
  | some v => if right v.1 v.2.1 v.2.2 = true ∧ fmt v = s then (v, 0) else ((0, 0, 0), 3)
  | none => ((0, 0, 0), 3)
theorem parse_fmt (v : V3) (h1 : I64 v.1) (h2 : I64 v.2.1) (h3 : I64 v.2.2) : parseP (fmt v) = if right v.1 v.2.1 v.2.2 = true then (v, 0) else ((0, 0, 0), 3) := by
  unfold parseP
  rw [read_fmt v h1 h2 h3]
  by_cases h : right v.1 v.2.1 v.2.2 = true
  · simp [h]
  · simp [h]
theorem right_I64 {v : V3} (h : right v.1 v.2.1 v.2.2 = true) : I64 v.1 ∧ I64 v.2.1 ∧ I64 v.2.2 := by
  have := right_iff.1 h
  exact ⟨⟨by omega, by omega⟩, ⟨by omega, by omega⟩, ⟨by omega, by omega⟩⟩
theorem parse_iff (s : List UInt8) (v : V3) (h : right v.1 v.2.1 v.2.2 = true) (hs : fmt v = s) : parseP s = (v, 0) := by
  obtain ⟨h1, h2, h3⟩ := right_I64 h
  rw [← hs, parse_fmt v h1 h2 h3, if_pos h]
theorem parse_not (s : List UInt8) (h : ∀ v : V3, right v.1 v.2.1 v.2.2 = true → fmt v ≠ s) : parseP s = ((0, 0, 0), 3) := by
  unfold parseP
  cases readP s with
  | none => rfl
  | some v =>
    simp only
    rw [if_neg (fun hh => h v hh.1 hh.2)]
end Go.Proofs.YtmnmcikbbfcjcaaGreatDoor.Vs
/-
  The small calls: whether a vector may be, how one stands to another.
-/
namespace Go.Proofs.YtmnmcikbbfcjcaaGreatDoor.Vs
open Go.RowKit

set_option maxRecDepth 100000 in
set_option maxHeartbeats 1000000 in
theorem Right_any (a b c : Int) (w : World) : Calls Tryz.prog 64 #[vec a b c] w (BP w (right a b c)) := by
  have h1 := fun W => Fits_any 0 0 0 a b c W
  have h2 := fun W => Fits_any a b c 1073741824 1073741824 1073741824 W
  have e := fhid (show right a b c = (decide (0 ≤ a ∧ 0 ≤ b ∧ 0 ≤ c) && decide (a ≤ 1073741824 ∧ b ≤ 1073741824 ∧ c ≤ 1073741824)) from rfl)
  generalize decide (0 ≤ a ∧ 0 ≤ b ∧ 0 ≤ c) = q1 at *
  generalize decide (a ≤ 1073741824 ∧ b ≤ 1073741824 ∧ c ≤ 1073741824) = q2 at *
  cases q1 with
  | false =>
    go_enter Tryz.func64, Tryz.ntmps64
    go_wp2_with (first
      | (go_at_call 107; (with_reducible refine (h1 _).mono ?_); rintro e w1 ⟨rfl, g1⟩))
    go_ret
    exact BP.mk' (by rw [e.out]; rfl) (((Grew.refl w).alloc _).trans g1)
  | true =>
    go_enter Tryz.func64, Tryz.ntmps64
    go_wp2_with (go_at_call 107; (with_reducible refine (h1 _).mono ?_); rintro e w1 ⟨rfl, g1⟩
                 have hbk := (g1.below.block w.heap.size (by simp)).trans (heap_alloc_new w (.cells #[.int .i64 a, .int .i64 b, .int .i64 c] 120))
                 have c0 : w1.cell? ⟨w.heap.size, 0, none⟩ = some (.int .i64 a) := by simp [World.cell?, hbk]
                 have c1 : w1.cell? ⟨w.heap.size, 1, none⟩ = some (.int .i64 b) := by simp [World.cell?, hbk]
                 have c2 : w1.cell? ⟨w.heap.size, 2, none⟩ = some (.int .i64 c) := by simp [World.cell?, hbk]
                 go_wp2_with (go_at_call 107; (with_reducible refine (h2 _).mono ?_); rintro e w2 ⟨rfl, g2⟩))
    go_ret
    exact BP.mk' (by rw [e.out]; cases q2 <;> rfl) ((((Grew.refl w).alloc _).trans g1).trans g2)
set_option maxRecDepth 100000 in
set_option maxHeartbeats 1000000 in
theorem number_any (n : Int) (w : World) : Calls Tryz.prog 124 #[.int .i64 n] w fun e w' => e = .returned (.bool (part n)) ∧ w = w' := by
  by_cases h1 : n ≥ 0 <;> by_cases h2 : n ≤ 1073741824
  all_goals
    go_enter Tryz.func124, Tryz.ntmps124
    go_wp2
    go_ret
    exact ⟨fretb (by unfold part; simp [h1, h2]), rfl⟩
set_option maxRecDepth 100000 in
set_option maxHeartbeats 1000000 in
theorem rRight_any (a b c : Int) (w : World) : Calls Tryz.prog 97 #[vec a b c] w (BP w (right a b c)) := by
  have h1 := fun W => number_any a W
  have h2 := fun W => number_any b W
  have h3 := fun W => number_any c W
  have e := fhid (right_parts a b c)
  generalize part a = q1 at *
  generalize part b = q2 at *
  generalize part c = q3 at *
  cases q1 <;> cases q2 <;> cases q3
  all_goals
    go_enter Tryz.func97, Tryz.ntmps97
    go_wp2_with (first
      | (go_at_call 124; (with_reducible refine (h1 _).mono ?_); clear h1; rintro e w1 ⟨rfl, rfl⟩)
      | (go_at_call 124; (with_reducible refine (h2 _).mono ?_); clear h2; rintro e w1 ⟨rfl, rfl⟩)
      | (go_at_call 124; (with_reducible refine (h3 _).mono ?_); clear h3; rintro e w1 ⟨rfl, rfl⟩))
    go_ret
    exact BP.mk' (by rw [e.out]; rfl) ((Grew.refl w).alloc _)
def orI : List Int → Int
  | [] => 0
  | x :: r => if x = 0 then orI r else x
end Go.Proofs.YtmnmcikbbfcjcaaGreatDoor.Vs
/-
  The library's strings: Cut at '=', Atoi, Itoa, Index at ','.
-/
namespace Go.Proofs.YtmnmcikbbfcjcaaGreatDoor.Vs
open Go.RowKit

/-- The library's table of powers of ten reads as the program's text lays it. -/
def Tab (w : World) : Prop := Lib.TabIs Tryz.prog w "internal/strconv.uint64pow10" .u64 Lib.pow10Tab
theorem tab_below {w w' : World} (h : Tab w) (hb : Below w.heap.size w w') : Tab w' := ((Lib.tabBelow_of_tabIs h).on hb).here
def Env (w : World) : Prop := Tab w ∧ True
theorem Env.below {w w' : World} (h : Env w) (hb : Below w.heap.size w w') : Env w' := by
  refine ⟨tab_below h.1 hb, ?_⟩
  first
    | (obtain ⟨_, ⟨t, p, h2⟩, u, q, h3⟩ := h
       exact ⟨⟨t, p, (hb.cell (block_lt_of_cell h2)).trans h2⟩, u, q, (hb.cell (block_lt_of_cell h3)).trans h3⟩)
    | trivial
theorem Env.grew {w w' : World} (h : Env w) (g : Grew w w') : Env w' := h.below g.below
theorem itoa_any (n : Int) (w : World) (hw : Env w) (h : I64 n) : Calls Tryz.prog 151 #[.int .i64 n] w fun e w' => e = .returned (.string (str (num n))) ∧ Grew w w' := by
  refine (Tryz.strconv_Itoa n h.1 h.2 w hw.1).mono ?_
  rintro e w' ⟨rfl, k, os, rfl⟩
  exact ⟨rfl, k, os, rfl⟩
end Go.Proofs.YtmnmcikbbfcjcaaGreatDoor.Vs
/-
  Rows of the call's own; a name put behind others.
-/
namespace Go.Proofs.YtmnmcikbbfcjcaaGreatDoor.Vs
open Go.RowKit

/-- The slice at address A holds these cells, in a block below B. -/
def SegC (w : World) (B : Nat) (A : Option Addr) (vs : List Value) : Prop :=
  0 < vs.length → ∃ b o, A = some ⟨b, o, none⟩ ∧ b < B ∧ ∀ j (h : j < vs.length), w.cell? ⟨b, o + j, none⟩ = some vs[j]
section
variable {w w' : World} {B B' : Nat} {A : Option Addr} {vs : List Value}
theorem SegC.nil (w : World) (B : Nat) (A : Option Addr) : SegC w B A [] := fun h => absurd h (Nat.lt_irrefl 0)
theorem SegC.keep (h : SegC w B A vs) (hk : ∀ p : Addr, p.block < B → w'.cell? p = w.cell? p) : SegC w' B A vs := fun h0 => by
  obtain ⟨b, o, e, hb, hc⟩ := h h0
  exact ⟨b, o, e, hb, fun j hj => (hk _ hb).trans (hc j hj)⟩
theorem SegC.more (h : SegC w B A vs) (hB : B ≤ B') : SegC w B' A vs := fun h0 => by
  obtain ⟨b, o, e, hb, hc⟩ := h h0
  exact ⟨b, o, e, by omega, hc⟩
theorem SegC.below (h : SegC w B A vs) (hb : Below B w w') : SegC w' B A vs := h.keep fun _ hp => hb.cell hp
theorem SegC.take (h : SegC w B A vs) (k : Nat) : SegC w B A (vs.take k) := fun h0 => by
  rw [List.length_take] at h0
  obtain ⟨b, o, e, hb, hc⟩ := h (by omega)
  refine ⟨b, o, e, hb, fun j hj => ?_⟩
  rw [List.length_take] at hj
  rw [List.getElem_take]
  exact hc j (by omega)
theorem SegC.drop (h : SegC w B A vs) {k cap : Nat} (hk : k ≤ vs.length) (hc : vs.length ≤ cap) : SegC w B (if cap = k then A else A.map (·.add k)) (vs.drop k) := fun h0 => by
  rw [List.length_drop] at h0
  obtain ⟨b, o, rfl, hb, hcell⟩ := h (by omega)
  rw [if_neg (by omega)]
  refine ⟨b, o + k, ?_, hb, fun j hj => ?_⟩
  · show some (Addr.add _ _) = _
    unfold Addr.add
    by_cases h0 : k = 0
    · rw [if_pos h0, h0, Nat.add_zero]
    · rw [if_neg h0]
  · rw [List.getElem_drop, Nat.add_assoc]
    exact hcell (k + j) (by rw [List.length_drop] at hj; omega)
end
theorem ownsRow_below {w w' : World} {base : Nat} {e : TypeId} {size n : Nat} {v : Value} {xs : List Value} (h : w.ownsRow base e size v n xs) (hb : Below w.heap.size w w') : w'.ownsRow base e size v n xs := by
  refine ⟨h.1, ?_⟩
  rcases h.2 with ⟨rfl, hn⟩ | ⟨g, cap, cur, rfl, hg, hh, rest⟩
  · exact .inl ⟨rfl, hn⟩
  · exact .inr ⟨g, cap, cur, rfl, hg, (hb.block g (Array.getElem?_eq_some_iff.1 hh).1).trans hh, rest⟩
theorem ownsRow_base {w : World} {base base' : Nat} {e : TypeId} {size n : Nat} {v : Value} {xs : List Value} (h : w.ownsRow base e size v n xs) (hb : base' ≤ base) : w.ownsRow base' e size v n xs := by
  refine ⟨h.1, ?_⟩
  rcases h.2 with ⟨rfl, hn⟩ | ⟨g, cap, cur, rfl, hg, hh, rest⟩
  · exact .inl ⟨rfl, hn⟩
  · exact .inr ⟨g, cap, cur, rfl, by omega, hh, rest⟩
theorem ownsRow_shape {w : World} {base : Nat} {e : TypeId} {size n : Nat} {v : Value} {xs : List Value} (h : w.ownsRow base e size v n xs) : ∃ A cap, v = .slice A n cap ∧ n ≤ cap ∧ cap ≤ maxLen ∧ SegC w w.heap.size A xs := by
  obtain ⟨hl, ⟨rfl, rfl⟩ | ⟨g, cap, cur, rfl, _, hg, hle, hcm, hsz, ht⟩⟩ := h
  · rw [Nat.zero_mul] at hl
    rw [List.eq_nil_of_length_eq_zero hl]
    exact ⟨none, 0, rfl, Nat.le_refl _, by unfold maxLen; omega, SegC.nil _ _ _⟩
  · refine ⟨some ⟨g, 0, none⟩, cap, rfl, hle, hcm, fun h0 => ⟨g, 0, rfl, (Array.getElem?_eq_some_iff.1 hg).1, fun j hj => ?_⟩⟩
    have e : (cur.toList.take (n * size))[j]? = some xs[j] := by rw [ht, List.getElem?_eq_getElem hj]
    rw [List.getElem?_take, if_pos (by omega), Array.getElem?_toList] at e
    simp only [World.cell?, hg, Nat.zero_add]
    simpa using e
theorem ownsRow_ge {w : World} {base : Nat} {e : TypeId} {size n : Nat} {v : Value} {xs : List Value} (h : w.ownsRow base e size v n xs) (k : Nat) (hk : v.ownBlock = some k) : base ≤ k := by
  obtain ⟨_, ⟨rfl, _⟩ | ⟨g, cap, cur, rfl, hg, _⟩⟩ := h
  · simp [Value.ownBlock] at hk
  · simp [Value.ownBlock] at hk; omega
theorem ownsRow_nil (w : World) (base : Nat) (e : TypeId) (size : Nat) : w.ownsRow base e size (.slice none 0 0) 0 [] := ⟨by simp, .inl ⟨rfl, rfl⟩⟩
/-- A block with another tag than the row's is not the row's. -/
theorem own_tag {w : World} {base b : Nat} {e T : TypeId} {size n : Nat} {v : Value} {xs : List Value} {cs : Array Value} {fr : Nat × Nat} (h : w.ownsRow base e size v n xs) (hb : w.heap[b]? = some (.cells cs T fr)) (hT : T ≠ e) : some b ≠ v.ownBlock := by
  obtain ⟨_, ⟨rfl, _⟩ | ⟨g, cap, cur, rfl, _, hg, _⟩⟩ := h
  · simp [Value.ownBlock]
  · intro he
    have : b = g := by simpa [Value.ownBlock] using he
    subst this
    rw [hb] at hg
    injection hg with hg
    injection hg with _ ht
    exact hT ht

/-- Values put behind a row of the call's own. -/
theorem app_own {w : World} {ops : Array Oper} {rest : List Oper} {o : Oper} {a : Act} {Q : Exit → Act → World → Prop} (T e : TypeId) (z : Value) (size bytes : Nat)
    (hT : Tryz.prog.underlying T = some (.slice e)) (hinfo : (Tryz.prog.info? e).map (fun i => (i.zero, i.size, i.bytes)) = some (some z, size, bytes)) (hzs : z.cells.size = size) (hsz : 0 < size)
    (hgd : o.guard = none) (s x : Operand) (ho : o.op = .call { callee := .builtin .append, args := #[s, x], argTypes := #[T, T] })
    (base : Nat) (v : Value) (n : Nat) (xs : List Value) (hs : a.eval s = v) (hown : w.ownsRow base e size v n xs)
    (B : Nat) (A : Option Addr) (m c : Nat) (us : List Value) (hx : a.eval x = .slice A m c) (hr : SegC w B A us) (hl : us.length = m * size) (h1 : ∀ u ∈ us, u.oneCell' = true) (hA : A = none → m = 0)
    (hlen : (n + m) * bytes ≤ 140737488355328) (hnm : n + m ≤ 140737488355328) (hbase : base ≤ w.heap.size)
    (h : ∀ v' w', w'.ownsRow base e size v' (n + m) (xs ++ us) → w.grownBy w' v.ownBlock → Below base w w' → wpList Tryz.prog ops Q rest (a.put o.dst v') w') : wpList Tryz.prog ops Q (o :: rest) a w := by
  obtain ⟨i0, hi, hz0, hz1, hz2⟩ := info_parts hinfo
  have hrun : ∃ v' w', (Builtin.append_ #[T, T] o.type #[v, .slice A m c]).run Tryz.prog w = .ok v' w' ∧ w'.ownsRow base e size v' (n + m) (xs ++ us) ∧ w.grownBy w' v.ownBlock := by
    by_cases h0 : 0 < m
    · obtain ⟨b, of, rfl, _, hc⟩ := hr (by rw [hl]; exact Nat.mul_pos h0 hsz)
      obtain ⟨v', w', hrun, h2, h3, _, _⟩ := run_append_own_at (P := Tryz.prog) w base T o.type e i0 z size bytes hT hi hz0 hz1 hz2 hzs hsz v n xs hown ⟨b, of, none⟩ m c us hl (fun j u hu => by
          obtain ⟨hj, rfl⟩ := List.getElem?_eq_some_iff.1 hu
          have := hc j hj
          unfold Addr.add
          by_cases hz : j = 0
          · subst hz; rw [if_pos rfl]; exact this
          · rw [if_neg hz]; exact this) h1 (by unfold maxLen; omega) hlen hbase
      exact ⟨v', w', hrun, h2, h3⟩
    · have hm : m = 0 := by omega
      subst hm
      have hu : us = [] := List.eq_nil_of_length_eq_zero (by omega)
      subst hu
      cases A with
      | none =>
        refine ⟨v, w, ?_, by simpa using hown, ⟨rfl, rfl, rfl, Nat.le_refl _, fun _ _ _ => rfl⟩⟩
        rcases hown.2 with ⟨rfl, rfl⟩ | ⟨g, cap, cur, rfl, _, _, hnc, _⟩
        · simp [Builtin.append_, run_underlying hT, sizeOf, typeInfo, hi, Builtin.lenOf, Builtin.firstCells]
        · simp [Builtin.append_, run_underlying hT, sizeOf, typeInfo, hi, Builtin.lenOf, Builtin.firstCells, hnc, storeCells]
      | some ad =>
        obtain ⟨v', w', hrun, h2, h3, _, _⟩ := run_append_own_at (P := Tryz.prog) w base T o.type e i0 z size bytes hT hi hz0 hz1 hz2 hzs hsz v n xs hown ad 0 c [] (by simp) (fun j u hu => by simp at hu) (fun u hu => by simp at hu) (by unfold maxLen; omega) hlen hbase
        exact ⟨v', w', hrun, h2, h3⟩
  obtain ⟨v', w', hrun, h2, h3⟩ := hrun
  refine wpList_plain hgd fun K hK => ?_
  unfold Oper.wp execOp
  simp only [ho, resolve, invoke, builtin, Sem.run_bind, Sem.run_pure, Result.andThen_ok, List.map_toArray, List.map_cons, List.map_nil, hs, hx, hrun]
  exact hK _ _ (h v' w' h2 h3 ((Below.refl _ _).grown h3 hbase (fun k hk => ownsRow_ge hown k hk)))

/-- Names as cells. -/
def SV (ns : List (List UInt8)) : List Value := ns.map fun l => .string (str l)
theorem SV_len (ns : List (List UInt8)) : (SV ns).length = ns.length := List.length_map _
theorem SV_get (ns : List (List UInt8)) (j : Nat) (h : j < ns.length) (h' : j < (SV ns).length) : (SV ns)[j] = .string (str ns[j]) := by simp [SV]
theorem SV_app (a b : List (List UInt8)) : SV (a ++ b) = SV a ++ SV b := List.map_append
theorem SV_one (ns : List (List UInt8)) : ∀ u ∈ SV ns, u.oneCell' = true := by
  intro u hu
  obtain ⟨c, _, rfl⟩ := List.mem_map.1 hu
  rfl
theorem infoString : (Tryz.prog.info? 9).map (fun i => (i.zero, i.size, i.bytes)) = some (some (.string ⟨#[]⟩), 1, 16) := by kernel_rfl
/-- The slice at address A reads as these names. -/
def Strs (w : World) (B : Nat) (A : Option Addr) (ns : List (List UInt8)) : Prop := SegC w B A (SV ns)
theorem Strs.at_ {w : World} {B : Nat} {A : Option Addr} {ns : List (List UInt8)} (h : Strs w B A ns) {k : Nat} (hk : k < ns.length) : ∃ b o, A = some ⟨b, o, none⟩ ∧ b < B ∧ w.cell? ⟨b, o + k, none⟩ = some (.string (str ns[k])) := by
  obtain ⟨b, o, e, hb, hc⟩ := h (by rw [SV_len]; omega)
  refine ⟨b, o, e, hb, ?_⟩
  have := hc k (by rw [SV_len]; exact hk)
  rwa [SV_get ns k hk] at this
/-- A slice of the call's own holds these names. -/
def OwnS (w : World) (base : Nat) (v : Value) (ns : List (List UInt8)) : Prop := w.ownsRow base 9 1 v ns.length (SV ns)
theorem one_cells (w : World) (cs : List Value) (T : TypeId) : SegC (w.alloc (.cells cs.toArray T)) (w.heap.size + 1) (some ⟨w.heap.size, 0, none⟩) cs := fun _ => by
  refine ⟨w.heap.size, 0, rfl, Nat.lt_succ_self _, fun j hj => ?_⟩
  have h := heap_alloc_new w (.cells cs.toArray T)
  simp only [World.cell?, h, Nat.zero_add]
  simp [List.getElem?_eq_getElem hj]
section
variable {w : World} {ops : Array Oper} {rest : List Oper} {o : Oper} {a : Act} {Q : Exit → Act → World → Prop}
theorem app_name (hgd : o.guard = none) (s x : Operand) (ho : o.op = .call { callee := .builtin .append, args := #[s, x], argTypes := #[22, 22] })
    (base : Nat) (v : Value) (ns : List (List UInt8)) (n : List UInt8) (S : ByteArray) (hS : S = str n) (w0 : World) (hs : a.eval s = v) (hown : OwnS w0 base v ns)
    (hw : w = w0.alloc (.cells #[.string S] 9)) (g : Nat) (hg : g = w0.heap.size) (hx : a.eval x = .slice (some ⟨g, 0, none⟩) 1 1) (hlen : ns.length ≤ 1048576) (hbase : base ≤ w0.heap.size)
    (h : ∀ v' w', OwnS w' base v' (ns ++ [n]) → w0.grownBy w' v.ownBlock → Below base w0 w' → wpList Tryz.prog ops Q rest (a.put o.dst v') w') : wpList Tryz.prog ops Q (o :: rest) a w := by
  subst hS
  subst hw
  subst hg
  refine app_own 22 9 (.string ⟨#[]⟩) 1 16 Tryz.underlying22 infoString rfl (by decide) hgd s x ho base v ns.length (SV ns) hs (World.ownsRow.alloc hown _) (w0.heap.size + 1) (some ⟨w0.heap.size, 0, none⟩) 1 1 [.string (str n)] hx (one_cells w0 _ _) rfl (fun u hu => by simp at hu; rcases hu with rfl; rfl) (fun h => by cases h) (by omega) (by omega) (by rw [World.size_alloc]; omega) ?_
  intro v' w' h1 h2 h3
  refine h v' w' ?_ ⟨h2.os, h2.tape, h2.output, Nat.le_trans (by rw [World.size_alloc]; omega) h2.size, fun k hk hne => (h2.block k (by rw [World.size_alloc]; omega) hne).trans (Below.heap_alloc _ _ _ hk)⟩ (((Below.refl _ _).alloc hbase _).trans h3)
  unfold OwnS
  rw [SV_app, List.length_append]
  exact h1
end
theorem OwnS.below {w w' : World} {base : Nat} {v : Value} {ns : List (List UInt8)} (h : OwnS w base v ns) (hb : Below w.heap.size w w') : OwnS w' base v ns := ownsRow_below h hb
theorem OwnS.nil (w : World) (base : Nat) : OwnS w base (.slice none 0 0) [] := ownsRow_nil _ _ _ _
end Go.Proofs.YtmnmcikbbfcjcaaGreatDoor.Vs
/-
  How two vectors stand to each other.
-/
namespace Go.Proofs.YtmnmcikbbfcjcaaGreatDoor.Vs
open Go.RowKit

end Go.Proofs.YtmnmcikbbfcjcaaGreatDoor.Vs
/-
  Which comes ahead; how often one fits into another one.
-/
namespace Go.Proofs.YtmnmcikbbfcjcaaGreatDoor.Vs
open Go.RowKit

/-- How often a part goes into another one. -/
def ti (n m : Int) : Int := if n = 0 then 1073741824 else m.tdiv n
end Go.Proofs.YtmnmcikbbfcjcaaGreatDoor.Vs
/-
  Lists of vectors in memory; whether all may be; Into and the document's.
-/
namespace Go.Proofs.YtmnmcikbbfcjcaaGreatDoor.Vs
open Go.RowKit

/-- The slice at address A reads as these vectors. -/
def SegV (w : World) (B : Nat) (A : Option Addr) (l : List V3) : Prop :=
  0 < l.length → ∃ b o, A = some ⟨b, o, none⟩ ∧ b < B ∧ ∀ j (h : j < l.length), w.cell? ⟨b, o + j * 3, none⟩ = some (.int .i64 l[j].1) ∧ w.cell? ⟨b, o + j * 3 + 1, none⟩ = some (.int .i64 l[j].2.1) ∧ w.cell? ⟨b, o + j * 3 + 2, none⟩ = some (.int .i64 l[j].2.2)
theorem SegV.below {w w' : World} {B : Nat} {A : Option Addr} {l : List V3} (h : SegV w B A l) (hb : Below B w w') : SegV w' B A l := fun h0 => by
  obtain ⟨b, o, e, hlt, hc⟩ := h h0
  refine ⟨b, o, e, hlt, fun j hj => ?_⟩
  obtain ⟨h1, h2, h3⟩ := hc j hj
  exact ⟨(hb.cell (p := ⟨b, _, none⟩) hlt).trans h1, (hb.cell (p := ⟨b, _, none⟩) hlt).trans h2, (hb.cell (p := ⟨b, _, none⟩) hlt).trans h3⟩
theorem SegV.more {w : World} {B B' : Nat} {A : Option Addr} {l : List V3} (h : SegV w B A l) (hB : B ≤ B') : SegV w B' A l := fun h0 => by
  obtain ⟨b, o, e, hlt, hc⟩ := h h0
  exact ⟨b, o, e, by omega, hc⟩
def allR (l : List V3) : Bool := l.all fun v => right v.1 v.2.1 v.2.2
end Go.Proofs.YtmnmcikbbfcjcaaGreatDoor.Vs
/-
  Sums, differences, multiples of vectors.
-/
namespace Go.Proofs.YtmnmcikbbfcjcaaGreatDoor.Vs
open Go.RowKit

def VP (w : World) (r : V3 × Int) (e : Ending) (w' : World) : Prop := e = .returned (.tuple #[vv r.1, .int .i64 r.2]) ∧ Below w.heap.size w w'
end Go.Proofs.YtmnmcikbbfcjcaaGreatDoor.Vs
/-
  combine, at whatever is done to the parts.
-/
namespace Go.Proofs.YtmnmcikbbfcjcaaGreatDoor.Vs
open Go.RowKit

/-- A vector's box. -/
def VB (w : World) (b : Nat) (x y z : Int) : Prop := w.heap[b]? = some (.cells #[.int .i64 x, .int .i64 y, .int .i64 z] 120 (0, 0))
theorem VB.facts {w : World} {b : Nat} {x y z : Int} (h : VB w b x y z) : w.cell? ⟨b, 0, none⟩ = some (.int .i64 x) ∧ w.cell? ⟨b, 1, none⟩ = some (.int .i64 y) ∧ w.cell? ⟨b, 2, none⟩ = some (.int .i64 z) ∧ (w.frozen? ⟨b, 0, none⟩ = false ∧ w.frozen? ⟨b, 1, none⟩ = false ∧ w.frozen? ⟨b, 2, none⟩ = false) ∧ b < w.heap.size := by
  unfold VB at h
  exact ⟨by simp [World.cell?, h], by simp [World.cell?, h], by simp [World.cell?, h], ⟨by simp [World.frozen?, h], by simp [World.frozen?, h], by simp [World.frozen?, h]⟩, lt_of_block h⟩
theorem VB.grew {w w' : World} {b : Nat} {x y z : Int} (h : VB w b x y z) (g : Grew w w') : VB w' b x y z := (g.below.block b (lt_of_block h)).trans h
theorem VB.on {w w' : World} {b : Nat} {x y z : Int} (h : VB w b x y z) (g : Below w.heap.size w w') : VB w' b x y z := (g.block b (lt_of_block h)).trans h
theorem VB.new (w : World) (x y z : Int) (g : Nat) (hg : g = w.heap.size) : VB (w.alloc (.cells #[.int .i64 x, .int .i64 y, .int .i64 z] 120)) g x y z := by subst hg; exact heap_alloc_new _ _
end Go.Proofs.YtmnmcikbbfcjcaaGreatDoor.Vs
/-
  combine, walked.
-/
namespace Go.Proofs.YtmnmcikbbfcjcaaGreatDoor.Vs
open Go.RowKit

theorem set3 {w u : World} (h : Below w.heap.size w u) {b : Nat} (hb : w.heap.size ≤ b) (x y z : Value) : Below w.heap.size w (((u.setCell ⟨b, 0, none⟩ x).setCell ⟨b, 1, none⟩ y).setCell ⟨b, 2, none⟩ z) :=
  ((h.setCell (p := ⟨b, 0, none⟩) hb _).setCell (p := ⟨b, 1, none⟩) hb _).setCell (p := ⟨b, 2, none⟩) hb _
end Go.Proofs.YtmnmcikbbfcjcaaGreatDoor.Vs
/-
  Add, Sub, Times.
-/
namespace Go.Proofs.YtmnmcikbbfcjcaaGreatDoor.Vs
open Go.RowKit

theorem VP.ret {w w' : World} {r : V3 × Int} {x y z e : Int} (h : ((x, y, z), e) = r) (b : Below w.heap.size w w') : VP w r (.returned (.tuple #[vec x y z, .int .i64 e])) w' := by subst h; exact ⟨rfl, b⟩

end Go.Proofs.YtmnmcikbbfcjcaaGreatDoor.Vs
/-
  Times; Add.
-/
namespace Go.Proofs.YtmnmcikbbfcjcaaGreatDoor.Vs
open Go.RowKit

theorem block_set {w : World} {b : Nat} {cs : Array Value} {t : TypeId} (i : Nat) (u : Value) (h : w.heap[b]? = some (.cells cs t (0, 0))) : (w.setCell ⟨b, i, none⟩ u).heap[b]? = some (.cells (cs.setIfInBounds i u) t (0, 0)) := by
  have hlt := lt_of_block h
  have h' : w.heap[b] = .cells cs t (0, 0) := by simpa [Array.getElem?_eq_getElem hlt] using h
  show (w.heap.modify b _)[b]? = _
  rw [Array.getElem?_eq_getElem (by simpa using hlt), Array.getElem_modify_self, h']
  rfl
theorem block_other {w : World} {b c : Nat} {o : Option Obj} (i : Nat) (u : Value) (h : w.heap[b]? = o) (hne : b ≠ c) : (w.setCell ⟨c, i, none⟩ u).heap[b]? = o := (Below.heap_setCell _ _ _ _ hne).trans h
theorem VB.put {w : World} {b : Nat} {x y z : Int} (h : VB w b x y z) (p q r : Int) : VB (((w.setCell ⟨b, 0, none⟩ (.int .i64 p)).setCell ⟨b, 1, none⟩ (.int .i64 q)).setCell ⟨b, 2, none⟩ (.int .i64 r)) b p q r := block_set 2 _ (block_set 1 _ (block_set 0 _ h))
theorem VB.other {w : World} {b c : Nat} {x y z : Int} (h : VB w b x y z) (hne : b ≠ c) (p q r : Value) : VB (((w.setCell ⟨c, 0, none⟩ p).setCell ⟨c, 1, none⟩ q).setCell ⟨c, 2, none⟩ r) b x y z := block_other 2 _ (block_other 1 _ (block_other 0 _ h hne) hne) hne
end Go.Proofs.YtmnmcikbbfcjcaaGreatDoor.Vs
/-
  A vector's text.
-/
namespace Go.Proofs.YtmnmcikbbfcjcaaGreatDoor.Vs
open Go.RowKit

theorem num_len (n : Int) (h : I64 n) : (num n).length ≤ 21 := Go.Lib.itoa_length_le n h.1 h.2
end Go.Proofs.YtmnmcikbbfcjcaaGreatDoor.Vs
/-
  strings.SplitSeq at ',': the iterator, which keeps what is left in a cell of its own.
-/
namespace Go.Proofs.YtmnmcikbbfcjcaaGreatDoor.Vs
open Go.RowKit Go.Shelf
attribute [local go_sem] Oper.semAt_some

/-- A piece: no longer than a string may be. -/
abbrev Pc := { x : List UInt8 // x.length ≤ 140737488355328 }
def raw (l : List Pc) : List (List UInt8) := l.map (·.1)
end Go.Proofs.YtmnmcikbbfcjcaaGreatDoor.Vs
/-
  A range over strings.SplitSeq, whose body may return: the loop's invariant speaks of what lay ahead of the loop, and bears the iterator's own cell.
-/
namespace Go.Proofs.YtmnmcikbbfcjcaaGreatDoor.Vs
open Go.RowKit Go.Shelf
attribute [local go_sem] Oper.semAt_some

end Go.Proofs.YtmnmcikbbfcjcaaGreatDoor.Vs
/-
  read: what a text's parts tell.
-/
namespace Go.Proofs.YtmnmcikbbfcjcaaGreatDoor.Vs
open Go.RowKit Go.Shelf
attribute [local go_sem] Oper.semAt_some

/-- Between two rounds: the parts told so far lie in the vector's box; the results are as they began. -/
def RI (w : World) (n₀ : Nat) (pre : List Pc) (W : World) : Prop :=
  (∃ v : V3, foldP (0, 0, 0) (raw pre) = some v ∧ VB W (n₀ + 2) v.1 v.2.1 v.2.2) ∧ VB W n₀ 0 0 0 ∧ Boxed W (n₀ + 1) 4 (.bool false) ∧ Boxed W (n₀ + 4) 9 (.string ⟨#[44]⟩) ∧ Boxed W (n₀ + 5) 3 (.int .i64 0) ∧ Below n₀ w W
def RX (w : World) (n₀ : Nat) (l : List UInt8) (W : World) : Prop := foldP (0, 0, 0) (pieces l) = none ∧ VB W n₀ 0 0 0 ∧ Boxed W (n₀ + 1) 4 (.bool false) ∧ Below n₀ w W
theorem RI.on {w W W' : World} {n₀ : Nat} {pre : List Pc} (h : RI w n₀ pre W) {B : Nat} (hb : Below B W W') (hB : n₀ + 6 ≤ B) : RI w n₀ pre W' := by
  obtain ⟨⟨v, h1, h2⟩, h3, h4, h5, h6, h7⟩ := h
  exact ⟨⟨v, h1, (hb.block _ (by omega)).trans h2⟩, (hb.block _ (by omega)).trans h3, (hb.block _ (by omega)).trans h4, (hb.block _ (by omega)).trans h5, (hb.block _ (by omega)).trans h6, h7.trans (hb.mono (by omega))⟩
theorem RX.on {w W W' : World} {n₀ : Nat} {l : List UInt8} (h : RX w n₀ l W) {B : Nat} (hb : Below B W W') (hB : n₀ + 6 ≤ B) : RX w n₀ l W' := by
  obtain ⟨h1, h2, h3, h7⟩ := h
  exact ⟨h1, (hb.block _ (by omega)).trans h2, (hb.block _ (by omega)).trans h3, h7.trans (hb.mono (by omega))⟩
end Go.Proofs.YtmnmcikbbfcjcaaGreatDoor.Vs
/-
  Parse; what each statement asks beside: a text's vector, back and forth.
-/
namespace Go.Proofs.YtmnmcikbbfcjcaaGreatDoor.Vs
open Go.RowKit

end Go.Proofs.YtmnmcikbbfcjcaaGreatDoor.Vs
/-
  Numbers put behind a row of the call's own.
-/
namespace Go.Proofs.YtmnmcikbbfcjcaaGreatDoor.Vs
open Go.RowKit

def IV (ns : List Nat) : List Value := ns.map fun (n : Nat) => .int .i64 (n : Int)
theorem IV_len (ns : List Nat) : (IV ns).length = ns.length := List.length_map _
theorem IV_get (ns : List Nat) (j : Nat) (h : j < ns.length) (h' : j < (IV ns).length) : (IV ns)[j] = .int .i64 (ns[j] : Int) := by simp [IV]
theorem IV_app (a b : List Nat) : IV (a ++ b) = IV a ++ IV b := List.map_append
theorem infoInt : (Tryz.prog.info? 3).map (fun i => (i.zero, i.size, i.bytes)) = some (some (.int .i64 0), 1, 8) := by kernel_rfl
/-- The slice at address A reads as these numbers. -/
def Ints (w : World) (B : Nat) (A : Option Addr) (ns : List Nat) : Prop := SegC w B A (IV ns)
theorem Ints.at_ {w : World} {B : Nat} {A : Option Addr} {ns : List Nat} (h : Ints w B A ns) {k : Nat} (hk : k < ns.length) : ∃ b o, A = some ⟨b, o, none⟩ ∧ b < B ∧ w.cell? ⟨b, o + k, none⟩ = some (.int .i64 (ns[k] : Int)) := by
  obtain ⟨b, o, e, hb, hc⟩ := h (by rw [IV_len]; omega)
  refine ⟨b, o, e, hb, ?_⟩
  have := hc k (by rw [IV_len]; exact hk)
  rwa [IV_get ns k hk] at this
/-- A slice of the call's own holds these numbers. -/
def OwnI (w : World) (base : Nat) (v : Value) (ns : List Nat) : Prop := w.ownsRow base 3 1 v ns.length (IV ns)
section
variable {w : World} {ops : Array Oper} {rest : List Oper} {o : Oper} {a : Act} {Q : Exit → Act → World → Prop}
theorem app_int (hgd : o.guard = none) (s x : Operand) (ho : o.op = .call { callee := .builtin .append, args := #[s, x], argTypes := #[106, 106] })
    (base : Nat) (v : Value) (ns : List Nat) (n : Nat) (w0 : World) (hs : a.eval s = v) (hown : OwnI w0 base v ns)
    (hw : w = w0.alloc (.cells #[.int .i64 (n : Int)] 3)) (g : Nat) (hg : g = w0.heap.size) (hx : a.eval x = .slice (some ⟨g, 0, none⟩) 1 1) (hlen : ns.length ≤ 1048576) (hbase : base ≤ w0.heap.size)
    (h : ∀ v' w', OwnI w' base v' (ns ++ [n]) → Below base w0 w' → wpList Tryz.prog ops Q rest (a.put o.dst v') w') : wpList Tryz.prog ops Q (o :: rest) a w := by
  subst hw
  subst hg
  refine app_own 106 3 (.int .i64 0) 1 8 Tryz.underlying106 infoInt rfl (by decide) hgd s x ho base v ns.length (IV ns) hs (World.ownsRow.alloc hown _) (w0.heap.size + 1) (some ⟨w0.heap.size, 0, none⟩) 1 1 [.int .i64 (n : Int)] hx (one_cells w0 _ _) rfl (fun u hu => by simp at hu; rcases hu with rfl; rfl) (fun h => by cases h) (by omega) (by omega) (by rw [World.size_alloc]; omega) ?_
  intro v' w' h1 _ h3
  refine h v' w' ?_ (((Below.refl _ _).alloc hbase _).trans h3)
  unfold OwnI
  rw [IV_app, List.length_append]
  exact h1
end
theorem OwnI.below {w w' : World} {base : Nat} {v : Value} {ns : List Nat} (h : OwnI w base v ns) (hb : Below w.heap.size w w') : OwnI w' base v ns := ownsRow_below h hb
theorem OwnI.nil (w : World) (base : Nat) : OwnI w base (.slice none 0 0) [] := ownsRow_nil _ _ _ _
theorem OwnI.shape {w : World} {base : Nat} {v : Value} {ns : List Nat} (h : OwnI w base v ns) : ∃ A cap, v = .slice A ns.length cap ∧ Ints w w.heap.size A ns := by
  obtain ⟨A, cap, e, _, _, hs⟩ := ownsRow_shape h
  exact ⟨A, cap, e, hs⟩
end Go.Proofs.YtmnmcikbbfcjcaaGreatDoor.Vs
