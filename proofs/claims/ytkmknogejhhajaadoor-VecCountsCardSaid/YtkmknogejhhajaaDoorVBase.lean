/-
  Strings as bytes, worlds that only grow, vectors as values; the smallest calls.
-/
import Derived.Test.YtkmknogejhhajaaDoorProg
import Derived.WalkKit
import Derived.Below
import Derived.IntWalk
import Derived.Laws.DeepStrings4
import Derived.Outline
import Derived.Deep.Draws
import Derived.Sort.Grow
import Derived.Lib.Hide
import Derived.ChangeKeysEq
namespace Go.Proofs.YtkmknogejhhajaaDoor
open Go.RowKit

theorem fhid {p : Prop} (h : p) : Hid p := h
theorem fret1 {k : IntKind} {a b : Int} (h : a = b) : Ending.returned (.int k a) = .returned (.int k b) := by rw [h]
theorem fretb {a b : Bool} (h : a = b) : Ending.returned (.bool a) = .returned (.bool b) := by rw [h]
theorem frets {a b : ByteArray} (h : a = b) : Ending.returned (.string a) = .returned (.string b) := by rw [h]
theorem below_drewN {B : Nat} {a w : World} (h : Below B a w) (n : Nat) : Below B a (w.drewN n) := ⟨h.os, h.tape, h.output, h.size, h.block⟩
/-- Bytes, as a string; a string, as bytes. -/
def str (l : List UInt8) : ByteArray := ⟨l.toArray⟩
def bl (s : ByteArray) : List UInt8 := s.data.toList
theorem bl_str (l : List UInt8) : bl (str l) = l := by simp [bl, str]
theorem str_bl (s : ByteArray) : str (bl s) = s := by unfold str bl; simp
theorem bl_inj {s t : ByteArray} (h : bl s = bl t) : s = t := by rw [← str_bl s, h, str_bl]
theorem bl_len (s : ByteArray) : (bl s).length = s.size := by unfold bl; rw [Array.length_toList]; rfl
theorem str_size (l : List UInt8) : (str l).size = l.length := by simp [str, ByteArray.size]
theorem bl_get (s : ByteArray) (k : Nat) (h : k < s.size) (h' : k < (bl s).length) : (bl s)[k] = s[k]'h := by
  unfold bl; rfl
theorem ext_str (s : ByteArray) (a b : Nat) : s.extract a b = str (((bl s).drop a).take (b - a)) := by
  obtain ⟨⟨l⟩⟩ := s
  rw [show (⟨⟨l⟩⟩ : ByteArray) = ByteArray.mk l.toArray from rfl, ByteArray.extract_mk]
  rfl
theorem ext_to (s : ByteArray) (b : Nat) : s.extract 0 b = str ((bl s).take b) := by rw [ext_str]; rfl
theorem ext_from (s : ByteArray) (a : Nat) : s.extract a s.size = str ((bl s).drop a) := by
  rw [ext_str, ← bl_len, List.take_of_length_le (by rw [List.length_drop]; omega)]
theorem str_eq (s t : ByteArray) : (s.toList == t.toList) = decide (bl s = bl t) := by
  rw [ByteArray.toList_eq, ByteArray.toList_eq, Bool.eq_iff_iff]
  simp [bl]
theorem str_app (a b : List UInt8) : str a ++ str b = str (a ++ b) := by
  apply ByteArray.ext
  simp [str]
theorem heap_alloc_new (w : World) (o : Obj) : (w.alloc o).heap[w.heap.size]? = some o := by
  show (w.heap.push o)[w.heap.size]? = _
  simp
theorem lt_of_block {w : World} {b : Nat} {o : Obj} (h : w.heap[b]? = some o) : b < w.heap.size := (Array.getElem?_eq_some_iff.1 h).1
theorem below_grow (w : World) (k : Nat) (os : Array Obj) : Below w.heap.size w (Go.Sort.grow (w.drewN k) os) :=
  ⟨rfl, rfl, rfl, by show _ ≤ (w.heap ++ os).size; rw [Array.size_append]; omega, fun j hj => by
    show (w.heap ++ os)[j]? = _
    rw [Array.getElem?_append_left hj]⟩
/-- Draws, and blocks behind all that was there. -/
def Grew (w w' : World) : Prop := ∃ q os, w' = Go.Sort.grow (w.drewN q) os
theorem Grew.below {w w' : World} (h : Grew w w') : Below w.heap.size w w' := by
  obtain ⟨q, os, rfl⟩ := h
  exact below_grow w q os
theorem Grew.refl (w : World) : Grew w w := ⟨0, #[], by unfold Go.Sort.grow; rw [Array.append_empty]; rfl⟩
theorem Grew.trans {a b c : World} (h : Grew a b) (k : Grew b c) : Grew a c := by
  obtain ⟨q, os, rfl⟩ := h
  obtain ⟨q', os', rfl⟩ := k
  refine ⟨q + q', os ++ os', ?_⟩
  show World.mk (a.heap ++ os ++ os') _ _ _ _ = World.mk (a.heap ++ (os ++ os')) _ _ _ _
  rw [Array.append_assoc]
  congr 1
  show a.drawn + q + q' = a.drawn + (q + q')
  omega
theorem Grew.drew {a b : World} (h : Grew a b) : Grew a b.drew := h.trans ⟨1, #[], by unfold Go.Sort.grow; rw [Array.append_empty]; rfl⟩
theorem Grew.drewN {a b : World} (h : Grew a b) (n : Nat) : Grew a (b.drewN n) := h.trans ⟨n, #[], by unfold Go.Sort.grow; rw [Array.append_empty]⟩
theorem Grew.alloc {a b : World} (h : Grew a b) (o : Obj) : Grew a (b.alloc o) := h.trans ⟨0, #[o], rfl⟩

/-- A vector, as a value; its cells. -/
abbrev vec (a b c : Int) : Value := .agg #[.int .i64 a, .int .i64 b, .int .i64 c]
abbrev vcs (a b c : Int) : Array Value := #[.int .i64 a, .int .i64 b, .int .i64 c]
/-- What an int of 64 bits may be. -/
def I64 (n : Int) : Prop := -9223372036854775808 ≤ n ∧ n ≤ 9223372036854775807
abbrev V3 := Int × Int × Int
abbrev vv (v : V3) : Value := vec v.1 v.2.1 v.2.2
/-- Each part may be. -/
def part (n : Int) : Bool := decide (0 ≤ n ∧ n ≤ 1073741824)
def right (a b c : Int) : Bool := decide (0 ≤ a ∧ 0 ≤ b ∧ 0 ≤ c) && decide (a ≤ 1073741824 ∧ b ≤ 1073741824 ∧ c ≤ 1073741824)
theorem right_iff {a b c : Int} : right a b c = true ↔ (0 ≤ a ∧ a ≤ 1073741824) ∧ (0 ≤ b ∧ b ≤ 1073741824) ∧ (0 ≤ c ∧ c ≤ 1073741824) := by
  unfold right; simp; omega
theorem right_parts (a b c : Int) : right a b c = (part a && part b && part c) := by
  rw [Bool.eq_iff_iff, right_iff]; unfold part; simp; omega
def BP (w : World) (b : Bool) (e : Ending) (w' : World) : Prop := e = .returned (.bool b) ∧ Grew w w'
theorem BP.mk' {w w' : World} {b c : Bool} (h : b = c) (g : Grew w w') : BP w c (.returned (.bool b)) w' := ⟨fretb h, g⟩

set_option maxRecDepth 100000 in
set_option maxHeartbeats 1000000 in
theorem Fits_any (a b c d e f : Int) (w : World) : Calls Tryd.prog 12 #[vec a b c, vec d e f] w (BP w (decide (a ≤ d ∧ b ≤ e ∧ c ≤ f))) := by
  by_cases h1 : a ≤ d <;> by_cases h2 : b ≤ e <;> by_cases h3 : c ≤ f
  all_goals
    go_enter Tryd.func12, Tryd.ntmps12
    go_wp2
    go_ret
    exact BP.mk' (by simp [h1, h2, h3]) (((Grew.refl w).alloc _).alloc _)
set_option maxRecDepth 100000 in
set_option maxHeartbeats 1000000 in
theorem rFits_any (a b c d e f : Int) (w : World) : Calls Tryd.prog 13 #[vec a b c, vec d e f] w (BP w (decide (a ≤ d ∧ b ≤ e ∧ c ≤ f))) := by
  by_cases h1 : a ≤ d <;> by_cases h2 : b ≤ e <;> by_cases h3 : c ≤ f
  all_goals
    go_enter Tryd.func13, Tryd.ntmps13
    go_wp2
    go_ret
    exact BP.mk' (by simp [h1, h2, h3]) (((Grew.refl w).alloc _).alloc _)
end Go.Proofs.YtkmknogejhhajaaDoor
