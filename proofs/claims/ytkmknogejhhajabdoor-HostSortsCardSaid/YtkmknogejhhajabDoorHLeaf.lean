/-
  Strings as bytes; the smallest calls.
-/
import Derived.Test.YtkmknogejhhajabDoorProg
import Derived.Test.YtkmknogejhhajabDoorHFacts
import Derived.WalkKit
import Derived.Below
import Derived.IntWalk
import Derived.Laws.DeepStrings4
import Derived.Outline
import Derived.Deep.Draws
namespace Go.Proofs.YtkmknogejhhajabDoor
open Go.RowKit

theorem fhid {p : Prop} (h : p) : Hid p := h
theorem fret1 {k : IntKind} {a b : Int} (h : a = b) : Ending.returned (.int k a) = .returned (.int k b) := by rw [h]
theorem fretb {a b : Bool} (h : a = b) : Ending.returned (.bool a) = .returned (.bool b) := by rw [h]
theorem below_drewN {B : Nat} {a w : World} (h : Below B a w) (n : Nat) : Below B a (w.drewN n) := ⟨h.os, h.tape, h.output, h.size, h.block⟩
/-- Bytes, as a string; a string, as bytes. -/
def str (l : List UInt8) : ByteArray := ⟨l.toArray⟩
def bl (s : ByteArray) : List UInt8 := s.data.toList
theorem bl_str (l : List UInt8) : bl (str l) = l := by simp [bl, str]
theorem str_bl (s : ByteArray) : str (bl s) = s := by unfold str bl; simp
theorem bl_inj {s t : ByteArray} (h : bl s = bl t) : s = t := by rw [← str_bl s, h, str_bl]
theorem bl_len (s : ByteArray) : (bl s).length = s.size := by unfold bl; rw [Array.length_toList]; rfl
theorem str_size (l : List UInt8) : (str l).size = l.length := by simp [str, ByteArray.size]
theorem bl_get (s : ByteArray) (k : Nat) (h : k < s.size) (h' : k < (bl s).length) : (bl s)[k] = s[k]'h := by
  unfold bl; rfl
theorem ext_str (s : ByteArray) (a b : Nat) : s.extract a b = str (((bl s).drop a).take (b - a)) := by
  obtain ⟨⟨l⟩⟩ := s
  rw [show (⟨⟨l⟩⟩ : ByteArray) = ByteArray.mk l.toArray from rfl, ByteArray.extract_mk]
  rfl
theorem ext_to (s : ByteArray) (b : Nat) : s.extract 0 b = str ((bl s).take b) := by rw [ext_str]; rfl
theorem ext_from (s : ByteArray) (a : Nat) : s.extract a s.size = str ((bl s).drop a) := by
  rw [ext_str, ← bl_len, List.take_of_length_le (by rw [List.length_drop]; omega)]
theorem str_eq (s t : ByteArray) : (s.toList == t.toList) = decide (bl s = bl t) := by
  rw [ByteArray.toList_eq, ByteArray.toList_eq, Bool.eq_iff_iff]
  simp [bl]

set_option maxHeartbeats 400000 in
theorem isDigit_any (c : UInt8) (w : World) : Calls Tryd.prog 12 #[.int .u8 (c.toNat : Int)] w fun e w' => e = .returned (.bool (isDig c)) ∧ w = w' := by
  have h := isDig_iff c
  generalize isDig c = r at *
  generalize c.toNat = n at *
  by_cases h1 : (48 : Int) ≤ n
  · by_cases h2 : (n : Int) ≤ 57
    · have e : r = true := h.2 (by omega)
      subst e
      clear h
      go_enter Tryd.func12, Tryd.ntmps12
      go_wp2
      go_ret
      exact ⟨rfl, rfl⟩
    · have e : r = false := by cases r with | false => rfl | true => exact absurd (h.1 rfl) (by omega)
      subst e
      clear h
      go_enter Tryd.func12, Tryd.ntmps12
      go_wp2
      go_ret
      exact ⟨rfl, rfl⟩
  · have e : r = false := by cases r with | false => rfl | true => exact absurd (h.1 rfl) (by omega)
    subst e
    clear h
    go_enter Tryd.func12, Tryd.ntmps12
    go_wp2
    go_ret
    exact ⟨rfl, rfl⟩
theorem addDigit_any (n : Nat) (c : UInt8) (w : World) (h : isDig c = true) (hn : n ≤ 1000000) : Calls Tryd.prog 13 #[.int .i64 n, .int .u8 (c.toNat : Int)] w fun e w' => e = .returned (.int .i64 ((10 * n + dv c : Nat) : Int)) ∧ w = w' := by
  have h1 := (isDig_iff c).1 h
  have h2 : ((10 * n + dv c : Nat) : Int) = 10 * (n : Int) + ((c.toNat : Int) - 48) := by unfold dv; omega
  rw [h2]
  clear h2 h
  generalize c.toNat = m at *
  obtain ⟨h3, h4⟩ := h1
  have i3 : (48 : Int) ≤ m := by omega
  have i4 : (m : Int) ≤ 57 := by omega
  have i5 : (n : Int) ≤ 1000000 := by omega
  have i6 : (0 : Int) ≤ n := by omega
  go_enter Tryd.func13, Tryd.ntmps13
  go_wp2
  go_ret
  exact ⟨rfl, rfl⟩
theorem isBare_iff (c : UInt8) : isBare c = (isDig c || (decide (97 ≤ c.toNat) && decide (c.toNat ≤ 122)) || (decide (65 ≤ c.toNat) && decide (c.toNat ≤ 90)) || decide (c.toNat = 45) || decide (c.toNat = 95) || decide (c.toNat = 46)) := by
  unfold isBare
  have e : ∀ (k : UInt8), (c == k) = decide (c.toNat = k.toNat) := fun k => by
    rw [Bool.eq_iff_iff]; simp [UInt8.toNat_inj]
  simp only [UInt8.le_iff_toNat_le, e]
  rfl
set_option maxHeartbeats 1000000 in
theorem isPrefix_any (c : UInt8) (w : World) : Calls Tryd.prog 44 #[.int .u8 (c.toNat : Int)] w fun e w' => e = .returned (.bool (isBare c)) ∧ w = w' := by
  have h := isBare_iff c
  have hd := isDigit_any c w
  generalize isDig c = r at *
  generalize isBare c = q at *
  generalize c.toNat = n at *
  replace h := fhid h
  cases r with
  | true =>
    go_enter Tryd.func44, Tryd.ntmps44
    go_wp2_with (go_at_call 12; (with_reducible refine hd.mono ?_); rintro e w1 ⟨rfl, rfl⟩)
    go_ret
    exact ⟨fretb (by rw [h.out]; rfl), rfl⟩
  | false =>
    go_enter Tryd.func44, Tryd.ntmps44
    go_wp2_with (go_at_call 12; (with_reducible refine hd.mono ?_); rintro e w1 ⟨rfl, rfl⟩)
    all_goals
      go_ret
      refine ⟨fretb ?_, rfl⟩
      rw [h.out, Bool.eq_iff_iff]
      simp
      try omega
set_option maxHeartbeats 400000 in
theorem wrong_any (s : ByteArray) (k : Nat) (i : Int) (w : World) (hi : i = k) (h : k ≤ s.size) : Calls Tryd.prog 45 #[.string s, .int .i64 i] w fun e w' => e = .returned (.agg #[.int .i64 (wrg ((bl s).drop k)), .int .i64 i]) ∧ Below w.heap.size w w' := by
  subst hi
  by_cases hk : k = s.size
  · have e : wrg ((bl s).drop k) = 4 := by
      unfold wrg
      rw [if_pos (List.drop_of_length_le (by rw [bl_len]; omega))]
    rw [e]
    subst hk
    go_enter Tryd.func45, Tryd.ntmps45
    go_wp2
    exact bodyPost_ret (v := .agg #[.int .i64 4, .int .i64 s.size]) (by simp [results, Tryd.results45, go_sem]) rfl ⟨rfl, (Below.refl _ _).alloc (Nat.le_refl _) _⟩
  · have e : wrg ((bl s).drop k) = 3 := by
      unfold wrg
      rw [if_neg]
      intro h0
      have := congrArg List.length h0
      rw [List.length_drop, bl_len] at this
      simp at this
      omega
    rw [e]
    have h1 : ((k : Int) == (s.size : Int)) = false := by simp; omega
    have h2 : ¬ (k : Int) = s.size := by omega
    go_enter Tryd.func45, Tryd.ntmps45
    go_wp2
    exact bodyPost_ret (v := .agg #[.int .i64 3, .int .i64 k]) (by simp [results, Tryd.results45, go_sem]) rfl ⟨rfl, (Below.refl _ _).alloc (Nat.le_refl _) _⟩
set_option maxHeartbeats 400000 in
theorem stands_any (s : ByteArray) (k : Nat) (i m : Int) (c : UInt8) (w : World) (hi : i = k) (hm : m = (c.toNat : Int)) : Calls Tryd.prog 46 #[.string s, .int .i64 i, .int .u8 m] w fun e w' => e = .returned (.bool (decide ((bl s)[k]? = some c))) ∧ w = w' := by
  subst hi
  subst hm
  by_cases h : k < s.size
  · have e : decide ((bl s)[k]? = some c) = ((s[k].toNat : Int) == (c.toNat : Int)) := by
      rw [List.getElem?_eq_getElem (by rw [bl_len]; exact h), bl_get s k h]
      rw [Bool.eq_iff_iff]
      simp [← UInt8.toNat_inj]
      omega
    rw [e]
    have h1 : (k : Int) < s.size := by omega
    have h0 : (0 : Int) ≤ k := by omega
    go_enter Tryd.func46, Tryd.ntmps46
    go_wp2
    go_ret
    exact ⟨rfl, rfl⟩
  · have e : decide ((bl s)[k]? = some c) = false := by
      rw [List.getElem?_eq_none (by rw [bl_len]; omega)]; rfl
    rw [e]
    have h1 : ¬ (k : Int) < s.size := by omega
    go_enter Tryd.func46, Tryd.ntmps46
    go_wp2
    go_ret
    exact ⟨rfl, rfl⟩
end Go.Proofs.YtkmknogejhhajabDoor
