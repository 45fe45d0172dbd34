/-
  A number's digits, filled up.
-/
import Derived.Test.YtkmknogejhhajabDoorHStr
import Derived.Test.YtkmknogejhhajabDoorSShelf
import Derived.Lib.AppendIntMem
namespace Go.Proofs.YtkmknogejhhajabDoor
open Go.RowKit

theorem frets {a b : ByteArray} (h : a = b) : Ending.returned (.string a) = .returned (.string b) := by rw [h]
/-- The library's table of powers of ten reads as the program's text lays it. -/
def Tab (w : World) : Prop := Lib.TabIs Tryd.prog w "internal/strconv.uint64pow10" .u64 Lib.pow10Tab
theorem tab_below {w w' : World} (h : Tab w) (hb : Below w.heap.size w w') : Tab w' := ((Lib.tabBelow_of_tabIs h).on hb).here
theorem below_grow (w : World) (k : Nat) (os : Array Obj) : Below w.heap.size w (Go.Sort.grow (w.drewN k) os) :=
  ⟨rfl, rfl, rfl, by show _ ≤ (w.heap ++ os).size; rw [Array.size_append]; omega, fun j hj => by
    show (w.heap ++ os)[j]? = _
    rw [Array.getElem?_append_left hj]⟩
theorem str_app (a b : List UInt8) : str a ++ str b = str (a ++ b) := by
  apply ByteArray.ext
  simp [str]
theorem repeat_nought (c : Nat) : Lib.repeatL [48] c = List.replicate c 48 := by
  induction c with
  | zero => rfl
  | succ c ih => rw [Lib.repeatL, ih]; rfl
theorem itoa_any (n : Nat) (w : World) (hT : Tab w) (hn : n ≤ 1000000000) : Calls Tryd.prog 59 #[.int .i64 n] w fun e w' => e = .returned (.string (str (dec n))) ∧ Below w.heap.size w w' := by
  refine (Tryd.strconv_Itoa n (by omega) (by omega) w hT).mono ?_
  rintro e w' ⟨rfl, k, os, rfl⟩
  refine ⟨?_, below_grow w k os⟩
  rw [Lib.itoa_nonneg]
  rfl
theorem noughts_any (c : Nat) (ci : Int) (w : World) (hci : ci = c) (hc : c ≤ 1000) : Calls Tryd.prog 60 #[.string ⟨#[48]⟩, .int .i64 ci] w fun e w' => e = .returned (.string (str (List.replicate c 48))) ∧ Below w.heap.size w w' := by
  subst hci
  have h := Tryd.strings_Repeat ⟨#[48]⟩ c w (by omega) (by show 1 * c ≤ _; omega)
  rw [show (⟨#[48]⟩ : ByteArray).data.toList = [48] from rfl, repeat_nought] at h
  exact h
set_option maxHeartbeats 400000 in
theorem digits_any (n wd : Nat) (w : World) (hT : Tab w) (hn : n ≤ 1000000000) (hw : wd ≤ 1000) : Calls Tryd.prog 48 #[.int .i64 n, .int .i64 wd] w fun e w' => e = .returned (.string (str (dig n wd))) ∧ Below w.heap.size w w' := by
  have h1 := itoa_any n w hT hn
  have h2 := fun (ci : Int) (hci : ci = ((wd - (dec n).length : Nat) : Int)) W => noughts_any (wd - (dec n).length) ci W hci (by omega)
  have hl : (dec n).length ≤ 10 := dec_len_le 10 n (by omega) (by omega)
  have hsz := str_size (dec n)
  have hd := fhid (show str (List.replicate (wd - (dec n).length) 48) ++ str (dec n) = str (dig n wd) by rw [str_app]; rfl)
  have i1 : ((dec n).length : Int) ≤ 10 := by omega
  have i2 : (wd : Int) ≤ 1000 := by omega
  have i3 : (0 : Int) ≤ wd := by omega
  have i4 : (0 : Int) ≤ (dec n).length := by omega
  clear hT hl hn hw
  have h3 := h2 (max ((wd : Int) - ((dec n).length : Nat)) 0) (by omega)
  clear h2
  have hN : ¬ 9223372036854775807 < (str (List.replicate (wd - (dec n).length) (48 : UInt8))).size + (dec n).length := by rw [str_size, List.length_replicate]; omega
  generalize str (List.replicate (wd - (dec n).length) (48 : UInt8)) = t2 at *
  generalize str (dig n wd) = t at *
  go_enter Tryd.func48, Tryd.ntmps48
  go_wp2_with (first
    | (go_at_call 59; (with_reducible refine h1.mono ?_); rintro e w1 ⟨rfl, b1⟩)
    | (go_at_call 60; (with_reducible refine (h3 _).mono ?_); rintro e w2 ⟨rfl, b2⟩))
  go_ret
  exact ⟨frets hd.out, b1.trans (b2.mono b1.size)⟩
end Go.Proofs.YtkmknogejhhajabDoor
