/-
  The smallest calls.
-/
import Derived.Test.YtlcbppflpadhaaaDoorDBase
import Derived.Test.YtlcbppflpadhaaaDoorYMath
namespace Go.Proofs.YtlcbppflpadhaaaDoor
open Go.RowKit

set_option maxHeartbeats 400000 in
theorem isDigit_any (c : UInt8) (w : World) : Calls Tryd.prog 35 #[.int .u8 (c.toNat : Int)] w fun e w' => e = .returned (.bool (isDig c)) ∧ w = w' := by
  have h := isDig_iff c
  generalize isDig c = r at *
  generalize c.toNat = n at *
  by_cases h1 : (48 : Int) ≤ n <;> by_cases h2 : (n : Int) ≤ 57
  all_goals
    first
      | (have e : r = true := h.2 (by omega)
         subst e
         clear h
         go_enter Tryd.func35, Tryd.ntmps35
         go_wp2
         go_ret
         exact ⟨rfl, rfl⟩)
      | (have e : r = false := by cases r with | false => rfl | true => exact absurd (h.1 rfl) (by omega)
         subst e
         clear h
         go_enter Tryd.func35, Tryd.ntmps35
         go_wp2
         go_ret
         exact ⟨rfl, rfl⟩)
/-- A fault at a byte, or at the end: some fault there is. -/
def Wrong (i : Int) (w : World) (e : Ending) (w' : World) : Prop := ∃ y : Int, y ≠ 0 ∧ e = .returned (.agg #[.int .i64 y, .int .i64 i]) ∧ Below w.heap.size w w'
set_option maxHeartbeats 400000 in
theorem wrong_any (s : ByteArray) (i : Int) (w : World) : Calls Tryd.prog 26 #[.string s, .int .i64 i] w (Wrong i w) := by
  by_cases hk : i = (s.size : Int)
  · subst hk
    go_enter Tryd.func26, Tryd.ntmps26
    go_wp2
    exact bodyPost_ret (v := .agg #[.int .i64 4, .int .i64 s.size]) (by simp [results, Tryd.results26, go_sem]) rfl ⟨4, by decide, rfl, (Below.refl _ _).alloc (Nat.le_refl _) _⟩
  · have h1 : (i == (s.size : Int)) = false := by simpa using hk
    go_enter Tryd.func26, Tryd.ntmps26
    go_wp2
    exact bodyPost_ret (v := .agg #[.int .i64 3, .int .i64 i]) (by simp [results, Tryd.results26, go_sem]) rfl ⟨3, by decide, rfl, (Below.refl _ _).alloc (Nat.le_refl _) _⟩
set_option maxHeartbeats 400000 in
theorem stands_any (s : ByteArray) (k : Nat) (i m : Int) (c : UInt8) (w : World) (hi : i = k) (hm : m = (c.toNat : Int)) : Calls Tryd.prog 24 #[.string s, .int .i64 i, .int .u8 m] w fun e w' => e = .returned (.bool (decide ((bl s)[k]? = some c))) ∧ w = w' := by
  subst hi
  subst hm
  by_cases h : k < s.size
  · have e : decide ((bl s)[k]? = some c) = ((s[k].toNat : Int) == (c.toNat : Int)) := by
      rw [List.getElem?_eq_getElem (by rw [bl_len]; exact h), bl_get s k h]
      rw [Bool.eq_iff_iff]
      simp [← UInt8.toNat_inj]
      omega
    rw [e]
    have h1 : (k : Int) < s.size := by omega
    have h0 : (0 : Int) ≤ k := by omega
    go_enter Tryd.func24, Tryd.ntmps24
    go_wp2
    go_ret
    exact ⟨rfl, rfl⟩
  · have e : decide ((bl s)[k]? = some c) = false := by
      rw [List.getElem?_eq_none (by rw [bl_len]; omega)]; rfl
    rw [e]
    have h1 : ¬ (k : Int) < s.size := by omega
    go_enter Tryd.func24, Tryd.ntmps24
    go_wp2
    go_ret
    exact ⟨rfl, rfl⟩
/-- A block that holds just these cells. -/
def Blk (w : World) (b : Nat) (cs : List Value) (T : TypeId) : Prop := w.heap[b]? = some (.cells cs.toArray T (0, 0))
theorem fault_facts {w w' : World} {a b : Int} (hb : Below (w.alloc (.cells #[.int .i64 a, .int .i64 b] 41)).heap.size (w.alloc (.cells #[.int .i64 a, .int .i64 b] 41)) w') :
    w'.cell? ⟨w.heap.size, 0, none⟩ = some (.int .i64 a) ∧ w'.cell? ⟨w.heap.size, 1, none⟩ = some (.int .i64 b) ∧ w'.frozen? ⟨w.heap.size, 0, none⟩ = false ∧ w'.frozen? ⟨w.heap.size, 1, none⟩ = false ∧ w.heap.size < w'.heap.size := by
  have h := (hb.block w.heap.size (by rw [World.size_alloc]; omega)).trans (heap_alloc_new w _)
  exact ⟨by simp [World.cell?, h], by simp [World.cell?, h], by simp [World.frozen?, h], by simp [World.frozen?, h], lt_of_block h⟩
end Go.Proofs.YtlcbppflpadhaaaDoor
