/-
  The document's reader: its block, the next byte, the first fault, digits.
-/
import Derived.Test.YtkmknogejhhajabDoorHDig
import Derived.BigQuiet
import Derived.Deep.QuietTactic
namespace Go.Proofs.YtkmknogejhhajabDoor
open Go.RowKit

theorem blk_set {w : World} {b : Nat} {cs : Array Value} {t : TypeId} (i : Nat) (u : Value) (h : w.heap[b]? = some (.cells cs t (0, 0))) : (w.setCell ⟨b, i, none⟩ u).heap[b]? = some (.cells (cs.setIfInBounds i u) t (0, 0)) := by
  have hlt := lt_of_block h
  have h' : w.heap[b] = .cells cs t (0, 0) := by simpa [Array.getElem?_eq_getElem hlt] using h
  show (w.heap.modify b _)[b]? = _
  rw [Array.getElem?_eq_getElem (by simpa using hlt), Array.getElem_modify_self, h']
  rfl
section
variable {w w' : World} {b : Nat} {s : ByteArray} {a y f : Int}
end
/-- Nothing but this block has changed, and none is new. -/
structure Chg (b : Nat) (w w' : World) : Prop where
  below : Below b w w'
  size : w'.heap.size = w.heap.size
  other : ∀ j, j ≠ b → w'.heap[j]? = w.heap[j]?
section
variable {w w' w'' : World} {b : Nat}
theorem Chg.refl (b : Nat) (w : World) : Chg b w w := ⟨Below.refl _ _, rfl, fun _ _ => rfl⟩
theorem Chg.trans (h : Chg b w w') (h' : Chg b w' w'') : Chg b w w'' := ⟨h.below.trans h'.below, h'.size.trans h.size, fun j hj => (h'.other j hj).trans (h.other j hj)⟩
theorem Chg.drew (h : Chg b w w') (n : Nat) : Chg b w (w'.drewN n) := ⟨below_drewN h.below n, h.size, h.other⟩
theorem Chg.set (h : Chg b w w') (i : Nat) (u : Value) : Chg b w (w'.setCell ⟨b, i, none⟩ u) := ⟨h.below.setCell (p := ⟨b, i, none⟩) (Nat.le_refl _) u, by rw [← h.size]; exact Array.size_modify, fun j hj => (Below.heap_setCell _ _ _ _ hj).trans (h.other j hj)⟩
end
/-- The byte that the reader is at; nought where there is none. -/
def pk (s : ByteArray) (a : Nat) (y : Int) : UInt8 := if h : a < s.size ∧ y = 0 then s[a]'h.1 else 0
set_option maxHeartbeats 400000 in
theorem rdigit_any (c : UInt8) (w : World) : Calls Tryd.prog 14 #[.int .u8 (c.toNat : Int)] w fun e w' => e = .returned (.bool (isDig c)) ∧ w = w' := by
  have h := isDig_iff c
  generalize isDig c = r at *
  generalize c.toNat = n at *
  by_cases h1 : (48 : Int) ≤ n
  · by_cases h2 : (n : Int) ≤ 57
    · have e : r = true := h.2 (by omega)
      subst e
      clear h
      go_enter Tryd.func14, Tryd.ntmps14
      go_wp2
      go_ret
      exact ⟨rfl, rfl⟩
    · have e : r = false := by cases r with | false => rfl | true => exact absurd (h.1 rfl) (by omega)
      subst e
      clear h
      go_enter Tryd.func14, Tryd.ntmps14
      go_wp2
      go_ret
      exact ⟨rfl, rfl⟩
  · have e : r = false := by cases r with | false => rfl | true => exact absurd (h.1 rfl) (by omega)
    subst e
    clear h
    go_enter Tryd.func14, Tryd.ntmps14
    go_wp2
    go_ret
    exact ⟨rfl, rfl⟩
theorem dval_app_le (l : List UInt8) (h : l.all isDig = true) (h6 : l.length ≤ 6) : dval l < 1000000 := by
  have := dval_lt l.length l rfl h
  have : (10 : Nat) ^ l.length ≤ 10 ^ 6 := Nat.pow_le_pow_right (by decide) h6
  omega
set_option maxRecDepth 100000 in
set_option maxHeartbeats 1000000 in
theorem value_any (t : List UInt8) (w : World) (h : t.all isDig = true) (h6 : t.length ≤ 6) : Calls Tryd.prog 15 #[.string (str t)] w fun e w' => e = .returned (.int .i64 (dval t : Nat)) ∧ w = w' := by
  obtain ⟨S, hS⟩ : ∃ S, str t = S := ⟨_, rfl⟩
  rw [hS]
  have hz : S.size = t.length := by rw [← hS, str_size]
  have hg : ∀ j (h : j < t.length) (h' : j < S.size), S[j] = t[j] := fun j h h' => by
    subst hS
    have := bl_get (str t) j h' (by rw [bl_str]; exact h)
    rw [← this]
    congr 1
  have h6I : (t.length : Int) ≤ 6 := by omega
  replace h := fhid h
  replace hg := fhid hg
  clear hS
  go_enter Tryd.func15, Tryd.ntmps15
  go_wp2_with fail
  go_loop [3, 4] (fun n i => ∃ j : Nat, j ≤ t.length ∧ i = .int .i64 j ∧ n = .int .i64 ((dval (t.take j) : Nat) : Int)) (fun _ i => t.length - (intOf i).toNat)
  case atStart => exact ⟨0, by omega, rfl, rfl⟩
  case round =>
    obtain ⟨j, hj, rfl, rfl⟩ := hrel
    have j0 : (0 : Int) ≤ j := by omega
    have hn := dval_app_le (t.take j) (by
      have := h.out
      rw [List.all_eq_true] at this ⊢
      exact fun x hx => this x (List.mem_of_mem_take hx)) (by rw [List.length_take]; omega)
    have n0 : (0 : Int) ≤ (dval (t.take j) : Nat) := by omega
    have n1 : ((dval (t.take j) : Nat) : Int) < 1000000 := by omega
    by_cases hlt : j < t.length
    · have i1 : (j : Int) < t.length := by omega
      have g := hg.out j hlt (by omega)
      have hd : isDig t[j] = true := List.all_eq_true.1 h.out _ (List.getElem_mem hlt)
      have hs := fhid (dval_take_succ t j hlt)
      have hdI := (isDig_iff _).1 hd
      have c0 : (48 : Int) ≤ (t[j].toNat : Int) := by omega
      have c1 : (t[j].toNat : Int) ≤ 57 := by omega
      have hv := fhid (show (dv t[j] : Int) = (t[j].toNat : Int) - 48 by unfold dv; omega)
      generalize t[j] = c at *
      generalize dval (t.take j) = D at *
      clear hn hd hdI
      go_wp2_with fail
      go_round
      case rel =>
        refine ⟨j + 1, by omega, by go_num, ?_⟩
        rw [hs.out]
        have := hv.out
        congr 1
        omega
      case measure => simp [intOf]; omega
    · have i1 : ¬ (j : Int) < t.length := by omega
      have e := fhid (show t.take j = t by rw [show j = t.length by omega, List.take_length])
      go_wp2_with fail
      go_ret
      exact ⟨by rw [e.out]; rfl, rfl⟩
end Go.Proofs.YtkmknogejhhajabDoor
