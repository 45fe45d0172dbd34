/-
  The document's reader: its block, the next byte, the first fault, digits.
-/
import Derived.Test.YtmaoplplaobbbaaDoorHDig
import Derived.BigQuiet
import Derived.Deep.QuietTactic
namespace Go.Proofs.YtmaoplplaobbbaaDoor
open Go.RowKit

theorem blk_set {w : World} {b : Nat} {cs : Array Value} {t : TypeId} (i : Nat) (u : Value) (h : w.heap[b]? = some (.cells cs t (0, 0))) : (w.setCell ⟨b, i, none⟩ u).heap[b]? = some (.cells (cs.setIfInBounds i u) t (0, 0)) := by
  have hlt := lt_of_block h
  have h' : w.heap[b] = .cells cs t (0, 0) := by simpa [Array.getElem?_eq_getElem hlt] using h
  show (w.heap.modify b _)[b]? = _
  rw [Array.getElem?_eq_getElem (by simpa using hlt), Array.getElem_modify_self, h']
  rfl
/-- The reader's block. -/
def RB (w : World) (b : Nat) (s : ByteArray) (a y f : Int) : Prop := w.heap[b]? = some (.cells #[.string s, .int .i64 a, .int .i64 y, .int .i64 f] 49 (0, 0))
section
variable {w w' : World} {b : Nat} {s : ByteArray} {a y f : Int}
theorem RB.facts (h : RB w b s a y f) : w.cell? ⟨b, 0, none⟩ = some (.string s) ∧ w.cell? ⟨b, 1, none⟩ = some (.int .i64 a) ∧ w.cell? ⟨b, 2, none⟩ = some (.int .i64 y) ∧ w.cell? ⟨b, 3, none⟩ = some (.int .i64 f) ∧
    w.frozen? ⟨b, 1, none⟩ = false ∧ w.frozen? ⟨b, 2, none⟩ = false ∧ w.frozen? ⟨b, 3, none⟩ = false ∧ b < w.heap.size := by
  unfold RB at h
  exact ⟨by simp [World.cell?, h], by simp [World.cell?, h], by simp [World.cell?, h], by simp [World.cell?, h], by simp [World.frozen?, h], by simp [World.frozen?, h], by simp [World.frozen?, h], lt_of_block h⟩
theorem RB.below {B : Nat} (h : RB w b s a y f) (hb : Below B w w') (hB : b < B) : RB w' b s a y f := (hb.block b hB).trans h
theorem RB.set1 (h : RB w b s a y f) (a' : Int) : RB (w.setCell ⟨b, 1, none⟩ (.int .i64 a')) b s a' y f := blk_set 1 _ h
theorem RB.set2 (h : RB w b s a y f) (y' : Int) : RB (w.setCell ⟨b, 2, none⟩ (.int .i64 y')) b s a y' f := blk_set 2 _ h
theorem RB.set3 (h : RB w b s a y f) (f' : Int) : RB (w.setCell ⟨b, 3, none⟩ (.int .i64 f')) b s a y f' := blk_set 3 _ h
theorem RB.drew (h : RB w b s a y f) (n : Nat) : RB (w.drewN n) b s a y f := h
end
/-- Nothing but this block has changed, and none is new. -/
structure Chg (b : Nat) (w w' : World) : Prop where
  below : Below b w w'
  size : w'.heap.size = w.heap.size
  other : ∀ j, j ≠ b → w'.heap[j]? = w.heap[j]?
section
variable {w w' w'' : World} {b : Nat}
theorem Chg.refl (b : Nat) (w : World) : Chg b w w := ⟨Below.refl _ _, rfl, fun _ _ => rfl⟩
theorem Chg.trans (h : Chg b w w') (h' : Chg b w' w'') : Chg b w w'' := ⟨h.below.trans h'.below, h'.size.trans h.size, fun j hj => (h'.other j hj).trans (h.other j hj)⟩
theorem Chg.drew (h : Chg b w w') (n : Nat) : Chg b w (w'.drewN n) := ⟨below_drewN h.below n, h.size, h.other⟩
theorem Chg.set (h : Chg b w w') (i : Nat) (u : Value) : Chg b w (w'.setCell ⟨b, i, none⟩ u) := ⟨h.below.setCell (p := ⟨b, i, none⟩) (Nat.le_refl _) u, by rw [← h.size]; exact Array.size_modify, fun j hj => (Below.heap_setCell _ _ _ _ hj).trans (h.other j hj)⟩
end
/-- The byte that the reader is at; nought where there is none. -/
def pk (s : ByteArray) (a : Nat) (y : Int) : UInt8 := if h : a < s.size ∧ y = 0 then s[a]'h.1 else 0
set_option maxRecDepth 100000 in
set_option maxHeartbeats 1000000 in
theorem peek_any (b : Nat) (s : ByteArray) (a : Nat) (y f : Int) (w : World) (hs : s.size ≤ 140737488355328) (h : RB w b s a y f) : Calls Tryd.prog 28 #[.pointer (some ⟨b, 0, none⟩)] w
    fun e w' => e = .returned (.int .u8 ((pk s a y).toNat : Int)) ∧ ∃ n, w' = w.drewN n := by
  obtain ⟨c0, c1, c2, c3, _, _, _, _⟩ := h.facts
  clear h
  have a0 : (0 : Int) ≤ a := by omega
  by_cases h1 : a < s.size
  · have i1 : (a : Int) < s.size := by omega
    have i3 : ¬ s.size ≤ a := by omega
    have i2 : ¬ (s.size : Int) ≤ a := by omega
    by_cases h2 : y = 0
    · have e := fhid (show pk s a y = s[a] by unfold pk; rw [dif_pos ⟨h1, h2⟩])
      subst h2
      go_enter Tryd.func28, Tryd.ntmps28
      go_wp2_with fail
      go_quiet (fail)
      go_wp2_with fail
      go_quiet (fail)
      go_wp2_with fail
      go_ret
      exact ⟨by rw [e.out]; rfl, _, by rw [World.drewN_drewN]⟩
    · have e := fhid (show pk s a y = 0 by unfold pk; rw [dif_neg (fun h => h2 h.2)])
      go_enter Tryd.func28, Tryd.ntmps28
      go_wp2_with fail
      go_quiet (fail)
      go_wp2_with fail
      go_ret
      exact ⟨by rw [e.out]; rfl, _, rfl⟩
  · have i2 : (s.size : Int) ≤ a := by omega
    have i3 : s.size ≤ a := by omega
    have e := fhid (show pk s a y = 0 by unfold pk; rw [dif_neg (fun h => h1 h.1)])
    clear h1
    go_enter Tryd.func28, Tryd.ntmps28
    go_wp2_with fail
    go_quiet (fail)
    go_wp2_with fail
    go_ret
    exact ⟨by rw [e.out]; rfl, _, rfl⟩
/-- The same, as its callers ask for it. -/
theorem peek_chg (b : Nat) (s : ByteArray) (a : Nat) (y f : Int) (ai : Int) (w : World) (hai : ai = a) (hs : s.size ≤ 140737488355328) (h : RB w b s ai y f) : Calls Tryd.prog 28 #[.pointer (some ⟨b, 0, none⟩)] w
    fun e w' => e = .returned (.int .u8 ((pk s a y).toNat : Int)) ∧ RB w' b s ai y f ∧ Chg b w w' := by
  subst hai
  refine (peek_any b s a y f w hs h).mono ?_
  rintro e w' ⟨rfl, n, rfl⟩
  exact ⟨rfl, h, (Chg.refl _ _).drew n⟩
/-- The reader has a fault, and is where it was. -/
def Faulty (w : World) (b : Nat) (s : ByteArray) (a : Int) (e : Ending) (w' : World) : Prop := e = .returned (.tuple #[]) ∧ ∃ y' f', y' ≠ 0 ∧ RB w' b s a y' f' ∧ Chg b w w'
set_option maxRecDepth 100000 in
set_option maxHeartbeats 1000000 in
theorem fault_set (b : Nat) (s : ByteArray) (a y f at_ : Int) (w : World) (h : RB w b s a y f) : Calls Tryd.prog 29 #[.pointer (some ⟨b, 0, none⟩), .int .i64 at_] w
    (Faulty w b s a) := by
  obtain ⟨c0, c1, c2, c3, z1, z2, z3, hz⟩ := h.facts
  by_cases h2 : y = 0
  · subst h2
    by_cases h1 : (s.size : Int) ≤ at_
    · go_enter Tryd.func29, Tryd.ntmps29
      go_wp2_with fail
      exact bodyPost_end (v := .tuple #[]) (by simp [results, Tryd.results29, go_sem]) rfl ⟨rfl, 4, at_, by decide, (h.set2 4).set3 at_, ((Chg.refl _ _).set 2 _).set 3 _⟩
    · go_enter Tryd.func29, Tryd.ntmps29
      go_wp2_with fail
      exact bodyPost_end (v := .tuple #[]) (by simp [results, Tryd.results29, go_sem]) rfl ⟨rfl, 3, at_, by decide, (h.set2 3).set3 at_, ((Chg.refl _ _).set 2 _).set 3 _⟩
  · go_enter Tryd.func29, Tryd.ntmps29
    go_wp2_with fail
    exact bodyPost_end (v := .tuple #[]) (by simp [results, Tryd.results29, go_sem]) rfl ⟨rfl, y, f, h2, h, Chg.refl _ _⟩
set_option maxHeartbeats 400000 in
theorem rdigit_any (c : UInt8) (w : World) : Calls Tryd.prog 21 #[.int .u8 (c.toNat : Int)] w fun e w' => e = .returned (.bool (isDig c)) ∧ w = w' := by
  have h := isDig_iff c
  generalize isDig c = r at *
  generalize c.toNat = n at *
  by_cases h1 : (48 : Int) ≤ n
  · by_cases h2 : (n : Int) ≤ 57
    · have e : r = true := h.2 (by omega)
      subst e
      clear h
      go_enter Tryd.func21, Tryd.ntmps21
      go_wp2
      go_ret
      exact ⟨rfl, rfl⟩
    · have e : r = false := by cases r with | false => rfl | true => exact absurd (h.1 rfl) (by omega)
      subst e
      clear h
      go_enter Tryd.func21, Tryd.ntmps21
      go_wp2
      go_ret
      exact ⟨rfl, rfl⟩
  · have e : r = false := by cases r with | false => rfl | true => exact absurd (h.1 rfl) (by omega)
    subst e
    clear h
    go_enter Tryd.func21, Tryd.ntmps21
    go_wp2
    go_ret
    exact ⟨rfl, rfl⟩
set_option maxHeartbeats 1000000 in
theorem rbare_any (c : UInt8) (w : World) : Calls Tryd.prog 27 #[.int .u8 (c.toNat : Int)] w fun e w' => e = .returned (.bool (isBare c)) ∧ w = w' := by
  have h := isBare_iff c
  have hd := rdigit_any c w
  generalize isDig c = r at *
  generalize isBare c = q at *
  generalize c.toNat = n at *
  replace h := fhid h
  cases r with
  | true =>
    go_enter Tryd.func27, Tryd.ntmps27
    go_wp2_with (go_at_call 21; (with_reducible refine hd.mono ?_); rintro e w1 ⟨rfl, rfl⟩)
    go_ret
    exact ⟨fretb (by rw [h.out]; rfl), rfl⟩
  | false =>
    go_enter Tryd.func27, Tryd.ntmps27
    go_wp2_with (go_at_call 21; (with_reducible refine hd.mono ?_); rintro e w1 ⟨rfl, rfl⟩)
    all_goals
      go_ret
      refine ⟨fretb ?_, rfl⟩
      rw [h.out, Bool.eq_iff_iff]
      simp
      try omega
theorem dval_app_le (l : List UInt8) (h : l.all isDig = true) (h6 : l.length ≤ 6) : dval l < 1000000 := by
  have := dval_lt l.length l rfl h
  have : (10 : Nat) ^ l.length ≤ 10 ^ 6 := Nat.pow_le_pow_right (by decide) h6
  omega
set_option maxRecDepth 100000 in
set_option maxHeartbeats 1000000 in
theorem value_any (t : List UInt8) (w : World) (h : t.all isDig = true) (h6 : t.length ≤ 6) : Calls Tryd.prog 22 #[.string (str t)] w fun e w' => e = .returned (.int .i64 (dval t : Nat)) ∧ w = w' := by
  obtain ⟨S, hS⟩ : ∃ S, str t = S := ⟨_, rfl⟩
  rw [hS]
  have hz : S.size = t.length := by rw [← hS, str_size]
  have hg : ∀ j (h : j < t.length) (h' : j < S.size), S[j] = t[j] := fun j h h' => by
    subst hS
    have := bl_get (str t) j h' (by rw [bl_str]; exact h)
    rw [← this]
    congr 1
  have h6I : (t.length : Int) ≤ 6 := by omega
  replace h := fhid h
  replace hg := fhid hg
  clear hS
  go_enter Tryd.func22, Tryd.ntmps22
  go_wp2_with fail
  go_loop [3, 4] (fun n i => ∃ j : Nat, j ≤ t.length ∧ i = .int .i64 j ∧ n = .int .i64 ((dval (t.take j) : Nat) : Int)) (fun _ i => t.length - (intOf i).toNat)
  case atStart => exact ⟨0, by omega, rfl, rfl⟩
  case round =>
    obtain ⟨j, hj, rfl, rfl⟩ := hrel
    have j0 : (0 : Int) ≤ j := by omega
    have hn := dval_app_le (t.take j) (by
      have := h.out
      rw [List.all_eq_true] at this ⊢
      exact fun x hx => this x (List.mem_of_mem_take hx)) (by rw [List.length_take]; omega)
    have n0 : (0 : Int) ≤ (dval (t.take j) : Nat) := by omega
    have n1 : ((dval (t.take j) : Nat) : Int) < 1000000 := by omega
    by_cases hlt : j < t.length
    · have i1 : (j : Int) < t.length := by omega
      have g := hg.out j hlt (by omega)
      have hd : isDig t[j] = true := List.all_eq_true.1 h.out _ (List.getElem_mem hlt)
      have hs := fhid (dval_take_succ t j hlt)
      have hdI := (isDig_iff _).1 hd
      have c0 : (48 : Int) ≤ (t[j].toNat : Int) := by omega
      have c1 : (t[j].toNat : Int) ≤ 57 := by omega
      have hv := fhid (show (dv t[j] : Int) = (t[j].toNat : Int) - 48 by unfold dv; omega)
      generalize t[j] = c at *
      generalize dval (t.take j) = D at *
      clear hn hd hdI
      go_wp2_with fail
      go_round
      case rel =>
        refine ⟨j + 1, by omega, by go_num, ?_⟩
        rw [hs.out]
        have := hv.out
        congr 1
        omega
      case measure => simp [intOf]; omega
    · have i1 : ¬ (j : Int) < t.length := by omega
      have e := fhid (show t.take j = t by rw [show j = t.length by omega, List.take_length])
      go_wp2_with fail
      go_ret
      exact ⟨by rw [e.out]; rfl, rfl⟩
end Go.Proofs.YtmaoplplaobbbaaDoor
