/-
  The end asked for.
-/
import Derived.Test.YtbclmgakifmgfaaCNodes
namespace Go.Proofs.Ytbclmgakifmgfaa
open Go.RowKit

/-- What End comes to: the fault. -/
def endStep (l : List UInt8) (at_ : Nat) (why fat : Int) : Int × Int := if why = 0 ∧ at_ < l.length then (3, at_) else (why, fat)
def EndPost (w : World) (p : Nat) (l : List UInt8) (at_ : Nat) (s : Int × Int) (e : Ending) (w' : World) : Prop := e = .returned (.agg #[.int .i64 s.1, .int .i64 s.2]) ∧ Rdr w' p l at_ s.1 s.2 ∧ Turns w w' p
theorem rd_drew {w : World} {p : Nat} {v : Value} {at_ why fat : Int} (h : Rd w p v at_ why fat) (q : Nat) : Rd (w.drewN q) p v at_ why fat := h
theorem fault_of {p : Nat} {l : List UInt8} {at_ : Nat} {why fat : Int} {w : World} (h : Rdr w p l at_ why fat) :
    Calls Try.prog 23 #[.pointer (some ⟨p, 0, none⟩)] w fun e w' => e = .returned (.agg #[.int .i64 why, .int .i64 fat]) ∧ Below w.heap.size w w' := by
  obtain ⟨A, cap, h1, _⟩ := h
  exact Fault_any p _ _ why fat w h1
theorem fault_new (w : World) : (w.alloc (.cells #[.int .i64 0, .int .i64 0] 47)).heap[w.heap.size]? = some (.cells #[.int .i64 0, .int .i64 0] 47 (0, 0)) := heap_alloc_new w _
theorem two_facts {w : World} {B : Nat} {a b : Int} (h : w.heap[B]? = some (.cells #[.int .i64 a, .int .i64 b] 47 (0, 0))) :
    w.cell? ⟨B, 0, none⟩ = some (.int .i64 a) ∧ w.cell? ⟨B, 1, none⟩ = some (.int .i64 b) ∧ w.frozen? ⟨B, 0, none⟩ = false ∧ w.frozen? ⟨B, 1, none⟩ = false := by
  exact ⟨by simp [World.cell?, h], by simp [World.cell?, h], by simp [World.frozen?, h], by simp [World.frozen?, h]⟩
set_option maxRecDepth 100000 in
set_option maxHeartbeats 400000 in
/-- The way on which the fault that is there is answered. -/
theorem end_stop (a : Option Addr) (why fat : Int) (w : World) (st : ∀ w', Below w.heap.size w w' → Calls Try.prog 28 #[.pointer a] w' fun e w'' => e = .returned (.bool true) ∧ Below w'.heap.size w' w'')
    (ft : ∀ w', Below w.heap.size w w' → Calls Try.prog 23 #[.pointer a] w' fun e w'' => e = .returned (.agg #[.int .i64 why, .int .i64 fat]) ∧ Below w'.heap.size w' w'') :
    Calls Try.prog 21 #[.pointer a] w fun e w' => e = .returned (.agg #[.int .i64 why, .int .i64 fat]) ∧ Below w.heap.size w w' := by
  have y0 : Below w.heap.size w (w.alloc (.cells #[.int .i64 0, .int .i64 0] 47)) := (Below.refl _ _).alloc (Nat.le_refl _) _
  go_enter Try.func21, Try.ntmps21
  go_wp2_with (first
    | (go_at_call 28; (with_reducible refine (st _ y0).mono ?_); rintro e w1 ⟨rfl, b1⟩
       have z1 := (b1.block w.heap.size (by rw [World.size_alloc]; omega)).trans (fault_new w)
       have y1 := y0.trans (b1.mono y0.size)
       replace z1 := fhid z1)
    | (go_at_call 23; (with_reducible refine (ft w1 y1).mono ?_); rintro e w2 ⟨rfl, b2⟩
       have z2 := (b2.block w.heap.size (lt_of_block z1.out)).trans z1.out
       have y2 := y1.trans (b2.mono y1.size)
       obtain ⟨c0, c1, f0, f1⟩ := two_facts z2
       clear z2))
  exact bodyPost_ret (v := .agg #[.int .i64 why, .int .i64 fat]) (by simp [results, Try.results21, go_sem, c0, c1]) rfl ⟨rfl, (y2.setCell (p := ⟨w.heap.size, 0, none⟩) (Nat.le_refl _) _).setCell (p := ⟨w.heap.size, 1, none⟩) (Nat.le_refl _) _⟩
theorem End_nil (w : World) : Calls Try.prog 21 #[.pointer none] w fun e w' => e = .returned (.agg #[.int .i64 4, .int .i64 0]) ∧ Below w.heap.size w w' :=
  end_stop none 4 0 w (fun w' _ => stop_nil w') (fun w' _ => Fault_nil w')
set_option maxRecDepth 100000 in
set_option maxHeartbeats 1000000 in
theorem end_go (p : Nat) (l : List UInt8) (at_ : Nat) (fat : Int) (w : World) (h : Rdr w p l at_ 0 fat) :
    Calls Try.prog 21 #[.pointer (some ⟨p, 0, none⟩)] w (EndPost w p l at_ (endStep l at_ 0 fat)) := by
  have y0 : Below w.heap.size w (w.alloc (.cells #[.int .i64 0, .int .i64 0] 47)) := (Below.refl _ _).alloc (Nat.le_refl _) _
  have hpw := h.lt
  obtain ⟨A, cap, g1, g2, g3, g4, g5, g6⟩ := id h
  have h0 := fhid h
  have g1 := fhid g1
  have g2 := fhid g2
  have m1 : ¬ w.heap.size = p := by omega
  have m2 : p ≠ w.heap.size := by omega
  clear h
  by_cases hlt : at_ < l.length
  · have hes := fhid (show endStep l at_ 0 fat = (3, (at_ : Int)) from if_pos ⟨rfl, hlt⟩)
    have hI : ((l.length - at_ : Nat) : Int) > 0 := by omega
    go_enter Try.func21, Try.ntmps21
    go_wp2_with (first
      | (go_at_call 28; (with_reducible refine (stop_no (h0.out.below y0)).mono ?_); rintro e w1 ⟨rfl, b1⟩
         have z1 := (b1.block w.heap.size (by rw [World.size_alloc]; omega)).trans (fault_new w)
         have y1 := y0.trans (b1.mono y0.size)
         replace z1 := fhid z1)
      | (go_at_call 22; (with_reducible refine (left_of (h0.out.below y1)).mono ?_); rintro e w2 ⟨rfl, q, rfl⟩
         have R := g1.out.below y1
         obtain ⟨d0, d1, d2, d3, hq⟩ := R.facts
         have f2 := R.f2
         have f3 := R.f3
         have R := fhid R)
      | (go_at_call 23
         have R2 := ((rd_drew R.out q).set2 3).set3 (at_ : Int)
         (with_reducible refine (Fault_any p _ _ 3 (at_ : Int) _ R2).mono ?_); rintro e w2 ⟨rfl, b2⟩
         have R3 := R2.below b2
         have z2 := (b2.block w.heap.size (by have := y1.size; have := lt_of_block z1.out; simp only [World.setCell, Array.size_modify]; exact this)).trans ((Below.heap_setCell _ ⟨p, 3, none⟩ _ _ m1).trans ((Below.heap_setCell _ ⟨p, 2, none⟩ _ _ m1).trans z1.out))
         have t2 := ((turns_drew (Turns.ofBelow y1 p) q).set 2 (.int .i64 3)).set 3 (.int .i64 (at_ : Int))
         have b2' : Turns _ w2 p := Turns.ofBelow b2 p
         have t3 : Turns w w2 p := t2.trans b2'
         obtain ⟨k0, k1, k2, k3⟩ := two_facts z2
         replace t2 := fhid t2
         replace R2 := fhid R2
         replace R3 := fhid R3
         clear z2))
    have T := (t3.setNew (Nat.le_refl _) 0 (.int .i64 3)).setNew (Nat.le_refl _) 1 (.int .i64 (at_ : Int))
    exact bodyPost_ret (v := .agg #[.int .i64 3, .int .i64 (at_ : Int)]) (by simp [results, Try.results21, go_sem, k0, k1]) rfl
      ⟨by rw [hes.out], by rw [hes.out]; exact Rdr.mk' ((R3.out.setOther m2 0 _).setOther m2 1 _) g2.out g3 g4 g5 g6 T, T⟩
  · have hes := fhid (show endStep l at_ 0 fat = (0, fat) from if_neg fun h => hlt h.2)
    have hI : ¬ ((l.length - at_ : Nat) : Int) > 0 := by omega
    go_enter Try.func21, Try.ntmps21
    go_wp2_with (first
      | (go_at_call 28; (with_reducible refine (stop_no (h0.out.below y0)).mono ?_); rintro e w1 ⟨rfl, b1⟩
         have z1 := (b1.block w.heap.size (by rw [World.size_alloc]; omega)).trans (fault_new w)
         have y1 := y0.trans (b1.mono y0.size)
         replace z1 := fhid z1)
      | (go_at_call 22; (with_reducible refine (left_of (h0.out.below y1)).mono ?_); rintro e w2 ⟨rfl, q, rfl⟩)
      | (go_at_call 23
         (with_reducible refine (fault_of (rdr_drew (h0.out.below y1) q)).mono ?_); rintro e w2 ⟨rfl, b2⟩
         have z2 := (b2.block w.heap.size (lt_of_block z1.out)).trans z1.out
         have y2 := (below_drewN y1 q).trans (b2.mono y1.size)
         obtain ⟨k0, k1, k2, k3⟩ := two_facts z2
         clear z2))
    have T := ((Turns.ofBelow y2 p).setNew (Nat.le_refl _) 0 (.int .i64 0)).setNew (Nat.le_refl _) 1 (.int .i64 fat)
    exact bodyPost_ret (v := .agg #[.int .i64 0, .int .i64 fat]) (by simp [results, Try.results21, go_sem, k0, k1]) rfl
      ⟨by rw [hes.out], by rw [hes.out]; exact Rdr.mk' (((g1.out.below y2).setOther m2 0 _).setOther m2 1 _) g2.out g3 g4 g5 g6 T, T⟩
theorem end_any (p : Nat) (l : List UInt8) (at_ : Nat) (why fat : Int) (w : World) (h : Rdr w p l at_ why fat) :
    Calls Try.prog 21 #[.pointer (some ⟨p, 0, none⟩)] w (EndPost w p l at_ (endStep l at_ why fat)) := by
  by_cases hw : why = 0
  · subst hw
    exact end_go p l at_ fat w h
  · have e : endStep l at_ why fat = (why, fat) := if_neg fun h => hw h.1
    rw [e]
    refine (end_stop _ why fat w (fun w' hb => stop_yes (h.below hb) hw) (fun w' hb => fault_of (h.below hb))).mono ?_
    rintro e w' ⟨rfl, hb⟩
    exact ⟨rfl, h.below hb, Turns.ofBelow hb p⟩
end Go.Proofs.Ytbclmgakifmgfaa
