/-
  The small calls: whether a vector may be, how one stands to another.
-/
import Derived.Test.YtfnkbijlinionabDoorVBase
import Derived.Test.YtfnkbijlinionabDoorSShelf
import Derived.BigRegion
import Derived.BigQuiet
import Derived.Deep.QuietTactic
import Derived.Deep.DeepCutAuto
namespace Go.Proofs.YtfnkbijlinionabDoor
open Go.RowKit

theorem cell_grew {w w' : World} (h : Grew w w') {p : Addr} (hp : p.block < w.heap.size) : w'.cell? p = w.cell? p := h.below.cell hp
set_option maxRecDepth 100000 in
set_option maxHeartbeats 1000000 in
theorem Right_any (a b c : Int) (w : World) : Calls Tryd.prog 5 #[vec a b c] w (BP w (right a b c)) := by
  have h1 := fun W => Fits_any 0 0 0 a b c W
  have h2 := fun W => Fits_any a b c 1073741824 1073741824 1073741824 W
  have e := fhid (show right a b c = (decide (0 ≤ a ∧ 0 ≤ b ∧ 0 ≤ c) && decide (a ≤ 1073741824 ∧ b ≤ 1073741824 ∧ c ≤ 1073741824)) from rfl)
  generalize decide (0 ≤ a ∧ 0 ≤ b ∧ 0 ≤ c) = q1 at *
  generalize decide (a ≤ 1073741824 ∧ b ≤ 1073741824 ∧ c ≤ 1073741824) = q2 at *
  cases q1 with
  | false =>
    go_enter Tryd.func5, Tryd.ntmps5
    go_wp2_with (first
      | (go_at_call 8; (with_reducible refine (h1 _).mono ?_); rintro e w1 ⟨rfl, g1⟩))
    go_ret
    exact BP.mk' (by rw [e.out]; rfl) (((Grew.refl w).alloc _).trans g1)
  | true =>
    go_enter Tryd.func5, Tryd.ntmps5
    go_wp2_with (go_at_call 8; (with_reducible refine (h1 _).mono ?_); rintro e w1 ⟨rfl, g1⟩
                 have hbk := (g1.below.block w.heap.size (by simp)).trans (heap_alloc_new w (.cells #[.int .i64 a, .int .i64 b, .int .i64 c] 23))
                 have c0 : w1.cell? ⟨w.heap.size, 0, none⟩ = some (.int .i64 a) := by simp [World.cell?, hbk]
                 have c1 : w1.cell? ⟨w.heap.size, 1, none⟩ = some (.int .i64 b) := by simp [World.cell?, hbk]
                 have c2 : w1.cell? ⟨w.heap.size, 2, none⟩ = some (.int .i64 c) := by simp [World.cell?, hbk]
                 go_wp2_with (go_at_call 8; (with_reducible refine (h2 _).mono ?_); rintro e w2 ⟨rfl, g2⟩))
    go_ret
    exact BP.mk' (by rw [e.out]; cases q2 <;> rfl) ((((Grew.refl w).alloc _).trans g1).trans g2)
def orI : List Int → Int
  | [] => 0
  | x :: r => if x = 0 then orI r else x
theorem orI_drop (l : List Int) (k : Nat) (h : k < l.length) : orI (l.drop k) = if l[k] = 0 then orI (l.drop (k + 1)) else l[k] := by
  rw [List.drop_eq_getElem_cons h]; rfl
end Go.Proofs.YtfnkbijlinionabDoor
