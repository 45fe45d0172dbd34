/-
  BitsMoves, walked.
-/
import Derived.Test.YtppphpgippchaaaDoorHeld
import Derived.Test.YtppphpgippchaaaDoorRMove
namespace Go.Proofs.YtppphpgippchaaaDoor
open Go.RowKit
set_option maxRecDepth 100000 in
set_option maxHeartbeats 3200000 in
theorem moves_walk (p : Nat → Bool) (d : Int) (w : World) (hT : Tab w) :
    Calls Tryd.prog 6 #[nodes p, .int .i64 d] w fun e w' => e = .returned (.bool true) ∧ Below w.heap.size w w' := by
  have hT1 := hid hT
  clear hT
  go_enter Tryd.func6, Tryd.ntmps6
  go_wp2_with fail
  have z : Held w [(w.heap.size, p)] (w.alloc (objOf p)).drew := (Held.one (Blk.new w p) ((Below.refl _ _).alloc (Nat.le_refl _) _)).drew
  have heq := eq_same
  generalize w.alloc (objOf p) = w0 at *
  go_region_held3 (fun w' => w'.cell? ⟨w.heap.size, 0, none⟩ = some (.int .u64 (word p 0)) ∧ w'.cell? ⟨w.heap.size, 1, none⟩ = some (.int .u64 (word p 1)) ∧ w'.cell? ⟨w.heap.size, 2, none⟩ = some (.int .u64 (word p 2)) ∧ w'.cell? ⟨w.heap.size, 3, none⟩ = some (.int .u64 (word p 3))) (first | exact held1 z | fail)
    (first
      | (go_at_call 31; refine (move_any p d _).mono ?_; rintro e w' ⟨rfl, hx⟩; have z := Held.on z hx)
      | (go_at_call 32; refine (rmove_any p d _).mono ?_; rintro e w' ⟨rfl, hx⟩; have z := Held.on z hx)
      | (go_at_call 10; refine (alive_any _ (Held.tab z hT1.out)).mono ?_; rintro e w' ⟨rfl, hx⟩; have z := Held.on z hx))
  go_wp2
  go_ret
  exact ⟨rfl, z.2⟩
end Go.Proofs.YtppphpgippchaaaDoor
