/-
  BitsTwo, walked.
-/
import Derived.Test.YtppphpgippchaaaDoorROr
import Derived.Test.YtppphpgippchaaaDoorRNot
namespace Go.Proofs.YtppphpgippchaaaDoor
open Go.RowKit
set_option maxRecDepth 100000 in
set_option maxHeartbeats 3200000 in
theorem two_walk (p q : Nat → Bool) (w : World) (hT : Tab w) :
    Calls Tryd.prog 4 #[nodes p, nodes q] w fun e w' => e = .returned (.bool true) ∧ Below w.heap.size w w' := by
  have hT1 := hid hT
  clear hT
  have s1 := (Blk.new w p).old (objOf q)
  have s2 := Blk.new (w.alloc (objOf p)) q
  rw [World.size_alloc] at s2
  have hB : Below w.heap.size w ((w.alloc (objOf p)).alloc (objOf q)) := (((Below.refl _ _).alloc (Nat.le_refl _) _).alloc (by simp) _)
  have z : Held w [(w.heap.size, p), (w.heap.size + 1, q)] ((w.alloc (objOf p)).alloc (objOf q)).drew := (Held.cons s1 (Held.one s2 hB)).drew
  clear s1 s2 hB
  have heq := eq_same
  go_enter Tryd.func4, Tryd.ntmps4
  go_wp2_with fail
  generalize (w.alloc (objOf p)).alloc (objOf q) = w0 at *
  go_region_held3 (fun w' => w'.cell? ⟨w.heap.size, 0, none⟩ = some (.int .u64 (word p 0)) ∧ w'.cell? ⟨w.heap.size, 1, none⟩ = some (.int .u64 (word p 1)) ∧ w'.cell? ⟨w.heap.size, 2, none⟩ = some (.int .u64 (word p 2)) ∧ w'.cell? ⟨w.heap.size, 3, none⟩ = some (.int .u64 (word p 3)) ∧ w'.cell? ⟨w.heap.size + 1, 0, none⟩ = some (.int .u64 (word q 0)) ∧ w'.cell? ⟨w.heap.size + 1, 1, none⟩ = some (.int .u64 (word q 1)) ∧ w'.cell? ⟨w.heap.size + 1, 2, none⟩ = some (.int .u64 (word q 2)) ∧ w'.cell? ⟨w.heap.size + 1, 3, none⟩ = some (.int .u64 (word q 3))) (first | exact held2 z | fail)
    (first
      | (go_at_call 17; refine (op_and p q _).mono ?_; rintro e w' ⟨rfl, hx⟩; have z := Held.on z hx)
      | (go_at_call 18; refine (rand_any p q _).mono ?_; rintro e w' ⟨rfl, hx⟩; have z := Held.on z hx)
      | (go_at_call 19; refine (op_or p q _).mono ?_; rintro e w' ⟨rfl, hx⟩; have z := Held.on z hx)
      | (go_at_call 20; refine (ror_any p q _).mono ?_; rintro e w' ⟨rfl, hx⟩; have z := Held.on z hx)
      | (go_at_call 21; refine (op_not p q _).mono ?_; rintro e w' ⟨rfl, hx⟩; have z := Held.on z hx)
      | (go_at_call 22; refine (rnot_any p q _).mono ?_; rintro e w' ⟨rfl, hx⟩; have z := Held.on z hx)
      | (go_at_call 10; refine (alive_any _ (Held.tab z hT1.out)).mono ?_; rintro e w' ⟨rfl, hx⟩; have z := Held.on z hx))
  go_wp2
  go_ret
  exact ⟨rfl, z.2⟩
end Go.Proofs.YtppphpgippchaaaDoor
