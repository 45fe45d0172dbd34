/-
  BitsOf, walked.
-/
import Derived.Test.YtppphpgippchaaaDoorHeld
import Derived.Test.YtppphpgippchaaaDoorBSpan
namespace Go.Proofs.YtppphpgippchaaaDoor
open Go.RowKit
set_option maxRecDepth 100000 in
set_option maxHeartbeats 1600000 in
theorem of_long (a : Option Addr) (n cap : Nat) (x y : Int) (w : World) (hT : Tab w) (hn : 2000 < n) :
    Calls Tryd.prog 3 #[.slice a n cap, .int .i64 x, .int .i64 y] w fun e w' => e = .returned (.bool true) ∧ Below w.heap.size w w' := by
  have hT1 := hid hT
  clear hT
  have h1 : (2000 : Int) < n := by omega
  go_enter Tryd.func3, Tryd.ntmps3
  go_wp2_with (go_at_call 10; refine (alive_any _ hT1.out).mono ?_; rintro e w' ⟨rfl, hx⟩)
  go_ret
  exact ⟨rfl, by assumption⟩
set_option maxRecDepth 100000 in
set_option maxHeartbeats 3200000 in
theorem of_walk (a : Option Addr) (cap : Nat) (l : List Int) (x y : Int) (w : World) (hT : Tab w) (hl : l.length ≤ 2000) (hR : Reads w (.slice a l.length cap) l) :
    Calls Tryd.prog 3 #[.slice a l.length cap, .int .i64 x, .int .i64 y] w fun e w' => e = .returned (.bool true) ∧ Below w.heap.size w w' := by
  have hT1 := hid hT
  have hR1 := hid hR
  clear hT hR
  have h1 : ¬ (2000 : Int) < l.length := by omega
  have hl2 : l.length ≤ 140737488355328 := by omega
  go_enter Tryd.func3, Tryd.ntmps3
  go_wp2_with fail
  refine (of_any _ l _ hR1.out hl2).mono ?_
  rintro e w1 ⟨rfl, hx⟩
  go_wp2_with fail
  have z : Held w [(w1.heap.size, memP l)] (w1.alloc (objOf (memP l))).drew := (Held.one (Blk.new w1 _) (hx.alloc hx.size _)).drew
  have r1 := hid (show Reads (w1.alloc (objOf (memP l))).drew (.slice a l.length cap) l from hR1.out.below z.2)
  have heq := eq_same
  clear hx
  generalize (w1.alloc (objOf (memP l))) = w0 at *
  go_region_held3 (fun w' => w'.cell? ⟨w1.heap.size, 0, none⟩ = some (.int .u64 (word (memP l) 0)) ∧ w'.cell? ⟨w1.heap.size, 1, none⟩ = some (.int .u64 (word (memP l) 1)) ∧ w'.cell? ⟨w1.heap.size, 2, none⟩ = some (.int .u64 (word (memP l) 2)) ∧ w'.cell? ⟨w1.heap.size, 3, none⟩ = some (.int .u64 (word (memP l) 3))) (first | exact held1 z | fail)
    (first
      | (go_at_call 12; refine (rof_any _ l _ r1.out hl2).mono ?_; rintro e w' ⟨rfl, hx⟩; have z := Held.on z hx)
      | (go_at_call 13; refine (span_any x y _).mono ?_; rintro e w' ⟨rfl, hx⟩; have z := Held.on z hx)
      | (go_at_call 14; refine (rspan_any x y _).mono ?_; rintro e w' ⟨rfl, hx⟩; have z := Held.on z hx)
      | (go_at_call 15; refine (has_any (memP l) _ _).mono ?_; rintro e w' ⟨rfl, hx⟩; have z := Held.on z hx)
      | (go_at_call 16; refine (rhas_any (memP l) _ _).mono ?_; rintro e w' ⟨rfl, hx⟩; have z := Held.on z hx)
      | (go_at_call 10; refine (alive_any _ (Held.tab z hT1.out)).mono ?_; rintro e w' ⟨rfl, hx⟩; have z := Held.on z hx))
  go_wp2
  go_ret
  exact ⟨rfl, z.2⟩
end Go.Proofs.YtppphpgippchaaaDoor
