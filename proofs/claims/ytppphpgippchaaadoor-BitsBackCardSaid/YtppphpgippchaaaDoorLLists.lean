/-
  BitsLists, walked.
-/
import Derived.Test.YtppphpgippchaaaDoorRFirst
namespace Go.Proofs.YtppphpgippchaaaDoor
open Go.RowKit
/-- What a call that answers the list of a set leaves: a slice that reads so. -/
def RowS (p : Nat → Bool) (w : World) (e : Ending) (w' : World) : Prop :=
  ∃ ao cap, e = .returned (.slice ao (cnt p 256) cap) ∧ Reads w' (.slice ao (cnt p 256) cap) ((lst p 256).map fun n : Nat => (n : Int)) ∧ Below w.heap.size w w'
theorem Row.toS {p : Nat → Bool} {w : World} {e : Ending} {w' : World} (h : Row w (lst p 256) e w') : RowS p w e w' := by
  obtain ⟨v, rfl, hown, hx⟩ := h
  have hR := Reads.ofOwn hown
  rw [lst_count] at hown
  rcases hown.2 with ⟨rfl, h0⟩ | ⟨g, cap, cur, rfl, _⟩
  · exact ⟨none, 0, by rw [h0], by rw [h0]; exact hR, hx⟩
  · exact ⟨_, cap, rfl, hR, hx⟩
theorem rlist_s (p : Nat → Bool) (w : World) : Calls Tryd.prog 28 #[nodes p] w (RowS p w) := (rlist_any p w).mono fun _ _ h => Row.toS h
theorem list_s (p : Nat → Bool) (w : World) (hT : Tab w) : Calls Tryd.prog 30 #[nodes p] w (RowS p w) := (list_any p w hT).mono fun _ _ h => Row.toS h
set_option maxRecDepth 100000 in
set_option maxHeartbeats 3200000 in
theorem lists_walk (p : Nat → Bool) (n : Int) (w : World) (hT : Tab w) (hm : n ≤ 9223372036854775807) :
    Calls Tryd.prog 5 #[nodes p, .int .i64 n] w fun e w' => e = .returned (.bool true) ∧ Below w.heap.size w w' := by
  have hT1 := hid hT
  have hll : ((lst p 256).map fun n : Nat => (n : Int)).length ≤ 140737488355328 := by rw [List.length_map]; have := lst_len p 256; omega
  have hll := hid hll
  clear hT
  go_enter Tryd.func5, Tryd.ntmps5
  have z : Held w [(w.heap.size, p)] (w.alloc (objOf p)) := Held.one (Blk.new w p) ((Below.refl _ _).alloc (Nat.le_refl _) _)
  go_wp2_with fail
  refine (first_any p n _ (z.tab hT1.out) hm).mono ?_
  rintro e w1 ⟨rfl, hx⟩
  have z := z.on hx
  have z : Held w [(w1.heap.size, fstP p n), (w.heap.size, p)] (w1.alloc (objOf (fstP p n))) := Held.cons (Blk.new w1 _) (z.alloc _)
  clear hx
  obtain ⟨c0, c1, c2, c3⟩ := z.tail.head.four
  go_wp2_with fail
  refine (rfirst_any p n _).mono ?_
  rintro e w2 ⟨rfl, hx⟩
  have z := z.on hx
  have z : Held w [(w2.heap.size, fstP p n), (w1.heap.size, fstP p n), (w.heap.size, p)] (w2.alloc (objOf (fstP p n))) := Held.cons (Blk.new w2 _) (z.alloc _)
  clear hx c0 c1 c2 c3
  obtain ⟨c0, c1, c2, c3⟩ := z.tail.tail.head.four
  go_wp2_with fail
  refine (nth_any p n _ (z.tab hT1.out) hm).mono ?_
  rintro e w3 ⟨rfl, hx⟩
  have z := z.on hx
  clear hx c0 c1 c2 c3
  obtain ⟨c0, c1, c2, c3⟩ := z.tail.tail.head.four
  go_wp2_with fail
  refine (rnth_any p n _).mono ?_
  rintro e w4 ⟨rfl, hx⟩
  have z := (z.on hx).drew
  clear hx c0 c1 c2 c3
  have heq := eq_same
  go_wp2_with fail
  go_region_held3 (fun w' => w'.cell? ⟨w2.heap.size, 0, none⟩ = some (.int .u64 (word (fstP p n) 0)) ∧ w'.cell? ⟨w2.heap.size, 1, none⟩ = some (.int .u64 (word (fstP p n) 1)) ∧ w'.cell? ⟨w2.heap.size, 2, none⟩ = some (.int .u64 (word (fstP p n) 2)) ∧ w'.cell? ⟨w2.heap.size, 3, none⟩ = some (.int .u64 (word (fstP p n) 3)) ∧ w'.cell? ⟨w1.heap.size, 0, none⟩ = some (.int .u64 (word (fstP p n) 0)) ∧ w'.cell? ⟨w1.heap.size, 1, none⟩ = some (.int .u64 (word (fstP p n) 1)) ∧ w'.cell? ⟨w1.heap.size, 2, none⟩ = some (.int .u64 (word (fstP p n) 2)) ∧ w'.cell? ⟨w1.heap.size, 3, none⟩ = some (.int .u64 (word (fstP p n) 3)) ∧ w'.cell? ⟨w.heap.size, 0, none⟩ = some (.int .u64 (word p 0)) ∧ w'.cell? ⟨w.heap.size, 1, none⟩ = some (.int .u64 (word p 1)) ∧ w'.cell? ⟨w.heap.size, 2, none⟩ = some (.int .u64 (word p 2)) ∧ w'.cell? ⟨w.heap.size, 3, none⟩ = some (.int .u64 (word p 3))) (first | exact held3 z | fail)
    (first
      | (go_at_call 27; refine (count_any p _).mono ?_; rintro e w' ⟨rfl, hx⟩; have z := Held.on z hx)
      | (go_at_call 28; refine (rlist_s p _).mono ?_; rintro e w' ⟨ao, cap, rfl, hR, hx⟩; have z := Held.on z hx; (first | (have hA := Reads.below hA hx) | skip))
      | (go_at_call 30; refine (list_s p _ (Held.tab z hT1.out)).mono ?_; rintro e w' ⟨ao, cap, rfl, hA, hx⟩; have z := Held.on z hx)
      | (go_at_call 29; refine (ints_any _ _ _ _ hA hR hll.out).mono ?_; rintro e w' ⟨rfl, hx⟩; have z := Held.on z hx)
      | (go_at_call 10; refine (alive_any _ (Held.tab z hT1.out)).mono ?_; rintro e w' ⟨rfl, hx⟩; have z := Held.on z hx))
  go_wp2
  go_ret
  exact ⟨rfl, z.2⟩
end Go.Proofs.YtppphpgippchaaaDoor
