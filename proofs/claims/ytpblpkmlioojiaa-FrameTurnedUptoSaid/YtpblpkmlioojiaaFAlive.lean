/-
  The law's own look at the package: it answers true.
-/
import Derived.Test.YtpblpkmlioojiaaFGet
namespace Go.Proofs.Ytpblpkmlioojiaa
open Go.RowKit

theorem sum_one : sumOf [1] = 8589934594 := by decide
theorem frame_one : frame [1] = [1, 0, 0, 0, 1, 2, 0, 0, 0, 2, 0, 0, 0] := by decide
theorem get_one : getErr (frame [1]) = 0 ∧ getBytes (frame [1]) = [1] ∧ getLen (frame [1]) = 13 := by
  rw [frame_one]; decide
theorem one1 (w : World) : Seg (w.alloc (.cells #[.int .u8 1] 5)) (w.alloc (.cells #[.int .u8 1] 5)).heap.size (some ⟨w.heap.size, 0, none⟩) [1] := by
  rw [World.size_alloc]; exact Seg.one w 1
theorem put1 (w : World) : Calls Try.prog 13 #[.slice none 0 0, .slice (some ⟨w.heap.size, 0, none⟩) 1 1] (w.alloc (.cells #[.int .u8 1] 5))
    (Gives (w.alloc (.cells #[.int .u8 1] 5)) (w.alloc (.cells #[.int .u8 1] 5)).heap.size (fun v => .tuple #[v, .int .i64 0]) (frame [1])) :=
  Put_any none (some ⟨w.heap.size, 0, none⟩) [] [1] 0 1 _ (Seg.nil _ _ _) (one1 w) (by decide) (by decide) (by decide)
theorem get1 (A : Option Addr) (c : Nat) (w : World) (h : Seg w w.heap.size A (frame [1])) (hc : 13 ≤ c) :
    Calls Try.prog 16 #[.slice A 13 c] w (Gives w w.heap.size (fun v => .tuple #[v, .int .i64 13, .int .i64 0]) [1]) := by
  have g := Get_any A (frame [1]) c w h (by rw [frame_one]; exact hc) (by decide)
  refine g.mono ?_
  rintro e w' ⟨v, rfl, ho, hb⟩
  rw [get_one.2.1] at ho
  rw [get_one.1, get_one.2.2]
  exact ⟨v, rfl, ho, hb⟩
theorem sum1 (w : World) : Calls Try.prog 10 #[.slice (some ⟨w.heap.size, 0, none⟩) 1 1] (w.alloc (.cells #[.int .u8 1] 5)) fun e w' => e = .returned (.int .u64 8589934594) ∧ Below w.heap.size w w' := by
  have g := Sum_any (some ⟨w.heap.size, 0, none⟩) [1] 1 _ (one1 w) (by decide) (by decide)
  rw [sum_one] at g
  exact g.mono fun e w' ⟨he, hb⟩ => ⟨he, ((Below.refl _ _).alloc (Nat.le_refl _) _).trans (hb.mono (by rw [World.size_alloc]; omega))⟩
theorem same1 (A : Option Addr) (c B : Nat) (w : World) (h : Seg (w.alloc (.cells #[.int .u8 1] 5)) B A [1]) : Calls Try.prog 15 #[.slice A 1 c, .slice (some ⟨w.heap.size, 0, none⟩) 1 1] (w.alloc (.cells #[.int .u8 1] 5)) fun e w' => e = .returned (.bool true) ∧ Below w.heap.size w w' :=
  (Same_any A (some ⟨w.heap.size, 0, none⟩) [1] [1] c 1 B _ _ h (one1 w)).mono fun e w' ⟨he, hw⟩ => ⟨he, by subst hw; exact (Below.refl _ _).alloc (Nat.le_refl _) _⟩
set_option maxRecDepth 100000 in
set_option maxHeartbeats 1000000 in
theorem alive_any (w : World) : Calls Try.prog 12 #[] w fun e w' => e = .returned (.bool true) ∧ Below w.heap.size w w' := by
  have h13 : (frame [1]).length = 13 := by rw [frame_one]; rfl
  go_enter Try.func12, Try.ntmps12
  go_wp2_with (first
    | (go_at_call 13
       refine (put1 _).mono ?_
       rintro e w1 ⟨v1, rfl, o1, b1⟩
       obtain ⟨A1, c1, hv, hle, _, s1⟩ := o1.shape
       rw [h13] at hv hle
       subst hv
       have x1 : Below w.heap.size w w1 := ((Below.refl _ _).alloc (Nat.le_refl _) _).trans (b1.mono (by rw [World.size_alloc]; omega)))
    | (go_at_call 16
       refine (get1 A1 c1 w1 s1 hle).mono ?_
       rintro e w2 ⟨v2, rfl, o2, b2⟩
       obtain ⟨A2, c2, hv2, _, _, s2⟩ := o2.shape
       rw [show ([1] : List UInt8).length = 1 from rfl] at hv2
       subst hv2
       have x2 := x1.trans (b2.mono x1.size))
    | (go_at_call 10
       refine (sum1 _).mono ?_
       rintro e w3 ⟨rfl, b3⟩
       have x3 := x2.trans (b3.mono x2.size))
    | (go_at_call 15
       refine (same1 A2 c2 w2.heap.size w3 ((s2.below b3).keep fun p hp => World.cell?_alloc_lt _ _ _ (Nat.lt_of_lt_of_le hp b3.size))).mono ?_
       rintro e w4 ⟨rfl, b4⟩
       have x4 := x3.trans (b4.mono x3.size)))
  go_ret
  exact ⟨rfl, x4⟩
end Go.Proofs.Ytpblpkmlioojiaa
