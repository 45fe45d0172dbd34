/-
  FrameSums's walk: the sum of any bytes is the document's.
-/
import Derived.Test.YtpblpkmlioojiaaFAlive
import Derived.Test.YtpblpkmlioojiaaFSumR
namespace Go.Proofs.Ytpblpkmlioojiaa
open Go.RowKit

set_option maxRecDepth 100000 in
set_option maxHeartbeats 1000000 in
theorem sums_walk (A : Option Addr) (l : List UInt8) (cap : Nat) (w : World) (h : Seg w w.heap.size A l) (hc : l.length ≤ cap) (hl : l.length ≤ 140737488355328) :
    Calls Try.prog 3 #[.slice A l.length cap] w fun e w' => e = .returned (.bool true) ∧ Below w.heap.size w w' := by
  have c1 := Sum_any A l cap w h hc hl
  have c2 := fun w1 (hb : Below w.heap.size w w1) => rSum_any A l cap w.heap.size w1 (h.below hb) hl
  generalize sumOf l = s at *
  clear h
  go_enter Try.func3, Try.ntmps3
  go_wp2_with (first
    | (go_at_call 10; with_reducible refine c1.mono ?_; rintro e w1 ⟨rfl, b1⟩)
    | (go_at_call 11; with_reducible refine (c2 _ b1).mono ?_; rintro e w1 ⟨rfl, rfl⟩)
    | (go_at_call 12; refine (alive_any _).mono ?_; rintro e w2 ⟨rfl, b2⟩))
  go_ret
  exact ⟨rfl, b1.trans (b2.mono b1.size)⟩
end Go.Proofs.Ytpblpkmlioojiaa
