/-
  combine, walked.
-/
import Derived.Test.YtbdoppgcelihcaaDoorVComb
namespace Go.Proofs.YtbdoppgcelihcaaDoor
open Go.RowKit

theorem set3 {w u : World} (h : Below w.heap.size w u) {b : Nat} (hb : w.heap.size ≤ b) (x y z : Value) : Below w.heap.size w (((u.setCell ⟨b, 0, none⟩ x).setCell ⟨b, 1, none⟩ y).setCell ⟨b, 2, none⟩ z) :=
  ((h.setCell (p := ⟨b, 0, none⟩) hb _).setCell (p := ⟨b, 1, none⟩) hb _).setCell (p := ⟨b, 2, none⟩) hb _
end Go.Proofs.YtbdoppgcelihcaaDoor
