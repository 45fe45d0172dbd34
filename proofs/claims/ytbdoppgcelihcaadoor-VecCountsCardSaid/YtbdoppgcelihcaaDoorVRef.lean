/-
  The document's own Sub and Times; Into, and the document's.
-/
import Derived.Test.YtbdoppgcelihcaaDoorVAddL
namespace Go.Proofs.YtbdoppgcelihcaaDoor
open Go.RowKit

theorem sub_fits {a b c d e f : Int} (h : right a b c = true) (k : right d e f = true) : right (a - d) (b - e) (c - f) = decide (d ≤ a ∧ e ≤ b ∧ f ≤ c) := by
  obtain ⟨⟨a0, a1⟩, ⟨b0, b1⟩, c0, c1⟩ := right_iff.1 h
  obtain ⟨⟨d0, d1⟩, ⟨e0, e1⟩, f0, f1⟩ := right_iff.1 k
  rw [Bool.eq_iff_iff, right_iff]
  simp
  omega
end Go.Proofs.YtbdoppgcelihcaaDoor
