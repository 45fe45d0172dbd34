/-
  SafeShares's walk: the share of any part, and of any number, and any number halved, or made small, is the document's, or refused.
-/
import Derived.Test.YtogmbiiahccljaaSDivA
import Derived.ProofKit
import Derived.OpenShut
namespace Go.Proofs.Ytogmbiiahccljaa
open Go.RowKit

set_option maxRecDepth 100000 in
set_option maxHeartbeats 1600000 in
theorem safeShares_walk (a0 a1 a2 : Int) (w0 : (Lit.int .i64 a0).wf = true) (w1 : (Lit.int .i64 a1).wf = true) (w : World) :
    Calls Try.prog 5 #[.int .i64 a0, .int .i64 a1, .int .i64 a2] w fun e w' => e = .returned (.bool true) ∧ Below w.heap.size w w' := by
  have h0 := wf_i64 w0
  have h1 := wf_i64 w1
  clear w0 w1
  have c1 := fun w => Share_any a0 a1 w h0 h1
  have c2 := fun w => rShare_any a0 a1 w h0 h1
  have c3 := fun w => Of_any a0 a1 w h0 h1
  have c4 := fun w => rOf_any a0 a1 w h0 h1
  have c5 := fun w => Int32_any a0 w
  have c6 := fun w => rInt32_any a0 w
  have c7 := fun w => Halves_any a0 a2 w h0
  have c8 := fun w => rHalves_any a0 a2 w h0
  generalize shr a0 a1 = x1 at *
  generalize shrErr a0 a1 = x2 at *
  generalize sof a0 a1 = x3 at *
  generalize sofErr a0 a1 = x4 at *
  generalize small a0 = x5 at *
  generalize smallErr a0 = x6 at *
  generalize halves a0 a2 = x7 at *
  clear h0 h1
  go_enter Try.func5, Try.ntmps5
  go_wp2_with (first
    | (go_at_call 22; with_reducible refine (c1 _).mono ?_; rintro e w' ⟨rfl, n1, rfl⟩)
    | (go_at_call 23; with_reducible refine (c2 _).mono ?_; rintro e w' ⟨rfl, n2, rfl⟩)
    | (go_at_call 24; with_reducible refine (c3 _).mono ?_; rintro e w' ⟨rfl, n3, rfl⟩)
    | (go_at_call 25; with_reducible refine (c4 _).mono ?_; rintro e w1 ⟨rfl, z⟩)
    | (go_at_call 26; with_reducible refine (c5 _).mono ?_; rintro e w' ⟨rfl, rfl⟩)
    | (go_at_call 27; with_reducible refine (c6 _).mono ?_; rintro e w' ⟨rfl, rfl⟩)
    | (go_at_call 28; with_reducible refine (c7 _).mono ?_; rintro e w' ⟨rfl, rfl⟩)
    | (go_at_call 29; with_reducible refine (c8 _).mono ?_; rintro e w' ⟨rfl, rfl⟩)
    | (go_at_call 17; refine (alive_any _).mono ?_; rintro e w' ⟨rfl, n, rfl⟩))
  go_ret
  exact ⟨rfl, below_drewN ((below_drewN (Below.refl _ _) _).trans z) _⟩
end Go.Proofs.Ytogmbiiahccljaa
