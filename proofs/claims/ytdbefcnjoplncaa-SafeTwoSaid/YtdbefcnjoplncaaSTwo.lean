/-
  SafeTwo's walk: the sum, the difference, the product of any two numbers, and the sum as far as it goes, are the document's, or refused.
-/
import Derived.Test.YtdbefcnjoplncaaSMulR
import Derived.ProofKit
import Derived.OpenShut
namespace Go.Proofs.Ytdbefcnjoplncaa
open Go.RowKit

set_option maxRecDepth 100000 in
set_option maxHeartbeats 1600000 in
theorem safeTwo_walk (a0 : Int) (a1 : Int) (w0 : (Lit.int .i64 a0).wf = true) (w1 : (Lit.int .i64 a1).wf = true) (w : World) :
    Calls Try.prog 3 #[.int .i64 a0, .int .i64 a1] w fun e w' => e = .returned (.bool true) ∧ Below w.heap.size w w' := by
  have h0 := wf_i64 w0
  have h1 := wf_i64 w1
  clear w0 w1
  have c1 := fun w => Add_any a0 a1 w h0 h1
  have c2 := fun w => rAdd_any a0 a1 w h0 h1
  have c3 := fun w => Sub_any a0 a1 w h0 h1
  have c4 := fun w => rSub_any a0 a1 w h0 h1
  have c5 := fun w => Mul_any a0 a1 w h0 h1
  have c6 := fun w => rMul_any a0 a1 w h0 h1
  have c7 := fun w => Most_any a0 a1 w h0 h1
  have c8 := fun w => rMost_any a0 a1 w h0 h1
  generalize got (a0 + a1) = x1 at *
  generalize err (a0 + a1) = x2 at *
  generalize got (a0 - a1) = x3 at *
  generalize err (a0 - a1) = x4 at *
  generalize got (a0 * a1) = x5 at *
  generalize err (a0 * a1) = x6 at *
  generalize most (a0 + a1) = x7 at *
  clear h0 h1
  go_enter Try.func3, Try.ntmps3
  go_wp2_with (first
    | (go_at_call 9; with_reducible refine (c1 _).mono ?_; rintro e w' ⟨rfl, rfl⟩)
    | (go_at_call 10; with_reducible refine (c2 _).mono ?_; rintro e w' ⟨rfl, rfl⟩)
    | (go_at_call 11; with_reducible refine (c3 _).mono ?_; rintro e w' ⟨rfl, rfl⟩)
    | (go_at_call 12; with_reducible refine (c4 _).mono ?_; rintro e w' ⟨rfl, rfl⟩)
    | (go_at_call 13; with_reducible refine (c5 _).mono ?_; rintro e w' ⟨rfl, rfl⟩)
    | (go_at_call 14; with_reducible refine (c6 _).mono ?_; rintro e w1 ⟨rfl, z⟩)
    | (go_at_call 15; with_reducible refine (c7 _).mono ?_; rintro e w' ⟨rfl, rfl⟩)
    | (go_at_call 16; with_reducible refine (c8 _).mono ?_; rintro e w' ⟨rfl, rfl⟩)
    | (go_at_call 17; refine (alive_any _).mono ?_; rintro e w' ⟨rfl, n, rfl⟩))
  go_ret
  exact ⟨rfl, below_drewN z _⟩
end Go.Proofs.Ytdbefcnjoplncaa
