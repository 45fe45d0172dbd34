/-
  SafeBack's walk: what is added and taken away is there again; a product, divided, is its factor.
-/
import Derived.Test.YtdbefcnjoplncaaSMul
import Derived.ProofKit
import Derived.OpenShut
namespace Go.Proofs.Ytdbefcnjoplncaa
open Go.RowKit

set_option maxHeartbeats 2000000 in
theorem safeBack_walk (a0 : Int) (a1 : Int) (w0 : (Lit.int .i64 a0).wf = true) (w1 : (Lit.int .i64 a1).wf = true) (w : World) :
    Calls Try.prog 6 #[.int .i64 a0, .int .i64 a1] w fun e w' => e = .returned (.bool true) ∧ Grown w w' := by
  have h0 := wf_i64 w0
  have h1 := wf_i64 w1
  clear w0 w1
  have c1 := fun w => Add_any a0 a1 w h0 h1
  have c3 := fun w => Mul_any a0 a1 w h0 h1
  have c4 := fun w => Mul_any a1 a0 w h1 h0
  rw [Int.mul_comm a1 a0] at c4
  have c2 : Fits (a0 + a1) → ∀ w, Calls Try.prog 11 #[.int .i64 (a0 + a1), .int .i64 a1] w fun e w' => e = .returned (.tuple #[.int .i64 a0, .int .i64 0]) ∧ w = w' := fun h w => by
    have c := Sub_any (a0 + a1) a1 w h h1
    rw [show a0 + a1 - a1 = a0 by omega, got_in h0, err_in h0] at c
    exact c
  have M : Fits (a0 * a1) → ¬ a1 = 0 → wrap64 ((a0 * a1).tdiv a1) = a0 ∧ (a0 * a1).tmod a1 = 0 := fun _ hz =>
    ⟨by rw [Int.mul_tdiv_cancel _ hz, wrap_same _ h0], Int.mul_tmod_left _ _⟩
  by_cases hm : Fits (a0 * a1)
  · rw [got_in hm, err_in hm] at c3 c4
    by_cases hz : a1 = 0
    · subst hz
      clear M hm
      simp only [Int.mul_zero, Int.add_zero] at c1 c2 c3 c4
      have c2 := c2 h0
      rw [got_in h0, err_in h0] at c1
      go_enter Try.func6, Try.ntmps6
      go_wp2_with (first
        | (go_at_call 9; with_reducible refine (c1 _).mono ?_; rintro e w' ⟨rfl, rfl⟩)
        | (go_at_call 11; with_reducible refine (c2 _).mono ?_; rintro e w' ⟨rfl, rfl⟩)
        | (go_at_call 13; with_reducible refine (c3 _).mono ?_; rintro e w' ⟨rfl, rfl⟩)
        | (go_at_call 13; with_reducible refine (c4 _).mono ?_; rintro e w' ⟨rfl, rfl⟩)
        | (go_at_call 17; refine (alive_any _).mono ?_; rintro e w' ⟨rfl, n, rfl⟩))
      go_ret
      exact ⟨rfl, Grown.refl w⟩
    · obtain ⟨M1, M2⟩ := M hm hz
      clear M
      generalize a0 * a1 = p at *
      by_cases hs : Fits (a0 + a1)
      · have c2 := c2 hs
        rw [got_in hs, err_in hs] at c1
        generalize a0 + a1 = s at *
        go_enter Try.func6, Try.ntmps6
        go_wp2_with (first
          | (go_at_call 9; with_reducible refine (c1 _).mono ?_; rintro e w' ⟨rfl, rfl⟩)
          | (go_at_call 11; with_reducible refine (c2 _).mono ?_; rintro e w' ⟨rfl, rfl⟩)
          | (go_at_call 13; with_reducible refine (c3 _).mono ?_; rintro e w' ⟨rfl, rfl⟩)
          | (go_at_call 13; with_reducible refine (c4 _).mono ?_; rintro e w' ⟨rfl, rfl⟩)
          | (go_at_call 17; refine (alive_any _).mono ?_; rintro e w' ⟨rfl, n, rfl⟩))
        go_ret
        exact ⟨rfl, Grown.refl w⟩
      · clear c2
        rw [got_out hs, err_out hs] at c1
        go_enter Try.func6, Try.ntmps6
        go_wp2_with (first
          | (go_at_call 9; with_reducible refine (c1 _).mono ?_; rintro e w' ⟨rfl, rfl⟩)
          | (go_at_call 13; with_reducible refine (c3 _).mono ?_; rintro e w' ⟨rfl, rfl⟩)
          | (go_at_call 13; with_reducible refine (c4 _).mono ?_; rintro e w' ⟨rfl, rfl⟩)
          | (go_at_call 17; refine (alive_any _).mono ?_; rintro e w' ⟨rfl, n, rfl⟩))
        go_ret
        exact ⟨rfl, Grown.refl w⟩
  · rw [got_out hm, err_out hm] at c3 c4
    clear M
    by_cases hs : Fits (a0 + a1)
    · have c2 := c2 hs
      rw [got_in hs, err_in hs] at c1
      generalize a0 + a1 = s at *
      go_enter Try.func6, Try.ntmps6
      go_wp2_with (first
        | (go_at_call 9; with_reducible refine (c1 _).mono ?_; rintro e w' ⟨rfl, rfl⟩)
        | (go_at_call 11; with_reducible refine (c2 _).mono ?_; rintro e w' ⟨rfl, rfl⟩)
        | (go_at_call 13; with_reducible refine (c3 _).mono ?_; rintro e w' ⟨rfl, rfl⟩)
        | (go_at_call 13; with_reducible refine (c4 _).mono ?_; rintro e w' ⟨rfl, rfl⟩)
        | (go_at_call 17; refine (alive_any _).mono ?_; rintro e w' ⟨rfl, n, rfl⟩))
      go_ret
      exact ⟨rfl, Grown.refl w⟩
    · clear c2
      rw [got_out hs, err_out hs] at c1
      go_enter Try.func6, Try.ntmps6
      go_wp2_with (first
        | (go_at_call 9; with_reducible refine (c1 _).mono ?_; rintro e w' ⟨rfl, rfl⟩)
        | (go_at_call 13; with_reducible refine (c3 _).mono ?_; rintro e w' ⟨rfl, rfl⟩)
        | (go_at_call 13; with_reducible refine (c4 _).mono ?_; rintro e w' ⟨rfl, rfl⟩)
        | (go_at_call 17; refine (alive_any _).mono ?_; rintro e w' ⟨rfl, n, rfl⟩))
      go_ret
      exact ⟨rfl, Grown.refl w⟩
end Go.Proofs.Ytdbefcnjoplncaa
