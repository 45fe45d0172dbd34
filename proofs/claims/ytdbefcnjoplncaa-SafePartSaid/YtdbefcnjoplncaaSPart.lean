/-
  SafePart's walk: a share of a whole, of the whole, is at most one below the part.
-/
import Derived.Test.YtdbefcnjoplncaaSScale
import Derived.ProofKit
import Derived.OpenShut
namespace Go.Proofs.Ytdbefcnjoplncaa
open Go.RowKit

theorem part_back (p b : Nat) (hb0 : 0 < b) (hb : b < 4294967296) :
    p * 4294967296 / b * b / 4294967296 ≤ p ∧ p ≤ p * 4294967296 / b * b / 4294967296 + 1 ∧ p * 4294967296 / b * b ≤ p * 4294967296 := by
  have h1 := Nat.div_add_mod (p * 4294967296) b
  have h2 := Nat.mod_lt (p * 4294967296) hb0
  rw [Nat.mul_comm b] at h1
  generalize p * 4294967296 / b * b = s at *
  omega

set_option maxHeartbeats 1000000 in
theorem safePart_walk (a0 : Int) (a1 : Int) (w0 : (Lit.int .u32 a0).wf = true) (w1 : (Lit.int .u32 a1).wf = true) (w : World) :
    Calls Try.prog 7 #[.int .u32 a0, .int .u32 a1] w fun e w' => e = .returned (.bool true) ∧ Grown w w' := by
  have h0 := wf_u32 w0
  have h1 := wf_u32 w1
  clear w0 w1
  obtain ⟨x, rfl⟩ : ∃ x : Nat, a0 = x := ⟨a0.toNat, by omega⟩
  obtain ⟨y, rfl⟩ : ∃ x : Nat, a1 = x := ⟨a1.toNat, by omega⟩
  by_cases hz : (y : Int) = 0
  · go_enter Try.func7, Try.ntmps7
    go_wp2_with (go_at_call 17; refine (alive_any _).mono ?_; rintro e w' ⟨rfl, n, rfl⟩)
    go_ret
    exact ⟨rfl, Grown.refl w⟩
  · have P := part_back (x / 2) y (by omega) (by omega)
    have c1 := fun w => Share_short (x / 2) y (by omega) (by omega) (by omega) w
    have c2 := fun w => Of_short (x / 2 * 4294967296 / y) y (by have := Nat.div_le_self (x / 2 * 4294967296) y; omega) (by omega) (by omega) w
    generalize x / 2 * 4294967296 / y * y / 4294967296 = n at *
    generalize x / 2 * 4294967296 / y = s at *
    have e : ((x / 2 : Nat) : Int) = (x : Int) / 2 := Int.natCast_ediv x 2
    obtain ⟨P1, P2, _⟩ := P
    have q1 : (n : Int) ≤ (x : Int) / 2 := by omega
    have q2 : (n : Int) ≥ (x : Int) / 2 - 1 := by omega
    rw [e] at c1
    clear P1 P2
    go_enter Try.func7, Try.ntmps7
    go_wp2_with (first
      | (go_at_call 22; refine (c1 _).mono ?_; rintro e w' ⟨rfl, n, rfl⟩)
      | (go_at_call 24; refine (c2 _).mono ?_; rintro e w' ⟨rfl, n, rfl⟩)
      | (go_at_call 17; refine (alive_any _).mono ?_; rintro e w' ⟨rfl, n, rfl⟩))
    go_ret
    exact ⟨rfl, Grown.refl w⟩
end Go.Proofs.Ytdbefcnjoplncaa
