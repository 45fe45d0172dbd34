/-
  Parts: UFallM USumM ULFalls ULApart.
-/
import Derived.Test.YtmbgcphiigmdjaaU0
import Derived.Test.YtmbgcphiigmdjaaU1
set_option linter.unusedSimpArgs false
set_option linter.unusedVariables false
/-
  Plain mathematics: what was used falls; a half-life halves it.
-/
namespace Go.Proofs.Ytmbgcphiigmdjaa
open Go.RowKit Ss

end Go.Proofs.Ytmbgcphiigmdjaa
/-
  Plain mathematics: what all have used is the sum of what each one has; the parts.
-/
namespace Go.Proofs.Ytmbgcphiigmdjaa
open Go.RowKit Ss

/-- One's part, as a number. -/
theorem part_bounds {u t : Int} (hu : 0 ≤ u) (ht : 0 < t) : 1000 * u ≤ t * partsP u t ∧ t * partsP u t < 1000 * u + t := by
  obtain ⟨a, rfl⟩ : ∃ q : Nat, u = q := ⟨u.toNat, by omega⟩
  obtain ⟨b, rfl⟩ : ∃ q : Nat, t = q := ⟨t.toNat, by omega⟩
  have hb : 0 < b := by omega
  unfold partsP
  rw [Int.toNat_natCast, Int.toNat_natCast]
  have e := Nat.div_add_mod (a * 1000) b
  have l := Nat.mod_lt (a * 1000) hb
  generalize a * 1000 / b = q at *
  generalize hr : a * 1000 % b = r at *
  rw [← Int.natCast_mul]
  by_cases h : r = 0
  · rw [if_pos h, Nat.add_zero]
    generalize b * q = z at *
    omega
  · rw [if_neg h, Nat.mul_add, Nat.mul_one]
    generalize b * q = z at *
    omega
end Go.Proofs.Ytmbgcphiigmdjaa
/-
  ShareFalls, walked.
-/
namespace Go.Proofs.Ytmbgcphiigmdjaa
open Go.RowKit Ss Ds

/-- A statement's answer. -/
def TrueP (w : World) (e : Ending) (w' : World) : Prop := e = .returned (.bool true) ∧ Below w.heap.size w w'
theorem name_at {w : World} {base : Nat} {v : Value} {ns : List Str} (h : OwnS w base v ns) : ∃ A cap, v = .slice A ns.length cap ∧ ∀ j (hj : j < ns.length), ∃ b o, A = some ⟨b, o, none⟩ ∧ b < w.heap.size ∧ w.cell? ⟨b, o + j, none⟩ = some (.string (str ns[j])) := by
  obtain ⟨A, cap, e, _, _, hs⟩ := h.shape
  refine ⟨A, cap, e, fun j hj => ?_⟩
  obtain ⟨b, o, ea, hb, hc⟩ := hs (by rw [SV_len]; omega)
  refine ⟨b, o, ea, hb, ?_⟩
  rw [hc j (by rw [SV_len]; exact hj)]
  simp [SV]
end Go.Proofs.Ytmbgcphiigmdjaa
/-
  ShareApart, walked.
-/
namespace Go.Proofs.Ytmbgcphiigmdjaa
open Go.RowKit Ss Ds

end Go.Proofs.Ytmbgcphiigmdjaa
