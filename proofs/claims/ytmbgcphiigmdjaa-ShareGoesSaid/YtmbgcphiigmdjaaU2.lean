/-
  Parts: UFallM USumM ULFalls ULApart.
-/
import Derived.Test.YtmbgcphiigmdjaaU0
import Derived.Test.YtmbgcphiigmdjaaU1
set_option linter.unusedSimpArgs false
set_option linter.unusedVariables false
/-
  Plain mathematics: what was used falls; a half-life halves it.
-/
namespace Go.Proofs.Ytmbgcphiigmdjaa
open Go.RowKit Ss

end Go.Proofs.Ytmbgcphiigmdjaa
/-
  Plain mathematics: what all have used is the sum of what each one has; the parts.
-/
namespace Go.Proofs.Ytmbgcphiigmdjaa
open Go.RowKit Ss

end Go.Proofs.Ytmbgcphiigmdjaa
/-
  ShareFalls, walked.
-/
namespace Go.Proofs.Ytmbgcphiigmdjaa
open Go.RowKit Ss Ds

/-- A statement's answer. -/
def TrueP (w : World) (e : Ending) (w' : World) : Prop := e = .returned (.bool true) ∧ Below w.heap.size w w'
theorem name_at {w : World} {base : Nat} {v : Value} {ns : List Str} (h : OwnS w base v ns) : ∃ A cap, v = .slice A ns.length cap ∧ ∀ j (hj : j < ns.length), ∃ b o, A = some ⟨b, o, none⟩ ∧ b < w.heap.size ∧ w.cell? ⟨b, o + j, none⟩ = some (.string (str ns[j])) := by
  obtain ⟨A, cap, e, _, _, hs⟩ := h.shape
  refine ⟨A, cap, e, fun j hj => ?_⟩
  obtain ⟨b, o, ea, hb, hc⟩ := hs (by rw [SV_len]; omega)
  refine ⟨b, o, ea, hb, ?_⟩
  rw [hc j (by rw [SV_len]; exact hj)]
  simp [SV]
end Go.Proofs.Ytmbgcphiigmdjaa
/-
  ShareApart, walked.
-/
namespace Go.Proofs.Ytmbgcphiigmdjaa
open Go.RowKit Ss Ds

theorem name_at2 {w : World} {base : Nat} {v : Value} {ns : List Str} (h : OwnS w base v ns) : ∃ A cap, v = .slice A ns.length cap ∧ ∀ j (hj : j < ns.length), ∃ b o, A = some ⟨b, o, none⟩ ∧ base ≤ b ∧ b < w.heap.size ∧ w.cell? ⟨b, o + j, none⟩ = some (.string (str ns[j])) := by
  obtain ⟨A, cap, rfl, hn⟩ := name_at h
  refine ⟨A, cap, rfl, fun j hj => ?_⟩
  obtain ⟨b, o, rfl, hb, hc⟩ := hn j hj
  exact ⟨b, o, rfl, ownsRow_ge h b rfl, hb, hc⟩
end Go.Proofs.Ytmbgcphiigmdjaa
