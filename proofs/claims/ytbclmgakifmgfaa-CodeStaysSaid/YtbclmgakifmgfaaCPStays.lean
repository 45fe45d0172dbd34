/-
  PROVED: at all bytes, and all scripts of calls, the law CodeStays returns true (behind a fault nothing is got, and it and the place stay), and both read as they did.
  Conditions: none; every input.
-/
import Derived.Test.YtbclmgakifmgfaaCOpen
namespace Go.Proofs.Ytbclmgakifmgfaa
open Go.ChangeShapes Go.WideShapes Go.ChangeAt Go.WideMaps Go.WideElems Go.RowKit

set_option maxRecDepth 100000 in
theorem codeStays_lifted (os : Os) (started : os.Started) (H : Type) (enc : TypeId × Value → H) :
    ReturnsInHanded {} Try.checked os 6 .any (Rows.codeStaysSpec.pre6 enc Try.prog Try.f6 Rows.codeStaysRow.domain false) (Rows.codeStaysSpec.post enc Try.prog Try.f6 false true false false) := by
  refine returnsInHanded_of_change_sized (C := Try.checked) own started (by kernel_rfl) Try.func6
    (ChangeSpec.witness6 (enc := enc) (C := Try.checked) false ⟨#[], #[.slice none 0 0, .slice none 0 0], []⟩ 8 (by kernel_rfl) (by kernel_rfl) (by kernel_rfl) (by kernel_rfl)) ?_
  intro W base args ds gs before hval0 hW hcnd hsz0 _
  have hval : ∀ (j : Nat) t v, Try.f6.params[j]? = some t → args[j]? = some v → Value.okWide Try.prog W .any base t v := hval0
  have hsz : (DataW.weightsEach Try.prog (Try.f6.params.toList ++ Rows.codeStaysSpec.plain.varTypes Try.prog) (ds ++ gs)).all (· ≤ reachBytes) = true := hsz0
  have hW' := hW
  obtain ⟨p, q, hA0, hV, rfl, hfz, hnd⟩ := hW
  have hA : DataW.TrodAll enc Try.prog W 0 (fun _ => true) true Try.f6.params.toList args.toList ds p := hA0
  rw [Try.params6] at hA hval hsz
  obtain ⟨v0, v1, d0, d1, p0, p1, rfl, rfl, rfl, h0, h1⟩ := trodAll_two hA
  obtain ⟨rfl, rfl⟩ := trodVars_none hV
  obtain ⟨a, l, cap, rfl, hc, hs, hd⟩ := open_bytes (hval 0 27 v0 rfl rfl) h0
  obtain ⟨a', n, cap', rfl, hs', hd'⟩ := open_acts (hval 1 50 v1 rfl rfl) h1
  have hl : l.length ≤ 140737488351232 := by
    rcases hd with rfl | ⟨elems, spare, rfl, he⟩
    · exact Nat.zero_le _
    · have := sized_slice hsz (j := 0) (t := 27) (e := 5) rfl rfl Try.underlying27
      rw [bytesByte] at this
      simp only [reachBytes] at this
      omega
  have hn : n ≤ 140737488351232 := by
    rcases hd' with rfl | ⟨elems, spare, rfl, he⟩
    · exact Nat.zero_le _
    · have := sized_slice hsz (j := 1) (t := 50) (e := 52) rfl rfl Try.underlying50
      rw [show Try.prog.bytesOf 52 = 24 by kernel_rfl] at this
      simp only [reachBytes] at this
      omega
  have hlt : ∀ z ∈ p0, z.block < W.heap.size := fun z hz => hW'.lt z (by simp [hz])
  have hlt1 : ∀ z ∈ p1, z.block < W.heap.size := fun z hz => hW'.lt z (by simp [hz])
  clear hA0 hval0 hcnd hsz0
  simp only [List.append_nil] at hW'
  exact (stays_walk a a' l n cap cap' W hs hl hs' hn).mono fun e W' ⟨he, hb⟩ => by
    subst he
    refine ⟨_, rfl, ⟨_, _, _, [], p0 ++ p1, [], hW', trodAll_mk1 (shut_bool Try.underlying4 _), ?_, rfl, hb.frame _, fun h => by cases h⟩⟩
    exact trodAll_mk2 (Below.trod laidOut (by kernel_rfl) (of_decide_eq_true (by kernel_rfl)) h0 hb hlt) (Below.trod laidOut (by kernel_rfl) (of_decide_eq_true (by kernel_rfl)) h1 hb hlt1)

theorem codeStays_proved : Rows.CodeStaysSaid :=
  OpenClaim.holds_of_wide 6 Try.f6 rfl rfl rfl rfl rfl rfl rfl ⟨rfl, rfl, rfl, rfl, rfl⟩ rfl rfl rfl rfl rfl (by kernel_rfl) Try.func6 (by kernel_rfl)
    (of_decide_eq_true (by kernel_rfl)) (by unfold Func.isWrapper; rw [if_neg (of_decide_eq_false (by kernel_rfl))]; exact ⟨rfl, rfl⟩)
    (fun os started H enc _ => codeStays_lifted os started H enc)
end Go.Proofs.Ytbclmgakifmgfaa
