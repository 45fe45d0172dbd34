/-
  What a bound on the arguments' bulk gives.
-/
import Derived.Test.YtbclmgakifmgfaaRows
import Derived.Test.YtbclmgakifmgfaaCWriter
namespace Go.Proofs.Ytbclmgakifmgfaa

theorem bulk_le {H : Type} {l : List (DataW H)} (hk : Rows.uptoSmall H l = true) : Rows.uptoBulkAll l ≤ 1048576 := of_decide_eq_true hk
theorem bulk_pos {H : Type} (d : DataW H) : 1 ≤ Rows.uptoBulk d := by
  cases d with
  | lit l => cases l <;> simp [Rows.uptoBulk]
  | nil => simp [Rows.uptoBulk]
  | ptr d => simp [Rows.uptoBulk]
  | slice elems spare => simp [Rows.uptoBulk]
  | agg parts => simp [Rows.uptoBulk]
  | iface t d => simp [Rows.uptoBulk]
  | map entries => simp [Rows.uptoBulk]
  | held h => simp [Rows.uptoBulk]
theorem bulk_count {H : Type} (l : List (DataW H)) : l.length ≤ Rows.uptoBulkAll l := by
  induction l with
  | nil => simp [Rows.uptoBulkAll]
  | cons x r ih => have := bulk_pos x; simp only [Rows.uptoBulkAll, List.length_cons]; omega
theorem bulk_slice {H : Type} (elems spare : List (DataW H)) : elems.length + 1 ≤ Rows.uptoBulk (.slice elems spare) := by
  have := bulk_count elems
  simp only [Rows.uptoBulk]
  omega
theorem bulk_list {H : Type} {d : DataW H} {ns : List Int} (h : ns = [] ∨ ∃ elems spare, d = .slice elems spare ∧ elems.length = ns.length) : ns.length ≤ Rows.uptoBulk d := by
  rcases h with rfl | ⟨elems, spare, rfl, he⟩
  · exact Nat.zero_le _
  · have := bulk_slice elems spare
    omega
theorem bulk_strings {H : Type} (ts : List (List UInt8)) (h : Rows.uptoBulkAll (ts.map fun t => (.lit (.string t) : DataW H)) ≤ 1048576) : ts.length ≤ Rows.uptoBulkAll (ts.map fun t => (.lit (.string t) : DataW H)) ∧ (ts.flatMap tb).length ≤ 11 * Rows.uptoBulkAll (ts.map fun t => (.lit (.string t) : DataW H)) := by
  induction ts with
  | nil => exact ⟨Nat.zero_le _, Nat.zero_le _⟩
  | cons t r ih =>
    simp only [List.map_cons, Rows.uptoBulkAll, Rows.uptoBulk] at h ⊢
    have ih := ih (by omega)
    have := nb_ten (t.length : Int) (by omega) (by omega)
    rw [List.flatMap_cons, List.length_append, List.length_cons]
    unfold tb
    rw [List.length_append]
    have e : (r.flatMap fun t => nb (t.length : Int) ++ t).length = (r.flatMap tb).length := rfl
    omega
theorem bulk_texts {H : Type} {d : DataW H} {ts : List (List UInt8)} (h : ts = [] ∨ ∃ spare, d = .slice (ts.map fun t => .lit (.string t)) spare) (hd : Rows.uptoBulk d ≤ 1048576) : ts.length ≤ Rows.uptoBulk d ∧ (ts.flatMap tb).length ≤ 11 * Rows.uptoBulk d := by
  rcases h with rfl | ⟨spare, rfl⟩
  · exact ⟨Nat.zero_le _, Nat.zero_le _⟩
  · simp only [Rows.uptoBulk] at hd ⊢
    have := bulk_strings (H := H) ts (by omega)
    omega
end Go.Proofs.Ytbclmgakifmgfaa
