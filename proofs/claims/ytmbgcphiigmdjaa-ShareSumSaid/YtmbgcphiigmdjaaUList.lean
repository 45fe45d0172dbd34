/-
  Lists of names with what they stand for: what a name stands for, a name put.
-/
import Derived.Test.YtmbgcphiigmdjaaDBase
namespace Go.Proofs.Ytmbgcphiigmdjaa

abbrev Str := List UInt8
section
variable {α β : Type} {s t : Str} {u : α} {L : List (Str × α)}
def lookG (s : Str) : List (Str × α) → Option α
  | [] => none
  | x :: r => if x.1 = s then some x.2 else lookG s r
def putG (s : Str) (u : α) : List (Str × α) → List (Str × α)
  | [] => [(s, u)]
  | x :: r => if x.1 = s then (s, u) :: r else x :: putG s u r
theorem lookG_map (f : α → β) : lookG s (L.map fun x => (x.1, f x.2)) = (lookG s L).map f := by
  induction L with
  | nil => rfl
  | cons x r ih =>
    rw [List.map_cons, lookG, lookG]
    by_cases h : x.1 = s
    · rw [if_pos h, if_pos h]; rfl
    · rw [if_neg h, if_neg h, ih]
theorem putG_map (f : α → β) : putG s (f u) (L.map fun x => (x.1, f x.2)) = (putG s u L).map fun x => (x.1, f x.2) := by
  induction L with
  | nil => rfl
  | cons x r ih =>
    rw [List.map_cons, putG, putG]
    by_cases h : x.1 = s
    · rw [if_pos h, if_pos h]; rfl
    · rw [if_neg h, if_neg h, ih]; rfl
theorem lookG_mem (h : lookG s L = some u) : (s, u) ∈ L := by
  induction L with
  | nil => cases h
  | cons x r ih =>
    rw [lookG] at h
    by_cases hx : x.1 = s
    · rw [if_pos hx] at h
      injection h with h
      obtain ⟨a, b⟩ := x
      simp only at hx h
      subst hx h
      exact List.mem_cons_self ..
    · rw [if_neg hx] at h
      exact List.mem_cons_of_mem _ (ih h)
theorem lookG_none : lookG s L = none ↔ s ∉ L.map Prod.fst := by
  induction L with
  | nil => simp [lookG]
  | cons x r ih =>
    rw [lookG]
    by_cases hx : x.1 = s
    · rw [if_pos hx]; simp [hx]
    · rw [if_neg hx, ih]; simp [Ne.symm hx]
theorem mem_lookG (hn : (L.map Prod.fst).Nodup) (h : (s, u) ∈ L) : lookG s L = some u := by
  induction L with
  | nil => cases h
  | cons x r ih =>
    rw [List.map_cons, List.nodup_cons] at hn
    rw [lookG]
    rcases List.mem_cons.1 h with rfl | h
    · rw [if_pos rfl]
    · rw [if_neg fun e => hn.1 (by rw [e]; exact List.mem_map_of_mem (f := Prod.fst) h), ih hn.2 h]
theorem putG_keys : (putG s u L).map Prod.fst = if (lookG s L).isSome then L.map Prod.fst else L.map Prod.fst ++ [s] := by
  induction L with
  | nil => rfl
  | cons x r ih =>
    rw [putG, lookG]
    by_cases hx : x.1 = s
    · rw [if_pos hx, if_pos hx, if_pos (by rfl), List.map_cons, List.map_cons, hx]
    · rw [if_neg hx, if_neg hx, List.map_cons, ih, List.map_cons]
      split <;> rfl
theorem putG_len : (putG s u L).length = if (lookG s L).isSome then L.length else L.length + 1 := by
  have h := congrArg List.length (putG_keys (s := s) (u := u) (L := L))
  rw [List.length_map] at h
  rw [h]
  split <;> simp
theorem putG_nodup (hn : (L.map Prod.fst).Nodup) : ((putG s u L).map Prod.fst).Nodup := by
  rw [putG_keys]
  cases h : lookG s L with
  | some v => exact hn
  | none =>
    have := lookG_none.1 h
    rw [if_neg (by simp), List.nodup_append]
    exact ⟨hn, by simp, fun a ha b hb e => this (by rw [List.mem_singleton.1 hb] at e; exact e ▸ ha)⟩
theorem putG_mem {x : Str × α} (h : x ∈ putG s u L) : x = (s, u) ∨ x ∈ L := by
  induction L with
  | nil => exact .inl (List.mem_singleton.1 h)
  | cons y r ih =>
    rw [putG] at h
    by_cases hy : y.1 = s
    · rw [if_pos hy] at h
      rcases List.mem_cons.1 h with h | h
      · exact .inl h
      · exact .inr (List.mem_cons_of_mem _ h)
    · rw [if_neg hy] at h
      rcases List.mem_cons.1 h with rfl | h
      · exact .inr (List.mem_cons_self ..)
      · rcases ih h with h | h
        · exact .inl h
        · exact .inr (List.mem_cons_of_mem _ h)
theorem lookG_put : lookG t (putG s u L) = if s = t then some u else lookG t L := by
  induction L with
  | nil => rfl
  | cons x r ih =>
    rw [putG]
    by_cases hx : x.1 = s
    · rw [if_pos hx, lookG, lookG]
      by_cases h : s = t
      · rw [if_pos h, if_pos h]
      · rw [if_neg h, if_neg h, if_neg (by rw [hx]; exact h)]
    · rw [if_neg hx, lookG, ih, lookG]
      by_cases h : s = t
      · subst h
        rw [if_neg hx, if_pos rfl, if_pos rfl]
      · rw [if_neg h]
        rw [if_neg h]
end
end Go.Proofs.Ytmbgcphiigmdjaa
