/-
  Which numbers are come to from a number, by way of pairs (a number, its jobs): two ways of finding out, plain.
-/
import Derived.Test.YtpelmclgkkhjeaaDoorDMath
namespace Go.Proofs.YtpelmclgkkhjeaaDoor

/-- A number's jobs; one that is not there has none. -/
def edges (g : List (Int × List Int)) (x : Int) : List Int := (look g x).getD []
/-- What is come to from a, by one step or more. -/
inductive From (g : List (Int × List Int)) (a : Int) : Int → Prop
  | one {y : Int} : y ∈ edges g a → From g a y
  | step {y z : Int} : From g a y → z ∈ edges g y → From g a z
/-- Numbers gone on from, and numbers to go on from. -/
structure Dfs (g : List (Int × List Int)) (a : Int) (S O : List Int) : Prop where
  opened : ∀ y ∈ O, From g a y
  other : ∀ y ∈ S, From g a y ∧ y ≠ a
  next : ∀ y ∈ S, ∀ z ∈ edges g y, z ∈ S ∨ z ∈ O
  first : ∀ z ∈ edges g a, z ∈ S ∨ z ∈ O
section
variable {g : List (Int × List Int)} {a j : Int} {S O T D : List Int}
theorem Dfs.start : Dfs g a [] (edges g a) := ⟨fun _ h => .one h, by simp, by simp, fun _ h => .inr h⟩
theorem Dfs.found (h : Dfs g a S (O ++ [a])) : From g a a := h.opened a (by simp)
theorem Dfs.skip (h : Dfs g a S (O ++ [j])) (hj : j ∈ S) : Dfs g a S O := by
  have k : ∀ z, z ∈ S ∨ z ∈ O ++ [j] → z ∈ S ∨ z ∈ O := by
    rintro z (h | h)
    · exact .inl h
    · rcases List.mem_append.1 h with h | h
      · exact .inr h
      · have : z = j := by simpa using h
        subst this
        exact .inl hj
  exact ⟨fun y hy => h.opened y (by simp [hy]), h.other, fun y hy z hz => k z (h.next y hy z hz), fun z hz => k z (h.first z hz)⟩
theorem Dfs.push (h : Dfs g a S (O ++ [j])) (hj : j ≠ a) : Dfs g a (S ++ [j]) (O ++ edges g j) := by
  have k : ∀ z, z ∈ S ∨ z ∈ O ++ [j] → z ∈ S ++ [j] ∨ z ∈ O ++ edges g j := by
    rintro z (h | h)
    · exact .inl (by simp [h])
    · rcases List.mem_append.1 h with h | h
      · exact .inr (by simp [h])
      · exact .inl (by simpa using .inr (by simpa using h))
  refine ⟨fun y hy => ?_, fun y hy => ?_, fun y hy z hz => ?_, fun z hz => k z (h.first z hz)⟩
  · rcases List.mem_append.1 hy with hy | hy
    · exact h.opened y (by simp [hy])
    · exact .step (h.opened j (by simp)) hy
  · rcases List.mem_append.1 hy with hy | hy
    · exact h.other y hy
    · have : y = j := by simpa using hy
      rw [this]
      exact ⟨h.opened j (by simp), hj⟩
  · rcases List.mem_append.1 hy with hy | hy
    · exact k z (h.next y hy z hz)
    · have : y = j := by simpa using hy
      rw [this] at hz
      exact .inr (by simp [hz])
theorem Dfs.done (h : Dfs g a S []) : ¬ From g a a := by
  have k : ∀ z, From g a z → z ∈ S := fun z hz => by
    induction hz with
    | one h1 => simpa using h.first _ h1
    | step _ h1 ih => simpa using h.next _ ih _ h1
  exact fun e => (h.other a (k a e)).2 rfl

/-- A list of numbers to go through, its first i gone through; of the next one's jobs these are met. -/
structure Bfs (g : List (Int × List Int)) (a : Int) (T : List Int) (i : Nat) (D : List Int) : Prop where
  head : a ∈ T
  mem : ∀ y ∈ T, y = a ∨ From g a y
  closed : ∀ k (h : k < T.length), k < i → ∀ z ∈ edges g T[k], z ∈ T ∧ z ≠ a
  met : ∀ z ∈ D, z ∈ T ∧ z ≠ a
theorem Bfs.start : Bfs g a [a] 0 [] := ⟨by simp, fun y h => .inl (by simpa using h), fun _ _ h => absurd h (Nat.not_lt_zero _), by simp⟩
theorem Bfs.found {i : Nat} (h : Bfs g a T i D) (hi : i < T.length) (hj : a ∈ edges g T[i]) : From g a a := by
  rcases h.mem T[i] (List.getElem_mem hi) with e | e
  · rw [e] at hj
    exact .one hj
  · exact .step e hj
theorem Bfs.there {i : Nat} (h : Bfs g a T i D) (hj : j ∈ T) (hn : j ≠ a) : Bfs g a T i (D ++ [j]) := by
  refine { h with met := fun z hz => ?_ }
  rcases List.mem_append.1 hz with hz | hz
  · exact h.met z hz
  · have : z = j := by simpa using hz
    rw [this]
    exact ⟨hj, hn⟩
theorem Bfs.put {i : Nat} (h : Bfs g a T i D) (hi : i < T.length) (hj : j ∈ edges g T[i]) (hn : j ≠ a) : Bfs g a (T ++ [j]) i (D ++ [j]) := by
  refine ⟨by simp [h.head], fun y hy => ?_, fun k hk hki z hz => ?_, fun z hz => ?_⟩
  · rcases List.mem_append.1 hy with hy | hy
    · exact h.mem y hy
    · have : y = j := by simpa using hy
      rw [this]
      rcases h.mem T[i] (List.getElem_mem hi) with e | e
      · rw [e] at hj
        exact .inr (.one hj)
      · exact .inr (.step e hj)
  · rw [List.getElem_append_left (by omega)] at hz
    obtain ⟨h1, h2⟩ := h.closed k (by omega) hki z hz
    exact ⟨by simp [h1], h2⟩
  · rcases List.mem_append.1 hz with hz | hz
    · obtain ⟨h1, h2⟩ := h.met z hz
      exact ⟨by simp [h1], h2⟩
    · have : z = j := by simpa using hz
      rw [this]
      exact ⟨by simp, hn⟩
/-- The next one is gone through, all its jobs met. -/
theorem Bfs.next {i : Nat} (h : Bfs g a T i D) (hi : i < T.length) (hD : ∀ z ∈ edges g T[i], z ∈ D) : Bfs g a T (i + 1) [] := by
  refine { h with closed := fun k hk hki z hz => ?_, met := by simp }
  by_cases e : k = i
  · subst e
    exact h.met z (hD z hz)
  · exact h.closed k hk (by omega) z hz
theorem Bfs.done (h : Bfs g a T T.length []) : ¬ From g a a := by
  have k : ∀ z, From g a z → z ∈ T ∧ z ≠ a := fun z hz => by
    induction hz with
    | one h1 =>
      obtain ⟨n, hn, e⟩ := List.getElem_of_mem h.head
      exact h.closed n hn hn _ (by rw [e]; exact h1)
    | step _ h1 ih =>
      obtain ⟨n, hn, e⟩ := List.getElem_of_mem ih.1
      exact h.closed n hn hn _ (by rw [e]; exact h1)
  exact fun e => (k a e).2 rfl
end
/-! How long it takes. -/
theorem nodup_len : ∀ (t u : List Int), t.Nodup → (∀ x ∈ t, x ∈ u) → t.length ≤ u.length
  | [], _, _, _ => Nat.zero_le _
  | x :: t, u, h, hs => by
    obtain ⟨h1, h2⟩ := List.nodup_cons.1 h
    have hx := hs x (by simp)
    have := nodup_len t (u.erase x) h2 fun y hy => by
      have : y ≠ x := fun e => h1 (e ▸ hy)
      exact (List.mem_erase_of_ne this).2 (hs y (by simp [hy]))
    rw [List.length_erase_of_mem hx] at this
    have := List.length_pos_of_mem hx
    rw [List.length_cons]
    omega
theorem look_mem {α : Type} {g : List (Int × α)} {x : Int} {v : α} (h : look g x = some v) : (x, v) ∈ g := by
  induction g with
  | nil => cases h
  | cons y r ih =>
    unfold look at h
    by_cases e : y.1 = x
    · rw [if_pos e] at h
      have : y.2 = v := Option.some.inj h
      rw [← e, ← this]
      simp
    · rw [if_neg e] at h
      simp [ih h]
theorem edges_sub {g : List (Int × List Int)} {x z : Int} (h : z ∈ edges g x) : z ∈ g.flatMap fun e => e.2 := by
  unfold edges at h
  cases e : look g x with
  | none => rw [e] at h; simp at h
  | some js =>
    rw [e] at h
    exact List.mem_flatMap.2 ⟨_, look_mem e, h⟩
theorem From.sub {g : List (Int × List Int)} {a z : Int} (h : From g a z) : z ∈ g.flatMap fun e => e.2 := by
  cases h with
  | one h => exact edges_sub h
  | step _ h => exact edges_sub h
/-- There is room for one more to go on from. -/
theorem Dfs.room {g : List (Int × List Int)} {a j : Int} {S O : List Int} (h : Dfs g a S (O ++ [j])) (hn : S.Nodup) (hj : j ∉ S) : S.length + 1 ≤ (g.flatMap fun e => e.2).length ∧ (S ++ [j]).Nodup := by
  have hd : (S ++ [j]).Nodup := List.nodup_append.2 ⟨hn, by simp, fun x hx y hy e => by
    have : y = j := by simpa using hy
    exact hj (by rw [← this, ← e]; exact hx)⟩
  refine ⟨?_, hd⟩
  have := nodup_len (S ++ [j]) (g.flatMap fun e => e.2) hd fun x hx => by
    rcases List.mem_append.1 hx with hx | hx
    · exact (h.other x hx).1.sub
    · exact (h.opened x (by simpa using .inr (by simpa using hx))).sub
  rwa [List.length_append, List.length_singleton] at this
theorem Bfs.short {g : List (Int × List Int)} {a : Int} {T D : List Int} {i : Nat} (h : Bfs g a T i D) (hn : T.Nodup) : T.length ≤ (g.flatMap fun e => e.2).length + 1 :=
  nodup_len T (a :: g.flatMap fun e => e.2) hn fun x hx => by
    rcases h.mem x hx with e | e
    · simp [e]
    · exact List.mem_cons_of_mem _ e.sub
end Go.Proofs.YtpelmclgkkhjeaaDoor
