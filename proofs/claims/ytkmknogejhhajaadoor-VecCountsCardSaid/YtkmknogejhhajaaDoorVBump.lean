/-
  Plain mathematics: one counted more, in a list that counts.
-/
import Derived.Test.YtkmknogejhhajaaDoorVMap
namespace Go.Proofs.YtkmknogejhhajaaDoor

theorem look_app (a b : Tal) (u : V3) : look (a ++ b) u = look a u + look b u := by
  induction a with
  | nil => simp [look]
  | cons x r ih => rw [List.cons_append, look, look, ih]; omega
theorem look_set {v : V3} : ∀ {t : Tal} {k n : Nat} (hk : k < t.length), t[k] = (v, n) → ∀ u, look (t.set k (v, n + 1)) u = look t u + if v = u then 1 else 0
  | [], _, _, hk, _ => by cases hk
  | x :: r, 0, n, _, h => fun u => by
    have hx : x = (v, n) := h
    subst hx
    rw [List.set_cons_zero, look, look]
    by_cases e : v = u
    · rw [if_pos e, if_pos e, if_pos e]; omega
    · simp only [if_neg e]; omega
  | x :: r, k + 1, n, hk, h => fun u => by
    rw [List.set_cons_succ, look, look_set (t := r) (k := k) (by simpa using hk) (by simpa using h) u, look]
    omega
/-- A list that counts: each vector once, each at least once counted. -/
def Cnt (t : Tal) (l : List V3) : Prop := (∀ u, look t u = l.count u) ∧ (∀ x ∈ t, 0 < x.2) ∧ (t.map fun x => x.1).Nodup
theorem Cnt.nil : Cnt [] [] := ⟨(fun u => by simp [look]), (fun x hx => by cases hx), List.nodup_nil⟩
theorem Cnt.bump {t : Tal} {l : List V3} (h : Cnt t l) (v : V3) : Cnt (bump v t) (l ++ [v]) := by
  obtain ⟨h1, h2, h3⟩ := h
  have hcount : ∀ u, (l ++ [v]).count u = l.count u + if v = u then 1 else 0 := fun u => by
    rw [List.count_append, List.count_singleton]
    by_cases e : v = u
    · simp [e]
    · simp [e]
  unfold Go.Proofs.YtkmknogejhhajaaDoor.bump
  cases hl : findT v t 0 with
  | some y =>
    obtain ⟨k, n⟩ := y
    obtain ⟨_, hk, hkt⟩ := findT_at hl
    simp only [Nat.sub_zero] at hk hkt
    refine ⟨fun u => by rw [look_set hk hkt u, h1, hcount], fun x hx => ?_, ?_⟩
    · rcases List.mem_or_eq_of_mem_set hx with hx | rfl
      · exact h2 x hx
      · exact Nat.succ_pos _
    · have e : (t.set k (v, n + 1)).map (fun x => x.1) = t.map fun x => x.1 := by
        rw [List.map_set]
        apply List.ext_getElem?
        intro i
        rw [List.getElem?_set]
        split
        · rename_i e
          subst e
          rw [List.length_map, if_pos hk, List.getElem?_map, List.getElem?_eq_getElem hk, hkt]
          rfl
        · rfl
      show ((t.set k (v, n + 1)).map fun (x : V3 × Nat) => x.1).Nodup
      rw [e]
      exact h3
  | none =>
    refine ⟨fun u => by rw [look_app, h1, hcount]; simp [look], fun x hx => ?_, ?_⟩
    · rcases List.mem_append.1 hx with hx | hx
      · exact h2 x hx
      · rw [List.mem_singleton.1 hx]; exact Nat.one_pos
    · show ((t ++ [(v, 1)]).map fun (x : V3 × Nat) => x.1).Nodup
      rw [List.map_append, List.nodup_append]
      refine ⟨h3, by simp, fun x hx y hy e => ?_⟩
      obtain ⟨z, hz, rfl⟩ := List.mem_map.1 hx
      exact findT_not hl z hz (e.trans (by simpa using hy))
/-- Sorted, it is the document's list. -/
theorem Cnt.sorted {t s : Tal} {l : List V3} (h : Cnt t l) (hp : s.Perm t) (hs : s.Pairwise fun a b => lt3 b.1 a.1 = false) : s = tally l := by
  obtain ⟨h1, h2, h3⟩ := h
  have hn : (s.map fun x => x.1).Nodup := (hp.map _).nodup_iff.2 h3
  refine tally_eq h1 h2 hp ?_
  have hd : s.Pairwise fun a b => a.1 ≠ b.1 := List.pairwise_map.1 hn
  refine List.Pairwise.imp₂ (fun a b h1 h2 => ?_) hs hd
  rcases lt_tri a.1 b.1 with h | h | h
  · exact h
  · exact absurd h h2
  · rw [h] at h1; cases h1
end Go.Proofs.YtkmknogejhhajaaDoor
