/-
  Lists of jobs with what they wait for, in memory; the pairs they stand for.
-/
import Derived.Test.YtpelmclgkkhjeaaDoorDLoopM
import Derived.Test.YtpelmclgkkhjeaaDoorDUniq
namespace Go.Proofs.YtpelmclgkkhjeaaDoor
open Go.RowKit

/-- A job's number with what it waits for: any or all, the items. -/
abbrev Dp := Int × Bool × List Itm
/-- The slice at address A reads as these, all below block B. -/
def Deps (w : World) (B : Nat) (A : Option Addr) (l : List Dp) : Prop := ∃ xs, SegC w B A xs ∧ xs.length = l.length * 3 ∧ ∀ k (h : k < l.length), xs[k * 3]? = some (.int .i64 l[k].1) ∧ xs[k * 3 + 1]? = some (.bool l[k].2.1) ∧
  ∃ A' c, xs[k * 3 + 2]? = some (.slice A' l[k].2.2.length c) ∧ l[k].2.2.length ≤ c ∧ c ≤ maxLen ∧ Its w B A' l[k].2.2
section
variable {w w' : World} {B B' : Nat} {A : Option Addr} {l : List Dp}
theorem Deps.below (h : Deps w B A l) (hb : Below B w w') : Deps w' B A l := by
  obtain ⟨xs, h1, h2, h3⟩ := h
  refine ⟨xs, h1.below hb, h2, fun k hk => ?_⟩
  obtain ⟨a, b, A', c, d, e, f, g⟩ := h3 k hk
  exact ⟨a, b, A', c, d, e, f, g.below hb⟩
theorem Deps.more (h : Deps w B A l) (hB : B ≤ B') : Deps w B' A l := by
  obtain ⟨xs, h1, h2, h3⟩ := h
  refine ⟨xs, h1.more hB, h2, fun k hk => ?_⟩
  obtain ⟨a, b, A', c, d, e, f, g⟩ := h3 k hk
  exact ⟨a, b, A', c, d, e, f, g.more hB⟩
theorem Deps.at_ (h : Deps w B A l) {k : Nat} (hk : k < l.length) : ∃ b o, A = some ⟨b, o, none⟩ ∧ b < B ∧ w.cell? ⟨b, o + k * 3, none⟩ = some (.int .i64 l[k].1) ∧ w.cell? ⟨b, o + k * 3 + 1, none⟩ = some (.bool l[k].2.1) ∧
    ∃ A' c, w.cell? ⟨b, o + k * 3 + 2, none⟩ = some (.slice A' l[k].2.2.length c) ∧ l[k].2.2.length ≤ c ∧ c ≤ maxLen ∧ Its w B A' l[k].2.2 := by
  obtain ⟨xs, h1, h2, h3⟩ := h
  obtain ⟨b, o, rfl, hb, hc⟩ := h1 (by omega)
  obtain ⟨a0, a1, A', c, e, d, f, g⟩ := h3 k hk
  refine ⟨b, o, rfl, hb, ?_, ?_, A', c, ?_, d, f, g⟩
  · obtain ⟨hj, e0⟩ := List.getElem?_eq_some_iff.1 a0
    rw [hc _ hj, e0]
  · obtain ⟨hj, e0⟩ := List.getElem?_eq_some_iff.1 a1
    rw [Nat.add_assoc, hc _ hj, e0]
  · obtain ⟨hj, e0⟩ := List.getElem?_eq_some_iff.1 e
    rw [Nat.add_assoc, hc _ hj, e0]
end
/-- The pairs: each job with the jobs that it waits for. -/
def grp (l : List Dp) : List (Int × List Int) := l.map fun d => (d.1, insAll (d.2.2.flatMap fun x => x.2))
theorem edges_at {l : List Dp} (hn : (l.map fun d => d.1).Nodup) {k : Nat} (hk : k < l.length) : edges (grp l) l[k].1 = insAll (l[k].2.2.flatMap fun x => x.2) := by
  unfold edges
  suffices h : look (grp l) l[k].1 = some (insAll (l[k].2.2.flatMap fun x => x.2)) by rw [h]; rfl
  induction l generalizing k with
  | nil => cases hk
  | cons d r ih =>
    rw [List.map_cons, List.nodup_cons] at hn
    cases k with
    | zero => exact if_pos rfl
    | succ k =>
      have hk' : k < r.length := by simpa using hk
      have hne : ¬ d.1 = r[k].1 := fun e => hn.1 (e ▸ List.mem_map.2 ⟨r[k], List.getElem_mem hk', rfl⟩)
      rw [List.getElem_cons_succ]
      exact (if_neg hne).trans (ih hn.2 hk')
theorem edges_none {l : List Dp} {x : Int} (h : ∀ k (hk : k < l.length), l[k].1 ≠ x) : edges (grp l) x = [] := by
  cases e : edges (grp l) x with
  | nil => rfl
  | cons z r =>
    unfold edges at e
    cases e2 : look (grp l) x with
    | none => rw [e2] at e; cases e
    | some js =>
      obtain ⟨d, hd, e3⟩ := List.mem_map.1 (look_mem e2)
      obtain ⟨k, hk, e4⟩ := List.getElem_of_mem hd
      exact absurd (by rw [e4]; exact congrArg Prod.fst e3) (h k hk)
/-- All of a number's jobs are met, when each that has its number is gone by. -/
theorem edges_met {l : List Dp} {x : Int} {D : List Int} (h : ∀ k (hk : k < l.length), l[k].1 = x → ∀ z ∈ edges (grp l) x, z ∈ D) : ∀ z ∈ edges (grp l) x, z ∈ D := by
  by_cases h0 : ∃ k, ∃ hk : k < l.length, l[k].1 = x
  · obtain ⟨k, hk, e⟩ := h0
    exact h k hk e
  · rw [edges_none fun k hk e => h0 ⟨k, hk, e⟩]
    simp
end Go.Proofs.YtpelmclgkkhjeaaDoor
