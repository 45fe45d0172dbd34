/-
  The program's and the document's Jobs come to the same; two slices of numbers compared.
-/
import Derived.Test.YtpelmclgkkhjeaaDoorDRJobs
namespace Go.Proofs.YtpelmclgkkhjeaaDoor
open Go.RowKit

theorem inc_ext : ∀ (a b : List Int), a.Pairwise (· < ·) → b.Pairwise (· < ·) → (∀ x, x ∈ a ↔ x ∈ b) → a = b
  | [], [], _, _, _ => rfl
  | [], y :: b, _, _, h => absurd ((h y).2 (by simp)) (by simp)
  | x :: a, [], _, _, h => absurd ((h x).1 (by simp)) (by simp)
  | x :: a, y :: b, ha, hb, h => by
    obtain ⟨h1, h2⟩ := List.pairwise_cons.1 ha
    obtain ⟨h3, h4⟩ := List.pairwise_cons.1 hb
    have e : x = y := by
      have hx := (h x).1 (by simp)
      have hy := (h y).2 (by simp)
      rcases List.mem_cons.1 hx with e | hx
      · exact e
      · rcases List.mem_cons.1 hy with e | hy
        · exact e.symm
        · have := h3 x hx
          have := h1 y hy
          omega
    subst e
    rw [inc_ext a b h2 h4 fun z => ⟨fun hz => ?_, fun hz => ?_⟩]
    · rcases List.mem_cons.1 ((h z).1 (List.mem_cons_of_mem _ hz)) with e | h'
      · have := h1 z hz
        omega
      · exact h'
    · rcases List.mem_cons.1 ((h z).2 (List.mem_cons_of_mem _ hz)) with e | h'
      · have := h3 z hz
        omega
      · exact h'
theorem upto_inc (d : Array Int) (hs : ∀ i j, i ≤ j → j < d.size → d[i]! ≤ d[j]!) : ∀ m, m ≤ d.size → (Lib.compactUpTo d m).Pairwise (· < ·) ∧ ∀ x, x ∈ Lib.compactUpTo d m ↔ ∃ j, j < m ∧ d[j]! = x
  | 0, _ => by
    refine ⟨by simp [Lib.compactUpTo], fun x => by simp [Lib.compactUpTo]⟩
  | m + 1, hm => by
    obtain ⟨h1, h2⟩ := upto_inc d hs m (by omega)
    rw [Lib.compactUpTo_succ]
    by_cases hk : Lib.keeps d m = true
    · rw [if_pos hk]
      have hk' : m = 0 ∨ d[m]! ≠ d[m - 1]! := by simpa [Lib.keeps] using hk
      refine ⟨List.pairwise_append.2 ⟨h1, by simp, fun x hx y hy => ?_⟩, fun x => ?_⟩
      · have hy' : y = d[m]! := by simpa using hy
        obtain ⟨j, hj, e⟩ := (h2 x).1 hx
        have a1 := hs j (m - 1) (by omega) (by omega)
        have a2 := hs (m - 1) m (by omega) (by omega)
        have a3 : d[m]! ≠ d[m - 1]! := by
          rcases hk' with h | h
          · omega
          · exact h
        omega
      · rw [List.mem_append, h2 x]
        constructor
        · rintro (⟨j, hj, e⟩ | h)
          · exact ⟨j, by omega, e⟩
          · exact ⟨m, by omega, (by simpa using h : x = d[m]!).symm⟩
        · rintro ⟨j, hj, e⟩
          by_cases hjm : j = m
          · exact .inr (by rw [← e, hjm]; simp)
          · exact .inl ⟨j, by omega, e⟩
    · rw [if_neg hk, List.append_nil]
      have hk' : ¬ m = 0 ∧ d[m]! = d[m - 1]! := by simpa [Lib.keeps] using hk
      refine ⟨h1, fun x => ?_⟩
      rw [h2 x]
      constructor
      · rintro ⟨j, hj, e⟩
        exact ⟨j, by omega, e⟩
      · rintro ⟨j, hj, e⟩
        by_cases hjm : j = m
        · exact ⟨m - 1, by omega, by rw [← e, hjm, hk'.2]⟩
        · exact ⟨j, by omega, e⟩
theorem uq_facts (zs : List Int) : (Lib.compact (srt zs)).Pairwise (· < ·) ∧ ∀ x, x ∈ Lib.compact (srt zs) ↔ x ∈ zs := by
  have hp : (srt zs).Pairwise fun a b => a ≤ b := by
    have := List.pairwise_mergeSort (le := fun x y : Int => decide (x ≤ y)) (fun a b c h1 h2 => by simp at *; omega) (fun a b => by simp; omega) zs
    exact this.imp fun h => by simpa using h
  have hs : ∀ i j, i ≤ j → j < (srt zs).toArray.size → (srt zs).toArray[i]! ≤ (srt zs).toArray[j]! := fun i j hij hj => by
    have hj' : j < (srt zs).length := by simpa using hj
    rw [getElem!_pos _ i (by simpa using Nat.lt_of_le_of_lt hij hj'), getElem!_pos _ j hj]
    by_cases e : i = j
    · subst e; exact Int.le_refl _
    · have := List.pairwise_iff_getElem.1 hp i j (by omega) hj' (by omega)
      simpa using this
  obtain ⟨h1, h2⟩ := upto_inc (srt zs).toArray hs (srt zs).length (by simp)
  refine ⟨h1, fun x => ?_⟩
  refine (h2 x).trans ?_
  rw [← List.mem_mergeSort (le := fun x y : Int => decide (x ≤ y)) (l := zs)]
  constructor
  · rintro ⟨j, hj, e⟩
    rw [getElem!_pos _ j (by simpa using hj)] at e
    rw [← e]
    simp
  · intro hx
    obtain ⟨j, hj, e⟩ := List.getElem_of_mem hx
    exact ⟨j, hj, by rw [getElem!_pos _ j (by simpa using hj)]; simpa using e⟩
theorem ahd_split (n : Int) : ∀ out : List Int, ∃ a b, out = a ++ b ∧ ahd out n = a.length ∧ (∀ x ∈ a, x < n) ∧ ∀ y, b.head? = some y → ¬ y < n
  | [] => ⟨[], [], rfl, rfl, by simp, by simp⟩
  | x :: r => by
    by_cases hx : x < n
    · obtain ⟨a, b, e, h1, h2, h3⟩ := ahd_split n r
      refine ⟨x :: a, b, by rw [e]; rfl, ?_, fun y hy => ?_, h3⟩
      · unfold ahd at h1 ⊢
        rw [List.takeWhile_cons, if_pos (by simpa using hx), List.length_cons, List.length_cons, h1]
      · rcases List.mem_cons.1 hy with rfl | hy
        · exact hx
        · exact h2 y hy
    · refine ⟨[], x :: r, rfl, ?_, by simp, fun y hy => ?_⟩
      · unfold ahd
        simp [hx]
      · have : x = y := by simpa using hy
        omega
theorem ins_facts (out : List Int) (n : Int) (h : out.Pairwise (· < ·)) : (refIns out n).Pairwise (· < ·) ∧ ∀ x, x ∈ refIns out n ↔ x ∈ out ∨ x = n := by
  obtain ⟨a, b, rfl, h1, h2, h3⟩ := ahd_split n out
  obtain ⟨p1, p2, p3⟩ := List.pairwise_append.1 h
  unfold refIns
  rw [h1, List.take_left, List.drop_left, List.getElem?_append_right (Nat.le_refl _), Nat.sub_self]
  cases b with
  | nil =>
    rw [if_neg (by simp)]
    refine ⟨List.pairwise_append.2 ⟨p1, by simp, fun x hx y hy => ?_⟩, fun x => by simp⟩
    have : y = n := by simpa using hy
    subst this
    exact h2 x hx
  | cons y b =>
    have hy := h3 y rfl
    obtain ⟨q1, q2⟩ := List.pairwise_cons.1 p2
    by_cases e : y = n
    · subst e
      rw [if_pos (by simp)]
      refine ⟨h, fun x => ⟨fun h => .inl h, ?_⟩⟩
      rintro (h | rfl)
      · exact h
      · simp
    · rw [if_neg (by simpa using e)]
      refine ⟨List.pairwise_append.2 ⟨p1, List.pairwise_cons.2 ⟨fun z hz => ?_, p2⟩, fun x hx z hz => ?_⟩, fun x => by simp only [List.mem_append, List.mem_cons, List.singleton_append]; exact ⟨fun h => by rcases h with h | h | h | h <;> simp [h], fun h => by rcases h with (h | h | h) | h <;> simp [h]⟩⟩
      · rcases List.mem_cons.1 hz with rfl | hz
        · omega
        · have := q1 z hz
          omega
      · rcases List.mem_cons.1 hz with rfl | hz
        · exact h2 x hx
        · exact p3 x hx z hz
theorem insAll_facts (zs : List Int) : (insAll zs).Pairwise (· < ·) ∧ ∀ x, x ∈ insAll zs ↔ x ∈ zs := by
  suffices h : ∀ (zs out : List Int), out.Pairwise (· < ·) → (zs.foldl refIns out).Pairwise (· < ·) ∧ ∀ x, x ∈ zs.foldl refIns out ↔ x ∈ out ∨ x ∈ zs by
    obtain ⟨h1, h2⟩ := h zs [] (by simp)
    exact ⟨h1, fun x => by rw [show insAll zs = zs.foldl refIns [] from rfl, h2 x]; simp⟩
  intro zs
  induction zs with
  | nil => intro out h; exact ⟨h, fun x => by simp⟩
  | cons n r ih =>
    intro out h
    obtain ⟨f1, f2⟩ := ins_facts out n h
    obtain ⟨g1, g2⟩ := ih (refIns out n) f1
    refine ⟨g1, fun x => ?_⟩
    rw [List.foldl_cons, g2 x, f2 x, List.mem_cons, or_assoc]
theorem uq_ins (zs : List Int) : Lib.compact (srt zs) = insAll zs :=
  inc_ext _ _ (uq_facts zs).1 (insAll_facts zs).1 fun x => by rw [(uq_facts zs).2 x, (insAll_facts zs).2 x]

end Go.Proofs.YtpelmclgkkhjeaaDoor
