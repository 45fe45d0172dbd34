/-
  Plain mathematics: vectors, counted, in their order. No model in it.
-/
import Derived.Test.YtkmknogejhhajaaDoorVInto
namespace Go.Proofs.YtkmknogejhhajaaDoor

/-- Which comes ahead. -/
def lt3 (u v : V3) : Bool := less3 u.1 u.2.1 u.2.2 v.1 v.2.1 v.2.2
theorem lt_iff {u v : V3} : lt3 u v = true ↔ u.1 < v.1 ∨ (u.1 = v.1 ∧ (u.2.1 < v.2.1 ∨ (u.2.1 = v.2.1 ∧ u.2.2 < v.2.2))) := by
  unfold lt3 less3
  split
  · simp; omega
  · split
    · simp; omega
    · simp; omega
theorem lt_irr (u : V3) : lt3 u u = false := by
  cases h : lt3 u u with
  | false => rfl
  | true => rcases lt_iff.1 h with h | ⟨_, h | ⟨_, h⟩⟩ <;> omega
theorem lt_trans {u v x : V3} (h : lt3 u v = true) (k : lt3 v x = true) : lt3 u x = true := by
  have := lt_iff.1 h
  have := lt_iff.1 k
  exact lt_iff.2 (by omega)
theorem lt_tri (u v : V3) : lt3 u v = true ∨ u = v ∨ lt3 v u = true := by
  by_cases h : lt3 u v = true
  · exact .inl h
  · by_cases k : lt3 v u = true
    · exact .inr (.inr k)
    · refine .inr (.inl ?_)
      rw [lt_iff] at h k
      obtain ⟨a, b, c⟩ := u
      obtain ⟨d, e, f⟩ := v
      simp only at h k
      have e1 : a = d := by omega
      have e2 : b = e := by omega
      have e3 : c = f := by omega
      subst e1 e2 e3
      rfl
/-- A list of vectors, each with how many there are. -/
abbrev Tal := List (V3 × Nat)
/-- How many of one a list says. -/
def look : Tal → V3 → Nat
  | [], _ => 0
  | x :: r, u => (if x.1 = u then x.2 else 0) + look r u
/-- One vector more. -/
def ins (v : V3) : Tal → Tal
  | [] => [(v, 1)]
  | x :: r => if lt3 x.1 v = true then x :: ins v r else if x.1 = v then (x.1, x.2 + 1) :: r else (v, 1) :: x :: r
def tally (l : List V3) : Tal := l.foldl (fun t v => ins v t) []
theorem tally_snoc (l : List V3) (v : V3) : tally (l ++ [v]) = ins v (tally l) := by simp [tally, List.foldl_append]
def Ord (t : Tal) : Prop := t.Pairwise (fun a b => lt3 a.1 b.1 = true) ∧ ∀ x ∈ t, 0 < x.2
theorem look_ins (v u : V3) (t : Tal) : look (ins v t) u = look t u + if v = u then 1 else 0 := by
  induction t with
  | nil => simp [ins, look]
  | cons x r ih =>
    unfold ins
    split
    · simp only [look, ih]; omega
    · split
      · rename_i _ e
        subst e
        simp only [look]
        split <;> omega
      · simp only [look]; omega
theorem ins_keys {v : V3} {t : Tal} {x : V3 × Nat} (h : x ∈ ins v t) : x.1 = v ∨ ∃ n, (x.1, n) ∈ t := by
  induction t with
  | nil =>
    simp only [ins, List.mem_singleton] at h
    exact .inl (by rw [h])
  | cons y r ih =>
    unfold ins at h
    split at h
    · rcases List.mem_cons.1 h with rfl | h
      · exact .inr ⟨_, List.mem_cons_self ..⟩
      · rcases ih h with e | ⟨n, e⟩
        · exact .inl e
        · exact .inr ⟨n, List.mem_cons_of_mem _ e⟩
    · split at h
      · rename_i _ e
        rcases List.mem_cons.1 h with rfl | h
        · exact .inl e
        · exact .inr ⟨_, List.mem_cons_of_mem _ h⟩
      · rcases List.mem_cons.1 h with rfl | h
        · exact .inl rfl
        · exact .inr ⟨_, h⟩
theorem ins_pos {v : V3} {t : Tal} (h : ∀ x ∈ t, 0 < x.2) : ∀ x ∈ ins v t, 0 < x.2 := by
  induction t with
  | nil => intro x hx; simp only [ins, List.mem_singleton] at hx; subst hx; exact Nat.one_pos
  | cons y r ih =>
    intro x hx
    unfold ins at hx
    split at hx
    · rcases List.mem_cons.1 hx with rfl | hx
      · exact h _ (List.mem_cons_self ..)
      · exact ih (fun z hz => h z (List.mem_cons_of_mem _ hz)) x hx
    · split at hx
      · rcases List.mem_cons.1 hx with rfl | hx
        · exact Nat.succ_pos _
        · exact h _ (List.mem_cons_of_mem _ hx)
      · rcases List.mem_cons.1 hx with rfl | hx
        · exact Nat.one_pos
        · exact h _ hx
theorem ins_ord {v : V3} {t : Tal} (h : Ord t) : Ord (ins v t) := by
  obtain ⟨h, hp⟩ := h
  refine ⟨?_, ins_pos hp⟩
  clear hp
  induction t with
  | nil => simp [ins]
  | cons x r ih =>
    have hc := List.pairwise_cons.1 h
    unfold ins
    split
    · rename_i hl
      refine List.pairwise_cons.2 ⟨fun y hy => ?_, ih hc.2⟩
      rcases ins_keys hy with e | ⟨n, e⟩
      · rw [e]; exact hl
      · exact hc.1 (y.1, n) e
    · split
      · exact List.pairwise_cons.2 ⟨hc.1, hc.2⟩
      · rename_i hl he
        have hv : lt3 v x.1 = true := by
          rcases lt_tri v x.1 with e | e | e
          · exact e
          · exact absurd e.symm he
          · exact absurd e hl
        refine List.pairwise_cons.2 ⟨fun y hy => ?_, h⟩
        rcases List.mem_cons.1 hy with rfl | hy
        · exact hv
        · exact lt_trans hv (hc.1 y hy)
theorem tally_facts (l : List V3) : Ord (tally l) ∧ ∀ u, look (tally l) u = l.count u := by
  suffices h : ∀ (l : List V3) (t : Tal), Ord t → Ord (l.foldl (fun t v => ins v t) t) ∧ ∀ u, look (l.foldl (fun t v => ins v t) t) u = look t u + l.count u by
    obtain ⟨h1, h2⟩ := h l [] ⟨List.Pairwise.nil, fun x hx => by simp at hx⟩
    exact ⟨h1, fun u => by rw [show tally l = l.foldl (fun t v => ins v t) [] from rfl, h2 u]; simp [look]⟩
  intro l
  induction l with
  | nil => intro t ht; exact ⟨ht, fun u => by simp⟩
  | cons v r ih =>
    intro t ht
    obtain ⟨h1, h2⟩ := ih (ins v t) (ins_ord ht)
    refine ⟨h1, fun u => ?_⟩
    rw [List.foldl_cons, h2 u, look_ins, List.count_cons]
    by_cases e : v = u
    · subst e; simp; omega
    · simp [e]
theorem look_above {t : Tal} {u : V3} (h : ∀ x ∈ t, lt3 u x.1 = true) : look t u = 0 := by
  induction t with
  | nil => rfl
  | cons x r ih =>
    unfold look
    rw [ih (fun y hy => h y (List.mem_cons_of_mem _ hy)), if_neg]
    intro e
    have := h x (List.mem_cons_self ..)
    rw [e, lt_irr] at this
    cases this
/-- An ordered list is told by how many of each it says. -/
theorem ord_eq : ∀ {A B : Tal}, Ord A → Ord B → (∀ u, look A u = look B u) → A = B
  | [], [], _, _, _ => rfl
  | [], y :: s, _, hB, h => by
    have := h y.1
    have hp := hB.2 y (List.mem_cons_self ..)
    simp only [look, if_true] at this
    omega
  | x :: r, [], hA, _, h => by
    have := h x.1
    have hp := hA.2 x (List.mem_cons_self ..)
    simp only [look, if_true] at this
    omega
  | x :: r, y :: s, hA, hB, h => by
    have ca := List.pairwise_cons.1 hA.1
    have cb := List.pairwise_cons.1 hB.1
    have pa := hA.2 x (List.mem_cons_self ..)
    have pb := hB.2 y (List.mem_cons_self ..)
    have e : x.1 = y.1 := by
      rcases lt_tri x.1 y.1 with e | e | e
      · have := h x.1
        rw [look_above (t := y :: s) (fun z hz => by
          rcases List.mem_cons.1 hz with rfl | hz
          · exact e
          · exact lt_trans e (cb.1 z hz))] at this
        simp only [look, if_true] at this
        omega
      · exact e
      · have := h y.1
        rw [look_above (t := x :: r) (fun z hz => by
          rcases List.mem_cons.1 hz with rfl | hz
          · exact e
          · exact lt_trans e (ca.1 z hz))] at this
        simp only [look, if_true] at this
        omega
    have q1 : look r x.1 = 0 := look_above ca.1
    have q2 : look s x.1 = 0 := look_above (by rw [e]; exact cb.1)
    have e2 : x.2 = y.2 := by
      have := h x.1
      simp only [look, if_true, e] at this
      rw [e] at q1 q2
      omega
    have hx : x = y := Prod.ext e e2
    subst hx
    rw [ord_eq (A := r) (B := s) ⟨ca.2, fun z hz => hA.2 z (List.mem_cons_of_mem _ hz)⟩ ⟨cb.2, fun z hz => hB.2 z (List.mem_cons_of_mem _ hz)⟩ (fun u => by
      have := h u
      simp only [look] at this
      omega)]
theorem look_perm {A B : Tal} (h : A.Perm B) (u : V3) : look A u = look B u := by
  induction h with
  | nil => rfl
  | cons x _ ih => simp only [look, ih]
  | swap x y r => simp only [look]; omega
  | trans _ _ i1 i2 => rw [i1, i2]
/-- What sorting the counted ones comes to: the document's list. -/
theorem tally_eq {l : List V3} {E A : Tal} (hE : ∀ u, look E u = l.count u) (hp : ∀ x ∈ E, 0 < x.2) (hA : A.Perm E) (hs : A.Pairwise (fun a b => lt3 a.1 b.1 = true)) : A = tally l :=
  ord_eq ⟨hs, fun x hx => hp x (hA.mem_iff.1 hx)⟩ (tally_facts l).1 fun u => by rw [look_perm hA, hE, (tally_facts l).2]
end Go.Proofs.YtkmknogejhhajaaDoor
