/-
  How long texts and names are; a fault that is none.
-/
import Derived.Test.YtmaoplplaobbbaaDoorHFacts
import Derived.Test.YtmaoplplaobbbaaDoorHAlive
namespace Go.Proofs.YtmaoplplaobbbaaDoor

theorem joinRun_len (B : Nat) (x : List UInt8) (xs : List (List UInt8)) (hb : ∀ y ∈ x :: xs, y.length ≤ B) : (joinRun ((x :: xs).take (runLen x xs))).length ≤ 2 * B + 3 := by
  rcases run_names x xs with h | ⟨p, a, wd, m, hn, hm, h, h6, hp0⟩
  · rw [h]
    have := hb x (by simp)
    show x.length ≤ _
    omega
  · obtain ⟨hx, hw, _, _, _⟩ := number_dig hn
    obtain ⟨g1, g2⟩ := headD_map_range m (fun i => p ++ dig (a + i) wd)
    simp only [Nat.add_zero] at g1
    rw [← hx] at g1
    have hlen : ((x :: xs).take (runLen x xs)).length = m + 1 := by rw [h]; simp
    have hmem : p ++ dig (a + m) wd ∈ x :: xs := by
      refine List.mem_of_mem_take (i := runLen x xs) ?_
      rw [h]
      exact List.mem_map.2 ⟨m, by simp, rfl⟩
    have hyl := hb _ hmem
    have hxl := hb x (by simp)
    unfold joinRun
    rw [if_neg (by omega), h, g1, g2, hn]
    simp only [List.length_append, List.length_cons, List.length_drop, List.length_nil] at hyl ⊢
    omega
theorem pieces_facts (B : Nat) : ∀ (f : Nat) (L : List (List UInt8)), (∀ y ∈ L, y.length ≤ B) → (pieces f L).length ≤ L.length ∧ ∀ d ∈ pieces f L, d.length ≤ 2 * B + 3
  | 0, [], _ => ⟨Nat.le_refl _, fun d hd => by simp [pieces] at hd⟩
  | 0, x :: xs, _ => ⟨Nat.zero_le _, fun d hd => by simp [pieces] at hd⟩
  | f + 1, [], _ => ⟨Nat.le_refl _, fun d hd => by simp [pieces] at hd⟩
  | f + 1, x :: xs, h => by
    obtain ⟨r1, r2⟩ := runLen_le x xs
    obtain ⟨h1, h2⟩ := pieces_facts B f ((x :: xs).drop (runLen x xs)) (fun y hy => h y (List.mem_of_mem_drop hy))
    rw [pieces_some]
    refine ⟨?_, fun d hd => ?_⟩
    · rw [List.length_drop, List.length_cons] at h1
      rw [List.length_cons, List.length_cons]
      omega
    · rcases List.mem_cons.1 hd with rfl | hd
      · exact joinRun_len B x xs h
      · exact h2 d hd
theorem compress_len (B : Nat) (L : List (List UInt8)) (h : ∀ y ∈ L, y.length ≤ B) : (compress L).length ≤ L.length * (2 * B + 4) := by
  obtain ⟨h1, h2⟩ := pieces_facts B L.length L h
  have h3 := join_len (2 * B + 3) (pieces L.length L) h2
  unfold compress
  exact Nat.le_trans h3 (Nat.mul_le_mul_right _ h1)
theorem names_len (p : List UInt8) (rs : List (Nat × Nat × Nat)) (hb : ∀ x ∈ rs, x.1 ≤ x.2.1 ∧ x.2.1 < 1000000 ∧ x.2.2 ≤ 6) : ∀ x ∈ partNames p rs, x.length ≤ p.length + 6 := by
  unfold partNames
  split
  · intro x hx; simp at hx; subst hx; omega
  · intro x hx
    obtain ⟨y, hy, hm⟩ := List.mem_flatMap.1 hx
    unfold spanNames at hm
    obtain ⟨i, hi, rfl⟩ := List.mem_map.1 hm
    obtain ⟨b1, b2, b3⟩ := hb y hy
    have hi := List.mem_range.1 hi
    have := dec_len_le 6 (y.1 + i) (by omega) (by show _ < 1000000; omega)
    rw [List.length_append, dig_len]
    omega
theorem pExpand_more : ∀ (f a : Nat) (r : List UInt8) (ns : List (List UInt8)) (B : Nat), (∀ x ∈ ns, x.length ≤ B) → r.length + 6 ≤ B → (∀ x ∈ (pExpand f a r ns).1, x.length ≤ B) ∧ ((pExpand f a r ns).2 = (0, 0) ∨ (pExpand f a r ns).2.1 ≠ 0)
  | 0, a, r, ns, B, _, _ => ⟨fun x hx => by simp [pExpand] at hx, .inl rfl⟩
  | f + 1, a, r, ns, B, hb, hr => by
    unfold pExpand
    split
    · rename_i e k hp
      exact ⟨fun x hx => by simp at hx, .inr (pPart_bad hp)⟩
    · rename_i x k he
      obtain ⟨p, rs⟩ := x
      obtain ⟨_, _, hp, hpl, hrs⟩ := pPart_ok he
      have hb2 : ∀ x ∈ ns ++ partNames p rs, x.length ≤ B := fun x hx => by
        rcases List.mem_append.1 hx with h | h
        · exact hb x h
        · have := names_len p rs hrs x h
          omega
      split
      · exact ⟨fun x hx => by simp at hx, .inr (by show 5 ≠ 0; decide)⟩
      · split
        · exact ⟨hb2, .inl rfl⟩
        · exact pExpand_more f _ _ _ B hb2 (by rw [List.length_drop]; omega)
theorem expand_more (s : List UInt8) : (∀ x ∈ (expand s).1, x.length ≤ s.length + 6) ∧ ((expand s).2 = (0, 0) ∨ (expand s).2.1 ≠ 0) := by
  unfold expand
  split
  · exact ⟨fun x hx => by simp at hx, .inl rfl⟩
  · exact pExpand_more _ _ _ _ _ (fun x hx => by simp at hx) (Nat.le_refl _)
end Go.Proofs.YtmaoplplaobbbaaDoor
