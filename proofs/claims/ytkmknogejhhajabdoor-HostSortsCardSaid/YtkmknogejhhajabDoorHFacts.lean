/-
  What reading a list's text gives: bounds, names that may be; the names of one range; the probe's text.
-/
import Derived.Test.YtkmknogejhhajabDoorHText
namespace Go.Proofs.YtkmknogejhhajabDoor

theorem pNum_ok {r : List UInt8} {n k : Nat} (h : pNum r = .ok n k) : 1 ≤ k ∧ k ≤ 6 ∧ k ≤ r.length ∧ n < 1000000 := by
  unfold pNum at h
  split at h
  · simp at h
  · split at h
    · simp at h
    · injection h with h1 h2
      have hp := (List.takeWhile_prefix isDig (l := r)).length_le
      have hd := dval_lt _ (r.takeWhile isDig) rfl List.all_takeWhile
      have : (10 : Nat) ^ (r.takeWhile isDig).length ≤ 10 ^ 6 := Nat.pow_le_pow_right (by decide) (by omega)
      omega
theorem pRange_ok {r : List UInt8} {a b w k : Nat} (h : pRange r = .ok (a, b, w) k) : 1 ≤ k ∧ k ≤ r.length ∧ a ≤ b ∧ b < 1000000 ∧ w ≤ 6 := by
  unfold pRange at h
  split at h
  · simp at h
  · rename_i a' k' he
    obtain ⟨h1, h2, h3, h4⟩ := pNum_ok he
    split at h
    · unfold pSecond at h
      split at h
      · simp at h
      · rename_i b' j hj
        obtain ⟨g1, g2, g3, g4⟩ := pNum_ok hj
        rw [List.length_drop] at g3
        split at h
        · simp at h
        · injection h with e1 e2
          injection e1 with e1 e3
          injection e3 with e3 e4
          omega
    · injection h with e1 e2
      injection e1 with e1 e3
      injection e3 with e3 e4
      omega
/-- Ranges that were read: at least one, in order, small. -/
theorem pRanges_ok : ∀ (f : Nat) (r : List UInt8) (xs : List (Nat × Nat × Nat)) (k : Nat), pRanges f r = .ok xs k → 1 ≤ k ∧ k ≤ r.length ∧ xs ≠ [] ∧ (∀ x ∈ xs, x.1 ≤ x.2.1 ∧ x.2.1 < 1000000 ∧ x.2.2 ≤ 6)
  | 0, r, xs, k, h => by simp [pRanges] at h
  | f + 1, r, xs, k, h => by
    unfold pRanges at h
    split at h
    · simp at h
    · rename_i x k' he
      obtain ⟨a, b, w⟩ := x
      obtain ⟨h1, h2, h3, h4, h5⟩ := pRange_ok he
      split at h
      · rename_i hc
        have hlt : k' < r.length := by
          by_cases hlt : k' < r.length
          · exact hlt
          · rw [List.getElem?_eq_none (by omega)] at hc; cases hc
        injection h with e1 e2
        subst e1
        refine ⟨by omega, by omega, by simp, fun y hy => ?_⟩
        simp at hy
        subst hy
        exact ⟨h3, h4, h5⟩
      · split at h
        · rename_i hc
          have hlt : k' < r.length := by
            by_cases hlt : k' < r.length
            · exact hlt
            · rw [List.getElem?_eq_none (by omega)] at hc; cases hc
          split at h
          · simp at h
          · rename_i ys j hj
            obtain ⟨g1, g2, g3, g4⟩ := pRanges_ok f _ ys j hj
            rw [List.length_drop] at g2
            injection h with e1 e2
            subst e1
            refine ⟨by omega, by omega, by simp, fun y hy => ?_⟩
            rcases List.mem_cons.1 hy with rfl | hy
            · exact ⟨h3, h4, h5⟩
            · exact g4 y hy
        · simp at h
theorem pEnd_ok {r p p' : List UInt8} {rs rs' : List (Nat × Nat × Nat)} {k k' : Nat} (h : pEnd r p rs k = .ok (p', rs') k') : p' = p ∧ rs' = rs ∧ k' = k := by
  unfold pEnd at h
  split at h
  · injection h with e1 e2
    injection e1 with e1 e3
    exact ⟨e1.symm, e3.symm, e2.symm⟩
  · simp at h
theorem pPart_ok {r p : List UInt8} {rs : List (Nat × Nat × Nat)} {k : Nat} (h : pPart r = .ok (p, rs) k) : 1 ≤ k ∧ k ≤ r.length ∧ Bare p ∧ p.length ≤ r.length ∧ (∀ x ∈ rs, x.1 ≤ x.2.1 ∧ x.2.1 < 1000000 ∧ x.2.2 ≤ 6) := by
  unfold pPart at h
  have hp := (List.takeWhile_prefix isBare (l := r)).length_le
  split at h
  · simp at h
  · rename_i hne
    have hb : Bare (r.takeWhile isBare) := ⟨hne, List.all_takeWhile⟩
    have h1 : 1 ≤ (r.takeWhile isBare).length := List.length_pos_iff.2 hne
    split at h
    · split at h
      · simp at h
      · rename_i ys j hj
        obtain ⟨g1, g2, g3, g4⟩ := pRanges_ok _ _ ys j hj
        rw [List.length_drop] at g2
        obtain ⟨rfl, rfl, rfl⟩ := pEnd_ok h
        exact ⟨by omega, by omega, hb, hp, g4⟩
    · obtain ⟨rfl, rfl, rfl⟩ := pEnd_ok h
      exact ⟨h1, hp, hb, hp, fun x hx => by simp at hx⟩
theorem bare_dig (p : List UInt8) (u w : Nat) (h : Bare p) : Bare (p ++ dig u w) := by
  refine ⟨by simp [h.1], ?_⟩
  rw [List.all_append, h.2, Bool.true_and, List.all_eq_true]
  intro c hc
  exact bare_of_dig (List.all_eq_true.1 (dig_facts u w).1 c hc)
theorem partNames_bare (p : List UInt8) (rs : List (Nat × Nat × Nat)) (h : Bare p) : ∀ x ∈ partNames p rs, Bare x := by
  unfold partNames
  split
  · intro x hx; simp at hx; subst hx; exact h
  · intro x hx
    obtain ⟨y, _, hy⟩ := List.mem_flatMap.1 hx
    unfold spanNames at hy
    obtain ⟨i, _, rfl⟩ := List.mem_map.1 hy
    exact bare_dig p _ _ h
theorem partNames_length (p : List UInt8) (rs : List (Nat × Nat × Nat)) : (partNames p rs).length = partCount rs := by
  unfold partNames partCount
  split
  · rfl
  · rw [List.length_flatMap]
    congr 1
    refine List.map_congr_left fun x _ => ?_
    unfold spanNames spanCount
    simp
theorem pExpand_facts : ∀ (f a : Nat) (r : List UInt8) (ns : List (List UInt8)), (∀ x ∈ ns, Bare x) → ns.length ≤ 256 → (∀ x ∈ (pExpand f a r ns).1, Bare x) ∧ (pExpand f a r ns).1.length ≤ 256 ∧ ((pExpand f a r ns).2.1 ≠ 0 → (pExpand f a r ns).1 = [])
  | 0, a, r, ns, _, _ => ⟨fun x hx => by simp [pExpand] at hx, by simp [pExpand], fun _ => rfl⟩
  | f + 1, a, r, ns, hb, hn => by
    unfold pExpand
    split
    · exact ⟨fun x hx => by simp at hx, by simp, fun _ => rfl⟩
    · rename_i x k he
      obtain ⟨p, rs⟩ := x
      obtain ⟨_, _, hp, _, _⟩ := pPart_ok he
      have hb2 : ∀ x ∈ ns ++ partNames p rs, Bare x := fun x hx => by
        rcases List.mem_append.1 hx with h | h
        · exact hb x h
        · exact partNames_bare p rs hp x h
      split
      · exact ⟨fun x hx => by simp at hx, by simp, fun _ => rfl⟩
      · rename_i hc
        have hl : (ns ++ partNames p rs).length ≤ 256 := by rw [List.length_append, partNames_length]; simp only at hc; omega
        split
        · exact ⟨hb2, hl, fun h => absurd rfl h⟩
        · exact pExpand_facts f _ _ _ hb2 hl
theorem expand_facts (s : List UInt8) : (∀ x ∈ (expand s).1, Bare x) ∧ (expand s).1.length ≤ 256 ∧ ((expand s).2.1 ≠ 0 → (expand s).1 = []) := by
  unfold expand
  split
  · exact ⟨fun x hx => by simp at hx, by simp, fun _ => rfl⟩
  · exact pExpand_facts _ _ _ _ (fun x hx => by simp at hx) (by simp)
/-- One range, and nothing else. -/
theorem expand_span (p : List UInt8) (a b w w' : Nat) (hp : Bare p) (h1 : (dig a w).length ≤ 6) (h2 : (dig b w').length ≤ 6) (hab : a ≤ b) (t : List UInt8) (ht : t = p ++ 91 :: (dig a w ++ 45 :: (dig b w' ++ [93]))) :
    expand t = if 256 < b + 1 - a then ([], 5, 0) else (spanNames p (a, b, (dig a w).length), 0, 0) := by
  have hne : t ≠ [] := by rw [ht]; simp
  have h := pPart_span p a b w w' [] hp h1 h2 hab (fun c hc => by simp at hc) t ht
  rw [List.append_nil] at h
  unfold expand pExpand
  rw [if_neg hne, h]
  simp [partCount, spanCount, partNames]
theorem span_width (a i w : Nat) (h : w = 0 ∨ (dec a).length ≤ w) : dig (a + i) (dig a w).length = dig (a + i) w := by
  rw [dig_len]
  rcases h with rfl | h
  · have := dec_len_mono a (a + i) (by omega)
    unfold dig
    rw [show max 0 (dec a).length - (dec (a + i)).length = 0 - (dec (a + i)).length by omega]
  · rw [show max w (dec a).length = w by omega]
/-- The probe's text, and its names. -/
def aliveText : List UInt8 := [110, 91, 49, 45, 51, 44, 48, 55, 45, 48, 56, 93, 44, 109]
def aliveNames : List (List UInt8) := [[110, 49], [110, 50], [110, 51], [110, 48, 55], [110, 48, 56], [109]]
def aliveBack : List UInt8 := [110, 91, 49, 45, 51, 93, 44, 110, 91, 48, 55, 45, 48, 56, 93, 44, 109]
theorem dec_1 : dec 1 = [49] := by rw [dec_small (by decide)]; rfl
theorem dec_2 : dec 2 = [50] := by rw [dec_small (by decide)]; rfl
theorem dec_3 : dec 3 = [51] := by rw [dec_small (by decide)]; rfl
theorem dec_7 : dec 7 = [55] := by rw [dec_small (by decide)]; rfl
theorem dec_8 : dec 8 = [56] := by rw [dec_small (by decide)]; rfl
theorem alive_part : pPart aliveText = .ok ([110], [(1, 3, 1), (7, 8, 2)]) 12 := by rfl
theorem alive_part2 : pPart [109] = .ok ([109], []) 1 := by rfl
theorem alive_names1 : partNames [110] [(1, 3, 1), (7, 8, 2)] = [[110, 49], [110, 50], [110, 51], [110, 48, 55], [110, 48, 56]] := by
  simp [partNames, spanNames, List.range_succ, dig, dec_1, dec_2, dec_3, dec_7, dec_8]
theorem alive_expand : expand aliveText = (aliveNames, 0, 0) := by
  unfold expand
  rw [if_neg (by decide)]
  unfold pExpand
  rw [alive_part]
  simp only [alive_names1]
  rw [if_neg (by decide), if_neg (by decide)]
  show pExpand 14 13 [109] _ = _
  unfold pExpand
  rw [alive_part2]
  simp only
  rw [if_neg (by decide), if_pos (by decide)]
  rfl
theorem alive_compress : compress aliveNames = aliveBack := by decide +kernel
end Go.Proofs.YtkmknogejhhajabDoor
