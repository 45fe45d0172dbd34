/-
  A part, read: all cases together.
-/
import Derived.Test.YtkmknogejhhajabDoorHPart
namespace Go.Proofs.YtkmknogejhhajabDoor
open Go.RowKit

theorem pRanges_bad : ∀ (f : Nat) (r : List UInt8) (e k : Nat), r.length < f → pRanges f r = .bad e k → e ≠ 0
  | 0, r, e, k, hf, _ => absurd hf (Nat.not_lt_zero _)
  | f + 1, r, e, k, hf, h => by
    unfold pRanges at h
    split at h
    · rename_i hp
      injection h with h1 _
      have := pRange_bad hp
      omega
    · split at h
      · simp at h
      · split at h
        · rename_i hc
          have hl := (List.getElem?_eq_some_iff.1 hc).1
          split at h
          · rename_i hq
            injection h with h1 _
            have := pRanges_bad f _ _ _ (by rw [List.length_drop]; omega) hq
            omega
          · simp at h
        · injection h with h1 _
          unfold wrg at h1
          split at h1 <;> omega
theorem tw_take {p : UInt8 → Bool} (r : List UInt8) : r.takeWhile p = r.take (r.takeWhile p).length := List.prefix_iff_eq_take.1 (List.takeWhile_prefix p)
theorem tw_next {p : UInt8 → Bool} (r : List UInt8) (h : (r.takeWhile p).length < r.length) : p r[(r.takeWhile p).length] = false := by
  induction r with
  | nil => simp at h
  | cons x r ih =>
    by_cases hx : p x = true
    · have e : (x :: r).takeWhile p = x :: r.takeWhile p := by rw [List.takeWhile_cons, if_pos hx]
      simp only [e, List.length_cons, List.getElem_cons_succ] at h ⊢
      exact ih (by omega)
    · have e : (x :: r).takeWhile p = [] := by rw [List.takeWhile_cons, if_neg hx]
      simp only [e, List.length_nil, List.getElem_cons_zero]
      simpa using hx
theorem readPart_any (s : ByteArray) (a : Nat) (ai : Int) (w : World) (hai : ai = a) (hs : s.size ≤ 1099511627776) (ha : a ≤ s.size) :
    Calls Tryd.prog 27 #[.string s, .int .i64 ai] w (PartPost w a (pPart ((bl s).drop a))) := by
  subst hai
  have hRl : ((bl s).drop a).length = s.size - a := by rw [List.length_drop, bl_len]
  have hget : ∀ i, (bl s)[a + i]? = ((bl s).drop a)[i]? := fun i => by rw [List.getElem?_drop]
  have hat : ∀ i (h : a + i < s.size), ((bl s).drop a)[i]? = some (s[a + i]'h) := fun i h => by
    rw [List.getElem?_eq_getElem (by omega), drop_get s a i h]
  have hle : (((bl s).drop a).takeWhile isBare).length ≤ ((bl s).drop a).length := (List.takeWhile_prefix isBare).length_le
  have htk := tw_take (p := isBare) ((bl s).drop a)
  have hall : ∀ i (h : a + i < s.size), i < (((bl s).drop a).takeWhile isBare).length → isBare (s[a + i]'h) = true := fun i h hi => by
    have := takeWhile_pre (p := isBare) ((bl s).drop a) i hi (by omega)
    rwa [drop_get s a i h] at this
  have hnext : ∀ h : a + (((bl s).drop a).takeWhile isBare).length < s.size, isBare (s[a + (((bl s).drop a).takeWhile isBare).length]'h) = false := fun h => by
    have := tw_next (p := isBare) ((bl s).drop a) (by omega)
    rwa [drop_get s a _ h] at this
  unfold pPart
  generalize hm : (((bl s).drop a).takeWhile isBare).length = m at *
  by_cases h0 : m = 0
  · have hnil : ((bl s).drop a).takeWhile isBare = [] := List.eq_nil_of_length_eq_zero (by omega)
    rw [if_pos hnil]
    by_cases he : a = s.size
    · exact part_noneA s a w hs ha he
    · have hlt : a + m < s.size := by omega
      have hb := hnext hlt
      subst h0
      exact part_noneB s a w hs ha (by omega) hb
  · have hnn : ((bl s).drop a).takeWhile isBare ≠ [] := fun h => h0 (by rw [← hm, h]; rfl)
    rw [if_neg hnn]
    by_cases he : a + m = s.size
    · have hn : ((bl s).drop a)[m]? = none := List.getElem?_eq_none (by omega)
      rw [if_neg (by rw [hn]; decide)]
      unfold pEnd
      rw [if_pos (.inl hn), htk]
      exact part_endA s a w hs m (by omega) (by omega) hall he (by rw [hget, hn]; decide)
    · have hlt : a + m < s.size := by omega
      have hb := hnext hlt
      have hg := hat m hlt
      by_cases h91 : ((bl s).drop a)[m]? = some 91
      · rw [if_pos h91]
        have hst : (bl s)[a + m]? = some 91 := by rw [hget]; exact h91
        have hdd : ((bl s).drop a).drop (m + 1) = (bl s).drop (a + m + 1) := by rw [List.drop_drop]; rfl
        have hF : s.size - (a + m + 1) < ((bl s).drop a).length + 1 := by omega
        cases hq : pRanges (((bl s).drop a).length + 1) (((bl s).drop a).drop (m + 1)) with
        | bad e k =>
          have hne := pRanges_bad _ _ _ _ (by rw [List.length_drop]; omega) hq
          rw [hdd] at hq
          exact part_ranges_bad s a w hs m (by omega) (by omega) hall hlt hb hst _ hF e k hne hq
        | ok xs k =>
          have hk := (pRanges_ok _ _ _ _ hq).2.1
          rw [List.length_drop] at hk
          rw [hdd] at hq
          show Calls _ _ _ _ (PartPost w a (pEnd ((bl s).drop a) (((bl s).drop a).takeWhile isBare) xs (m + 1 + k)))
          unfold pEnd
          by_cases he2 : a + m + 1 + k = s.size
          · have hn : ((bl s).drop a)[m + 1 + k]? = none := List.getElem?_eq_none (by omega)
            rw [if_pos (.inl hn), htk]
            exact part_ranges_A s a w hs m (by omega) (by omega) hall hlt hb hst _ hF xs k hq he2
          · have hlt2 : a + m + 1 + k < s.size := by omega
            have hg2 := hat (m + 1 + k) (by omega)
            have e : s[a + (m + 1 + k)]'(by omega) = s[a + m + 1 + k]'hlt2 := by congr 1; omega
            rw [e] at hg2
            by_cases h44 : (s[a + m + 1 + k]'hlt2) = 44
            · rw [if_pos (.inr (by rw [hg2, h44])), htk]
              exact part_ranges_B s a w hs m (by omega) (by omega) hall hlt hb hst _ hF xs k hq hlt2 h44
            · rw [if_neg (by rw [hg2]; simpa using h44)]
              exact part_ranges_C s a w hs m (by omega) (by omega) hall hlt hb hst _ hF xs k hq hlt2 h44
      · rw [if_neg h91]
        have hst : ¬ (bl s)[a + m]? = some 91 := by rw [hget]; exact h91
        unfold pEnd
        by_cases h44 : (s[a + m]'hlt) = 44
        · rw [if_pos (.inr (by rw [hg, h44])), htk]
          exact part_endB s a w hs m (by omega) (by omega) hall hlt hb h44 hst
        · rw [if_neg (by rw [hg]; simpa using h44)]
          exact part_bad s a w hs m (by omega) (by omega) hall hlt hb h44 hst
end Go.Proofs.YtkmknogejhhajabDoor
