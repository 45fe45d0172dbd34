/-
  What users have used, as plain functions.
-/
import Derived.Test.YtmbgcphiigmdjaaSHalves
import Derived.Test.YtmbgcphiigmdjaaUList
namespace Go.Proofs.Ytmbgcphiigmdjaa
open Go.RowKit Ss

/-- A user: a name, what they had used, since when. -/
abbrev Usr := Str × Int × Int
/-- A use behind the whole half-lives that have passed. -/
def late (h : Int) (u : Int × Int) (now : Int) : Int × Int := (halves u.1 ((now - u.2).tdiv h), u.2 + (now - u.2).tdiv h * h)
def timeB (now : Int) : Prop := 0 ≤ now ∧ now ≤ 1099511627776
instance (now : Int) : Decidable (timeB now) := inferInstanceAs (Decidable (_ ∧ _))
/-- What a user has used at a time, and the error. -/
def atP (h : Int) (M : List Usr) (s : Str) (now : Int) : (Int × Int) × Int :=
  if timeB now then match lookG s M with
    | none => ((0, now), 0)
    | some u => if now < u.2 then ((0, 0), 1) else (late h u now, 0)
  else ((0, 0), 1)
def nameB (s : Str) (am : Int) : Prop := s ≠ [] ∧ s.length ≤ 16 ∧ 0 ≤ am ∧ am ≤ 1099511627776
instance (s : Str) (am : Int) : Decidable (nameB s am) := inferInstanceAs (Decidable (_ ∧ _))
def capI (n : Int) : Int := if n ≤ 1152921504606846976 then n else 1152921504606846976
def addP (h : Int) (M : List Usr) (s : Str) (am now : Int) : List Usr × Int :=
  if (atP h M s now).2 ≠ 0 then (M, (atP h M s now).2) else
  if nameB s am then
    if lookG s M = none ∧ M.length = 1024 then (M, 5) else (putG s (capI ((atP h M s now).1.1 + am), (atP h M s now).1.2) M, 0)
  else (M, 1)
def usedP (h : Int) (M : List Usr) (s : Str) (now : Int) : Int × Int := ((atP h M s now).1.1, (atP h M s now).2)
/-- What one adds to the sum. -/
def partU (h now : Int) (x : Usr) : Int := if x.2.2 ≤ now then (late h x.2 now).1 else 0
def sumI : List Int → Int
  | [] => 0
  | x :: r => x + sumI r
def sumU (h : Int) (M : List Usr) (now : Int) : Int := sumI (M.map (partU h now))
def satI (n : Int) : Int := if n ≤ 9223372036854775807 then n else 9223372036854775807
def totalP (h : Int) (M : List Usr) (now : Int) : Int × Int := if timeB now then (satI (sumU h M now), 0) else (0, 1)
/-- Parts of 1000, rounded up. -/
def partsP (u t : Int) : Int := ((u.toNat * 1000 / t.toNat + (if u.toNat * 1000 % t.toNat = 0 then 0 else 1) : Nat) : Int)
def factorP (h : Int) (M : List Usr) (s : Str) (now : Int) : Int × Int :=
  if (usedP h M s now).2 ≠ 0 then (0, (usedP h M s now).2) else
  if (totalP h M now).1 = 0 then (1000, 0) else (1000 - partsP (usedP h M s now).1 (totalP h M now).1, 0)

/-- A ledger's users. -/
structure Good (M : List Usr) : Prop where
  nodup : (M.map Prod.fst).Nodup
  len : M.length ≤ 1024
  each : ∀ x ∈ M, x.1 ≠ [] ∧ x.1.length ≤ 16 ∧ 0 ≤ x.2.1 ∧ x.2.1 ≤ 1152921504606846976 ∧ 0 ≤ x.2.2 ∧ x.2.2 ≤ 1099511627776
theorem Good.nil : Good [] := ⟨List.nodup_nil, Nat.zero_le _, fun _ h => by cases h⟩
theorem Good.look {M : List Usr} (h : Good M) {s : Str} {u : Int × Int} (hl : lookG s M = some u) : 0 ≤ u.1 ∧ u.1 ≤ 1152921504606846976 ∧ 0 ≤ u.2 ∧ u.2 ≤ 1099511627776 := (h.each _ (lookG_mem hl)).2.2
/-- Whole half-lives that have passed. -/
theorem passed {h d : Int} (h1 : 1 ≤ h) (h0 : 0 ≤ d) : 0 ≤ d.tdiv h ∧ d.tdiv h ≤ d ∧ 0 ≤ d.tdiv h * h ∧ d.tdiv h * h ≤ d := by
  rw [Int.tdiv_eq_ediv_of_nonneg h0]
  have e1 : 0 ≤ d / h := Int.ediv_nonneg h0 (by omega)
  have e2 : d / h ≤ d := Int.ediv_le_self h h0
  have e3 : d / h * h ≤ d := Int.ediv_mul_le d (by omega)
  have e4 : 0 ≤ d / h * h := Int.mul_nonneg e1 (by omega)
  exact ⟨e1, e2, e4, e3⟩
theorem late_facts {h now : Int} {u : Int × Int} (h1 : 1 ≤ h) (hu : 0 ≤ u.1) (hn : u.2 ≤ now) : 0 ≤ (late h u now).1 ∧ (late h u now).1 ≤ u.1 ∧ u.2 ≤ (late h u now).2 ∧ (late h u now).2 ≤ now := by
  obtain ⟨a, b, c, d⟩ := passed (d := now - u.2) h1 (by omega)
  obtain ⟨e, f⟩ := (halves_near u.1 ((now - u.2).tdiv h)).1 hu
  exact ⟨e, f, by show u.2 ≤ u.2 + _; omega, by show u.2 + _ ≤ now; omega⟩
theorem at_facts {h now : Int} {M : List Usr} {s : Str} (h1 : 1 ≤ h) (hg : Good M) (he : (atP h M s now).2 = 0) : timeB now ∧ 0 ≤ (atP h M s now).1.1 ∧ (atP h M s now).1.1 ≤ 1152921504606846976 ∧ 0 ≤ (atP h M s now).1.2 ∧ (atP h M s now).1.2 ≤ now := by
  unfold atP at *
  by_cases ht : timeB now
  · rw [if_pos ht] at *
    obtain ⟨t0, t1⟩ := ht
    cases hl : lookG s M with
    | none => exact ⟨⟨t0, t1⟩, Int.le_refl _, (show (0 : Int) ≤ 1152921504606846976 by decide), t0, Int.le_refl _⟩
    | some u =>
      rw [hl] at he
      simp only at he ⊢
      obtain ⟨a, b, c, d⟩ := hg.look hl
      by_cases hn : now < u.2
      · rw [if_pos hn] at he; cases he
      · rw [if_neg hn]
        obtain ⟨e, f, g, i⟩ := late_facts (h := h) (now := now) h1 a (by omega)
        exact ⟨⟨t0, t1⟩, e, by show (late h u now).1 ≤ _; omega, by show 0 ≤ (late h u now).2; omega, i⟩
  · rw [if_neg ht] at he; cases he
theorem at_err (h : Int) (M : List Usr) (s : Str) (now : Int) : (atP h M s now).2 = 0 ∨ ((atP h M s now).2 = 1 ∧ (atP h M s now).1 = (0, 0)) := by
  unfold atP
  split
  · cases lookG s M with
    | none => exact .inl rfl
    | some u =>
      simp only
      split
      · exact .inr ⟨rfl, rfl⟩
      · exact .inl rfl
  · exact .inr ⟨rfl, rfl⟩
theorem add_err (h : Int) (M : List Usr) (s : Str) (am now : Int) : (addP h M s am now).2 = 0 ∨ (addP h M s am now).1 = M := by
  unfold addP
  split
  · exact .inr rfl
  · split
    · split
      · exact .inr rfl
      · exact .inl rfl
    · exact .inr rfl
theorem add_good {h : Int} {M : List Usr} {s : Str} {am now : Int} (h1 : 1 ≤ h) (hg : Good M) : Good (addP h M s am now).1 := by
  unfold addP
  split
  · exact hg
  · rename_i he
    have he0 : (atP h M s now).2 = 0 := by simpa using he
    obtain ⟨⟨t0, t1⟩, a1, a2, a3, a4⟩ := at_facts h1 hg he0
    split
    · rename_i hn
      obtain ⟨n1, n2, n3, n4⟩ := hn
      split
      · exact hg
      · rename_i hm
        refine ⟨putG_nodup hg.nodup, ?_, fun x hx => ?_⟩
        · rw [putG_len]
          have := hg.len
          cases hl : lookG s M with
          | none =>
            have : M.length ≠ 1024 := fun e => hm ⟨hl, e⟩
            simp
            omega
          | some u => simpa using this
        · rcases putG_mem hx with rfl | hx
          · refine ⟨n1, n2, ?_, ?_, a3, ?_⟩
            · show 0 ≤ capI _
              unfold capI
              split <;> omega
            · show capI _ ≤ _
              unfold capI
              split <;> omega
            · show (atP h M s now).1.2 ≤ _
              omega
          · exact hg.each x hx
    · exact hg
/-- None has a time above the last. -/
def Till (M : List Usr) (last : Int) : Prop := ∀ x ∈ M, x.2.2 ≤ last
theorem add_till {h : Int} {M : List Usr} {s : Str} {am now last : Int} (h1 : 1 ≤ h) (hg : Good M) (ht : Till M last) (h0 : (addP h M s am now).2 = 0) : Till (addP h M s am now).1 (max last now) := by
  unfold addP at h0 ⊢
  by_cases he : (atP h M s now).2 ≠ 0
  · rw [if_pos he] at h0
    exact absurd h0 he
  · rw [if_neg he] at h0 ⊢
    have he0 : (atP h M s now).2 = 0 := by simpa using he
    obtain ⟨⟨t0, t1⟩, a1, a2, a3, a4⟩ := at_facts h1 hg he0
    by_cases hn : nameB s am
    · rw [if_pos hn] at h0 ⊢
      by_cases hm : lookG s M = none ∧ M.length = 1024
      · rw [if_pos hm] at h0; cases h0
      · rw [if_neg hm]
        intro x hx
        rcases putG_mem hx with rfl | hx
        · show (atP h M s now).1.2 ≤ _
          omega
        · have := ht x hx
          omega
    · rw [if_neg hn] at h0; cases h0
theorem add_now {h : Int} {M : List Usr} {s : Str} {am now : Int} (he : (addP h M s am now).2 = 0) : timeB now := by
  unfold addP at he
  split at he
  · rename_i hn
    exact absurd he hn
  · rename_i hn
    have h0 : (atP h M s now).2 = 0 := by simpa using hn
    unfold atP at h0
    by_cases ht : timeB now
    · exact ht
    · rw [if_neg ht] at h0; cases h0
theorem sumI_app (a b : List Int) : sumI (a ++ b) = sumI a + sumI b := by
  induction a with
  | nil => simp [sumI]
  | cons x r ih => rw [List.cons_append, sumI, sumI, ih]; omega
theorem sumI_perm {a b : List Int} (h : a.Perm b) : sumI a = sumI b := by
  induction h with
  | nil => rfl
  | cons x _ ih => rw [sumI, sumI, ih]
  | swap x y l => simp only [sumI]; omega
  | trans _ _ h1 h2 => exact h1.trans h2
theorem sumI_nonneg {l : List Int} (h : ∀ x ∈ l, 0 ≤ x) : 0 ≤ sumI l := by
  induction l with
  | nil => exact Int.le_refl _
  | cons x r ih =>
    have := h x (List.mem_cons_self ..)
    have := ih fun y hy => h y (List.mem_cons_of_mem _ hy)
    rw [sumI]; omega
theorem sumI_ge {l : List Int} (h : ∀ x ∈ l, 0 ≤ x) {y : Int} (hy : y ∈ l) : y ≤ sumI l := by
  induction l with
  | nil => cases hy
  | cons x r ih =>
    have h1 := h x (List.mem_cons_self ..)
    have h2 := sumI_nonneg fun y hy => h y (List.mem_cons_of_mem _ hy)
    rw [sumI]
    rcases List.mem_cons.1 hy with rfl | hy
    · omega
    · have := ih (fun y hy => h y (List.mem_cons_of_mem _ hy)) hy
      omega
theorem part_facts {h now : Int} {M : List Usr} (h1 : 1 ≤ h) (hg : Good M) {x : Usr} (hx : x ∈ M) : 0 ≤ partU h now x ∧ partU h now x ≤ 1152921504606846976 := by
  obtain ⟨_, _, a, b, _, _⟩ := hg.each x hx
  unfold partU
  split
  · rename_i hn
    obtain ⟨e, f, _⟩ := late_facts (h := h) h1 a hn
    omega
  · omega
theorem sumU_nonneg {h now : Int} {M : List Usr} (h1 : 1 ≤ h) (hg : Good M) : 0 ≤ sumU h M now := sumI_nonneg fun y hy => by
  obtain ⟨x, hx, rfl⟩ := List.mem_map.1 hy
  exact (part_facts h1 hg hx).1
theorem most_sat {a : Int} (h : 0 ≤ a) : most a = satI a := by
  unfold most satI Fits
  (repeat' split) <;> omega
theorem sat_add {a b : Int} (ha : 0 ≤ a) (hb : 0 ≤ b) : satI (satI a + b) = satI (a + b) := by
  unfold satI
  (repeat' split) <;> omega
theorem sat_facts {a : Int} (ha : 0 ≤ a) : 0 ≤ satI a ∧ satI a ≤ 9223372036854775807 ∧ satI a ≤ a := by
  unfold satI
  split <;> omega
theorem sat_mono {a b : Int} (h : a ≤ b) : satI a ≤ satI b := by
  unfold satI
  (repeat' split) <;> omega
/-- What one has used is no more than what all have. -/
theorem used_total {h now : Int} {M : List Usr} {s : Str} (h1 : 1 ≤ h) (hg : Good M) (he : (usedP h M s now).2 = 0) : 0 ≤ (usedP h M s now).1 ∧ (usedP h M s now).1 ≤ 1152921504606846976 ∧ (totalP h M now).2 = 0 ∧ (usedP h M s now).1 ≤ (totalP h M now).1 ∧ (totalP h M now).1 ≤ 9223372036854775807 := by
  obtain ⟨ht, a1, a2, _, _⟩ := at_facts h1 hg (show (atP h M s now).2 = 0 from he)
  have hs := sumU_nonneg (now := now) h1 hg
  unfold totalP
  rw [if_pos ht]
  refine ⟨a1, a2, rfl, ?_, (sat_facts hs).2.1⟩
  show (atP h M s now).1.1 ≤ satI _
  have hle : (atP h M s now).1.1 ≤ sumU h M now := by
    have he : (atP h M s now).2 = 0 := he
    unfold atP at he ⊢
    rw [if_pos ht] at he ⊢
    cases hl : lookG s M with
    | none => exact hs
    | some u =>
      rw [hl] at he
      simp only at he ⊢
      by_cases hn : now < u.2
      · rw [if_pos hn] at he; cases he
      · rw [if_neg hn]
        refine sumI_ge (fun y hy => ?_) ?_
        · obtain ⟨x, hx, rfl⟩ := List.mem_map.1 hy
          exact (part_facts h1 hg hx).1
        · refine List.mem_map.2 ⟨(s, u), lookG_mem hl, ?_⟩
          unfold partU
          rw [if_pos (by show u.2 ≤ now; omega)]
  unfold satI
  split <;> omega
theorem parts_facts {u t : Int} (hu : 0 ≤ u) (h : u ≤ t) (ht : t ≠ 0) : 0 ≤ partsP u t ∧ partsP u t ≤ 1000 := by
  unfold partsP
  refine ⟨Int.natCast_nonneg _, ?_⟩
  have hle : u.toNat ≤ t.toNat := by omega
  have ht : 0 < t.toNat := by omega
  generalize u.toNat = a at *
  generalize t.toNat = b at *
  have h1 : a * 1000 ≤ 1000 * b := by omega
  by_cases e : a * 1000 = 1000 * b
  · rw [e, Nat.mul_div_cancel _ ht, Nat.mul_mod_left, if_pos rfl]
    decide
  · have h2 : a * 1000 / b < 1000 := (Nat.div_lt_iff_lt_mul ht).2 (by omega)
    split <;> omega
theorem factor_facts {h now : Int} {M : List Usr} {s : Str} (h1 : 1 ≤ h) (hg : Good M) : 0 ≤ (factorP h M s now).1 ∧ (factorP h M s now).1 ≤ 1000 := by
  unfold factorP
  split
  · exact ⟨Int.le_refl _, (show (0 : Int) ≤ 1000 by decide)⟩
  · rename_i he
    obtain ⟨a, b, c, d, e⟩ := used_total h1 hg (show (usedP h M s now).2 = 0 by simpa using he)
    split
    · exact ⟨(show (0 : Int) ≤ 1000 by decide), Int.le_refl _⟩
    · rename_i ht
      obtain ⟨f, g⟩ := parts_facts a d ht
      exact ⟨by show 0 ≤ 1000 - _; omega, by show 1000 - _ ≤ _; omega⟩
end Go.Proofs.Ytmbgcphiigmdjaa
