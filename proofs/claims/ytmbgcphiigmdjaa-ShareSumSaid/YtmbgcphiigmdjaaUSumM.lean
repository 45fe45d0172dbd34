/-
  Plain mathematics: what all have used is the sum of what each one has; the parts.
-/
import Derived.Test.YtmbgcphiigmdjaaUFallM
namespace Go.Proofs.Ytmbgcphiigmdjaa
open Go.RowKit Ss

theorem used_part {h last : Int} {M : List Usr} (hg : Good M) (hT : Till M last) (ht : timeB last) {x : Usr} (hx : x ∈ M) : usedP h M x.1 last = (partU h last x, 0) := by
  rw [used_there hg hx ht (hT x hx)]
  unfold partU
  rw [if_pos (hT x hx)]
theorem sum_names {h last : Int} {M : List Usr} (hg : Good M) (hT : Till M last) (ht : timeB last) {names : List Str} (hp : names.Perm (M.map Prod.fst)) : sumI (names.map fun s => (usedP h M s last).1) = sumU h M last := by
  rw [sumI_perm (hp.map _), List.map_map]
  unfold sumU
  congr 1
  refine List.map_congr_left fun x hx => ?_
  show (usedP h M x.1 last).1 = _
  rw [used_part hg hT ht hx]
theorem sum_bound {l : List Int} (h : ∀ x ∈ l, x ≤ 1152921504606846976) : sumI l ≤ 1152921504606846976 * l.length := by
  induction l with
  | nil => exact Int.le_refl _
  | cons x r ih =>
    have h1 := h x (List.mem_cons_self ..)
    have h2 := ih fun y hy => h y (List.mem_cons_of_mem _ hy)
    rw [sumI, List.length_cons]
    omega
theorem sum_thousand {l : List Int} (h : ∀ x ∈ l, x ≤ 1000) : sumI l ≤ 1000 * l.length := by
  induction l with
  | nil => exact Int.le_refl _
  | cons x r ih =>
    have h1 := h x (List.mem_cons_self ..)
    have h2 := ih fun y hy => h y (List.mem_cons_of_mem _ hy)
    rw [sumI, List.length_cons]
    omega
theorem total_few {h last : Int} {M : List Usr} (h1 : 1 ≤ h) (hg : Good M) (ht : timeB last) (hl : M.length ≤ 7) : totalP h M last = (sumU h M last, 0) := by
  have hb : sumU h M last ≤ 1152921504606846976 * (M.map (partU h last)).length := sum_bound fun y hy => by
    obtain ⟨x, hx, rfl⟩ := List.mem_map.1 hy
    exact (part_facts h1 hg hx).2
  rw [List.length_map] at hb
  unfold totalP satI
  rw [if_pos ht, if_pos (by omega)]
/-- One's part, as a number. -/
theorem part_bounds {u t : Int} (hu : 0 ≤ u) (ht : 0 < t) : 1000 * u ≤ t * partsP u t ∧ t * partsP u t < 1000 * u + t := by
  obtain ⟨a, rfl⟩ : ∃ q : Nat, u = q := ⟨u.toNat, by omega⟩
  obtain ⟨b, rfl⟩ : ∃ q : Nat, t = q := ⟨t.toNat, by omega⟩
  have hb : 0 < b := by omega
  unfold partsP
  rw [Int.toNat_natCast, Int.toNat_natCast]
  have e := Nat.div_add_mod (a * 1000) b
  have l := Nat.mod_lt (a * 1000) hb
  generalize a * 1000 / b = q at *
  generalize hr : a * 1000 % b = r at *
  rw [← Int.natCast_mul]
  by_cases h : r = 0
  · rw [if_pos h, Nat.add_zero]
    generalize b * q = z at *
    omega
  · rw [if_neg h, Nat.mul_add, Nat.mul_one]
    generalize b * q = z at *
    omega
theorem parts_list {t : Int} (ht : 0 < t) : ∀ (xs : List Int), (∀ x ∈ xs, 0 ≤ x) → 1000 * sumI xs ≤ t * sumI (xs.map fun u => partsP u t) ∧ t * sumI (xs.map fun u => partsP u t) ≤ 1000 * sumI xs + t * xs.length ∧ (xs ≠ [] → t * sumI (xs.map fun u => partsP u t) < 1000 * sumI xs + t * xs.length)
  | [], _ => ⟨by simp [sumI], by simp [sumI], fun h => absurd rfl h⟩
  | x :: r, h => by
    obtain ⟨a, b⟩ := part_bounds (h x (List.mem_cons_self ..)) ht
    obtain ⟨c, d, _⟩ := parts_list ht r fun y hy => h y (List.mem_cons_of_mem _ hy)
    have e : (((x :: r).length : Nat) : Int) = (r.length : Int) + 1 := by rw [List.length_cons]; omega
    rw [List.map_cons, sumI, sumI, e]
    simp only [Int.mul_add, Int.mul_one]
    generalize t * partsP x t = p at *
    generalize t * sumI (r.map fun u => partsP u t) = q at *
    generalize t * (r.length : Int) = z at *
    refine ⟨by omega, by omega, fun _ => by omega⟩
/-- The parts that are not theirs, of names that are all. -/
theorem parts_sum {h last : Int} {M : List Usr} (h1 : 1 ≤ h) (hg : Good M) (hT : Till M last) (ht : timeB last) {names : List Str} (hp : names.Perm (M.map Prod.fst)) (hl : M.length ≤ 7) :
    (sumU h M last = 0 → sumI (names.map fun s => (factorP h M s last).1) = 1000 * names.length) ∧
    (sumU h M last ≠ 0 → sumI (names.map fun s => (factorP h M s last).1) ≤ 1000 * ((names.length : Int) - 1) ∧ 1000 * ((names.length : Int) - 1) - names.length < sumI (names.map fun s => (factorP h M s last).1)) := by
  have h0 := sumU_nonneg (now := last) h1 hg
  have hf : ∀ s ∈ names, (factorP h M s last).1 = if sumU h M last = 0 then 1000 else 1000 - partsP (usedP h M s last).1 (sumU h M last) := fun s hs => by
    obtain ⟨x, hx, rfl⟩ := List.mem_map.1 (hp.mem_iff.1 hs)
    unfold factorP
    rw [used_part hg hT ht hx, if_neg (by simp), total_few h1 hg ht hl]
    split <;> rfl
  have hm : ∀ (l : List Str), (∀ s ∈ l, (factorP h M s last).1 = if sumU h M last = 0 then 1000 else 1000 - partsP (usedP h M s last).1 (sumU h M last)) → (sumU h M last = 0 → sumI (l.map fun s => (factorP h M s last).1) = 1000 * l.length) ∧
      (sumU h M last ≠ 0 → sumI (l.map fun s => (factorP h M s last).1) = 1000 * l.length - sumI ((l.map fun s => (usedP h M s last).1).map fun u => partsP u (sumU h M last))) := by
    intro l
    induction l with
    | nil => intro _; exact ⟨fun _ => rfl, fun _ => rfl⟩
    | cons s r ih =>
      intro hs
      obtain ⟨i1, i2⟩ := ih fun y hy => hs y (List.mem_cons_of_mem _ hy)
      have e := hs s (List.mem_cons_self ..)
      have el : (((s :: r).length : Nat) : Int) = (r.length : Int) + 1 := by rw [List.length_cons]; omega
      refine ⟨fun hz => ?_, fun hz => ?_⟩
      · rw [List.map_cons, sumI, i1 hz, e, if_pos hz, el]; omega
      · rw [List.map_cons, sumI, i2 hz, e, if_neg hz, el, List.map_cons, List.map_cons, sumI]; omega
  obtain ⟨g1, g2⟩ := hm names hf
  refine ⟨g1, fun hz => ?_⟩
  rw [g2 hz]
  have hpos : 0 < sumU h M last := by omega
  have hx : ∀ x ∈ names.map fun s => (usedP h M s last).1, 0 ≤ x := fun y hy => by
    obtain ⟨s, hs, rfl⟩ := List.mem_map.1 hy
    obtain ⟨x, hx, rfl⟩ := List.mem_map.1 (hp.mem_iff.1 hs)
    rw [used_part hg hT ht hx]
    exact (part_facts h1 hg hx).1
  obtain ⟨a, _, c⟩ := parts_list hpos _ hx
  have hne : (names.map fun s => (usedP h M s last).1) ≠ [] := fun e => by
    have := sum_names (h := h) hg hT ht hp
    rw [e] at this
    exact hz this.symm
  have c := c hne
  rw [sum_names hg hT ht hp] at a c
  rw [List.length_map] at c
  generalize sumI ((names.map fun s => (usedP h M s last).1).map fun u => partsP u (sumU h M last)) = P at *
  generalize sumU h M last = t at *
  have k1 : 1000 ≤ P := by
    by_cases hk : 1000 ≤ P
    · exact hk
    · have : t * P ≤ t * 999 := Int.mul_le_mul_of_nonneg_left (by omega) (by omega)
      omega
  have k2 : P < 1000 + names.length := by
    by_cases hk : P < 1000 + names.length
    · exact hk
    · have h3 : t * (1000 + (names.length : Int)) ≤ t * P := Int.mul_le_mul_of_nonneg_left (by omega) (by omega)
      rw [Int.mul_add] at h3
      generalize t * (names.length : Int) = z at *
      omega
  omega
end Go.Proofs.Ytmbgcphiigmdjaa
