/-
  Plain mathematics: what was used falls; a half-life halves it.
-/
import Derived.Test.YtmbgcphiigmdjaaUMath
namespace Go.Proofs.Ytmbgcphiigmdjaa
open Go.RowKit Ss

theorem halves_nat (n k : Nat) (h : n < 4611686018427387904) : halves (n : Int) (k : Int) = ((n / 2 ^ k : Nat) : Int) := by
  unfold halves
  by_cases h0 : (k : Int) < 1
  · obtain rfl : k = 0 := by omega
    rw [if_pos h0, Nat.pow_zero, Nat.div_one]
  · rw [if_neg h0]
    by_cases h1 : (k : Int) > 62
    · rw [if_pos h1]
      have h2 : (2 : Nat) ^ 62 ≤ 2 ^ k := Nat.pow_le_pow_right (by decide) (by omega)
      rw [Nat.div_eq_of_lt (Nat.lt_of_lt_of_le (by omega) h2)]
      rfl
    · rw [if_neg h1, cast_pow]
      rfl
theorem halves_mono {n j k : Int} (h0 : 0 ≤ n) (h1 : n ≤ 1152921504606846976) (hj : 0 ≤ j) (hk : j ≤ k) : halves n k ≤ halves n j := by
  obtain ⟨a, rfl⟩ : ∃ q : Nat, n = q := ⟨n.toNat, by omega⟩
  obtain ⟨b, rfl⟩ : ∃ q : Nat, j = q := ⟨j.toNat, by omega⟩
  obtain ⟨c, rfl⟩ : ∃ q : Nat, k = q := ⟨k.toNat, by omega⟩
  rw [halves_nat a b (by omega), halves_nat a c (by omega)]
  exact Int.ofNat_le.2 (Nat.div_le_div_left (Nat.pow_le_pow_right (by decide) (by omega)) (Nat.two_pow_pos b))
theorem halves_succ {n k : Int} (h0 : 0 ≤ n) (h1 : n ≤ 1152921504606846976) (hk : 0 ≤ k) : halves n (k + 1) = (halves n k).tdiv 2 := by
  obtain ⟨a, rfl⟩ : ∃ q : Nat, n = q := ⟨n.toNat, by omega⟩
  obtain ⟨b, rfl⟩ : ∃ q : Nat, k = q := ⟨k.toNat, by omega⟩
  rw [show (b : Int) + 1 = ((b + 1 : Nat) : Int) from rfl, halves_nat a b (by omega), halves_nat a (b + 1) (by omega), Nat.pow_succ, ← Nat.div_div_eq_div_mul]
  rfl
theorem late_mono {h now later : Int} {u : Int × Int} (h1 : 1 ≤ h) (a0 : 0 ≤ u.1) (a1 : u.1 ≤ 1152921504606846976) (hn : u.2 ≤ now) (hl : now ≤ later) : (late h u later).1 ≤ (late h u now).1 := by
  obtain ⟨p0, _⟩ := passed (d := now - u.2) h1 (by omega)
  refine halves_mono a0 a1 p0 ?_
  rw [Int.tdiv_eq_ediv_of_nonneg (by omega), Int.tdiv_eq_ediv_of_nonneg (by omega)]
  exact Int.ediv_le_ediv (by omega) (by omega)
theorem late_next {h now : Int} {u : Int × Int} (h1 : 1 ≤ h) (a0 : 0 ≤ u.1) (a1 : u.1 ≤ 1152921504606846976) (hn : u.2 ≤ now) : (late h u (now + h)).1 = (late h u now).1.tdiv 2 := by
  obtain ⟨p0, _⟩ := passed (d := now - u.2) h1 (by omega)
  have e : (now + h - u.2).tdiv h = (now - u.2).tdiv h + 1 := by
    rw [Int.tdiv_eq_ediv_of_nonneg (by omega), Int.tdiv_eq_ediv_of_nonneg (by omega), show now + h - u.2 = (now - u.2) + 1 * h by omega, Int.add_mul_ediv_right _ _ (by omega)]
  show halves u.1 _ = _
  rw [e]
  exact halves_succ a0 a1 p0
/-- What a user of the ledger has used. -/
theorem used_there {h now : Int} {M : List Usr} (hg : Good M) {x : Usr} (hx : x ∈ M) (ht : timeB now) (hn : x.2.2 ≤ now) : usedP h M x.1 now = ((late h x.2 now).1, 0) := by
  have hl : lookG x.1 M = some x.2 := mem_lookG hg.nodup hx
  unfold usedP atP
  rw [if_pos ht, hl]
  simp only
  rw [if_neg (by omega)]
theorem falls_facts {h now later : Int} {M : List Usr} (h1 : 1 ≤ h) (hg : Good M) {last : Int} (hT : Till M last) (h2 : last ≤ now) (h3 : now ≤ later) (h0 : 0 ≤ now) (h4 : later ≤ 549755813888) (h5 : h ≤ 1000000) {s : Str} (hs : s ∈ M.map Prod.fst) :
    (usedP h M s now).2 = 0 ∧ (usedP h M s later).2 = 0 ∧ (usedP h M s (now + h)).2 = 0 ∧ (usedP h M s later).1 ≤ (usedP h M s now).1 ∧ 0 ≤ (usedP h M s now).1 ∧ (usedP h M s (now + h)).1 = (usedP h M s now).1.tdiv 2 := by
  obtain ⟨x, hx, rfl⟩ := List.mem_map.1 hs
  obtain ⟨_, _, a0, a1, _, _⟩ := hg.each x hx
  have hxt := hT x hx
  rw [used_there hg hx ⟨h0, by omega⟩ (by omega), used_there hg hx ⟨by omega, by omega⟩ (by omega), used_there hg hx ⟨by omega, by omega⟩ (by omega)]
  exact ⟨rfl, rfl, rfl, late_mono h1 a0 a1 (by omega) h3, (late_facts h1 a0 (by omega)).1, late_next h1 a0 a1 (by omega)⟩
theorem sumI_mono {l : List Usr} {f g : Usr → Int} (h : ∀ x ∈ l, f x ≤ g x) : sumI (l.map f) ≤ sumI (l.map g) := by
  induction l with
  | nil => exact Int.le_refl _
  | cons x r ih =>
    have h1 := h x (List.mem_cons_self ..)
    have h2 := ih fun y hy => h y (List.mem_cons_of_mem _ hy)
    rw [List.map_cons, List.map_cons, sumI, sumI]
    omega
theorem falls_total {h now later : Int} {M : List Usr} (h1 : 1 ≤ h) (hg : Good M) {last : Int} (hT : Till M last) (h2 : last ≤ now) (h3 : now ≤ later) (h0 : 0 ≤ now) (h4 : later ≤ 549755813888) :
    (totalP h M now).2 = 0 ∧ (totalP h M later).2 = 0 ∧ (totalP h M later).1 ≤ (totalP h M now).1 := by
  unfold totalP
  rw [if_pos ⟨h0, by omega⟩, if_pos ⟨by omega, by omega⟩]
  refine ⟨rfl, rfl, sat_mono (sumI_mono fun x hx => ?_)⟩
  obtain ⟨_, _, a0, a1, _, _⟩ := hg.each x hx
  have := hT x hx
  unfold partU
  rw [if_pos (by omega), if_pos (by omega)]
  exact late_mono h1 a0 a1 (by omega) h3
end Go.Proofs.Ytmbgcphiigmdjaa
