/-
  The reference's 'with': a set with one more number.
-/
import Derived.Test.YtffmcfhanmonkaaDoorBlk
import Derived.Deep.RegionWith
import Derived.BigRegion
namespace Go.Proofs.YtffmcfhanmonkaaDoor
open Go.RowKit
set_option maxRecDepth 100000 in
set_option maxHeartbeats 400000 in
theorem with_out (p : Nat → Bool) (i : Int) (w : World) (h : i < 0 ∨ 256 ≤ i) :
    Calls Tryd.prog 35 #[nodes p, .int .i64 i] w fun e w' => e = .returned (nodes p) ∧ Below w.heap.size w w' := by
  rcases h with h | h
  · have h0 : ¬ 0 ≤ i := by omega
    go_enter Tryd.func35, Tryd.ntmps35
    go_wp2
    refine bodyPost_ret (v := nodes p) (by simp [results, Tryd.results35, go_sem]) rfl ⟨rfl, ?_⟩
    exact ((Below.refl _ _).alloc (Nat.le_refl _) _).alloc (by simp) _
  · have h0 : 0 ≤ i := by omega
    have h1 : ¬ i < 256 := by omega
    go_enter Tryd.func35, Tryd.ntmps35
    go_wp2
    refine bodyPost_ret (v := nodes p) (by simp [results, Tryd.results35, go_sem]) rfl ⟨rfl, ?_⟩
    exact ((Below.refl _ _).alloc (Nat.le_refl _) _).alloc (by simp) _
/-- What a call behind two new blocks leaves of them. -/
theorem behind_two {p : Nat → Bool} {w w1 : World}
    (hb : Below ((w.alloc (objOf p)).alloc (.cells #[.int .u64 0, .int .u64 0, .int .u64 0, .int .u64 0] 26)).heap.size ((w.alloc (objOf p)).alloc (.cells #[.int .u64 0, .int .u64 0, .int .u64 0, .int .u64 0] 26)) w1) :
    Blk w1 w.heap.size p ∧ Blk w1 (w.heap.size + 1) (fun _ => false) ∧ Below w.heap.size w w1 := by
  refine ⟨((Blk.new w p).old _).below hb (by simp; omega), ?_, (((Below.refl _ _).alloc (Nat.le_refl _) _).alloc (by simp) _).trans (hb.mono (by simp; omega))⟩
  have d := (Blk.zero (w.alloc (objOf p))).below hb (by simp)
  rw [World.size_alloc] at d
  exact d
set_option maxRecDepth 100000 in
set_option maxHeartbeats 400000 in
theorem with_there (p : Nat → Bool) (n : Nat) (w : World) (h : n < 256) (hn : p n = true) :
    Calls Tryd.prog 35 #[nodes p, .int .i64 n] w fun e w' => e = .returned (nodes p) ∧ Below w.heap.size w w' := by
  have h0 : (0 : Int) ≤ n := by omega
  have h1 : (n : Int) < 256 := by omega
  go_enter Tryd.func35, Tryd.ntmps35
  go_wp2_with (go_at_call 16; refine (rhas_in _ _ _ h).mono ?_; rintro e w1 ⟨rfl, hb⟩; obtain ⟨c, d, bb⟩ := behind_two hb; clear hb; obtain ⟨c0, c1, c2, c3⟩ := c.four; obtain ⟨f0, f1, f2, f3⟩ := d.frees; obtain ⟨d0, d1, d2, d3⟩ := d.four)
  obtain ⟨k0, k1, k2, k3⟩ := (d.stores p).four
  refine bodyPost_ret (v := nodes p) (by simp [results, Tryd.results35, go_sem, k0, k1, k2, k3]) rfl ⟨rfl, below_stores bb (by omega) _ _ _ _⟩
theorem add_pow (x k : Nat) (h : x.testBit k = false) (j : Nat) : (x + 2 ^ k).testBit j = (x.testBit j || decide (j = k)) := by
  have e2 : x = 2 ^ k * (2 * (x / 2 ^ (k + 1))) + x % 2 ^ k := by
    have h1 := Nat.div_add_mod x (2 ^ (k + 1))
    have h2 := Nat.mod_pow_succ (b := 2) (k := k) (x := x)
    rw [Nat.testBit_eq_decide_div_mod_eq, decide_eq_false_iff_not] at h
    rw [show x / 2 ^ k % 2 = 0 by omega] at h2
    rw [h2, Nat.mul_zero, Nat.add_zero] at h1
    rw [← Nat.mul_assoc, ← Nat.pow_succ]
    exact h1.symm
  have hl : x % 2 ^ k < 2 ^ k := Nat.mod_lt _ (Nat.two_pow_pos k)
  have e1 : x + 2 ^ k = 2 ^ k * (2 * (x / 2 ^ (k + 1)) + 1) + x % 2 ^ k := by
    rw [Nat.mul_add, Nat.mul_one]
    omega
  have t1 := Nat.testBit_two_pow_mul_add (2 * (x / 2 ^ (k + 1)) + 1) hl j
  have t2 := Nat.testBit_two_pow_mul_add (2 * (x / 2 ^ (k + 1))) hl j
  rw [← e1] at t1
  rw [← e2] at t2
  rw [t1, t2]
  by_cases hj : j < k
  · simp [hj]; omega
  · simp only [hj, if_false]
    by_cases hk : j = k
    · subst hk; simp
    · obtain ⟨i, hi⟩ : ∃ i, j - k = i + 1 := ⟨j - k - 1, by omega⟩
      rw [hi, Nat.testBit_succ, Nat.testBit_succ]
      rw [show (2 * (x / 2 ^ (k + 1)) + 1) / 2 = x / 2 ^ (k + 1) by omega, show 2 * (x / 2 ^ (k + 1)) / 2 = x / 2 ^ (k + 1) by omega]
      simp [hk]
theorem ins_word (p : Nat → Bool) (n : Nat) (hn : p n = false) : word p (n / 64) + 2 ^ (n % 64) = word (ins p n) (n / 64) := by
  have hb : (word p (n / 64)).testBit (n % 64) = false := by rw [word_at]; exact hn
  refine word_eq ?_ fun j hj => ?_
  · refine Nat.lt_pow_two_of_testBit (n := 64) _ fun j hj => ?_
    rw [add_pow _ _ hb, word_testBit_ge _ _ _ hj]
    simp; omega
  · rw [add_pow _ _ hb, word_testBit _ _ _ hj]
    unfold ins
    rw [Bool.eq_iff_iff]
    simp
    constructor
    · rintro (h | h)
      · exact .inl h
      · exact .inr (by omega)
    · rintro (h | h)
      · exact .inl h
      · exact .inr (by omega)
theorem ins_other (p : Nat → Bool) (n k : Nat) (hk : k ≠ n / 64) : word p k = word (ins p n) k :=
  word_congr fun j hj => by
    unfold ins
    have : ¬ ((64 * k + j : Nat) : Int) = n := by omega
    rw [decide_eq_false this, Bool.or_false]
set_option maxRecDepth 100000 in
set_option maxHeartbeats 800000 in
theorem with_new (p : Nat → Bool) (n : Nat) (w : World) (h : n < 256) (hn : p n = false) :
    Calls Tryd.prog 35 #[nodes p, .int .i64 n] w fun e w' => e = .returned (nodes (ins p n)) ∧ Below w.heap.size w w' := by
  have h0 : (0 : Int) ≤ n := by omega
  have h1 : (n : Int) < 256 := by omega
  have hk : n / 64 < 4 := by omega
  have hk' : (n : Int) / 64 < 4 := by omega
  have hk0 : 0 ≤ (n : Int) / 64 := by omega
  have hv : IntKind.u64.wrap (↑(word p (n / 64)) + 2 ^ (n % 64)) = ↑(word (ins p n) (n / 64)) := by
    rw [cast_pow, ← Int.natCast_add, ins_word p n hn]
    have := word_lt (ins p n) (n / 64)
    exact IntWalk.u64_in _ (by omega)
  have hio : Hid (∀ j, j < 4 → j ≠ n / 64 → word p j = word (ins p n) j) := fun j _ hj => ins_other p n j hj
  go_enter Tryd.func35, Tryd.ntmps35
  go_wp2_with (go_at_call 16; refine (rhas_in _ _ _ h).mono ?_; rintro e w1 ⟨rfl, hb⟩)
  obtain ⟨c, d, bb⟩ := behind_two hb
  clear hb
  have ck := c.cell (n / 64) hk
  have fk := c.free (n / 64)
  have hq : IntKind.i64.wrap ((n : Int) / 64) = (n : Int) / 64 := IntWalk.i64_in _ (by omega)
  have ht : ((n : Int) / 64).toNat = n / 64 := by omega
  go_region_with (go_at_call 37; refine (power_any (n % 64) _ (by omega)).mono ?_; rintro e w' ⟨rfl, rfl⟩)
  all_goals
    have cc : Blk (w1.setCell ⟨w.heap.size, n / 64, none⟩ (.int .u64 (word (ins p n) (n / 64)))).drew w.heap.size (ins p n) := (c.store (n / 64) _ hk rfl hio.out).drew
    have dd : Blk (w1.setCell ⟨w.heap.size, n / 64, none⟩ (.int .u64 (word (ins p n) (n / 64)))).drew (w.heap.size + 1) (fun _ => false) := (d.other (by simp) _).drew
    have bbb : Below w.heap.size w (w1.setCell ⟨w.heap.size, n / 64, none⟩ (.int .u64 (word (ins p n) (n / 64)))).drew := (bb.setCell (Nat.le_refl _) _).drew
    clear c d bb ck fk hio
    generalize (w1.setCell ⟨w.heap.size, n / 64, none⟩ (.int .u64 (word (ins p n) (n / 64)))).drew = w2 at *
    obtain ⟨c0, c1, c2, c3⟩ := cc.four
    obtain ⟨f0, f1, f2, f3⟩ := dd.frees
    obtain ⟨d0, d1, d2, d3⟩ := dd.four
    go_wp2
    obtain ⟨k0, k1, k2, k3⟩ := (dd.stores (ins p n)).four
    refine bodyPost_ret (v := nodes (ins p n)) (by simp [results, Tryd.results35, go_sem, k0, k1, k2, k3]) rfl ⟨rfl, below_stores bbb (by omega) _ _ _ _⟩
theorem with_any (p : Nat → Bool) (i : Int) (w : World) :
    Calls Tryd.prog 35 #[nodes p, .int .i64 i] w fun e w' => e = .returned (nodes (ins p i)) ∧ Below w.heap.size w w' := by
  by_cases h : i < 0 ∨ 256 ≤ i
  · rw [← nodes_congr (p := p) (q := ins p i) fun j hj => by unfold ins; rw [decide_eq_false (by omega), Bool.or_false]]
    exact with_out p i w h
  · obtain ⟨n, rfl⟩ := Int.eq_ofNat_of_zero_le (show 0 ≤ i by omega)
    cases hn : p n with
    | false => exact with_new p n w (by omega) hn
    | true =>
      rw [← nodes_congr (p := p) (q := ins p n) fun j hj => by
        unfold ins
        by_cases hjn : j = n
        · subst hjn; simp [hn]
        · rw [decide_eq_false (by omega), Bool.or_false]]
      exact with_there p n w (by omega) hn
end Go.Proofs.YtffmcfhanmonkaaDoor
