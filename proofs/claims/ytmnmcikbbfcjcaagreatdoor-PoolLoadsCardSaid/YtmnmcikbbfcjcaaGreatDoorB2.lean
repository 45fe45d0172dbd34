/-
  Parts: Merge UpMath Up Down Move BSpan List.
-/
import Derived.Test.YtmnmcikbbfcjcaaGreatDoorB1
set_option linter.unusedSimpArgs false
set_option linter.unusedVariables false
/-
  And, Or and Not: two sets made one, word by word.
-/
namespace Go.Proofs.YtmnmcikbbfcjcaaGreatDoor.Bs
open Go.RowKit
/-- The first k words of r, the others of p. -/
def mix (p r : Nat → Bool) (k : Nat) : Nat → Bool := fun j => if j < 64 * k then r j else p j
theorem mix_zero (p r : Nat → Bool) (j : Nat) : mix p r 0 j = p j := by simp [mix]
theorem mix_all (p r : Nat → Bool) (j : Nat) (h : j < 256) : mix p r 4 j = r j := by unfold mix; rw [if_pos (by omega)]
theorem mix_here (p r : Nat → Bool) (k : Nat) : word (mix p r k) k = word p k :=
  word_congr fun j hj => by unfold mix; rw [if_neg (by omega)]
theorem mix_next (p r : Nat → Bool) (k : Nat) : word r k = word (mix p r (k + 1)) k :=
  word_congr fun j hj => by unfold mix; rw [if_pos (by omega)]
theorem mix_other (p r : Nat → Bool) (k i : Nat) (h : i ≠ k) : word (mix p r k) i = word (mix p r (k + 1)) i :=
  word_congr fun j hj => by
    unfold mix
    by_cases h1 : 64 * i + j < 64 * k
    · rw [if_pos h1, if_pos (by omega)]
    · rw [if_neg h1, if_neg (by omega)]
theorem three_start (w : World) (p q : Nat → Bool) :
    Blk (((w.alloc (objOf p)).alloc (objOf q)).alloc (.cells #[.int .u64 0, .int .u64 0, .int .u64 0, .int .u64 0] 46)) w.heap.size p ∧
    Blk (((w.alloc (objOf p)).alloc (objOf q)).alloc (.cells #[.int .u64 0, .int .u64 0, .int .u64 0, .int .u64 0] 46)) (w.heap.size + 1) q ∧
    Blk (((w.alloc (objOf p)).alloc (objOf q)).alloc (.cells #[.int .u64 0, .int .u64 0, .int .u64 0, .int .u64 0] 46)) (w.heap.size + 2) (fun _ => false) ∧
    Below w.heap.size w (((w.alloc (objOf p)).alloc (objOf q)).alloc (.cells #[.int .u64 0, .int .u64 0, .int .u64 0, .int .u64 0] 46)) := by
  have h2 := Blk.new (w.alloc (objOf p)) q
  have h3 := Blk.zero ((w.alloc (objOf p)).alloc (objOf q))
  rw [World.size_alloc] at h2
  rw [World.size_alloc, World.size_alloc] at h3
  exact ⟨((Blk.new w p).old _).old _, h2.old _, h3, ((((Below.refl _ _).alloc (Nat.le_refl _) _).alloc (by simp) _).alloc (by simp; omega) _)⟩
set_option maxRecDepth 100000 in
set_option maxHeartbeats 1600000 in
theorem merge_and (p q : Nat → Bool) (w : World) :
    Calls Tryz.prog 61 #[nodes p, nodes q, .func (.func 114) #[] #[]] w fun e w' => e = .returned (nodes (fun j => p j && q j)) ∧ Below w.heap.size w w' := by
  go_enter Tryz.func61, Tryz.ntmps61
  go_wp2
  go_loopw [8] (fun i wr => ∃ k : Nat, k ≤ 4 ∧ i = .int .i64 k ∧ Blk wr w.heap.size (mix p (fun j => p j && q j) k) ∧ Blk wr (w.heap.size + 1) q ∧ Blk wr (w.heap.size + 2) (fun _ => false) ∧ Below w.heap.size w wr) (fun i _ => 4 - (intOf i).toNat)
  case atStart =>
    obtain ⟨s1, s2, s3, s4⟩ := three_start w p q
    exact ⟨0, by omega, rfl, s1.congr fun j _ => (mix_zero p _ j).symm, s2, s3, s4⟩
  case round =>
    obtain ⟨k, hk, rfl, hs, ht, hr, hB⟩ := hrel
    by_cases hlt : k < 4
    · have ck := hs.cell k hlt
      rw [mix_here] at ck
      have fk := hs.free k
      have dk := ht.cell k hlt
      have h0 : (0 : Int) ≤ k := by omega
      have h1 : (k : Int) < 4 := by omega
      have hio : Hid (∀ j, j < 4 → j ≠ k → word (mix p (fun j => p j && q j) k) j = word (mix p (fun j => p j && q j) (k + 1)) j) := fun j _ hj => mix_other p _ k j hj
      have hw : Hid (word p k &&& word q k = word (fun j => p j && q j) k) := word_and p q k
      have hw2 : Hid (word (fun j => p j && q j) k = word (mix p (fun j => p j && q j) (k + 1)) k) := mix_next p _ k
      go_wp2_with fail
      go_region_with (go_at_call 114; refine (and1_any (word p k) (word q k) _ (word_lt p k) (word_lt q k)).mono ?_; rintro e w' ⟨rfl, rfl⟩; rw [hw.out, hw2.out])
      all_goals
        have cc : Blk (wr.setCell ⟨w.heap.size, k, none⟩ (.int .u64 (word (mix p (fun j => p j && q j) (k + 1)) k))).drew w.heap.size (mix p (fun j => p j && q j) (k + 1)) := (hs.store k _ hlt rfl hio.out).drew
        have ee : Blk (wr.setCell ⟨w.heap.size, k, none⟩ (.int .u64 (word (mix p (fun j => p j && q j) (k + 1)) k))).drew (w.heap.size + 1) q := (ht.other (by simp) _).drew
        have dd : Blk (wr.setCell ⟨w.heap.size, k, none⟩ (.int .u64 (word (mix p (fun j => p j && q j) (k + 1)) k))).drew (w.heap.size + 2) (fun _ => false) := (hr.other (by simp) _).drew
        have bbb : Below w.heap.size w (wr.setCell ⟨w.heap.size, k, none⟩ (.int .u64 (word (mix p (fun j => p j && q j) (k + 1)) k))).drew := (hB.setCell (Nat.le_refl _) _).drew
        clear hs ht hr hB ck fk dk hio hw hw2
        generalize (wr.setCell ⟨w.heap.size, k, none⟩ (.int .u64 (word (mix p (fun j => p j && q j) (k + 1)) k))).drew = w2 at *
        go_wp2
        go_roundw
        case rel => exact ⟨k + 1, by omega, by go_num, cc, ee, dd, bbb⟩
        case measure => simp [intOf]; omega
    · obtain rfl : k = 4 := by omega
      have hs' : Blk wr w.heap.size (fun j => p j && q j) := hs.congr fun j hj => mix_all p (fun j => p j && q j) j hj
      obtain ⟨c0, c1, c2, c3⟩ := hs'.four
      obtain ⟨g0, g1, g2, g3⟩ := hr.frees
      obtain ⟨d0, d1, d2, d3⟩ := hr.four
      go_wp2
      obtain ⟨k0, k1, k2, k3⟩ := (hr.stores (fun j => p j && q j)).four
      refine bodyPost_ret (v := nodes (fun j => p j && q j)) (by simp [results, Tryz.results61, go_sem, k0, k1, k2, k3]) rfl ⟨rfl, below_stores hB (by omega) _ _ _ _⟩
set_option maxRecDepth 100000 in
set_option maxHeartbeats 1600000 in
theorem merge_or (p q : Nat → Bool) (w : World) :
    Calls Tryz.prog 61 #[nodes p, nodes q, .func (.func 62) #[] #[]] w fun e w' => e = .returned (nodes (fun j => p j || q j)) ∧ Below w.heap.size w w' := by
  go_enter Tryz.func61, Tryz.ntmps61
  go_wp2
  go_loopw [8] (fun i wr => ∃ k : Nat, k ≤ 4 ∧ i = .int .i64 k ∧ Blk wr w.heap.size (mix p (fun j => p j || q j) k) ∧ Blk wr (w.heap.size + 1) q ∧ Blk wr (w.heap.size + 2) (fun _ => false) ∧ Below w.heap.size w wr) (fun i _ => 4 - (intOf i).toNat)
  case atStart =>
    obtain ⟨s1, s2, s3, s4⟩ := three_start w p q
    exact ⟨0, by omega, rfl, s1.congr fun j _ => (mix_zero p _ j).symm, s2, s3, s4⟩
  case round =>
    obtain ⟨k, hk, rfl, hs, ht, hr, hB⟩ := hrel
    by_cases hlt : k < 4
    · have ck := hs.cell k hlt
      rw [mix_here] at ck
      have fk := hs.free k
      have dk := ht.cell k hlt
      have h0 : (0 : Int) ≤ k := by omega
      have h1 : (k : Int) < 4 := by omega
      have hio : Hid (∀ j, j < 4 → j ≠ k → word (mix p (fun j => p j || q j) k) j = word (mix p (fun j => p j || q j) (k + 1)) j) := fun j _ hj => mix_other p _ k j hj
      have hw : Hid (word p k ||| word q k = word (fun j => p j || q j) k) := word_or p q k
      have hw2 : Hid (word (fun j => p j || q j) k = word (mix p (fun j => p j || q j) (k + 1)) k) := mix_next p _ k
      go_wp2_with fail
      go_region_with (go_at_call 62; refine (or1_any (word p k) (word q k) _ (word_lt p k) (word_lt q k)).mono ?_; rintro e w' ⟨rfl, rfl⟩; rw [hw.out, hw2.out])
      all_goals
        have cc : Blk (wr.setCell ⟨w.heap.size, k, none⟩ (.int .u64 (word (mix p (fun j => p j || q j) (k + 1)) k))).drew w.heap.size (mix p (fun j => p j || q j) (k + 1)) := (hs.store k _ hlt rfl hio.out).drew
        have ee : Blk (wr.setCell ⟨w.heap.size, k, none⟩ (.int .u64 (word (mix p (fun j => p j || q j) (k + 1)) k))).drew (w.heap.size + 1) q := (ht.other (by simp) _).drew
        have dd : Blk (wr.setCell ⟨w.heap.size, k, none⟩ (.int .u64 (word (mix p (fun j => p j || q j) (k + 1)) k))).drew (w.heap.size + 2) (fun _ => false) := (hr.other (by simp) _).drew
        have bbb : Below w.heap.size w (wr.setCell ⟨w.heap.size, k, none⟩ (.int .u64 (word (mix p (fun j => p j || q j) (k + 1)) k))).drew := (hB.setCell (Nat.le_refl _) _).drew
        clear hs ht hr hB ck fk dk hio hw hw2
        generalize (wr.setCell ⟨w.heap.size, k, none⟩ (.int .u64 (word (mix p (fun j => p j || q j) (k + 1)) k))).drew = w2 at *
        go_wp2
        go_roundw
        case rel => exact ⟨k + 1, by omega, by go_num, cc, ee, dd, bbb⟩
        case measure => simp [intOf]; omega
    · obtain rfl : k = 4 := by omega
      have hs' : Blk wr w.heap.size (fun j => p j || q j) := hs.congr fun j hj => mix_all p (fun j => p j || q j) j hj
      obtain ⟨c0, c1, c2, c3⟩ := hs'.four
      obtain ⟨g0, g1, g2, g3⟩ := hr.frees
      obtain ⟨d0, d1, d2, d3⟩ := hr.four
      go_wp2
      obtain ⟨k0, k1, k2, k3⟩ := (hr.stores (fun j => p j || q j)).four
      refine bodyPost_ret (v := nodes (fun j => p j || q j)) (by simp [results, Tryz.results61, go_sem, k0, k1, k2, k3]) rfl ⟨rfl, below_stores hB (by omega) _ _ _ _⟩
set_option maxRecDepth 100000 in
set_option maxHeartbeats 1600000 in
theorem merge_not (p q : Nat → Bool) (w : World) :
    Calls Tryz.prog 61 #[nodes p, nodes q, .func (.func 80) #[] #[]] w fun e w' => e = .returned (nodes (fun j => p j && !q j)) ∧ Below w.heap.size w w' := by
  go_enter Tryz.func61, Tryz.ntmps61
  go_wp2
  go_loopw [8] (fun i wr => ∃ k : Nat, k ≤ 4 ∧ i = .int .i64 k ∧ Blk wr w.heap.size (mix p (fun j => p j && !q j) k) ∧ Blk wr (w.heap.size + 1) q ∧ Blk wr (w.heap.size + 2) (fun _ => false) ∧ Below w.heap.size w wr) (fun i _ => 4 - (intOf i).toNat)
  case atStart =>
    obtain ⟨s1, s2, s3, s4⟩ := three_start w p q
    exact ⟨0, by omega, rfl, s1.congr fun j _ => (mix_zero p _ j).symm, s2, s3, s4⟩
  case round =>
    obtain ⟨k, hk, rfl, hs, ht, hr, hB⟩ := hrel
    by_cases hlt : k < 4
    · have ck := hs.cell k hlt
      rw [mix_here] at ck
      have fk := hs.free k
      have dk := ht.cell k hlt
      have h0 : (0 : Int) ≤ k := by omega
      have h1 : (k : Int) < 4 := by omega
      have hio : Hid (∀ j, j < 4 → j ≠ k → word (mix p (fun j => p j && !q j) k) j = word (mix p (fun j => p j && !q j) (k + 1)) j) := fun j _ hj => mix_other p _ k j hj
      have hw : Hid (word p k &&& (18446744073709551615 - word q k) = word (fun j => p j && !q j) k) := word_not p q k
      have hw2 : Hid (word (fun j => p j && !q j) k = word (mix p (fun j => p j && !q j) (k + 1)) k) := mix_next p _ k
      go_wp2_with fail
      go_region_with (go_at_call 80; refine (not1_any (word p k) (word q k) _ (word_lt p k) (word_lt q k)).mono ?_; rintro e w' ⟨rfl, rfl⟩; rw [hw.out, hw2.out])
      all_goals
        have cc : Blk (wr.setCell ⟨w.heap.size, k, none⟩ (.int .u64 (word (mix p (fun j => p j && !q j) (k + 1)) k))).drew w.heap.size (mix p (fun j => p j && !q j) (k + 1)) := (hs.store k _ hlt rfl hio.out).drew
        have ee : Blk (wr.setCell ⟨w.heap.size, k, none⟩ (.int .u64 (word (mix p (fun j => p j && !q j) (k + 1)) k))).drew (w.heap.size + 1) q := (ht.other (by simp) _).drew
        have dd : Blk (wr.setCell ⟨w.heap.size, k, none⟩ (.int .u64 (word (mix p (fun j => p j && !q j) (k + 1)) k))).drew (w.heap.size + 2) (fun _ => false) := (hr.other (by simp) _).drew
        have bbb : Below w.heap.size w (wr.setCell ⟨w.heap.size, k, none⟩ (.int .u64 (word (mix p (fun j => p j && !q j) (k + 1)) k))).drew := (hB.setCell (Nat.le_refl _) _).drew
        clear hs ht hr hB ck fk dk hio hw hw2
        generalize (wr.setCell ⟨w.heap.size, k, none⟩ (.int .u64 (word (mix p (fun j => p j && !q j) (k + 1)) k))).drew = w2 at *
        go_wp2
        go_roundw
        case rel => exact ⟨k + 1, by omega, by go_num, cc, ee, dd, bbb⟩
        case measure => simp [intOf]; omega
    · obtain rfl : k = 4 := by omega
      have hs' : Blk wr w.heap.size (fun j => p j && !q j) := hs.congr fun j hj => mix_all p (fun j => p j && !q j) j hj
      obtain ⟨c0, c1, c2, c3⟩ := hs'.four
      obtain ⟨g0, g1, g2, g3⟩ := hr.frees
      obtain ⟨d0, d1, d2, d3⟩ := hr.four
      go_wp2
      obtain ⟨k0, k1, k2, k3⟩ := (hr.stores (fun j => p j && !q j)).four
      refine bodyPost_ret (v := nodes (fun j => p j && !q j)) (by simp [results, Tryz.results61, go_sem, k0, k1, k2, k3]) rfl ⟨rfl, below_stores hB (by omega) _ _ _ _⟩
set_option maxRecDepth 100000 in
set_option maxHeartbeats 800000 in
theorem op_and (p q : Nat → Bool) (w : World) :
    Calls Tryz.prog 81 #[nodes p, nodes q] w fun e w' => e = .returned (nodes (fun j => p j && q j)) ∧ Below w.heap.size w w' := by
  obtain ⟨s1, s2, s3, s4⟩ := three_start w p q
  go_enter Tryz.func81, Tryz.ntmps81
  go_wp2_with fail
  refine (merge_and p q _).mono ?_
  rintro e w1 ⟨rfl, hx⟩
  have hr := s3.below hx (by simp)
  have hB := s4.trans (hx.mono (by simp; omega))
  clear s1 s2 s3 s4 hx
  obtain ⟨g0, g1, g2, g3⟩ := hr.frees
  obtain ⟨d0, d1, d2, d3⟩ := hr.four
  go_wp2
  obtain ⟨k0, k1, k2, k3⟩ := (hr.stores (fun j => p j && q j)).four
  refine bodyPost_ret (v := nodes (fun j => p j && q j)) (by simp [results, Tryz.results81, go_sem, k0, k1, k2, k3]) rfl ⟨rfl, below_stores hB (by omega) _ _ _ _⟩
set_option maxRecDepth 100000 in
set_option maxHeartbeats 800000 in
theorem op_or (p q : Nat → Bool) (w : World) :
    Calls Tryz.prog 36 #[nodes p, nodes q] w fun e w' => e = .returned (nodes (fun j => p j || q j)) ∧ Below w.heap.size w w' := by
  obtain ⟨s1, s2, s3, s4⟩ := three_start w p q
  go_enter Tryz.func36, Tryz.ntmps36
  go_wp2_with fail
  refine (merge_or p q _).mono ?_
  rintro e w1 ⟨rfl, hx⟩
  have hr := s3.below hx (by simp)
  have hB := s4.trans (hx.mono (by simp; omega))
  clear s1 s2 s3 s4 hx
  obtain ⟨g0, g1, g2, g3⟩ := hr.frees
  obtain ⟨d0, d1, d2, d3⟩ := hr.four
  go_wp2
  obtain ⟨k0, k1, k2, k3⟩ := (hr.stores (fun j => p j || q j)).four
  refine bodyPost_ret (v := nodes (fun j => p j || q j)) (by simp [results, Tryz.results36, go_sem, k0, k1, k2, k3]) rfl ⟨rfl, below_stores hB (by omega) _ _ _ _⟩
set_option maxRecDepth 100000 in
set_option maxHeartbeats 800000 in
theorem op_not (p q : Nat → Bool) (w : World) :
    Calls Tryz.prog 48 #[nodes p, nodes q] w fun e w' => e = .returned (nodes (fun j => p j && !q j)) ∧ Below w.heap.size w w' := by
  obtain ⟨s1, s2, s3, s4⟩ := three_start w p q
  go_enter Tryz.func48, Tryz.ntmps48
  go_wp2_with fail
  refine (merge_not p q _).mono ?_
  rintro e w1 ⟨rfl, hx⟩
  have hr := s3.below hx (by simp)
  have hB := s4.trans (hx.mono (by simp; omega))
  clear s1 s2 s3 s4 hx
  obtain ⟨g0, g1, g2, g3⟩ := hr.frees
  obtain ⟨d0, d1, d2, d3⟩ := hr.four
  go_wp2
  obtain ⟨k0, k1, k2, k3⟩ := (hr.stores (fun j => p j && !q j)).four
  refine bodyPost_ret (v := nodes (fun j => p j && !q j)) (by simp [results, Tryz.results48, go_sem, k0, k1, k2, k3]) rfl ⟨rfl, below_stores hB (by omega) _ _ _ _⟩
end Go.Proofs.YtmnmcikbbfcjcaaGreatDoor.Bs
/-
  Plain facts: words shifted.
-/
namespace Go.Proofs.YtmnmcikbbfcjcaaGreatDoor.Bs
open Go.RowKit
/-- A set moved up, or down, by n. -/
def upP (p : Nat → Bool) (n : Nat) : Nat → Bool := fun j => decide (n ≤ j) && p (j - n)
def downP (p : Nat → Bool) (n : Nat) : Nat → Bool := fun j => decide (j + n < 256) && p (j + n)
/-- The words of u below word k; with a part of word k. -/
def c0 (u : Nat → Bool) (k : Nat) : Nat → Bool := fun j => decide (j < 64 * k) && u j
def c1 (u : Nat → Bool) (k : Nat) (f : Nat → Bool) : Nat → Bool := fun j => (decide (j < 64 * k) || (decide (j < 64 * k + 64) && f (j - 64 * k))) && u j
theorem c0_zero (u : Nat → Bool) (j : Nat) : c0 u 0 j = false := by simp [c0]
theorem c0_all (u : Nat → Bool) (j : Nat) (h : j < 256) : c0 u 4 j = u j := by unfold c0; rw [decide_eq_true (by omega), Bool.true_and]
theorem c01 (u : Nat → Bool) (k : Nat) (f : Nat → Bool) (i : Nat) (h : i ≠ k) : word (c0 u k) i = word (c1 u k f) i :=
  word_congr fun j hj => by
    unfold c0 c1
    by_cases h1 : 64 * i + j < 64 * k
    · simp [h1]
    · have h2 : ¬ 64 * i + j < 64 * k + 64 := by omega
      simp [h1, h2]
theorem c12 (u : Nat → Bool) (k : Nat) (f : Nat → Bool) (i : Nat) (h : i ≠ k) : word (c1 u k f) i = word (c0 u (k + 1)) i :=
  word_congr fun j hj => by
    unfold c0 c1
    by_cases h1 : 64 * i + j < 64 * k
    · have h2 : 64 * i + j < 64 * (k + 1) := by omega
      simp [h1, h2]
    · have h2 : ¬ 64 * i + j < 64 * k + 64 := by omega
      have h3 : ¬ 64 * i + j < 64 * (k + 1) := by omega
      simp [h1, h2, h3]
theorem c1_at (u : Nat → Bool) (k : Nat) (f : Nat → Bool) (j : Nat) (hj : j < 64) : c1 u k f (64 * k + j) = (f j && u (64 * k + j)) := by
  unfold c1
  rw [decide_eq_false (by omega), decide_eq_true (by omega), show 64 * k + j - 64 * k = j by omega, Bool.false_or, Bool.true_and]
theorem c0_at (u : Nat → Bool) (k : Nat) (j : Nat) (hj : j < 64) : c0 u (k + 1) (64 * k + j) = u (64 * k + j) := by
  unfold c0
  rw [decide_eq_true (by omega), Bool.true_and]
theorem upP_at (p : Nat → Bool) (n m r k j : Nat) (hn : n = 64 * m + r) (hmk : m ≤ k) (h : r ≤ j) : upP p n (64 * k + j) = p (64 * (k - m) + (j - r)) := by
  unfold upP
  rw [decide_eq_true (by omega), Bool.true_and]
  congr 1; omega
theorem up_1 (p : Nat → Bool) (n m r k : Nat) (hn : n = 64 * m + r) (hmk : m ≤ k) :
    IntKind.u64.wrap (↑(word p (k - m)) * 2 ^ r) = ↑(word (c1 (upP p n) k fun j => decide (r ≤ j)) k) := by
  rw [cast_pow, ← Int.natCast_mul, IntKind.wrap_u64, show (18446744073709551616 : Int) = ((18446744073709551616 : Nat) : Int) by rfl, ← Int.natCast_emod]
  congr 1
  refine word_eq (Nat.mod_lt _ (by omega)) fun j hj => ?_
  rw [c1_at _ _ _ _ hj, show 18446744073709551616 = 2 ^ 64 by rfl, Nat.testBit_mod_two_pow, Nat.testBit_mul_two_pow]
  by_cases h : r ≤ j
  · rw [word_testBit _ _ _ (by omega), upP_at p n m r k j hn hmk h]
    simp [h, hj]
  · simp [h]
theorem up_2 (p : Nat → Bool) (n m r k : Nat) (hn : n = 64 * m + r) (hr : r < 64) (hmk : m < k) :
    bits BinOp.or IntKind.u64 ↑(word (c1 (upP p n) k fun j => decide (r ≤ j)) k) (↑(word p (k - m - 1)) / 2 ^ (64 - r)) = ↑(word (c0 (upP p n) (k + 1)) k) := by
  have hl := word_lt p (k - m - 1)
  have hd : word p (k - m - 1) / 2 ^ (64 - r) ≤ word p (k - m - 1) := Nat.div_le_self _ _
  rw [cast_pow, ← Int.natCast_ediv, bits_or_u64_nat _ _ (word_lt _ _) (by omega)]
  congr 1
  refine word_eq (Nat.or_lt_two_pow (n := 64) (word_lt _ _) (by omega)) fun j hj => ?_
  rw [Nat.testBit_or, word_testBit _ _ _ hj, c1_at _ _ _ _ hj, c0_at _ _ _ hj, Nat.testBit_div_two_pow]
  by_cases h : r ≤ j
  · rw [word_testBit_ge _ _ _ (by omega)]
    simp [h]
  · rw [word_testBit _ _ _ (by omega)]
    simp only [h, decide_false, Bool.false_and, Bool.false_or]
    unfold upP
    rw [decide_eq_true (by omega), Bool.true_and]
    congr 1; omega
theorem up_3 (p : Nat → Bool) (n m r : Nat) (hn : n = 64 * m + r) : word (c1 (upP p n) m fun j => decide (r ≤ j)) m = word (c0 (upP p n) (m + 1)) m :=
  word_congr fun j hj => by
    rw [c1_at _ _ _ _ hj, c0_at _ _ _ hj]
    by_cases h : r ≤ j
    · simp [h]
    · unfold upP
      rw [decide_eq_false (p := n ≤ _) (by omega)]
      simp
theorem up_0 (p : Nat → Bool) (n m r : Nat) (hn : n = 64 * m + r) (j : Nat) : c0 (upP p n) m j = false := by
  unfold c0 upP
  by_cases h : j < 64 * m
  · rw [decide_eq_false (p := n ≤ j) (by omega)]; simp
  · simp [h]
theorem down_1 (p : Nat → Bool) (n m r k : Nat) (hn : n = 64 * m + r) (hk : k + m < 4) :
    (↑(word p (k + m)) / 2 ^ r : Int) = ↑(word (c1 (downP p n) k fun j => decide (j + r < 64)) k) := by
  have hl := word_lt p (k + m)
  have hd : word p (k + m) / 2 ^ r ≤ word p (k + m) := Nat.div_le_self _ _
  rw [cast_pow, ← Int.natCast_ediv]
  congr 1
  refine word_eq (by omega) fun j hj => ?_
  rw [c1_at _ _ _ _ hj, Nat.testBit_div_two_pow]
  by_cases h : j + r < 64
  · rw [word_testBit _ _ _ (by omega), decide_eq_true h, Bool.true_and]
    unfold downP
    rw [decide_eq_true (by omega), Bool.true_and]
    congr 1; omega
  · rw [word_testBit_ge _ _ _ (by omega), decide_eq_false h, Bool.false_and]
theorem down_2 (p : Nat → Bool) (n m r k : Nat) (hn : n = 64 * m + r) (hr : r < 64) (hk : k + m + 1 < 4) :
    bits BinOp.or IntKind.u64 ↑(word (c1 (downP p n) k fun j => decide (j + r < 64)) k) (IntKind.u64.wrap (↑(word p (k + m + 1)) * 2 ^ (64 - r))) = ↑(word (c0 (downP p n) (k + 1)) k) := by
  rw [cast_pow, ← Int.natCast_mul, IntKind.wrap_u64, show (18446744073709551616 : Int) = ((18446744073709551616 : Nat) : Int) by rfl, ← Int.natCast_emod,
    bits_or_u64_nat _ _ (word_lt _ _) (Nat.mod_lt _ (by omega))]
  congr 1
  refine word_eq (Nat.or_lt_two_pow (n := 64) (word_lt _ _) (Nat.mod_lt _ (by omega))) fun j hj => ?_
  rw [Nat.testBit_or, word_testBit _ _ _ hj, c1_at _ _ _ _ hj, c0_at _ _ _ hj, show 18446744073709551616 = 2 ^ 64 by rfl, Nat.testBit_mod_two_pow, Nat.testBit_mul_two_pow]
  by_cases h : j + r < 64
  · rw [decide_eq_true h, decide_eq_false (p := 64 - r ≤ j) (by omega)]
    simp
  · rw [decide_eq_false h, decide_eq_true (p := 64 - r ≤ j) (by omega), decide_eq_true hj, word_testBit _ _ _ (by omega)]
    unfold downP
    rw [decide_eq_true (by omega)]
    simp only [Bool.false_and, Bool.false_or, Bool.true_and]
    congr 1; omega
theorem down_3 (p : Nat → Bool) (n m r k : Nat) (hn : n = 64 * m + r) (hk : 4 ≤ k + m + 1) : word (c1 (downP p n) k fun j => decide (j + r < 64)) k = word (c0 (downP p n) (k + 1)) k :=
  word_congr fun j hj => by
    rw [c1_at _ _ _ _ hj, c0_at _ _ _ hj]
    by_cases h : j + r < 64
    · simp [h]
    · unfold downP
      rw [decide_eq_false (p := _ < 256) (by omega)]
      simp
theorem down_all (p : Nat → Bool) (n m r k : Nat) (hn : n = 64 * m + r) (hk : 4 ≤ k + m) (j : Nat) : c0 (downP p n) k j = downP p n j := by
  unfold c0
  by_cases h : j < 64 * k
  · rw [decide_eq_true h, Bool.true_and]
  · unfold downP
    rw [decide_eq_false (p := _ < 256) (by omega)]
    simp
theorem c12_congr (u : Nat → Bool) (k : Nat) (f : Nat → Bool) (e : word (c1 u k f) k = word (c0 u (k + 1)) k) (j : Nat) : c1 u k f j = c0 u (k + 1) j := by
  have h := c12 u k f (j / 64)
  by_cases hjk : j / 64 = k
  · have := congrArg (fun x => Nat.testBit x (j % 64)) e
    rw [← hjk, word_at, word_at] at this
    rw [← hjk]; exact this
  · have := congrArg (fun x => Nat.testBit x (j % 64)) (h hjk)
    rw [word_at, word_at] at this
    exact this
end Go.Proofs.YtmnmcikbbfcjcaaGreatDoor.Bs
/-
  up: a set moved up by less than there are nodes.
-/
namespace Go.Proofs.YtmnmcikbbfcjcaaGreatDoor.Bs
open Go.RowKit
theorem moved_start (w : World) (p : Nat → Bool) :
    Blk (((w.alloc (objOf p)).alloc (.cells #[.int .u64 0, .int .u64 0, .int .u64 0, .int .u64 0] 46)).alloc (.cells #[.int .u64 0, .int .u64 0, .int .u64 0, .int .u64 0] 46)) w.heap.size p ∧
    Blk (((w.alloc (objOf p)).alloc (.cells #[.int .u64 0, .int .u64 0, .int .u64 0, .int .u64 0] 46)).alloc (.cells #[.int .u64 0, .int .u64 0, .int .u64 0, .int .u64 0] 46)) (w.heap.size + 1) (fun _ => false) ∧
    Blk (((w.alloc (objOf p)).alloc (.cells #[.int .u64 0, .int .u64 0, .int .u64 0, .int .u64 0] 46)).alloc (.cells #[.int .u64 0, .int .u64 0, .int .u64 0, .int .u64 0] 46)) (w.heap.size + 1 + 1) (fun _ => false) ∧
    Below w.heap.size w (((w.alloc (objOf p)).alloc (.cells #[.int .u64 0, .int .u64 0, .int .u64 0, .int .u64 0] 46)).alloc (.cells #[.int .u64 0, .int .u64 0, .int .u64 0, .int .u64 0] 46)) := by
  have h2 := Blk.zero (w.alloc (objOf p))
  have h3 := Blk.zero ((w.alloc (objOf p)).alloc (.cells #[.int .u64 0, .int .u64 0, .int .u64 0, .int .u64 0] 46))
  rw [World.size_alloc] at h2
  rw [World.size_alloc, World.size_alloc] at h3
  exact ⟨((Blk.new w p).old _).old _, h2.old _, h3, ((((Below.refl _ _).alloc (Nat.le_refl _) _).alloc (by simp) _).alloc (by simp; omega) _)⟩
set_option maxRecDepth 100000 in
set_option maxHeartbeats 1600000 in
theorem up_any (p : Nat → Bool) (n m r : Nat) (w : World) (hn : n < 256) (hm : n / 64 = m) (hr : n % 64 = r) :
    Calls Tryz.prog 116 #[nodes p, .int .i64 n] w fun e w' => e = .returned (nodes (upP p n)) ∧ Below w.heap.size w w' := by
  have hq : (n : Int) / 64 = m := by omega
  have hrr : (n : Int) % 64 = r := by omega
  have hm4 : m < 4 := by omega
  have hr6 : r < 64 := by omega
  have hn' := hid (show n = 64 * m + r by omega)
  clear hm hr
  go_enter Tryz.func116, Tryz.ntmps116
  go_wp2
  go_loopw [8] (fun i wr => ∃ k : Nat, k ≤ 4 ∧ m ≤ k ∧ i = .int .i64 k ∧ Blk wr w.heap.size p ∧ Blk wr (w.heap.size + 1) (fun _ => false) ∧ Blk wr (w.heap.size + 1 + 1) (c0 (upP p n) k) ∧ Below w.heap.size w wr) (fun i _ => 4 - (intOf i).toNat)
  case atStart =>
    obtain ⟨s1, s2, s3, s4⟩ := moved_start w p
    exact ⟨m, by omega, by omega, rfl, s1, s2, s3.congr fun j _ => (up_0 p n m r hn'.out j).symm, s4⟩
  case round =>
    obtain ⟨k, hk, hmk, rfl, hs, hr, ht, hB⟩ := hrel
    by_cases hlt : k < 4
    · have ck := hs.cell (k - m) (by omega)
      have ft := ht.free k
      have ct := ht.cell k hlt
      have hkb : decide ((k : Int) < 4) = true := by rw [decide_eq_true_iff]; omega
      have h0 : (0 : Int) ≤ k := by omega
      have h4 : (k : Int) < 4 := by omega
      have hv := up_1 p n m r k hn'.out hmk
      have ht2 := ht.store k _ hlt rfl (fun j _ hj => c01 (upP p n) k (fun j => decide (r ≤ j)) j hj)
      have hs2 := hs.other (a := ⟨w.heap.size + 1 + 1, k, none⟩) (by simp; omega) (.int .u64 (word (c1 (upP p n) k fun j => decide (r ≤ j)) k))
      have hr2 := hr.other (a := ⟨w.heap.size + 1 + 1, k, none⟩) (by simp) (.int .u64 (word (c1 (upP p n) k fun j => decide (r ≤ j)) k))
      have hB2 := hB.setCell (p := ⟨w.heap.size + 1 + 1, k, none⟩) (by simp; omega) (.int .u64 (word (c1 (upP p n) k fun j => decide (r ≤ j)) k))
      by_cases hgt : m < k
      · have hgb : decide ((m : Int) < k) = true := by rw [decide_eq_true_iff]; omega
        have e1 : IntKind.i64.wrap ((k : Int) - m) = (k : Int) - m := IntWalk.i64_in _ (by omega)
        have e2 : IntKind.i64.wrap ((k : Int) - m - 1) = (k : Int) - m - 1 := IntWalk.i64_in _ (by omega)
        have e3 : IntKind.i64.wrap (64 - (n : Int) % 64) = 64 - (n : Int) % 64 := IntWalk.i64_in _ (by omega)
        have e4 : ((k : Int) - m - 1).toNat = k - m - 1 := by omega
        have h5 : 0 ≤ (k : Int) - m - 1 := by omega
        have h6 : (k : Int) - m - 1 < 4 := by omega
        have h7 : 0 ≤ 64 - (n : Int) % 64 := by omega
        have g1 := hid ht2
        have g2 := hid hs2
        have g3 := hid hr2
        have g4 := hid hB2
        clear hs hr ht hB ht2 hs2 hr2 hB2
        go_wp2
        have ht2 := g1.out
        have hs2 := g2.out
        have hr2 := g3.out
        have hB2 := g4.out
        clear g1 g2 g3 g4 ck ft ct
        generalize wr.setCell ⟨w.heap.size + 1 + 1, k, none⟩ (.int .u64 (word (c1 (upP p n) k fun j => decide (r ≤ j)) k)) = w2 at *
        have ck1 := hs2.cell (k - m - 1) (by omega)
        have ct1 := ht2.cell k hlt
        have ft1 := ht2.free k
        have hv2 := up_2 p n m r k hn'.out hr6 hgt
        have ht3 := (ht2.store k _ hlt rfl (fun j _ hj => c12 (upP p n) k (fun j => decide (r ≤ j)) j hj)).drew
        have hs3 := (hs2.other (a := ⟨w.heap.size + 1 + 1, k, none⟩) (by simp; omega) (.int .u64 (word (c0 (upP p n) (k + 1)) k))).drew
        have hr3 := (hr2.other (a := ⟨w.heap.size + 1 + 1, k, none⟩) (by simp) (.int .u64 (word (c0 (upP p n) (k + 1)) k))).drew
        have hB3 := (hB2.setCell (p := ⟨w.heap.size + 1 + 1, k, none⟩) (by simp; omega) (.int .u64 (word (c0 (upP p n) (k + 1)) k))).drew
        have g1 := hid ht3
        have g2 := hid hs3
        have g3 := hid hr3
        have g4 := hid hB3
        clear ht2 hs2 hr2 hB2 ht3 hs3 hr3 hB3
        go_region
        clear ck1 ct1 ft1 e1 e2 e3 e4 h5 h6 h7
        go_wp2
        go_roundw
        case rel => exact ⟨k + 1, by omega, by omega, by go_num, g2.out, g3.out, g1.out, g4.out⟩
        case measure => simp [intOf]; omega
      · have ht3 := ht2.congr (q := c0 (upP p n) (k + 1)) fun j hj => by
          have h := c12 (upP p n) k (fun j => decide (r ≤ j)) (j / 64)
          by_cases hjk : j / 64 = k
          · have e := up_3 p n k r (by have := hn'.out; omega)
            have := congrArg (fun x => Nat.testBit x (j % 64)) e
            rw [← hjk, word_at, word_at] at this
            rw [← hjk]; exact this
          · have := congrArg (fun x => Nat.testBit x (j % 64)) (h hjk)
            rw [word_at, word_at] at this
            exact this
        have hgb : decide ((m : Int) < k) = false := by rw [decide_eq_false_iff_not]; omega
        have g1 := hid ht3
        have g2 := hid hs2
        have g3 := hid hr2
        have g4 := hid hB2
        clear hs hr ht hB ht2 ht3 hs2 hr2 hB2
        go_wp2
        go_roundw
        case rel => exact ⟨k + 1, by omega, by omega, by go_num, g2.out, g3.out, g1.out, g4.out⟩
        case measure => simp [intOf]; omega
    · obtain rfl : k = 4 := by omega
      have hs' : Blk wr (w.heap.size + 1 + 1) (upP p n) := ht.congr fun j hj => c0_all _ j hj
      obtain ⟨d0, d1, d2, d3⟩ := hs'.four
      obtain ⟨g0, g1, g2, g3⟩ := hr.frees
      obtain ⟨b0, b1, b2, b3⟩ := hr.four
      go_wp2
      obtain ⟨k0, k1, k2, k3⟩ := (hr.stores (upP p n)).four
      refine bodyPost_ret (v := nodes (upP p n)) (by simp [results, Tryz.results116, go_sem, k0, k1, k2, k3]) rfl ⟨rfl, below_stores hB (by omega) _ _ _ _⟩
end Go.Proofs.YtmnmcikbbfcjcaaGreatDoor.Bs
/-
  down: a set moved down by less than there are nodes.
-/
namespace Go.Proofs.YtmnmcikbbfcjcaaGreatDoor.Bs
open Go.RowKit
set_option maxRecDepth 100000 in
set_option maxHeartbeats 1600000 in
theorem down_any (p : Nat → Bool) (n m r : Nat) (w : World) (hn : n < 256) (hm : n / 64 = m) (hr : n % 64 = r) :
    Calls Tryz.prog 115 #[nodes p, .int .i64 n] w fun e w' => e = .returned (nodes (downP p n)) ∧ Below w.heap.size w w' := by
  have hq : (n : Int) / 64 = m := by omega
  have hrr : (n : Int) % 64 = r := by omega
  have hm4 : m < 4 := by omega
  have hr6 : r < 64 := by omega
  have hn' := hid (show n = 64 * m + r by omega)
  clear hm hr
  go_enter Tryz.func115, Tryz.ntmps115
  go_wp2
  go_loopw [8] (fun i wr => ∃ k : Nat, k + m ≤ 4 ∧ i = .int .i64 k ∧ Blk wr w.heap.size p ∧ Blk wr (w.heap.size + 1) (fun _ => false) ∧ Blk wr (w.heap.size + 1 + 1) (c0 (downP p n) k) ∧ Below w.heap.size w wr) (fun i _ => 4 - (intOf i).toNat)
  case atStart =>
    obtain ⟨s1, s2, s3, s4⟩ := moved_start w p
    exact ⟨0, by omega, rfl, s1, s2, s3.congr fun j _ => (c0_zero _ j).symm, s4⟩
  case round =>
    obtain ⟨k, hk, rfl, hs, hr, ht, hB⟩ := hrel
    by_cases hlt : k + m < 4
    · have hk4 : k < 4 := by omega
      have ck := hs.cell (k + m) (by omega)
      have ft := ht.free k
      have ct := ht.cell k hk4
      have hkb : decide ((k : Int) + m < 4) = true := by rw [decide_eq_true_iff]; omega
      have h0 : (0 : Int) ≤ k := by omega
      have h4 : (k : Int) < 4 := by omega
      have h8 : (k : Int) + m < 4 := by omega
      have h9 : 0 ≤ (k : Int) + m := by omega
      have h10 : ((k : Int) + m).toNat = k + m := by omega
      have hv := down_1 p n m r k hn'.out hlt
      have ht2 := ht.store k _ hk4 rfl (fun j _ hj => c01 (downP p n) k (fun j => decide (j + r < 64)) j hj)
      have hs2 := hs.other (a := ⟨w.heap.size + 1 + 1, k, none⟩) (by simp; omega) (.int .u64 (word (c1 (downP p n) k fun j => decide (j + r < 64)) k))
      have hr2 := hr.other (a := ⟨w.heap.size + 1 + 1, k, none⟩) (by simp) (.int .u64 (word (c1 (downP p n) k fun j => decide (j + r < 64)) k))
      have hB2 := hB.setCell (p := ⟨w.heap.size + 1 + 1, k, none⟩) (by simp; omega) (.int .u64 (word (c1 (downP p n) k fun j => decide (j + r < 64)) k))
      by_cases hgt : k + m + 1 < 4
      · have hgb : decide ((k : Int) + m + 1 < 4) = true := by rw [decide_eq_true_iff]; omega
        have e1 : IntKind.i64.wrap ((k : Int) + m) = (k : Int) + m := IntWalk.i64_in _ (by omega)
        have e2 : IntKind.i64.wrap ((k : Int) + m + 1) = (k : Int) + m + 1 := IntWalk.i64_in _ (by omega)
        have e3 : IntKind.i64.wrap (64 - (n : Int) % 64) = 64 - (n : Int) % 64 := IntWalk.i64_in _ (by omega)
        have e4 : ((k : Int) + m + 1).toNat = k + m + 1 := by omega
        have h5 : 0 ≤ (k : Int) + m + 1 := by omega
        have h6 : (k : Int) + m + 1 < 4 := by omega
        have h7 : 0 ≤ 64 - (n : Int) % 64 := by omega
        have g1 := hid ht2
        have g2 := hid hs2
        have g3 := hid hr2
        have g4 := hid hB2
        clear hs hr ht hB ht2 hs2 hr2 hB2
        go_wp2
        have ht2 := g1.out
        have hs2 := g2.out
        have hr2 := g3.out
        have hB2 := g4.out
        clear g1 g2 g3 g4 ck ft ct
        generalize wr.setCell ⟨w.heap.size + 1 + 1, k, none⟩ (.int .u64 (word (c1 (downP p n) k fun j => decide (j + r < 64)) k)) = w2 at *
        have ck1 := hs2.cell (k + m + 1) (by omega)
        have ct1 := ht2.cell k hk4
        have ft1 := ht2.free k
        have hv2 := down_2 p n m r k hn'.out hr6 hgt
        have ht3 := (ht2.store k _ hk4 rfl (fun j _ hj => c12 (downP p n) k (fun j => decide (j + r < 64)) j hj)).drew
        have hs3 := (hs2.other (a := ⟨w.heap.size + 1 + 1, k, none⟩) (by simp; omega) (.int .u64 (word (c0 (downP p n) (k + 1)) k))).drew
        have hr3 := (hr2.other (a := ⟨w.heap.size + 1 + 1, k, none⟩) (by simp) (.int .u64 (word (c0 (downP p n) (k + 1)) k))).drew
        have hB3 := (hB2.setCell (p := ⟨w.heap.size + 1 + 1, k, none⟩) (by simp; omega) (.int .u64 (word (c0 (downP p n) (k + 1)) k))).drew
        have g1 := hid ht3
        have g2 := hid hs3
        have g3 := hid hr3
        have g4 := hid hB3
        clear ht2 hs2 hr2 hB2 ht3 hs3 hr3 hB3
        go_region
        clear ck1 ct1 ft1 e1 e2 e3 e4 h5 h6 h7
        go_wp2
        go_roundw
        case rel => exact ⟨k + 1, by omega, by go_num, g2.out, g3.out, g1.out, g4.out⟩
        case measure => simp [intOf]; omega
      · have ht3 := ht2.congr fun j _ => c12_congr (downP p n) k _ (down_3 p n m r k hn'.out (by omega)) j
        have hgb : decide ((k : Int) + m + 1 < 4) = false := by rw [decide_eq_false_iff_not]; omega
        have g1 := hid ht3
        have g2 := hid hs2
        have g3 := hid hr2
        have g4 := hid hB2
        clear hs hr ht hB ht2 ht3 hs2 hr2 hB2
        go_wp2
        go_roundw
        case rel => exact ⟨k + 1, by omega, by go_num, g2.out, g3.out, g1.out, g4.out⟩
        case measure => simp [intOf]; omega
    · have hs' : Blk wr (w.heap.size + 1 + 1) (downP p n) := ht.congr fun j _ => down_all p n m r k hn'.out (by omega) j
      have hkb : decide ((k : Int) + m < 4) = false := by rw [decide_eq_false_iff_not]; omega
      obtain ⟨d0, d1, d2, d3⟩ := hs'.four
      obtain ⟨g0, g1, g2, g3⟩ := hr.frees
      obtain ⟨b0, b1, b2, b3⟩ := hr.four
      go_wp2
      obtain ⟨k0, k1, k2, k3⟩ := (hr.stores (downP p n)).four
      refine bodyPost_ret (v := nodes (downP p n)) (by simp [results, Tryz.results115, go_sem, k0, k1, k2, k3]) rfl ⟨rfl, below_stores hB (by omega) _ _ _ _⟩
end Go.Proofs.YtmnmcikbbfcjcaaGreatDoor.Bs
/-
  Move and Span.
-/
namespace Go.Proofs.YtmnmcikbbfcjcaaGreatDoor.Bs
open Go.RowKit
/-- A set moved by any number. -/
def moveP (p : Nat → Bool) (d : Int) : Nat → Bool := fun j => decide (0 ≤ (j : Int) - d) && decide ((j : Int) - d < 256) && p ((j : Int) - d).toNat
theorem moveP_up (p : Nat → Bool) (n : Nat) (j : Nat) (hj : j < 256) : upP p n j = moveP p n j := by
  unfold upP moveP
  by_cases h : n ≤ j
  · rw [decide_eq_true h, decide_eq_true (p := 0 ≤ _) (by omega), decide_eq_true (p := _ < (256 : Int)) (by omega), show ((j : Int) - n).toNat = j - n by omega]; rfl
  · rw [decide_eq_false h, decide_eq_false (p := 0 ≤ _) (by omega)]; rfl
theorem moveP_down (p : Nat → Bool) (n : Nat) (j : Nat) : downP p n j = moveP p (-(n : Int)) j := by
  unfold downP moveP
  by_cases h : j + n < 256
  · rw [decide_eq_true h, decide_eq_true (p := 0 ≤ _) (by omega), decide_eq_true (p := _ < (256 : Int)) (by omega), show ((j : Int) - -(n : Int)).toNat = j + n by omega]; rfl
  · rw [decide_eq_false h, decide_eq_false (p := _ < (256 : Int)) (by omega)]; simp
theorem moveP_far (p : Nat → Bool) (d : Int) (h : d ≤ -256 ∨ 256 ≤ d) (j : Nat) (hj : j < 256) : false = moveP p d j := by
  unfold moveP
  rcases h with h | h
  · rw [decide_eq_false (p := _ < (256 : Int)) (by omega)]; simp
  · rw [decide_eq_false (p := 0 ≤ _) (by omega)]; rfl
theorem zero_nodes : nodes (fun _ => false) = .agg #[.int .u64 0, .int .u64 0, .int .u64 0, .int .u64 0] := by
  unfold nodes; rw [zero_word, zero_word, zero_word, zero_word]; rfl
theorem two_start (w : World) (p : Nat → Bool) :
    Blk ((w.alloc (objOf p)).alloc (.cells #[.int .u64 0, .int .u64 0, .int .u64 0, .int .u64 0] 46)) w.heap.size p ∧
    Blk ((w.alloc (objOf p)).alloc (.cells #[.int .u64 0, .int .u64 0, .int .u64 0, .int .u64 0] 46)) (w.heap.size + 1) (fun _ => false) ∧
    Below w.heap.size w ((w.alloc (objOf p)).alloc (.cells #[.int .u64 0, .int .u64 0, .int .u64 0, .int .u64 0] 46)) := by
  have h2 := Blk.zero (w.alloc (objOf p))
  rw [World.size_alloc] at h2
  exact ⟨(Blk.new w p).old _, h2, (((Below.refl _ _).alloc (Nat.le_refl _) _).alloc (by simp) _)⟩
set_option maxRecDepth 100000 in
set_option maxHeartbeats 800000 in
theorem move_far (p : Nat → Bool) (d : Int) (w : World) (h : d ≤ -256 ∨ 256 ≤ d) :
    Calls Tryz.prog 82 #[nodes p, .int .i64 d] w fun e w' => e = .returned (nodes fun _ => false) ∧ Below w.heap.size w w' := by
  obtain ⟨s1, s2, s3⟩ := two_start w p
  rw [zero_nodes]
  rcases h with h | h
  · go_enter Tryz.func82, Tryz.ntmps82
    go_wp2
    refine bodyPost_ret (v := .agg #[.int .u64 0, .int .u64 0, .int .u64 0, .int .u64 0]) (by simp [results, Tryz.results82, go_sem]) rfl ⟨rfl, ?_⟩
    exact s3
  · have h' : ¬ d ≤ -256 := by omega
    go_enter Tryz.func82, Tryz.ntmps82
    go_wp2
    refine bodyPost_ret (v := .agg #[.int .u64 0, .int .u64 0, .int .u64 0, .int .u64 0]) (by simp [results, Tryz.results82, go_sem]) rfl ⟨rfl, ?_⟩
    exact s3
set_option maxRecDepth 100000 in
set_option maxHeartbeats 800000 in
theorem move_down (p : Nat → Bool) (d : Int) (w : World) (h : -256 < d) (h' : d < 0) :
    Calls Tryz.prog 82 #[nodes p, .int .i64 d] w fun e w' => e = .returned (nodes (moveP p d)) ∧ Below w.heap.size w w' := by
  obtain ⟨s1, s2, s3⟩ := two_start w p
  have h1 : ¬ d ≤ -256 := by omega
  have h2 : ¬ 256 ≤ d := by omega
  obtain ⟨n, hn⟩ : ∃ n : Nat, -d = n := ⟨(-d).toNat, by omega⟩
  have e1 : IntKind.i64.wrap (-d) = -d := IntWalk.i64_in _ (by omega)
  have hd := hid (show d = -(n : Int) by omega)
  go_enter Tryz.func82, Tryz.ntmps82
  go_wp2_with fail
  refine (down_any p n _ _ _ (by omega) rfl rfl).mono ?_
  rintro e w1 ⟨rfl, hx⟩
  have hr := s2.below hx (by simp)
  have hB := s3.trans (hx.mono (by simp; omega))
  clear s1 s2 s3 hx
  obtain ⟨g0, g1, g2, g3⟩ := hr.frees
  obtain ⟨d0, d1, d2, d3⟩ := hr.four
  go_wp2
  obtain ⟨k0, k1, k2, k3⟩ := (hr.stores (downP p n)).four
  rw [hd.out, ← nodes_congr (p := downP p n) (q := moveP p (-(n : Int))) fun j _ => moveP_down p n j]
  refine bodyPost_ret (v := nodes (downP p n)) (by simp [results, Tryz.results82, go_sem, k0, k1, k2, k3]) rfl ⟨rfl, below_stores hB (by omega) _ _ _ _⟩
set_option maxRecDepth 100000 in
set_option maxHeartbeats 800000 in
theorem move_up (p : Nat → Bool) (n : Nat) (w : World) (h : n < 256) :
    Calls Tryz.prog 82 #[nodes p, .int .i64 n] w fun e w' => e = .returned (nodes (moveP p n)) ∧ Below w.heap.size w w' := by
  obtain ⟨s1, s2, s3⟩ := two_start w p
  have h1 : ¬ (n : Int) ≤ -256 := by omega
  have h2 : ¬ 256 ≤ (n : Int) := by omega
  have h3 : ¬ (n : Int) < 0 := by omega
  go_enter Tryz.func82, Tryz.ntmps82
  go_wp2_with fail
  refine (up_any p n _ _ _ (by omega) rfl rfl).mono ?_
  rintro e w1 ⟨rfl, hx⟩
  have hr := s2.below hx (by simp)
  have hB := s3.trans (hx.mono (by simp; omega))
  clear s1 s2 s3 hx
  obtain ⟨g0, g1, g2, g3⟩ := hr.frees
  obtain ⟨d0, d1, d2, d3⟩ := hr.four
  go_wp2
  obtain ⟨k0, k1, k2, k3⟩ := (hr.stores (upP p n)).four
  rw [← nodes_congr (p := upP p n) (q := moveP p n) fun j hj => moveP_up p n j hj]
  refine bodyPost_ret (v := nodes (upP p n)) (by simp [results, Tryz.results82, go_sem, k0, k1, k2, k3]) rfl ⟨rfl, below_stores hB (by omega) _ _ _ _⟩
theorem move_any (p : Nat → Bool) (d : Int) (w : World) :
    Calls Tryz.prog 82 #[nodes p, .int .i64 d] w fun e w' => e = .returned (nodes (moveP p d)) ∧ Below w.heap.size w w' := by
  by_cases h : d ≤ -256 ∨ 256 ≤ d
  · rw [← nodes_congr (p := fun _ => false) (q := moveP p d) fun j hj => moveP_far p d h j hj]
    exact move_far p d w h
  by_cases h0 : d < 0
  · exact move_down p d w (by omega) h0
  · obtain ⟨n, rfl⟩ := Int.eq_ofNat_of_zero_le (show 0 ≤ d by omega)
    exact move_up p n w (by omega)
theorem full_word (k : Nat) : word (fun _ => true) k = 18446744073709551615 :=
  (word_eq (x := 18446744073709551615) (by omega) fun j hj => by
    rw [show 18446744073709551615 = 2 ^ 64 - 1 by rfl, Nat.testBit_two_pow_sub_one, decide_eq_true hj]).symm
set_option maxRecDepth 100000 in
set_option maxHeartbeats 800000 in
theorem all_any (w : World) :
    Calls Tryz.prog 83 #[] w fun e w' => e = .returned (nodes fun _ => true) ∧ Below w.heap.size w w' := by
  have hz : nodes (fun _ => true) = .agg #[.int .u64 18446744073709551615, .int .u64 18446744073709551615, .int .u64 18446744073709551615, .int .u64 18446744073709551615] := by
    unfold nodes; rw [full_word, full_word, full_word, full_word]; rfl
  rw [hz]
  go_enter Tryz.func83, Tryz.ntmps83
  go_wp2
  refine bodyPost_ret (v := .agg #[.int .u64 18446744073709551615, .int .u64 18446744073709551615, .int .u64 18446744073709551615, .int .u64 18446744073709551615]) (by simp [results, Tryz.results83, go_sem]) rfl ⟨rfl, ?_⟩
  exact (Below.refl _ _).alloc (Nat.le_refl _) _
end Go.Proofs.YtmnmcikbbfcjcaaGreatDoor.Bs
/-
  Span: the numbers from one to another.
-/
namespace Go.Proofs.YtmnmcikbbfcjcaaGreatDoor.Bs
open Go.RowKit
theorem span_eq (l r a c : Int) (h : (a = l ∧ 0 ≤ l) ∨ (a = 0 ∧ l < 0)) (h2 : (c = r - 255 ∧ -1 ≤ r ∧ r ≤ 255) ∨ (c = -256 ∧ r < -1) ∨ (c = 0 ∧ 255 < r)) (j : Nat) (hj : j < 256) :
    (fun j => moveP (fun _ => true) a j && moveP (fun _ => true) c j) j = spanP l r j := by
  unfold moveP spanP
  rw [Bool.eq_iff_iff]
  simp
  omega
set_option maxRecDepth 100000 in
set_option maxHeartbeats 800000 in
theorem span_00 (l r : Int) (w : World) (h1 : ¬ l < 0) (h2 : ¬ r < -1) (h3 : ¬ 255 < r) :
    Calls Tryz.prog 49 #[.int .i64 l, .int .i64 r] w fun e w' => e = .returned (nodes (spanP l r)) ∧ Below w.heap.size w w' := by
  have s1 := Blk.zero w
  have s2 : Below w.heap.size w (w.alloc (.cells #[.int .u64 0, .int .u64 0, .int .u64 0, .int .u64 0] 46)) := (Below.refl _ _).alloc (Nat.le_refl _) _
  obtain ⟨q, hq, he⟩ : ∃ q : Nat → Bool, Hid (∀ j, j < 256 → q j = spanP l r j) ∧ Hid ((fun j => moveP (fun _ => true) l j && moveP (fun _ => true) (r - 255) j) = q) := ⟨_, span_eq l r l (r - 255) (.inl ⟨rfl, by omega⟩) (.inl ⟨rfl, by omega, by omega⟩), rfl⟩
  go_enter Tryz.func49, Tryz.ntmps49
  go_wp2_with fail
  refine (all_any _).mono ?_
  rintro e w1 ⟨rfl, hx⟩
  have s3 := s1.below hx s1.lt
  have s4 := s2.trans (hx.mono (Nat.le_of_lt s1.lt))
  clear s1 s2 hx
  go_wp2_with fail
  refine (move_any (fun _ => true) l _).mono ?_
  rintro e w2 ⟨rfl, hx⟩
  have s5 := s3.below hx s3.lt
  have s6 := s4.trans (hx.mono (Nat.le_of_lt s3.lt))
  clear s3 s4 hx
  go_wp2_with fail
  refine (all_any _).mono ?_
  rintro e w3 ⟨rfl, hx⟩
  have s7 := s5.below hx s5.lt
  have s8 := s6.trans (hx.mono (Nat.le_of_lt s5.lt))
  clear s5 s6 hx
  go_wp2_with fail
  refine (move_any (fun _ => true) (r - 255) _).mono ?_
  rintro e w4 ⟨rfl, hx⟩
  have s9 := s7.below hx s7.lt
  have s10 := s8.trans (hx.mono (Nat.le_of_lt s7.lt))
  clear s7 s8 hx
  go_wp2_with fail
  refine (op_and (moveP (fun _ => true) l) (moveP (fun _ => true) (r - 255)) _).mono ?_
  rintro e w5 ⟨rfl, hx⟩
  rw [he.out]
  have hr := s9.below hx s9.lt
  have hB := s10.trans (hx.mono (Nat.le_of_lt s9.lt))
  clear s9 s10 hx
  obtain ⟨g0, g1, g2, g3⟩ := hr.frees
  obtain ⟨d0, d1, d2, d3⟩ := hr.four
  go_wp2
  obtain ⟨k0, k1, k2, k3⟩ := (hr.stores q).four
  rw [← nodes_congr hq.out]
  refine bodyPost_ret (v := nodes q) (by simp [results, Tryz.results49, go_sem, k0, k1, k2, k3]) rfl ⟨rfl, below_stores hB (by omega) _ _ _ _⟩
set_option maxRecDepth 100000 in
set_option maxHeartbeats 800000 in
theorem span_01 (l r : Int) (w : World) (h1 : ¬ l < 0) (h2 : r < -1) :
    Calls Tryz.prog 49 #[.int .i64 l, .int .i64 r] w fun e w' => e = .returned (nodes (spanP l r)) ∧ Below w.heap.size w w' := by
  have s1 := Blk.zero w
  have s2 : Below w.heap.size w (w.alloc (.cells #[.int .u64 0, .int .u64 0, .int .u64 0, .int .u64 0] 46)) := (Below.refl _ _).alloc (Nat.le_refl _) _
  obtain ⟨q, hq, he⟩ : ∃ q : Nat → Bool, Hid (∀ j, j < 256 → q j = spanP l r j) ∧ Hid ((fun j => moveP (fun _ => true) l j && moveP (fun _ => true) (-256) j) = q) := ⟨_, span_eq l r l (-256) (.inl ⟨rfl, by omega⟩) (.inr (.inl ⟨rfl, by omega⟩)), rfl⟩
  go_enter Tryz.func49, Tryz.ntmps49
  go_wp2_with fail
  refine (all_any _).mono ?_
  rintro e w1 ⟨rfl, hx⟩
  have s3 := s1.below hx s1.lt
  have s4 := s2.trans (hx.mono (Nat.le_of_lt s1.lt))
  clear s1 s2 hx
  go_wp2_with fail
  refine (move_any (fun _ => true) l _).mono ?_
  rintro e w2 ⟨rfl, hx⟩
  have s5 := s3.below hx s3.lt
  have s6 := s4.trans (hx.mono (Nat.le_of_lt s3.lt))
  clear s3 s4 hx
  go_wp2_with fail
  refine (all_any _).mono ?_
  rintro e w3 ⟨rfl, hx⟩
  have s7 := s5.below hx s5.lt
  have s8 := s6.trans (hx.mono (Nat.le_of_lt s5.lt))
  clear s5 s6 hx
  go_wp2_with fail
  refine (move_any (fun _ => true) (-256) _).mono ?_
  rintro e w4 ⟨rfl, hx⟩
  have s9 := s7.below hx s7.lt
  have s10 := s8.trans (hx.mono (Nat.le_of_lt s7.lt))
  clear s7 s8 hx
  go_wp2_with fail
  refine (op_and (moveP (fun _ => true) l) (moveP (fun _ => true) (-256)) _).mono ?_
  rintro e w5 ⟨rfl, hx⟩
  rw [he.out]
  have hr := s9.below hx s9.lt
  have hB := s10.trans (hx.mono (Nat.le_of_lt s9.lt))
  clear s9 s10 hx
  obtain ⟨g0, g1, g2, g3⟩ := hr.frees
  obtain ⟨d0, d1, d2, d3⟩ := hr.four
  go_wp2
  obtain ⟨k0, k1, k2, k3⟩ := (hr.stores q).four
  rw [← nodes_congr hq.out]
  refine bodyPost_ret (v := nodes q) (by simp [results, Tryz.results49, go_sem, k0, k1, k2, k3]) rfl ⟨rfl, below_stores hB (by omega) _ _ _ _⟩
set_option maxRecDepth 100000 in
set_option maxHeartbeats 800000 in
theorem span_02 (l r : Int) (w : World) (h1 : ¬ l < 0) (h2 : 255 < r) (h3 : ¬ r < -1) :
    Calls Tryz.prog 49 #[.int .i64 l, .int .i64 r] w fun e w' => e = .returned (nodes (spanP l r)) ∧ Below w.heap.size w w' := by
  have s1 := Blk.zero w
  have s2 : Below w.heap.size w (w.alloc (.cells #[.int .u64 0, .int .u64 0, .int .u64 0, .int .u64 0] 46)) := (Below.refl _ _).alloc (Nat.le_refl _) _
  obtain ⟨q, hq, he⟩ : ∃ q : Nat → Bool, Hid (∀ j, j < 256 → q j = spanP l r j) ∧ Hid ((fun j => moveP (fun _ => true) l j && moveP (fun _ => true) 0 j) = q) := ⟨_, span_eq l r l 0 (.inl ⟨rfl, by omega⟩) (.inr (.inr ⟨rfl, by omega⟩)), rfl⟩
  go_enter Tryz.func49, Tryz.ntmps49
  go_wp2_with fail
  refine (all_any _).mono ?_
  rintro e w1 ⟨rfl, hx⟩
  have s3 := s1.below hx s1.lt
  have s4 := s2.trans (hx.mono (Nat.le_of_lt s1.lt))
  clear s1 s2 hx
  go_wp2_with fail
  refine (move_any (fun _ => true) l _).mono ?_
  rintro e w2 ⟨rfl, hx⟩
  have s5 := s3.below hx s3.lt
  have s6 := s4.trans (hx.mono (Nat.le_of_lt s3.lt))
  clear s3 s4 hx
  go_wp2_with fail
  refine (all_any _).mono ?_
  rintro e w3 ⟨rfl, hx⟩
  have s7 := s5.below hx s5.lt
  have s8 := s6.trans (hx.mono (Nat.le_of_lt s5.lt))
  clear s5 s6 hx
  go_wp2_with fail
  refine (move_any (fun _ => true) 0 _).mono ?_
  rintro e w4 ⟨rfl, hx⟩
  have s9 := s7.below hx s7.lt
  have s10 := s8.trans (hx.mono (Nat.le_of_lt s7.lt))
  clear s7 s8 hx
  go_wp2_with fail
  refine (op_and (moveP (fun _ => true) l) (moveP (fun _ => true) 0) _).mono ?_
  rintro e w5 ⟨rfl, hx⟩
  rw [he.out]
  have hr := s9.below hx s9.lt
  have hB := s10.trans (hx.mono (Nat.le_of_lt s9.lt))
  clear s9 s10 hx
  obtain ⟨g0, g1, g2, g3⟩ := hr.frees
  obtain ⟨d0, d1, d2, d3⟩ := hr.four
  go_wp2
  obtain ⟨k0, k1, k2, k3⟩ := (hr.stores q).four
  rw [← nodes_congr hq.out]
  refine bodyPost_ret (v := nodes q) (by simp [results, Tryz.results49, go_sem, k0, k1, k2, k3]) rfl ⟨rfl, below_stores hB (by omega) _ _ _ _⟩
set_option maxRecDepth 100000 in
set_option maxHeartbeats 800000 in
theorem span_10 (l r : Int) (w : World) (h1 : l < 0) (h2 : ¬ r < -1) (h3 : ¬ 255 < r) :
    Calls Tryz.prog 49 #[.int .i64 l, .int .i64 r] w fun e w' => e = .returned (nodes (spanP l r)) ∧ Below w.heap.size w w' := by
  have s1 := Blk.zero w
  have s2 : Below w.heap.size w (w.alloc (.cells #[.int .u64 0, .int .u64 0, .int .u64 0, .int .u64 0] 46)) := (Below.refl _ _).alloc (Nat.le_refl _) _
  obtain ⟨q, hq, he⟩ : ∃ q : Nat → Bool, Hid (∀ j, j < 256 → q j = spanP l r j) ∧ Hid ((fun j => moveP (fun _ => true) 0 j && moveP (fun _ => true) (r - 255) j) = q) := ⟨_, span_eq l r 0 (r - 255) (.inr ⟨rfl, by omega⟩) (.inl ⟨rfl, by omega, by omega⟩), rfl⟩
  go_enter Tryz.func49, Tryz.ntmps49
  go_wp2_with fail
  refine (all_any _).mono ?_
  rintro e w1 ⟨rfl, hx⟩
  have s3 := s1.below hx s1.lt
  have s4 := s2.trans (hx.mono (Nat.le_of_lt s1.lt))
  clear s1 s2 hx
  go_wp2_with fail
  refine (move_any (fun _ => true) 0 _).mono ?_
  rintro e w2 ⟨rfl, hx⟩
  have s5 := s3.below hx s3.lt
  have s6 := s4.trans (hx.mono (Nat.le_of_lt s3.lt))
  clear s3 s4 hx
  go_wp2_with fail
  refine (all_any _).mono ?_
  rintro e w3 ⟨rfl, hx⟩
  have s7 := s5.below hx s5.lt
  have s8 := s6.trans (hx.mono (Nat.le_of_lt s5.lt))
  clear s5 s6 hx
  go_wp2_with fail
  refine (move_any (fun _ => true) (r - 255) _).mono ?_
  rintro e w4 ⟨rfl, hx⟩
  have s9 := s7.below hx s7.lt
  have s10 := s8.trans (hx.mono (Nat.le_of_lt s7.lt))
  clear s7 s8 hx
  go_wp2_with fail
  refine (op_and (moveP (fun _ => true) 0) (moveP (fun _ => true) (r - 255)) _).mono ?_
  rintro e w5 ⟨rfl, hx⟩
  rw [he.out]
  have hr := s9.below hx s9.lt
  have hB := s10.trans (hx.mono (Nat.le_of_lt s9.lt))
  clear s9 s10 hx
  obtain ⟨g0, g1, g2, g3⟩ := hr.frees
  obtain ⟨d0, d1, d2, d3⟩ := hr.four
  go_wp2
  obtain ⟨k0, k1, k2, k3⟩ := (hr.stores q).four
  rw [← nodes_congr hq.out]
  refine bodyPost_ret (v := nodes q) (by simp [results, Tryz.results49, go_sem, k0, k1, k2, k3]) rfl ⟨rfl, below_stores hB (by omega) _ _ _ _⟩
set_option maxRecDepth 100000 in
set_option maxHeartbeats 800000 in
theorem span_11 (l r : Int) (w : World) (h1 : l < 0) (h2 : r < -1) :
    Calls Tryz.prog 49 #[.int .i64 l, .int .i64 r] w fun e w' => e = .returned (nodes (spanP l r)) ∧ Below w.heap.size w w' := by
  have s1 := Blk.zero w
  have s2 : Below w.heap.size w (w.alloc (.cells #[.int .u64 0, .int .u64 0, .int .u64 0, .int .u64 0] 46)) := (Below.refl _ _).alloc (Nat.le_refl _) _
  obtain ⟨q, hq, he⟩ : ∃ q : Nat → Bool, Hid (∀ j, j < 256 → q j = spanP l r j) ∧ Hid ((fun j => moveP (fun _ => true) 0 j && moveP (fun _ => true) (-256) j) = q) := ⟨_, span_eq l r 0 (-256) (.inr ⟨rfl, by omega⟩) (.inr (.inl ⟨rfl, by omega⟩)), rfl⟩
  go_enter Tryz.func49, Tryz.ntmps49
  go_wp2_with fail
  refine (all_any _).mono ?_
  rintro e w1 ⟨rfl, hx⟩
  have s3 := s1.below hx s1.lt
  have s4 := s2.trans (hx.mono (Nat.le_of_lt s1.lt))
  clear s1 s2 hx
  go_wp2_with fail
  refine (move_any (fun _ => true) 0 _).mono ?_
  rintro e w2 ⟨rfl, hx⟩
  have s5 := s3.below hx s3.lt
  have s6 := s4.trans (hx.mono (Nat.le_of_lt s3.lt))
  clear s3 s4 hx
  go_wp2_with fail
  refine (all_any _).mono ?_
  rintro e w3 ⟨rfl, hx⟩
  have s7 := s5.below hx s5.lt
  have s8 := s6.trans (hx.mono (Nat.le_of_lt s5.lt))
  clear s5 s6 hx
  go_wp2_with fail
  refine (move_any (fun _ => true) (-256) _).mono ?_
  rintro e w4 ⟨rfl, hx⟩
  have s9 := s7.below hx s7.lt
  have s10 := s8.trans (hx.mono (Nat.le_of_lt s7.lt))
  clear s7 s8 hx
  go_wp2_with fail
  refine (op_and (moveP (fun _ => true) 0) (moveP (fun _ => true) (-256)) _).mono ?_
  rintro e w5 ⟨rfl, hx⟩
  rw [he.out]
  have hr := s9.below hx s9.lt
  have hB := s10.trans (hx.mono (Nat.le_of_lt s9.lt))
  clear s9 s10 hx
  obtain ⟨g0, g1, g2, g3⟩ := hr.frees
  obtain ⟨d0, d1, d2, d3⟩ := hr.four
  go_wp2
  obtain ⟨k0, k1, k2, k3⟩ := (hr.stores q).four
  rw [← nodes_congr hq.out]
  refine bodyPost_ret (v := nodes q) (by simp [results, Tryz.results49, go_sem, k0, k1, k2, k3]) rfl ⟨rfl, below_stores hB (by omega) _ _ _ _⟩
set_option maxRecDepth 100000 in
set_option maxHeartbeats 800000 in
theorem span_12 (l r : Int) (w : World) (h1 : l < 0) (h2 : 255 < r) (h3 : ¬ r < -1) :
    Calls Tryz.prog 49 #[.int .i64 l, .int .i64 r] w fun e w' => e = .returned (nodes (spanP l r)) ∧ Below w.heap.size w w' := by
  have s1 := Blk.zero w
  have s2 : Below w.heap.size w (w.alloc (.cells #[.int .u64 0, .int .u64 0, .int .u64 0, .int .u64 0] 46)) := (Below.refl _ _).alloc (Nat.le_refl _) _
  obtain ⟨q, hq, he⟩ : ∃ q : Nat → Bool, Hid (∀ j, j < 256 → q j = spanP l r j) ∧ Hid ((fun j => moveP (fun _ => true) 0 j && moveP (fun _ => true) 0 j) = q) := ⟨_, span_eq l r 0 0 (.inr ⟨rfl, by omega⟩) (.inr (.inr ⟨rfl, by omega⟩)), rfl⟩
  go_enter Tryz.func49, Tryz.ntmps49
  go_wp2_with fail
  refine (all_any _).mono ?_
  rintro e w1 ⟨rfl, hx⟩
  have s3 := s1.below hx s1.lt
  have s4 := s2.trans (hx.mono (Nat.le_of_lt s1.lt))
  clear s1 s2 hx
  go_wp2_with fail
  refine (move_any (fun _ => true) 0 _).mono ?_
  rintro e w2 ⟨rfl, hx⟩
  have s5 := s3.below hx s3.lt
  have s6 := s4.trans (hx.mono (Nat.le_of_lt s3.lt))
  clear s3 s4 hx
  go_wp2_with fail
  refine (all_any _).mono ?_
  rintro e w3 ⟨rfl, hx⟩
  have s7 := s5.below hx s5.lt
  have s8 := s6.trans (hx.mono (Nat.le_of_lt s5.lt))
  clear s5 s6 hx
  go_wp2_with fail
  refine (move_any (fun _ => true) 0 _).mono ?_
  rintro e w4 ⟨rfl, hx⟩
  have s9 := s7.below hx s7.lt
  have s10 := s8.trans (hx.mono (Nat.le_of_lt s7.lt))
  clear s7 s8 hx
  go_wp2_with fail
  refine (op_and (moveP (fun _ => true) 0) (moveP (fun _ => true) 0) _).mono ?_
  rintro e w5 ⟨rfl, hx⟩
  rw [he.out]
  have hr := s9.below hx s9.lt
  have hB := s10.trans (hx.mono (Nat.le_of_lt s9.lt))
  clear s9 s10 hx
  obtain ⟨g0, g1, g2, g3⟩ := hr.frees
  obtain ⟨d0, d1, d2, d3⟩ := hr.four
  go_wp2
  obtain ⟨k0, k1, k2, k3⟩ := (hr.stores q).four
  rw [← nodes_congr hq.out]
  refine bodyPost_ret (v := nodes q) (by simp [results, Tryz.results49, go_sem, k0, k1, k2, k3]) rfl ⟨rfl, below_stores hB (by omega) _ _ _ _⟩
theorem span_any (l r : Int) (w : World) :
    Calls Tryz.prog 49 #[.int .i64 l, .int .i64 r] w fun e w' => e = .returned (nodes (spanP l r)) ∧ Below w.heap.size w w' := by
  by_cases h : l < 0
  · by_cases h1 : r < -1
    · exact span_11 l r w h h1
    · by_cases h2 : 255 < r
      · exact span_12 l r w h h2 h1
      · exact span_10 l r w h h1 h2
  · by_cases h1 : r < -1
    · exact span_01 l r w h h1
    · by_cases h2 : 255 < r
      · exact span_02 l r w h h2 h1
      · exact span_00 l r w h h1 h2
end Go.Proofs.YtmnmcikbbfcjcaaGreatDoor.Bs
/-
  List: the numbers of a set, rising.
-/
namespace Go.Proofs.YtmnmcikbbfcjcaaGreatDoor.Bs
open Go.RowKit
/-- Word k of a set, of its places from t on. -/
def rest (p : Nat → Bool) (k t : Nat) : Nat := word (fun i => p i && decide (64 * k + t ≤ i)) k
theorem rest_lt (p : Nat → Bool) (k t : Nat) : rest p k t < 18446744073709551616 := word_lt _ _
theorem rest_bit (p : Nat → Bool) (k t j : Nat) (hj : j < 64) : (rest p k t).testBit j = (p (64 * k + j) && decide (t ≤ j)) := by
  unfold rest
  rw [word_testBit _ _ _ hj]
  congr 1
  rw [Bool.eq_iff_iff]; simp
theorem rest_zero (p : Nat → Bool) (k : Nat) : rest p k 0 = word p k :=
  word_congr fun j hj => by simp
theorem lst_skip (p : Nat → Bool) (a d : Nat) (h : ∀ i, a ≤ i → i < a + d → p i = false) : lst p (a + d) = lst p a := by
  induction d with
  | zero => rfl
  | succ d ih => rw [show a + (d + 1) = (a + d) + 1 by omega, lst_out p _ (h _ (by omega) (by omega)), ih fun i h1 h2 => h i h1 (by omega)]
theorem rest_none (p : Nat → Bool) (k t : Nat) (h : rest p k t = 0) (ht : t ≤ 64) : lst p (64 * (k + 1)) = lst p (64 * k + t) := by
  rw [show 64 * (k + 1) = 64 * k + t + (64 - t) by omega]
  refine lst_skip p _ _ fun i h1 h2 => ?_
  have := rest_bit p k t (i - 64 * k) (by omega)
  rw [h, Nat.zero_testBit, show 64 * k + (i - 64 * k) = i by omega, decide_eq_true (by omega), Bool.and_true] at this
  exact this.symm
theorem rest_some (p : Nat → Bool) (k t : Nat) (h : rest p k t ≠ 0) : ∃ c : Nat, Lib.ctz 64 (rest p k t) = c ∧ t ≤ c ∧ c < 64 ∧ lst p (64 * k + (c + 1)) = lst p (64 * k + t) ++ [64 * k + c] ∧
    rest p k t &&& (rest p k t - 1) = rest p k (c + 1) ∧ rest p k (c + 1) < rest p k t := by
  obtain ⟨h1, h2, h3, h4⟩ := low_bit (rest p k t) h (rest_lt p k t)
  refine ⟨_, rfl, ?_⟩
  generalize Lib.ctz 64 (rest p k t) = c at *
  rw [rest_bit p k t c h1, Bool.and_eq_true, decide_eq_true_iff] at h2
  have e : rest p k t &&& (rest p k t - 1) = rest p k (c + 1) := by
    refine word_eq (Nat.lt_of_le_of_lt Nat.and_le_left (rest_lt p k t)) fun j hj => ?_
    rw [h4 j]
    have hb := rest_bit p k t j hj
    by_cases hjc : j < c
    · rw [h3 j hjc]; simp; omega
    · rw [hb, decide_eq_true (by omega : t ≤ j), Bool.and_true]
      congr 1
      rw [Bool.eq_iff_iff]; simp; omega
  refine ⟨h2.2, h1, ?_, e, ?_⟩
  · rw [show 64 * k + (c + 1) = (64 * k + c) + 1 by omega, lst_in p _ h2.1]
    congr 1
    rw [show 64 * k + c = 64 * k + t + (c - t) by omega]
    refine lst_skip p _ _ fun i g1 g2 => ?_
    have b1 := rest_bit p k t (i - 64 * k) (by omega)
    rw [h3 (i - 64 * k) (by omega), show 64 * k + (i - 64 * k) = i by omega, decide_eq_true (by omega), Bool.and_true] at b1
    exact b1.symm
  · rw [← e]
    have : rest p k t &&& (rest p k t - 1) ≤ rest p k t - 1 := Nat.and_le_right
    omega
theorem Tab.pos {w : World} (h : Tab w) : 1 < w.heap.size := by
  have h0 := h 0 (by decide)
  unfold World.cell? at h0
  by_cases hb : (1 : Nat) < w.heap.size
  · omega
  · rw [Array.getElem?_eq_none (show w.heap.size ≤ 1 by omega)] at h0; cases h0
theorem tab_below {w w' : World} (h : Tab w) (hb : Below w.heap.size w w') : Tab w' := h.below h.pos hb
theorem Blk.grown {w w' : World} {b : Nat} {p : Nat → Bool} {row : Option Nat} (h : Blk w b p) (hg : w.grownBy w' row) (hne : some b ≠ row) : Blk w' b p := by
  have := h.lt
  unfold Blk at *
  rw [hg.block b this hne]; exact h
set_option maxRecDepth 100000 in
set_option maxHeartbeats 1600000 in
theorem list_any (p : Nat → Bool) (w : World) (hT : Tab w) :
    Calls Tryz.prog 51 #[nodes p] w (Row w (lst p 256)) := by
  obtain ⟨i0, hi, hz0, hz1, hz2⟩ := info_parts infoInt
  have hcnt := cnt_le p 256
  go_enter Tryz.func51, Tryz.ntmps51
  go_wp2_with fail
  refine (count_any p _).mono ?_
  rintro e w1 ⟨rfl, hx⟩
  have hb1 := (Blk.new w p).below hx (by simp)
  have hB1 : Below w.heap.size w w1 := ((Below.refl _ _).alloc (Nat.le_refl _) _).trans (hx.mono (by simp))
  clear hx
  obtain ⟨c0, c1, c2, c3⟩ := hb1.four
  go_wp2_with ((at_make; refine wpList_make_own _ rfl _ _ 106 rfl w.heap.size 3 i0 (.int .i64 0) 1 Tryz.underlying106 hi hz0 hz1 .i64 .i64 _ (cnt p 256) rfl rfl rfl (by rw [hz2]; omega) (by unfold maxLen; omega) (by have := hb1.lt; omega) ?_; intro w2 hown hgrow; have hb2 := hb1.grown hgrow (fun h => by cases h); obtain ⟨d0, d1, d2, d3⟩ := hb2.four; have hB2 : Below w.heap.size w w2 := hB1.grown hgrow hB1.size (fun j hj => by cases hj)))
  clear hb1 hB1 c0 c1 c2 c3 hgrow hb2
  go_loopw [3, 10] (fun v i wr => ∃ k : Nat, k ≤ 4 ∧ i = .int .i64 k ∧ wr.ownsRow w.heap.size 3 1 v (lst p (64 * k)).length ((lst p (64 * k)).map iv) ∧ Below w.heap.size w wr) (fun _ i _ => 4 - (intOf i).toNat)
  case atStart => exact ⟨0, by omega, rfl, hown, hB2⟩
  case round =>
    obtain ⟨k, hk, rfl, hownk, hBk⟩ := hrel
    clear hown hB2 d0 d1 d2 d3
    by_cases hlt : k < 4
    · have hix := index_at p k hlt
      have hkb : decide ((k : Int) < 4) = true := by rw [decide_eq_true_iff]; omega
      obtain ⟨wo, rfl⟩ : ∃ wo : World, wo = wr := ⟨_, rfl⟩
      go_wp2_with fail
      go_loopw [3, 5] (fun v x wr => ∃ t : Nat, t ≤ 64 ∧ x = .int .u64 (rest p k t) ∧ wr.ownsRow w.heap.size 3 1 v (lst p (64 * k + t)).length ((lst p (64 * k + t)).map iv) ∧ Below w.heap.size w wr) (fun _ x _ => (intOf x).toNat)
      case atStart => exact ⟨0, by omega, by rw [rest_zero], by simpa using hownk, hBk⟩
      case round =>
        obtain ⟨t, ht, rfl, hown, hB⟩ := hrel
        have hTw := tab_below hT hB
        have hl := lst_len p (64 * k + t)
        by_cases hz : rest p k t = 0
        · have hn := hid (rest_none p k t hz ht)
          go_wp2
          go_roundw
          case rel => exact ⟨k + 1, by omega, by go_num, by rw [hn.out]; exact hown, hB⟩
          case measure => simp [intOf]; omega
        · obtain ⟨c, hc, hc1, hc2, hc3, hc4, hc5⟩ := rest_some p k t hz
          have hxl := rest_lt p k t
          have hx0 : 0 < rest p k t := by omega
          have hb1 : (((rest p k t : Nat) : Int) != 0) = true := by rw [bne_iff_ne]; omega
          have kc := hid hc
          have kl := hid hc3
          have kr := hid hc4
          have kv : Hid (Value.int .i64 (↑k * 64 + ↑c) = iv (64 * k + c)) := by
            show Value.int .i64 (↑k * 64 + ↑c) = iv (64 * k + c)
            unfold iv; rw [show (k : Int) * 64 + c = ((64 * k + c : Nat) : Int) by omega]
          have hnz := hid hz
          have hT2 := hid hTw
          clear hc hc3 hc4 hz hTw hix hBk hownk
          go_wp2_with fail
          refine (tz_any (rest p k t) _ hxl hnz.out hT2.out).mono ?_
          rintro e w' ⟨rfl, rfl⟩
          rw [kc.out]
          go_wp2_with (first | (at_builtin; refine wpList_append_own _ rfl _ _ 106 rfl w.heap.size 3 i0 (.int .i64 0) 1 8 Tryz.underlying106 hi hz0 hz1 hz2 rfl (by decide) _ _ _ rfl (hown.alloc _) ⟨wr.heap.size, 0, none⟩ 1 1 [.int .i64 (↑k * 64 + ↑c)] rfl rfl ?c1 ?c2 ?c3 ?c4 ?c5 ?_))
          case c1 =>
            intro j u hj
            match j, hj with
            | 0, hj => simp at hj; subst hj; simp [Addr.add]
          case c2 => intro u hu; simp at hu; subst hu; rfl
          case c3 => unfold maxLen; omega
          case c4 => omega
          case c5 => have := hB.size; simp; omega
          intro v' w2 hown' hgrow _
          have hB2 : Below w.heap.size w w2 := (hB.alloc hB.size _).grown hgrow (by simp; have := hB.size; omega) (fun j hj => by have := (hown.lt j hj).1; omega)
          clear hgrow hown hB hT2
          go_wp2_with fail
          refine (withoutLowest_any (rest p k t) _ hxl hx0).mono ?_
          rintro e w' ⟨rfl, rfl⟩
          rw [kr.out]
          go_wp2
          go_roundw
          case rel => exact ⟨c + 1, by omega, rfl, by rw [kl.out, List.map_append, List.map_cons, List.map_nil, List.length_append, ← kv.out]; exact hown', hB2⟩
          case measure => simp [intOf]; omega
    · obtain rfl : k = 4 := by omega
      go_wp2
      go_ret
      exact ⟨_, rfl, hownk, hBk⟩
end Go.Proofs.YtmnmcikbbfcjcaaGreatDoor.Bs
