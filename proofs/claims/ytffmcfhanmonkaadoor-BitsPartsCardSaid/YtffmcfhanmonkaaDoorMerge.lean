/-
  And, Or and Not: two sets made one, word by word.
-/
import Derived.Test.YtffmcfhanmonkaaDoorCount
namespace Go.Proofs.YtffmcfhanmonkaaDoor
open Go.RowKit
/-- The first k words of r, the others of p. -/
def mix (p r : Nat → Bool) (k : Nat) : Nat → Bool := fun j => if j < 64 * k then r j else p j
theorem mix_zero (p r : Nat → Bool) (j : Nat) : mix p r 0 j = p j := by simp [mix]
theorem mix_all (p r : Nat → Bool) (j : Nat) (h : j < 256) : mix p r 4 j = r j := by unfold mix; rw [if_pos (by omega)]
theorem mix_here (p r : Nat → Bool) (k : Nat) : word (mix p r k) k = word p k :=
  word_congr fun j hj => by unfold mix; rw [if_neg (by omega)]
theorem mix_next (p r : Nat → Bool) (k : Nat) : word r k = word (mix p r (k + 1)) k :=
  word_congr fun j hj => by unfold mix; rw [if_pos (by omega)]
theorem mix_other (p r : Nat → Bool) (k i : Nat) (h : i ≠ k) : word (mix p r k) i = word (mix p r (k + 1)) i :=
  word_congr fun j hj => by
    unfold mix
    by_cases h1 : 64 * i + j < 64 * k
    · rw [if_pos h1, if_pos (by omega)]
    · rw [if_neg h1, if_neg (by omega)]
theorem three_start (w : World) (p q : Nat → Bool) :
    Blk (((w.alloc (objOf p)).alloc (objOf q)).alloc (.cells #[.int .u64 0, .int .u64 0, .int .u64 0, .int .u64 0] 26)) w.heap.size p ∧
    Blk (((w.alloc (objOf p)).alloc (objOf q)).alloc (.cells #[.int .u64 0, .int .u64 0, .int .u64 0, .int .u64 0] 26)) (w.heap.size + 1) q ∧
    Blk (((w.alloc (objOf p)).alloc (objOf q)).alloc (.cells #[.int .u64 0, .int .u64 0, .int .u64 0, .int .u64 0] 26)) (w.heap.size + 2) (fun _ => false) ∧
    Below w.heap.size w (((w.alloc (objOf p)).alloc (objOf q)).alloc (.cells #[.int .u64 0, .int .u64 0, .int .u64 0, .int .u64 0] 26)) := by
  have h2 := Blk.new (w.alloc (objOf p)) q
  have h3 := Blk.zero ((w.alloc (objOf p)).alloc (objOf q))
  rw [World.size_alloc] at h2
  rw [World.size_alloc, World.size_alloc] at h3
  exact ⟨((Blk.new w p).old _).old _, h2.old _, h3, ((((Below.refl _ _).alloc (Nat.le_refl _) _).alloc (by simp) _).alloc (by simp; omega) _)⟩
set_option maxRecDepth 100000 in
set_option maxHeartbeats 1600000 in
theorem merge_and (p q : Nat → Bool) (w : World) :
    Calls Tryd.prog 38 #[nodes p, nodes q, .func (.func 39) #[] #[]] w fun e w' => e = .returned (nodes (fun j => p j && q j)) ∧ Below w.heap.size w w' := by
  go_enter Tryd.func38, Tryd.ntmps38
  go_wp2
  go_loopw [8] (fun i wr => ∃ k : Nat, k ≤ 4 ∧ i = .int .i64 k ∧ Blk wr w.heap.size (mix p (fun j => p j && q j) k) ∧ Blk wr (w.heap.size + 1) q ∧ Blk wr (w.heap.size + 2) (fun _ => false) ∧ Below w.heap.size w wr) (fun i _ => 4 - (intOf i).toNat)
  case atStart =>
    obtain ⟨s1, s2, s3, s4⟩ := three_start w p q
    exact ⟨0, by omega, rfl, s1.congr fun j _ => (mix_zero p _ j).symm, s2, s3, s4⟩
  case round =>
    obtain ⟨k, hk, rfl, hs, ht, hr, hB⟩ := hrel
    by_cases hlt : k < 4
    · have ck := hs.cell k hlt
      rw [mix_here] at ck
      have fk := hs.free k
      have dk := ht.cell k hlt
      have h0 : (0 : Int) ≤ k := by omega
      have h1 : (k : Int) < 4 := by omega
      have hio : Hid (∀ j, j < 4 → j ≠ k → word (mix p (fun j => p j && q j) k) j = word (mix p (fun j => p j && q j) (k + 1)) j) := fun j _ hj => mix_other p _ k j hj
      have hw : Hid (word p k &&& word q k = word (fun j => p j && q j) k) := word_and p q k
      have hw2 : Hid (word (fun j => p j && q j) k = word (mix p (fun j => p j && q j) (k + 1)) k) := mix_next p _ k
      go_wp2_with fail
      go_region_with (go_at_call 39; refine (and1_any (word p k) (word q k) _ (word_lt p k) (word_lt q k)).mono ?_; rintro e w' ⟨rfl, rfl⟩; rw [hw.out, hw2.out])
      all_goals
        have cc : Blk (wr.setCell ⟨w.heap.size, k, none⟩ (.int .u64 (word (mix p (fun j => p j && q j) (k + 1)) k))).drew w.heap.size (mix p (fun j => p j && q j) (k + 1)) := (hs.store k _ hlt rfl hio.out).drew
        have ee : Blk (wr.setCell ⟨w.heap.size, k, none⟩ (.int .u64 (word (mix p (fun j => p j && q j) (k + 1)) k))).drew (w.heap.size + 1) q := (ht.other (by simp) _).drew
        have dd : Blk (wr.setCell ⟨w.heap.size, k, none⟩ (.int .u64 (word (mix p (fun j => p j && q j) (k + 1)) k))).drew (w.heap.size + 2) (fun _ => false) := (hr.other (by simp) _).drew
        have bbb : Below w.heap.size w (wr.setCell ⟨w.heap.size, k, none⟩ (.int .u64 (word (mix p (fun j => p j && q j) (k + 1)) k))).drew := (hB.setCell (Nat.le_refl _) _).drew
        clear hs ht hr hB ck fk dk hio hw hw2
        generalize (wr.setCell ⟨w.heap.size, k, none⟩ (.int .u64 (word (mix p (fun j => p j && q j) (k + 1)) k))).drew = w2 at *
        go_wp2
        go_roundw
        case rel => exact ⟨k + 1, by omega, by go_num, cc, ee, dd, bbb⟩
        case measure => simp [intOf]; omega
    · obtain rfl : k = 4 := by omega
      have hs' : Blk wr w.heap.size (fun j => p j && q j) := hs.congr fun j hj => mix_all p (fun j => p j && q j) j hj
      obtain ⟨c0, c1, c2, c3⟩ := hs'.four
      obtain ⟨g0, g1, g2, g3⟩ := hr.frees
      obtain ⟨d0, d1, d2, d3⟩ := hr.four
      go_wp2
      obtain ⟨k0, k1, k2, k3⟩ := (hr.stores (fun j => p j && q j)).four
      refine bodyPost_ret (v := nodes (fun j => p j && q j)) (by simp [results, Tryd.results38, go_sem, k0, k1, k2, k3]) rfl ⟨rfl, below_stores hB (by omega) _ _ _ _⟩
set_option maxRecDepth 100000 in
set_option maxHeartbeats 1600000 in
theorem merge_or (p q : Nat → Bool) (w : World) :
    Calls Tryd.prog 38 #[nodes p, nodes q, .func (.func 40) #[] #[]] w fun e w' => e = .returned (nodes (fun j => p j || q j)) ∧ Below w.heap.size w w' := by
  go_enter Tryd.func38, Tryd.ntmps38
  go_wp2
  go_loopw [8] (fun i wr => ∃ k : Nat, k ≤ 4 ∧ i = .int .i64 k ∧ Blk wr w.heap.size (mix p (fun j => p j || q j) k) ∧ Blk wr (w.heap.size + 1) q ∧ Blk wr (w.heap.size + 2) (fun _ => false) ∧ Below w.heap.size w wr) (fun i _ => 4 - (intOf i).toNat)
  case atStart =>
    obtain ⟨s1, s2, s3, s4⟩ := three_start w p q
    exact ⟨0, by omega, rfl, s1.congr fun j _ => (mix_zero p _ j).symm, s2, s3, s4⟩
  case round =>
    obtain ⟨k, hk, rfl, hs, ht, hr, hB⟩ := hrel
    by_cases hlt : k < 4
    · have ck := hs.cell k hlt
      rw [mix_here] at ck
      have fk := hs.free k
      have dk := ht.cell k hlt
      have h0 : (0 : Int) ≤ k := by omega
      have h1 : (k : Int) < 4 := by omega
      have hio : Hid (∀ j, j < 4 → j ≠ k → word (mix p (fun j => p j || q j) k) j = word (mix p (fun j => p j || q j) (k + 1)) j) := fun j _ hj => mix_other p _ k j hj
      have hw : Hid (word p k ||| word q k = word (fun j => p j || q j) k) := word_or p q k
      have hw2 : Hid (word (fun j => p j || q j) k = word (mix p (fun j => p j || q j) (k + 1)) k) := mix_next p _ k
      go_wp2_with fail
      go_region_with (go_at_call 40; refine (or1_any (word p k) (word q k) _ (word_lt p k) (word_lt q k)).mono ?_; rintro e w' ⟨rfl, rfl⟩; rw [hw.out, hw2.out])
      all_goals
        have cc : Blk (wr.setCell ⟨w.heap.size, k, none⟩ (.int .u64 (word (mix p (fun j => p j || q j) (k + 1)) k))).drew w.heap.size (mix p (fun j => p j || q j) (k + 1)) := (hs.store k _ hlt rfl hio.out).drew
        have ee : Blk (wr.setCell ⟨w.heap.size, k, none⟩ (.int .u64 (word (mix p (fun j => p j || q j) (k + 1)) k))).drew (w.heap.size + 1) q := (ht.other (by simp) _).drew
        have dd : Blk (wr.setCell ⟨w.heap.size, k, none⟩ (.int .u64 (word (mix p (fun j => p j || q j) (k + 1)) k))).drew (w.heap.size + 2) (fun _ => false) := (hr.other (by simp) _).drew
        have bbb : Below w.heap.size w (wr.setCell ⟨w.heap.size, k, none⟩ (.int .u64 (word (mix p (fun j => p j || q j) (k + 1)) k))).drew := (hB.setCell (Nat.le_refl _) _).drew
        clear hs ht hr hB ck fk dk hio hw hw2
        generalize (wr.setCell ⟨w.heap.size, k, none⟩ (.int .u64 (word (mix p (fun j => p j || q j) (k + 1)) k))).drew = w2 at *
        go_wp2
        go_roundw
        case rel => exact ⟨k + 1, by omega, by go_num, cc, ee, dd, bbb⟩
        case measure => simp [intOf]; omega
    · obtain rfl : k = 4 := by omega
      have hs' : Blk wr w.heap.size (fun j => p j || q j) := hs.congr fun j hj => mix_all p (fun j => p j || q j) j hj
      obtain ⟨c0, c1, c2, c3⟩ := hs'.four
      obtain ⟨g0, g1, g2, g3⟩ := hr.frees
      obtain ⟨d0, d1, d2, d3⟩ := hr.four
      go_wp2
      obtain ⟨k0, k1, k2, k3⟩ := (hr.stores (fun j => p j || q j)).four
      refine bodyPost_ret (v := nodes (fun j => p j || q j)) (by simp [results, Tryd.results38, go_sem, k0, k1, k2, k3]) rfl ⟨rfl, below_stores hB (by omega) _ _ _ _⟩
set_option maxRecDepth 100000 in
set_option maxHeartbeats 1600000 in
theorem merge_not (p q : Nat → Bool) (w : World) :
    Calls Tryd.prog 38 #[nodes p, nodes q, .func (.func 41) #[] #[]] w fun e w' => e = .returned (nodes (fun j => p j && !q j)) ∧ Below w.heap.size w w' := by
  go_enter Tryd.func38, Tryd.ntmps38
  go_wp2
  go_loopw [8] (fun i wr => ∃ k : Nat, k ≤ 4 ∧ i = .int .i64 k ∧ Blk wr w.heap.size (mix p (fun j => p j && !q j) k) ∧ Blk wr (w.heap.size + 1) q ∧ Blk wr (w.heap.size + 2) (fun _ => false) ∧ Below w.heap.size w wr) (fun i _ => 4 - (intOf i).toNat)
  case atStart =>
    obtain ⟨s1, s2, s3, s4⟩ := three_start w p q
    exact ⟨0, by omega, rfl, s1.congr fun j _ => (mix_zero p _ j).symm, s2, s3, s4⟩
  case round =>
    obtain ⟨k, hk, rfl, hs, ht, hr, hB⟩ := hrel
    by_cases hlt : k < 4
    · have ck := hs.cell k hlt
      rw [mix_here] at ck
      have fk := hs.free k
      have dk := ht.cell k hlt
      have h0 : (0 : Int) ≤ k := by omega
      have h1 : (k : Int) < 4 := by omega
      have hio : Hid (∀ j, j < 4 → j ≠ k → word (mix p (fun j => p j && !q j) k) j = word (mix p (fun j => p j && !q j) (k + 1)) j) := fun j _ hj => mix_other p _ k j hj
      have hw : Hid (word p k &&& (18446744073709551615 - word q k) = word (fun j => p j && !q j) k) := word_not p q k
      have hw2 : Hid (word (fun j => p j && !q j) k = word (mix p (fun j => p j && !q j) (k + 1)) k) := mix_next p _ k
      go_wp2_with fail
      go_region_with (go_at_call 41; refine (not1_any (word p k) (word q k) _ (word_lt p k) (word_lt q k)).mono ?_; rintro e w' ⟨rfl, rfl⟩; rw [hw.out, hw2.out])
      all_goals
        have cc : Blk (wr.setCell ⟨w.heap.size, k, none⟩ (.int .u64 (word (mix p (fun j => p j && !q j) (k + 1)) k))).drew w.heap.size (mix p (fun j => p j && !q j) (k + 1)) := (hs.store k _ hlt rfl hio.out).drew
        have ee : Blk (wr.setCell ⟨w.heap.size, k, none⟩ (.int .u64 (word (mix p (fun j => p j && !q j) (k + 1)) k))).drew (w.heap.size + 1) q := (ht.other (by simp) _).drew
        have dd : Blk (wr.setCell ⟨w.heap.size, k, none⟩ (.int .u64 (word (mix p (fun j => p j && !q j) (k + 1)) k))).drew (w.heap.size + 2) (fun _ => false) := (hr.other (by simp) _).drew
        have bbb : Below w.heap.size w (wr.setCell ⟨w.heap.size, k, none⟩ (.int .u64 (word (mix p (fun j => p j && !q j) (k + 1)) k))).drew := (hB.setCell (Nat.le_refl _) _).drew
        clear hs ht hr hB ck fk dk hio hw hw2
        generalize (wr.setCell ⟨w.heap.size, k, none⟩ (.int .u64 (word (mix p (fun j => p j && !q j) (k + 1)) k))).drew = w2 at *
        go_wp2
        go_roundw
        case rel => exact ⟨k + 1, by omega, by go_num, cc, ee, dd, bbb⟩
        case measure => simp [intOf]; omega
    · obtain rfl : k = 4 := by omega
      have hs' : Blk wr w.heap.size (fun j => p j && !q j) := hs.congr fun j hj => mix_all p (fun j => p j && !q j) j hj
      obtain ⟨c0, c1, c2, c3⟩ := hs'.four
      obtain ⟨g0, g1, g2, g3⟩ := hr.frees
      obtain ⟨d0, d1, d2, d3⟩ := hr.four
      go_wp2
      obtain ⟨k0, k1, k2, k3⟩ := (hr.stores (fun j => p j && !q j)).four
      refine bodyPost_ret (v := nodes (fun j => p j && !q j)) (by simp [results, Tryd.results38, go_sem, k0, k1, k2, k3]) rfl ⟨rfl, below_stores hB (by omega) _ _ _ _⟩
set_option maxRecDepth 100000 in
set_option maxHeartbeats 800000 in
theorem op_and (p q : Nat → Bool) (w : World) :
    Calls Tryd.prog 17 #[nodes p, nodes q] w fun e w' => e = .returned (nodes (fun j => p j && q j)) ∧ Below w.heap.size w w' := by
  obtain ⟨s1, s2, s3, s4⟩ := three_start w p q
  go_enter Tryd.func17, Tryd.ntmps17
  go_wp2_with fail
  refine (merge_and p q _).mono ?_
  rintro e w1 ⟨rfl, hx⟩
  have hr := s3.below hx (by simp)
  have hB := s4.trans (hx.mono (by simp; omega))
  clear s1 s2 s3 s4 hx
  obtain ⟨g0, g1, g2, g3⟩ := hr.frees
  obtain ⟨d0, d1, d2, d3⟩ := hr.four
  go_wp2
  obtain ⟨k0, k1, k2, k3⟩ := (hr.stores (fun j => p j && q j)).four
  refine bodyPost_ret (v := nodes (fun j => p j && q j)) (by simp [results, Tryd.results17, go_sem, k0, k1, k2, k3]) rfl ⟨rfl, below_stores hB (by omega) _ _ _ _⟩
set_option maxRecDepth 100000 in
set_option maxHeartbeats 800000 in
theorem op_or (p q : Nat → Bool) (w : World) :
    Calls Tryd.prog 19 #[nodes p, nodes q] w fun e w' => e = .returned (nodes (fun j => p j || q j)) ∧ Below w.heap.size w w' := by
  obtain ⟨s1, s2, s3, s4⟩ := three_start w p q
  go_enter Tryd.func19, Tryd.ntmps19
  go_wp2_with fail
  refine (merge_or p q _).mono ?_
  rintro e w1 ⟨rfl, hx⟩
  have hr := s3.below hx (by simp)
  have hB := s4.trans (hx.mono (by simp; omega))
  clear s1 s2 s3 s4 hx
  obtain ⟨g0, g1, g2, g3⟩ := hr.frees
  obtain ⟨d0, d1, d2, d3⟩ := hr.four
  go_wp2
  obtain ⟨k0, k1, k2, k3⟩ := (hr.stores (fun j => p j || q j)).four
  refine bodyPost_ret (v := nodes (fun j => p j || q j)) (by simp [results, Tryd.results19, go_sem, k0, k1, k2, k3]) rfl ⟨rfl, below_stores hB (by omega) _ _ _ _⟩
set_option maxRecDepth 100000 in
set_option maxHeartbeats 800000 in
theorem op_not (p q : Nat → Bool) (w : World) :
    Calls Tryd.prog 21 #[nodes p, nodes q] w fun e w' => e = .returned (nodes (fun j => p j && !q j)) ∧ Below w.heap.size w w' := by
  obtain ⟨s1, s2, s3, s4⟩ := three_start w p q
  go_enter Tryd.func21, Tryd.ntmps21
  go_wp2_with fail
  refine (merge_not p q _).mono ?_
  rintro e w1 ⟨rfl, hx⟩
  have hr := s3.below hx (by simp)
  have hB := s4.trans (hx.mono (by simp; omega))
  clear s1 s2 s3 s4 hx
  obtain ⟨g0, g1, g2, g3⟩ := hr.frees
  obtain ⟨d0, d1, d2, d3⟩ := hr.four
  go_wp2
  obtain ⟨k0, k1, k2, k3⟩ := (hr.stores (fun j => p j && !q j)).four
  refine bodyPost_ret (v := nodes (fun j => p j && !q j)) (by simp [results, Tryd.results21, go_sem, k0, k1, k2, k3]) rfl ⟨rfl, below_stores hB (by omega) _ _ _ _⟩
end Go.Proofs.YtffmcfhanmonkaaDoor
