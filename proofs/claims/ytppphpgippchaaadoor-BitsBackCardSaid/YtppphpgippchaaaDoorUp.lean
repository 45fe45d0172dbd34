/-
  up: a set moved up by less than there are nodes.
-/
import Derived.Test.YtppphpgippchaaaDoorUpMath
namespace Go.Proofs.YtppphpgippchaaaDoor
open Go.RowKit
theorem moved_start (w : World) (p : Nat → Bool) :
    Blk (((w.alloc (objOf p)).alloc (.cells #[.int .u64 0, .int .u64 0, .int .u64 0, .int .u64 0] 26)).alloc (.cells #[.int .u64 0, .int .u64 0, .int .u64 0, .int .u64 0] 26)) w.heap.size p ∧
    Blk (((w.alloc (objOf p)).alloc (.cells #[.int .u64 0, .int .u64 0, .int .u64 0, .int .u64 0] 26)).alloc (.cells #[.int .u64 0, .int .u64 0, .int .u64 0, .int .u64 0] 26)) (w.heap.size + 1) (fun _ => false) ∧
    Blk (((w.alloc (objOf p)).alloc (.cells #[.int .u64 0, .int .u64 0, .int .u64 0, .int .u64 0] 26)).alloc (.cells #[.int .u64 0, .int .u64 0, .int .u64 0, .int .u64 0] 26)) (w.heap.size + 1 + 1) (fun _ => false) ∧
    Below w.heap.size w (((w.alloc (objOf p)).alloc (.cells #[.int .u64 0, .int .u64 0, .int .u64 0, .int .u64 0] 26)).alloc (.cells #[.int .u64 0, .int .u64 0, .int .u64 0, .int .u64 0] 26)) := by
  have h2 := Blk.zero (w.alloc (objOf p))
  have h3 := Blk.zero ((w.alloc (objOf p)).alloc (.cells #[.int .u64 0, .int .u64 0, .int .u64 0, .int .u64 0] 26))
  rw [World.size_alloc] at h2
  rw [World.size_alloc, World.size_alloc] at h3
  exact ⟨((Blk.new w p).old _).old _, h2.old _, h3, ((((Below.refl _ _).alloc (Nat.le_refl _) _).alloc (by simp) _).alloc (by simp; omega) _)⟩
set_option maxRecDepth 100000 in
set_option maxHeartbeats 1600000 in
theorem up_any (p : Nat → Bool) (n m r : Nat) (w : World) (hn : n < 256) (hm : n / 64 = m) (hr : n % 64 = r) :
    Calls Tryd.prog 46 #[nodes p, .int .i64 n] w fun e w' => e = .returned (nodes (upP p n)) ∧ Below w.heap.size w w' := by
  have hq : (n : Int) / 64 = m := by omega
  have hrr : (n : Int) % 64 = r := by omega
  have hm4 : m < 4 := by omega
  have hr6 : r < 64 := by omega
  have hn' := hid (show n = 64 * m + r by omega)
  clear hm hr
  go_enter Tryd.func46, Tryd.ntmps46
  go_wp2
  go_loopw [8] (fun i wr => ∃ k : Nat, k ≤ 4 ∧ m ≤ k ∧ i = .int .i64 k ∧ Blk wr w.heap.size p ∧ Blk wr (w.heap.size + 1) (fun _ => false) ∧ Blk wr (w.heap.size + 1 + 1) (c0 (upP p n) k) ∧ Below w.heap.size w wr) (fun i _ => 4 - (intOf i).toNat)
  case atStart =>
    obtain ⟨s1, s2, s3, s4⟩ := moved_start w p
    exact ⟨m, by omega, by omega, rfl, s1, s2, s3.congr fun j _ => (up_0 p n m r hn'.out j).symm, s4⟩
  case round =>
    obtain ⟨k, hk, hmk, rfl, hs, hr, ht, hB⟩ := hrel
    by_cases hlt : k < 4
    · have ck := hs.cell (k - m) (by omega)
      have ft := ht.free k
      have ct := ht.cell k hlt
      have hkb : decide ((k : Int) < 4) = true := by rw [decide_eq_true_iff]; omega
      have h0 : (0 : Int) ≤ k := by omega
      have h4 : (k : Int) < 4 := by omega
      have hv := up_1 p n m r k hn'.out hmk
      have ht2 := ht.store k _ hlt rfl (fun j _ hj => c01 (upP p n) k (fun j => decide (r ≤ j)) j hj)
      have hs2 := hs.other (a := ⟨w.heap.size + 1 + 1, k, none⟩) (by simp; omega) (.int .u64 (word (c1 (upP p n) k fun j => decide (r ≤ j)) k))
      have hr2 := hr.other (a := ⟨w.heap.size + 1 + 1, k, none⟩) (by simp) (.int .u64 (word (c1 (upP p n) k fun j => decide (r ≤ j)) k))
      have hB2 := hB.setCell (p := ⟨w.heap.size + 1 + 1, k, none⟩) (by simp; omega) (.int .u64 (word (c1 (upP p n) k fun j => decide (r ≤ j)) k))
      by_cases hgt : m < k
      · have hgb : decide ((m : Int) < k) = true := by rw [decide_eq_true_iff]; omega
        have e1 : IntKind.i64.wrap ((k : Int) - m) = (k : Int) - m := IntWalk.i64_in _ (by omega)
        have e2 : IntKind.i64.wrap ((k : Int) - m - 1) = (k : Int) - m - 1 := IntWalk.i64_in _ (by omega)
        have e3 : IntKind.i64.wrap (64 - (n : Int) % 64) = 64 - (n : Int) % 64 := IntWalk.i64_in _ (by omega)
        have e4 : ((k : Int) - m - 1).toNat = k - m - 1 := by omega
        have h5 : 0 ≤ (k : Int) - m - 1 := by omega
        have h6 : (k : Int) - m - 1 < 4 := by omega
        have h7 : 0 ≤ 64 - (n : Int) % 64 := by omega
        have g1 := hid ht2
        have g2 := hid hs2
        have g3 := hid hr2
        have g4 := hid hB2
        clear hs hr ht hB ht2 hs2 hr2 hB2
        go_wp2
        have ht2 := g1.out
        have hs2 := g2.out
        have hr2 := g3.out
        have hB2 := g4.out
        clear g1 g2 g3 g4 ck ft ct
        generalize wr.setCell ⟨w.heap.size + 1 + 1, k, none⟩ (.int .u64 (word (c1 (upP p n) k fun j => decide (r ≤ j)) k)) = w2 at *
        have ck1 := hs2.cell (k - m - 1) (by omega)
        have ct1 := ht2.cell k hlt
        have ft1 := ht2.free k
        have hv2 := up_2 p n m r k hn'.out hr6 hgt
        have ht3 := (ht2.store k _ hlt rfl (fun j _ hj => c12 (upP p n) k (fun j => decide (r ≤ j)) j hj)).drew
        have hs3 := (hs2.other (a := ⟨w.heap.size + 1 + 1, k, none⟩) (by simp; omega) (.int .u64 (word (c0 (upP p n) (k + 1)) k))).drew
        have hr3 := (hr2.other (a := ⟨w.heap.size + 1 + 1, k, none⟩) (by simp) (.int .u64 (word (c0 (upP p n) (k + 1)) k))).drew
        have hB3 := (hB2.setCell (p := ⟨w.heap.size + 1 + 1, k, none⟩) (by simp; omega) (.int .u64 (word (c0 (upP p n) (k + 1)) k))).drew
        have g1 := hid ht3
        have g2 := hid hs3
        have g3 := hid hr3
        have g4 := hid hB3
        clear ht2 hs2 hr2 hB2 ht3 hs3 hr3 hB3
        go_region
        clear ck1 ct1 ft1 e1 e2 e3 e4 h5 h6 h7
        go_wp2
        go_roundw
        case rel => exact ⟨k + 1, by omega, by omega, by go_num, g2.out, g3.out, g1.out, g4.out⟩
        case measure => simp [intOf]; omega
      · have ht3 := ht2.congr (q := c0 (upP p n) (k + 1)) fun j hj => by
          have h := c12 (upP p n) k (fun j => decide (r ≤ j)) (j / 64)
          by_cases hjk : j / 64 = k
          · have e := up_3 p n k r (by have := hn'.out; omega)
            have := congrArg (fun x => Nat.testBit x (j % 64)) e
            rw [← hjk, word_at, word_at] at this
            rw [← hjk]; exact this
          · have := congrArg (fun x => Nat.testBit x (j % 64)) (h hjk)
            rw [word_at, word_at] at this
            exact this
        have hgb : decide ((m : Int) < k) = false := by rw [decide_eq_false_iff_not]; omega
        have g1 := hid ht3
        have g2 := hid hs2
        have g3 := hid hr2
        have g4 := hid hB2
        clear hs hr ht hB ht2 ht3 hs2 hr2 hB2
        go_wp2
        go_roundw
        case rel => exact ⟨k + 1, by omega, by omega, by go_num, g2.out, g3.out, g1.out, g4.out⟩
        case measure => simp [intOf]; omega
    · obtain rfl : k = 4 := by omega
      have hs' : Blk wr (w.heap.size + 1 + 1) (upP p n) := ht.congr fun j hj => c0_all _ j hj
      obtain ⟨d0, d1, d2, d3⟩ := hs'.four
      obtain ⟨g0, g1, g2, g3⟩ := hr.frees
      obtain ⟨b0, b1, b2, b3⟩ := hr.four
      go_wp2
      obtain ⟨k0, k1, k2, k3⟩ := (hr.stores (upP p n)).four
      refine bodyPost_ret (v := nodes (upP p n)) (by simp [results, Tryd.results46, go_sem, k0, k1, k2, k3]) rfl ⟨rfl, below_stores hB (by omega) _ _ _ _⟩
end Go.Proofs.YtppphpgippchaaaDoor
