/-
  The reference's Span, And and Not.
-/
import Derived.Test.YtppphpgippchaaaDoorWith
namespace Go.Proofs.YtppphpgippchaaaDoor
open Go.RowKit
/-- What a span has. -/
def spanP (l r : Int) : Nat → Bool := fun j => decide (l ≤ j) && decide ((j : Int) ≤ r)
/-- The first k of a set. -/
def upTo (k : Nat) (p : Nat → Bool) : Nat → Bool := fun j => decide (j < k) && p j
theorem upTo_zero (p : Nat → Bool) (j : Nat) : upTo 0 p j = false := by simp [upTo]
theorem upTo_all (p : Nat → Bool) (j : Nat) (h : j < 256) : upTo 256 p j = p j := by simp [upTo, h]
theorem upTo_in (p : Nat → Bool) (k : Nat) (h : p k = true) (j : Nat) : ins (upTo k p) k j = upTo (k + 1) p j := by
  unfold ins upTo
  by_cases hj : j = k
  · subst hj; simp [h]
  · rw [decide_eq_false (p := (j : Int) = k) (by omega), Bool.or_false]
    congr 1
    rw [Bool.eq_iff_iff]; simp; omega
theorem upTo_out (p : Nat → Bool) (k : Nat) (h : p k = false) (j : Nat) : upTo k p j = upTo (k + 1) p j := by
  unfold upTo
  by_cases hj : j = k
  · subst hj; simp [h]
  · congr 1
    rw [Bool.eq_iff_iff]; simp; omega
set_option maxRecDepth 100000 in
set_option maxHeartbeats 800000 in
theorem rspan_any (l r : Int) (w : World) :
    Calls Tryd.prog 14 #[.int .i64 l, .int .i64 r] w fun e w' => e = .returned (nodes (spanP l r)) ∧ Below w.heap.size w w' := by
  go_enter Tryd.func14, Tryd.ntmps14
  go_wp2
  go_loopw [6] (fun i wr => ∃ k : Nat, k ≤ 256 ∧ i = .int .i64 k ∧ Blk wr (w.heap.size + 1) (upTo k (spanP l r)) ∧ Blk wr w.heap.size (fun _ => false) ∧ Below w.heap.size w wr) (fun i _ => 256 - (intOf i).toNat)
  case atStart =>
    refine ⟨0, by omega, rfl, ?_, (Blk.zero w).old _, ((Below.refl _ _).alloc (Nat.le_refl _) _).alloc (by simp) _⟩
    have := Blk.zero (w.alloc (.cells #[.int .u64 0, .int .u64 0, .int .u64 0, .int .u64 0] 26))
    rw [World.size_alloc] at this
    exact this.congr fun j _ => (upTo_zero _ j).symm
  case round =>
    obtain ⟨k, hk, rfl, hb, hr, hB⟩ := hrel
    obtain ⟨c0, c1, c2, c3⟩ := hb.four
    obtain ⟨f0, f1, f2, f3⟩ := hb.frees
    by_cases hlt : k < 256
    · by_cases h1 : l ≤ k
      · by_cases h2 : (k : Int) ≤ r
        · have hs : Hid (spanP l r k = true) := by show spanP l r k = true; simp [spanP, h1, h2]
          go_wp2_with (go_at_call 35; refine (with_any (upTo k (spanP l r)) k _).mono ?_; rintro e w1 ⟨rfl, hx⟩; have hb1 := hb.below hx hb.lt; have hr1 := hr.below hx hr.lt; have hB1 := hB.trans (hx.mono (Nat.le_of_lt hr.lt)); obtain ⟨g0, g1, g2, g3⟩ := hb1.frees; obtain ⟨d0, d1, d2, d3⟩ := hb1.four)
          go_roundw
          case rel => exact ⟨k + 1, by omega, by go_num, (hb1.stores _).congr (fun j _ => upTo_in _ k hs.out j), hr1.others (by omega) _ _ _ _, below_stores hB1 (by omega) _ _ _ _⟩
          case measure => simp [intOf]; omega
        · have hs : Hid (spanP l r k = false) := by show spanP l r k = false; simp [spanP]; omega
          go_wp2
          go_roundw
          case rel => exact ⟨k + 1, by omega, by go_num, hb.congr (fun j _ => upTo_out _ k hs.out j), hr, hB⟩
          case measure => simp [intOf]; omega
      · have hs : Hid (spanP l r k = false) := by show spanP l r k = false; simp [spanP]; omega
        go_wp2
        go_roundw
        case rel => exact ⟨k + 1, by omega, by go_num, hb.congr (fun j _ => upTo_out _ k hs.out j), hr, hB⟩
        case measure => simp [intOf]; omega
    · obtain rfl : k = 256 := by omega
      obtain ⟨g0, g1, g2, g3⟩ := hr.frees
      obtain ⟨d0, d1, d2, d3⟩ := hr.four
      go_wp2
      obtain ⟨k0, k1, k2, k3⟩ := (hr.stores (upTo 256 (spanP l r))).four
      rw [nodes_congr (p := spanP l r) (q := upTo 256 (spanP l r)) fun j hj => (upTo_all _ j hj).symm]
      refine bodyPost_ret (v := nodes (upTo 256 (spanP l r))) (by simp [results, Tryd.results14, go_sem, k0, k1, k2, k3]) rfl ⟨rfl, below_stores hB (by omega) _ _ _ _⟩
end Go.Proofs.YtppphpgippchaaaDoor
