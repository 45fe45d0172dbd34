/-
  The reference's And.
-/
import Derived.Test.YtppphpgippchaaaDoorSpan
namespace Go.Proofs.YtppphpgippchaaaDoor
open Go.RowKit
/-- The four blocks of the reference's And and Not: both sets, the result's place, and what is built. -/
def Four (w wr : World) (p q o : Nat → Bool) : Prop :=
  Blk wr w.heap.size p ∧ Blk wr (w.heap.size + 1) q ∧ Blk wr (w.heap.size + 2) (fun _ => false) ∧ Blk wr (w.heap.size + 3) o ∧ Below w.heap.size w wr
theorem Four.below {w wr w1 : World} {p q o : Nat → Bool} (h : Four w wr p q o) (hx : Below wr.heap.size wr w1) : Four w w1 p q o :=
  ⟨h.1.below hx h.1.lt, h.2.1.below hx h.2.1.lt, h.2.2.1.below hx h.2.2.1.lt, h.2.2.2.1.below hx h.2.2.2.1.lt, h.2.2.2.2.trans (hx.mono (Nat.le_of_lt h.1.lt))⟩
theorem Four.stores {w wr : World} {p q o : Nat → Bool} (h : Four w wr p q o) (r : Nat → Bool) :
    Four w ((((wr.setCell ⟨w.heap.size + 3, 0, none⟩ (.int .u64 (word r 0))).setCell ⟨w.heap.size + 3, 1, none⟩ (.int .u64 (word r 1))).setCell ⟨w.heap.size + 3, 2, none⟩ (.int .u64 (word r 2))).setCell ⟨w.heap.size + 3, 3, none⟩ (.int .u64 (word r 3))) p q r :=
  ⟨h.1.others (by omega) _ _ _ _, h.2.1.others (by omega) _ _ _ _, h.2.2.1.others (by omega) _ _ _ _, h.2.2.2.1.stores r, below_stores h.2.2.2.2 (by omega) _ _ _ _⟩
theorem Four.congr {w wr : World} {p q o o' : Nat → Bool} (h : Four w wr p q o) (e : ∀ j, j < 256 → o j = o' j) : Four w wr p q o' :=
  ⟨h.1, h.2.1, h.2.2.1, h.2.2.2.1.congr e, h.2.2.2.2⟩
theorem Four.start (w : World) (p q : Nat → Bool) :
    Four w ((((w.alloc (objOf p)).alloc (objOf q)).alloc (.cells #[.int .u64 0, .int .u64 0, .int .u64 0, .int .u64 0] 26)).alloc (.cells #[.int .u64 0, .int .u64 0, .int .u64 0, .int .u64 0] 26)) p q (fun _ => false) := by
  have h2 := Blk.new (w.alloc (objOf p)) q
  have h3 := Blk.zero ((w.alloc (objOf p)).alloc (objOf q))
  have h4 := Blk.zero (((w.alloc (objOf p)).alloc (objOf q)).alloc (.cells #[.int .u64 0, .int .u64 0, .int .u64 0, .int .u64 0] 26))
  rw [World.size_alloc] at h2
  rw [World.size_alloc, World.size_alloc] at h3
  rw [World.size_alloc, World.size_alloc, World.size_alloc] at h4
  exact ⟨(((Blk.new w p).old _).old _).old _, (h2.old _).old _, h3.old _, h4, (((((Below.refl _ _).alloc (Nat.le_refl _) _).alloc (by simp) _).alloc (by simp; omega) _).alloc (by simp; omega) _)⟩
set_option maxRecDepth 100000 in
set_option maxHeartbeats 800000 in
theorem rand_any (p q : Nat → Bool) (w : World) :
    Calls Tryd.prog 18 #[nodes p, nodes q] w fun e w' => e = .returned (nodes fun j => p j && q j) ∧ Below w.heap.size w w' := by
  go_enter Tryd.func18, Tryd.ntmps18
  go_wp2
  go_loopw [6] (fun i wr => ∃ k : Nat, k ≤ 256 ∧ i = .int .i64 k ∧ Four w wr p q (upTo k fun j => p j && q j)) (fun i _ => 256 - (intOf i).toNat)
  case atStart =>
    exact ⟨0, by omega, rfl, (Four.start w p q).congr fun j _ => (upTo_zero _ j).symm⟩
  case round =>
    obtain ⟨k, hk, rfl, hF⟩ := hrel
    obtain ⟨a0, a1, a2, a3⟩ := hF.1.four
    obtain ⟨b0, b1, b2, b3⟩ := hF.2.1.four
    obtain ⟨c0, c1, c2, c3⟩ := hF.2.2.2.1.four
    by_cases hlt : k < 256
    · cases hp : p k with
      | false =>
        have hs : Hid ((fun j => p j && q j) k = false) := by show (p k && q k) = false; simp [hp]
        have hpk := hid hp
        clear hp
        go_wp2_with (go_at_call 16; refine (rhas_in p k _ hlt).mono ?_; rintro e w1 ⟨rfl, hx⟩; have hF1 := hF.below hx; rw [hpk.out])
        go_roundw
        case rel => exact ⟨k + 1, by omega, by go_num, hF1.congr (fun j _ => upTo_out _ k hs.out j)⟩
        case measure => simp [intOf]; omega
      | true =>
        have hpk := hid hp
        clear hp
        cases hq : q k with
        | false =>
          have hs : Hid ((fun j => p j && q j) k = false) := by show (p k && q k) = false; simp [hq]
          have hqk := hid hq
          clear hq
          go_wp2_with fail
          refine (rhas_in p k _ hlt).mono ?_
          rintro e w1 ⟨rfl, hx⟩
          have hF1 := hF.below hx
          clear hF hx a0 a1 a2 a3 b0 b1 b2 b3 c0 c1 c2 c3
          rw [hpk.out]
          obtain ⟨b0, b1, b2, b3⟩ := hF1.2.1.four
          go_wp2_with fail
          refine (rhas_in q k _ hlt).mono ?_
          rintro e w2 ⟨rfl, hx⟩
          have hF2 := hF1.below hx
          clear hF1 hx b0 b1 b2 b3
          rw [hqk.out]
          go_wp2
          go_roundw
          case rel => exact ⟨k + 1, by omega, by go_num, hF2.congr (fun j _ => upTo_out _ k hs.out j)⟩
          case measure => simp [intOf]; omega
        | true =>
          have hs : Hid ((fun j => p j && q j) k = true) := by show (p k && q k) = true; simp [hpk.out, hq]
          have hqk := hid hq
          clear hq
          go_wp2_with fail
          refine (rhas_in p k _ hlt).mono ?_
          rintro e w1 ⟨rfl, hx⟩
          have hF1 := hF.below hx
          clear hF hx a0 a1 a2 a3 b0 b1 b2 b3 c0 c1 c2 c3
          rw [hpk.out]
          obtain ⟨b0, b1, b2, b3⟩ := hF1.2.1.four
          go_wp2_with fail
          refine (rhas_in q k _ hlt).mono ?_
          rintro e w2 ⟨rfl, hx⟩
          have hF2 := hF1.below hx
          clear hF1 hx b0 b1 b2 b3
          rw [hqk.out]
          obtain ⟨c0, c1, c2, c3⟩ := hF2.2.2.2.1.four
          go_wp2_with fail
          refine (with_any (upTo k fun j => p j && q j) k _).mono ?_
          rintro e w3 ⟨rfl, hx⟩
          have hF3 := hF2.below hx
          clear hF2 hx c0 c1 c2 c3
          obtain ⟨f0, f1, f2, f3⟩ := hF3.2.2.2.1.frees
          obtain ⟨c0, c1, c2, c3⟩ := hF3.2.2.2.1.four
          go_wp2
          go_roundw
          case rel => exact ⟨k + 1, by omega, by go_num, (hF3.stores _).congr (fun j _ => upTo_in _ k hs.out j)⟩
          case measure => simp [intOf]; omega
    · obtain rfl : k = 256 := by omega
      obtain ⟨f0, f1, f2, f3⟩ := hF.2.2.1.frees
      obtain ⟨d0, d1, d2, d3⟩ := hF.2.2.1.four
      go_wp2
      obtain ⟨k0, k1, k2, k3⟩ := (hF.2.2.1.stores (upTo 256 fun j => p j && q j)).four
      rw [nodes_congr (p := fun j => p j && q j) (q := upTo 256 fun j => p j && q j) fun j hj => (upTo_all (fun j => p j && q j) j hj).symm]
      refine bodyPost_ret (v := nodes (upTo 256 fun j => p j && q j)) (by simp [results, Tryd.results18, go_sem, k0, k1, k2, k3]) rfl ⟨rfl, below_stores hF.2.2.2.2 (by omega) _ _ _ _⟩
end Go.Proofs.YtppphpgippchaaaDoor
