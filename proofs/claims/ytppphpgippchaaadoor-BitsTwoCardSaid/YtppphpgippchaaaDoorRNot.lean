/-
  The reference's Not.
-/
import Derived.Test.YtppphpgippchaaaDoorRAnd
namespace Go.Proofs.YtppphpgippchaaaDoor
open Go.RowKit
set_option maxRecDepth 100000 in
set_option maxHeartbeats 800000 in
theorem rnot_any (p q : Nat → Bool) (w : World) :
    Calls Tryd.prog 22 #[nodes p, nodes q] w fun e w' => e = .returned (nodes fun j => p j && !q j) ∧ Below w.heap.size w w' := by
  go_enter Tryd.func22, Tryd.ntmps22
  go_wp2
  go_loopw [6] (fun i wr => ∃ k : Nat, k ≤ 256 ∧ i = .int .i64 k ∧ Four w wr p q (upTo k fun j => p j && !q j)) (fun i _ => 256 - (intOf i).toNat)
  case atStart =>
    exact ⟨0, by omega, rfl, (Four.start w p q).congr fun j _ => (upTo_zero _ j).symm⟩
  case round =>
    obtain ⟨k, hk, rfl, hF⟩ := hrel
    obtain ⟨a0, a1, a2, a3⟩ := hF.1.four
    obtain ⟨b0, b1, b2, b3⟩ := hF.2.1.four
    obtain ⟨c0, c1, c2, c3⟩ := hF.2.2.2.1.four
    by_cases hlt : k < 256
    · cases hp : p k with
      | false =>
        have hs : Hid ((fun j => p j && !q j) k = false) := by show (p k && !q k) = false; simp [hp]
        have hpk := hid hp
        clear hp
        go_wp2_with (go_at_call 16; refine (rhas_in p k _ hlt).mono ?_; rintro e w1 ⟨rfl, hx⟩; have hF1 := hF.below hx; rw [hpk.out])
        go_roundw
        case rel => exact ⟨k + 1, by omega, by go_num, hF1.congr (fun j _ => upTo_out _ k hs.out j)⟩
        case measure => simp [intOf]; omega
      | true =>
        have hpk := hid hp
        clear hp
        cases hq : q k with
        | true =>
          have hs : Hid ((fun j => p j && !q j) k = false) := by show (p k && !q k) = false; simp [hq]
          have hqk := hid hq
          clear hq
          go_wp2_with fail
          refine (rhas_in p k _ hlt).mono ?_
          rintro e w1 ⟨rfl, hx⟩
          have hF1 := hF.below hx
          clear hF hx a0 a1 a2 a3 b0 b1 b2 b3 c0 c1 c2 c3
          rw [hpk.out]
          obtain ⟨b0, b1, b2, b3⟩ := hF1.2.1.four
          go_wp2_with fail
          refine (rhas_in q k _ hlt).mono ?_
          rintro e w2 ⟨rfl, hx⟩
          have hF2 := hF1.below hx
          clear hF1 hx b0 b1 b2 b3
          rw [hqk.out]
          go_wp2
          go_roundw
          case rel => exact ⟨k + 1, by omega, by go_num, hF2.congr (fun j _ => upTo_out _ k hs.out j)⟩
          case measure => simp [intOf]; omega
        | false =>
          have hs : Hid ((fun j => p j && !q j) k = true) := by show (p k && !q k) = true; simp [hpk.out, hq]
          have hqk := hid hq
          clear hq
          go_wp2_with fail
          refine (rhas_in p k _ hlt).mono ?_
          rintro e w1 ⟨rfl, hx⟩
          have hF1 := hF.below hx
          clear hF hx a0 a1 a2 a3 b0 b1 b2 b3 c0 c1 c2 c3
          rw [hpk.out]
          obtain ⟨b0, b1, b2, b3⟩ := hF1.2.1.four
          go_wp2_with fail
          refine (rhas_in q k _ hlt).mono ?_
          rintro e w2 ⟨rfl, hx⟩
          have hF2 := hF1.below hx
          clear hF1 hx b0 b1 b2 b3
          rw [hqk.out]
          obtain ⟨c0, c1, c2, c3⟩ := hF2.2.2.2.1.four
          go_wp2_with fail
          refine (with_any (upTo k fun j => p j && !q j) k _).mono ?_
          rintro e w3 ⟨rfl, hx⟩
          have hF3 := hF2.below hx
          clear hF2 hx c0 c1 c2 c3
          obtain ⟨f0, f1, f2, f3⟩ := hF3.2.2.2.1.frees
          obtain ⟨c0, c1, c2, c3⟩ := hF3.2.2.2.1.four
          go_wp2
          go_roundw
          case rel => exact ⟨k + 1, by omega, by go_num, (hF3.stores _).congr (fun j _ => upTo_in _ k hs.out j)⟩
          case measure => simp [intOf]; omega
    · obtain rfl : k = 256 := by omega
      obtain ⟨f0, f1, f2, f3⟩ := hF.2.2.1.frees
      obtain ⟨d0, d1, d2, d3⟩ := hF.2.2.1.four
      go_wp2
      obtain ⟨k0, k1, k2, k3⟩ := (hF.2.2.1.stores (upTo 256 fun j => p j && !q j)).four
      rw [nodes_congr (p := fun j => p j && !q j) (q := upTo 256 fun j => p j && !q j) fun j hj => (upTo_all (fun j => p j && !q j) j hj).symm]
      refine bodyPost_ret (v := nodes (upTo 256 fun j => p j && !q j)) (by simp [results, Tryd.results22, go_sem, k0, k1, k2, k3]) rfl ⟨rfl, below_stores hF.2.2.2.2 (by omega) _ _ _ _⟩
end Go.Proofs.YtppphpgippchaaaDoor
