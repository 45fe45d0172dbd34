/-
  The reference's long numbers: a number's bits.
-/
import Derived.Test.YtogmbiiahccljaaSRow
namespace Go.Proofs.Ytogmbiiahccljaa
open Go.RowKit

set_option maxRecDepth 100000 in
set_option maxHeartbeats 1600000 in
theorem rof_any (a : Nat) (w : World) (ha : a < 18446744073709551616) :
    Calls Try.prog 34 #[.int .u64 a] w fun e w' => e = .returned (.agg (row fun i => a.testBit i)) ∧ Below w.heap.size w w' := by
  have hz := zero_run
  have hb := built_row
  have hZ := row_size fun _ => false
  have r0 : Row (w.alloc (.cells (row fun _ => false) 49)) w.heap.size fun _ => false := Row.new w _
  have r1 : Row ((w.alloc (.cells (row fun _ => false) 49)).alloc (.cells (row fun _ => false) 49)) (w.heap.size + 1) fun _ => false := by
    have := Row.new (w.alloc (.cells (row fun _ => false) 49)) fun _ => false
    rwa [World.size_alloc] at this
  have r2 := r0.old (.cells (row fun _ => false) 49)
  have hst := r1.store fun _ => false
  have r3 := r1.setRow fun _ => false
  have r4 := r2.setRow_other (g' := w.heap.size + 1) (by omega) (row fun _ => false)
  have hB : Below w.heap.size w _ := below_setRow (((Below.refl w.heap.size w).alloc (Nat.le_refl _) (.cells (row fun _ => false) 49)).alloc (by rw [World.size_alloc]; omega) (.cells (row fun _ => false) 49)) (g := w.heap.size + 1) (by omega) (row fun _ => false)
  replace r0 := hid r3
  replace r1 := hid r4
  replace hB := hid hB
  clear r2 r3 r4
  generalize (row fun _ => false) = Z at *
  go_enter Try.func34, Try.ntmps34
  go_wp2
  generalize (((w.alloc (.cells Z 49)).alloc (.cells Z 49)).setRow (w.heap.size + 1) Z) = w1 at *
  go_loopw [0, 4] (fun n i wr => ∃ k : Nat, k ≤ 64 ∧ i = .int .i64 k ∧ n = .int .u64 ((a / 2 ^ k : Nat) : Int) ∧ Row wr (w.heap.size + 1) (fun j => decide (j < k) && a.testBit j) ∧ Row wr w.heap.size (fun _ => false) ∧ Below w.heap.size w wr) (fun _ i _ => 64 - (intOf i).toNat)
  case atStart => exact ⟨0, by omega, rfl, by simp, r0.out.congr fun i _ => by simp, r1.out, hB.out⟩
  case round =>
    obtain ⟨k, hk, rfl, rfl, hr, hs, hB⟩ := hrel
    by_cases hlt : k < 64
    · have c1 := hr.cell k (by omega)
      have f1 := hr.free k
      have h0 : (0 : Int) ≤ k := by omega
      have h1 : (k : Int) < 160 := by omega
      have h2 : (k : Int) < 64 := by omega
      have hd : a / 2 ^ k / 2 = a / 2 ^ (k + 1) := by rw [Nat.div_div_eq_div_mul, Nat.pow_succ]
      have hlt2 : a / 2 ^ k < 18446744073709551616 := Nat.lt_of_le_of_lt (Nat.div_le_self _ _) ha
      have hbit : a.testBit k = decide (a / 2 ^ k % 2 = 1) := Nat.testBit_eq_decide_div_mod_eq
      generalize a / 2 ^ k = n at *
      have e1 : ((n : Int) % 2 == 1) = a.testBit k := by rw [hbit, Bool.beq_eq_decide_eq]; exact decide_eq_decide.2 (by omega)
      go_wp2
      go_roundw
      case rel =>
        refine ⟨k + 1, by omega, by go_num, by rw [← hd]; congr 1, ?_, hs.other (by simp) _, hB.setCell (by simp) _⟩
        refine (hr.set k _).congr fun i hi => ?_
        by_cases hik : i = k
        · subst hik
          rw [if_pos rfl, hbit, decide_eq_true (Nat.lt_succ_self i), Bool.true_and]
        · rw [if_neg hik]; congr 1; exact decide_eq_decide.2 (by omega)
      case measure => simp [intOf]; omega
    · have h2 : ¬ (k : Int) < 64 := by omega
      go_wp2_with (first
        | (refine arm_load rfl _ rfl rfl hr ?_)
        | (refine arm_store rfl _ _ rfl rfl rfl hs ?_))
      refine bodyPost_ret (v := .agg (row fun j => decide (j < k) && a.testBit j)) (row_result Try.results34 rfl (hs.setRow _)) rfl ⟨?_, below_setRow hB (Nat.le_refl _) _⟩
      rw [row_congr fun i _ => ?_]
      obtain rfl : k = 64 := by omega
      by_cases hi : i < 64
      · simp [hi]
      · rw [decide_eq_false hi, Nat.testBit_lt_two_pow (Nat.lt_of_lt_of_le (show a < 2 ^ 64 by omega) (Nat.pow_le_pow_right (by omega) (by omega)))]
        rfl

/-- The carry into place k. -/
def carryB (a b k : Nat) : Bool := BitVec.carry k (BitVec.ofNat 160 a) (BitVec.ofNat 160 b) false
theorem bit_of (a k : Nat) (hk : k < 160) : (BitVec.ofNat 160 a).getLsbD k = a.testBit k := by
  rw [BitVec.getLsbD_ofNat, decide_eq_true hk, Bool.true_and]
theorem carry_zero (a b : Nat) : carryB a b 0 = false := by simp [carryB]
theorem carry_next (a b k : Nat) (hk : k < 160) : carryB a b (k + 1) = ((a.testBit k && b.testBit k) || (a.testBit k && carryB a b k) || (b.testBit k && carryB a b k)) := by
  unfold carryB
  rw [BitVec.carry_succ, bit_of a k hk, bit_of b k hk]
theorem add_bit (a b k : Nat) (hk : k < 160) : (a + b).testBit k = (a.testBit k ^^ (b.testBit k ^^ carryB a b k)) := by
  rw [← bit_of (a + b) k hk, BitVec.ofNat_add, BitVec.getLsbD_add hk, bit_of a k hk, bit_of b k hk]
  rfl

set_option maxRecDepth 100000 in
set_option maxHeartbeats 3200000 in
theorem rplus_any (a b : Nat) (w : World) :
    Calls Try.prog 35 #[.agg (row fun i => a.testBit i), .agg (row fun i => b.testBit i)] w fun e w' => e = .returned (.agg (row fun i => (a + b).testBit i)) ∧ Below w.heap.size w w' := by
  have hz := zero_run
  have r0 := ((Row.new w fun i => a.testBit i).old (.cells (row fun i => b.testBit i) 49)).old (.cells (row fun _ => false) 49)
  have r1 := (Row.new (w.alloc (.cells (row fun i => a.testBit i) 49)) fun i => b.testBit i).old (.cells (row fun _ => false) 49)
  have r2 := Row.new ((w.alloc (.cells (row fun i => a.testBit i) 49)).alloc (.cells (row fun i => b.testBit i) 49)) fun _ => false
  have hB := (((Below.refl w.heap.size w).alloc (Nat.le_refl _) (.cells (row fun i => a.testBit i) 49)).alloc (by rw [World.size_alloc]; omega) (.cells (row fun i => b.testBit i) 49)).alloc (by rw [World.size_alloc, World.size_alloc]; omega) (.cells (row fun _ => false) 49)
  simp only [World.size_alloc] at r0 r1 r2
  replace r0 := hid r0
  replace r1 := hid r1
  replace r2 := hid r2
  replace hB := hid hB
  generalize hA : (row fun i => a.testBit i) = A at *
  generalize hA2 : (row fun i => b.testBit i) = A2 at *
  generalize (row fun _ => false) = Z at *
  replace hA := hid hA
  replace hA2 := hid hA2
  go_enter Try.func35, Try.ntmps35
  go_wp2
  generalize ((w.alloc (.cells A 49)).alloc (.cells A2 49)).alloc (.cells Z 49) = w1 at *
  go_loopw [5, 6] (fun c i wr => ∃ k : Nat, k ≤ 160 ∧ i = .int .i64 k ∧ c = .bool (carryB a b k) ∧ Row wr w.heap.size (fun j => if j < k then (a + b).testBit j else a.testBit j) ∧ Row wr (w.heap.size + 1) (fun j => b.testBit j) ∧ Row wr (w.heap.size + 1 + 1) (fun _ => false) ∧ Below w.heap.size w wr) (fun _ i _ => 160 - (intOf i).toNat)
  case atStart => exact ⟨0, by omega, rfl, by rw [carry_zero], r0.out.congr fun i _ => by simp, r1.out, r2.out, hB.out⟩
  case round =>
    obtain ⟨k, hk, rfl, rfl, hr, hs, ht, hB⟩ := hrel
    by_cases hlt : k < 160
    · have c1 := hr.cell k hlt
      have c2 := hs.cell k hlt
      rw [if_neg (Nat.lt_irrefl k)] at c1
      have h0 : (0 : Int) ≤ k := by omega
      have h2 : (k : Int) < 160 := by omega
      have hn := carry_next a b k hlt
      have ha := add_bit a b k hlt
      have N : ∀ (v : Bool), v = (a + b).testBit k → ∀ wr', Row wr' w.heap.size (fun i => if i = k then v else if i < k then (a + b).testBit i else a.testBit i) → Row wr' w.heap.size (fun j => if j < k + 1 then (a + b).testBit j else a.testBit j) := by
        rintro v rfl wr' h
        refine h.congr fun i _ => ?_
        by_cases hik : i = k
        · subst hik
          rw [if_pos rfl, if_pos (Nat.lt_succ_self i)]
        · rw [if_neg hik]
          by_cases hl : i < k
          · rw [if_pos hl, if_pos (by omega)]
          · rw [if_neg hl, if_neg (by omega)]
      generalize (a + b).testBit k = s at *
      generalize a.testBit k = x at *
      generalize b.testBit k = y at *
      generalize carryB a b k = c at *
      cases x <;> cases y <;> cases c
      all_goals
        replace N := hid (N _ ha.symm)
        replace hn := hid hn
        clear ha
        go_wp2_with fail
        go_quiet (fail)
        generalize hw2 : wr.drewN _ = w2
        have hr2 : Row w2 w.heap.size (fun j => if j < k then (a + b).testBit j else a.testBit j) := by rw [← hw2]; exact hr
        have hs2 : Row w2 (w.heap.size + 1) (fun j => b.testBit j) := by rw [← hw2]; exact hs
        have ht2 : Row w2 (w.heap.size + 1 + 1) (fun _ => false) := by rw [← hw2]; exact ht
        have hB2 : Below w.heap.size w w2 := by rw [← hw2]; exact below_drewN hB _
        have d1 := hr2.cell k hlt
        have f1 := hr2.free k
        clear hw2 c1 c2 hr hs ht hB
        go_wp2
        go_roundw
        case rel => exact ⟨k + 1, by omega, by go_num, by rw [hn.out]; rfl, N.out _ (hr2.set k _), hs2.other (show w.heap.size + 1 ≠ w.heap.size by omega) _, ht2.other (show w.heap.size + 1 + 1 ≠ w.heap.size by omega) _, hB2.setCell (by simp) _⟩
        case measure => simp [intOf]; omega
    · have h2 : ¬ (k : Int) < 160 := by omega
      go_wp2_with (first
        | (refine arm_load rfl _ rfl rfl hr ?_)
        | (refine arm_store rfl _ _ rfl rfl rfl ht ?_))
      refine bodyPost_ret (v := .agg (row fun j => if j < k then (a + b).testBit j else a.testBit j)) (row_result Try.results35 rfl (ht.setRow _)) rfl ⟨?_, below_setRow hB (by omega) _⟩
      rw [row_congr fun i hi => if_pos (show i < k by omega)]
end Go.Proofs.Ytogmbiiahccljaa
