/-
  The reference's long numbers: the product.
-/
import Derived.Test.YtogmbiiahccljaaSReg
import Derived.Deep.DeepCutAuto
namespace Go.Proofs.Ytogmbiiahccljaa
open Go.RowKit

theorem Row.first (w : World) (p q : Nat → Bool) : Row ((w.alloc (.cells (row p) 49)).alloc (.cells (row q) 49)) w.heap.size p := (Row.new w p).old _
theorem Row.second (w : World) (p q : Nat → Bool) : Row ((w.alloc (.cells (row p) 49)).alloc (.cells (row q) 49)) (w.heap.size + 1) q := by
  have := Row.new (w.alloc (.cells (row p) 49)) q
  rwa [World.size_alloc] at this
theorem size_setRow (w : World) (g : Nat) (cs : Array Value) : (w.setRow g cs).heap.size = w.heap.size := by unfold World.setRow; simp
theorem mod_next (b k : Nat) : b % 2 ^ (k + 1) = b % 2 ^ k + (if b.testBit k then 2 ^ k else 0) := by
  have h2 : b.testBit k = decide (b / 2 ^ k % 2 = 1) := Nat.testBit_eq_decide_div_mod_eq
  rw [Nat.mod_pow_succ, h2]
  have h3 : b / 2 ^ k % 2 = 0 ∨ b / 2 ^ k % 2 = 1 := by omega
  rcases h3 with h | h <;> simp [h]

set_option maxRecDepth 100000 in
set_option maxHeartbeats 3200000 in
theorem rtimes_any (a b : Nat) (w : World) (ha : a < 18446744073709551616) (hb : b < 18446744073709551616) :
    Calls Try.prog 31 #[.int .u64 a, .int .u64 b] w fun e w' => e = .returned (.agg (row fun i => (a * b).testBit i)) ∧ Below w.heap.size w w' := by
  have hz := zero_run
  have hbu := built_row
  have c1 := fun w => rof_any a w ha
  have c2 := fun w => rof_any b w hb
  replace hb := hid hb
  clear ha
  go_enter Try.func31, Try.ntmps31
  go_wp2_with (first
    | (go_at_call 34; with_reducible refine (c1 _).mono ?_; rintro e w2 ⟨rfl, x1⟩)
    | (go_at_call 34; with_reducible refine (c2 _).mono ?_; rintro e w3 ⟨rfl, x2⟩)
    | (refine arm_store rfl _ _ rfl rfl rfl (Row.second _ _ _) ?_)
    | (refine arm_store rfl _ _ rfl rfl rfl (Row.first _ _ _) ?_)
    | (refine arm_store rfl _ _ rfl rfl rfl ((Row.second _ _ _).setRow_other (Nat.succ_ne_self _) _) ?_))
  rw [size_setRow, World.size_alloc, World.size_alloc] at x1
  generalize hw4 : World.setRow (World.setRow _ _ (row fun i => a.testBit i)) _ (row fun i => b.testBit i) = w4
  have hl2 : w.heap.size + 2 ≤ w2.heap.size := by have := x1.size; rw [size_setRow, World.size_alloc, World.size_alloc] at this; omega
  have hl3 : w2.heap.size ≤ w3.heap.size := x2.size
  have B1 : Below w.heap.size w _ := below_setRow (((Below.refl w.heap.size w).alloc (Nat.le_refl _) (.cells (row fun _ => false) 49)).alloc (by rw [World.size_alloc]; omega) (.cells (row fun _ => false) 49)) (show w.heap.size ≤ w.heap.size + 1 by omega) (row fun _ => false)
  have B3 : Below w.heap.size w w3 := (B1.trans (x1.mono (by omega))).trans (x2.mono (by omega))
  have B4 : Below w.heap.size w w4 := by
    rw [← hw4]
    exact below_setRow (below_setRow ((B3.alloc (by omega) _).alloc (by rw [World.size_alloc]; omega) _) (by omega) _) (by omega) _
  have P4 : Row w3 w.heap.size fun _ => false := (((Row.first w _ _).setRow_other (show w.heap.size ≠ w.heap.size + 1 by omega) _).below x1 (by omega)).below x2 (by omega)
  have P5 : Row w3 (w.heap.size + 1) fun _ => false := (((Row.second w _ _).setRow _).below x1 (by omega)).below x2 (by omega)
  have R4 : Row w4 w.heap.size fun _ => false := by
    rw [← hw4]; exact (((P4.old _).old _).setRow_other (by omega) _).setRow_other (by omega) _
  have R5 : Row w4 (w.heap.size + 1) fun _ => false := by
    rw [← hw4]; exact (((P5.old _).old _).setRow_other (by omega) _).setRow_other (by omega) _
  have R6 : Row w4 w3.heap.size fun i => a.testBit i := by
    rw [← hw4]; exact ((Row.first w3 _ _).setRow _).setRow_other (by omega) _
  have R7 : Row w4 (w3.heap.size + 1) fun i => b.testBit i := by
    rw [← hw4]; exact ((Row.second w3 _ _).setRow_other (by omega) _).setRow _
  have hn5 : w3.heap.size ≠ w.heap.size + 1 := by omega
  have hn7 : w3.heap.size + 1 ≠ w.heap.size + 1 := by omega
  replace B4 := hid B4
  replace R4 := hid R4
  replace R5 := hid R5
  replace R6 := hid R6
  replace R7 := hid R7
  replace hn5 := hid hn5
  replace hn7 := hid hn7
  clear x1 x2 hl2 hl3 B1 B3 P4 P5 hw4 hz hbu c1 c2
  generalize w3.heap.size = g at *
  go_loopw [8] (fun i wr => ∃ k : Nat, k ≤ 64 ∧ i = .int .i64 k ∧ Row wr (w.heap.size + 1) (fun j => (a * (b % 2 ^ k)).testBit j) ∧ Row wr g (fun j => a.testBit j) ∧ Row wr (g + 1) (fun j => b.testBit j) ∧ Row wr w.heap.size (fun _ => false) ∧ Below w.heap.size w wr) (fun i _ => 64 - (intOf i).toNat)
  case atStart => exact ⟨0, by omega, rfl, R5.out.congr fun i _ => by rw [Nat.pow_zero, Nat.mod_one, Nat.mul_zero]; simp, R6.out, R7.out, R4.out, B4.out⟩
  case round =>
    obtain ⟨k, hk, rfl, r5, r6, r7, r4, hB⟩ := hrel
    by_cases hlt : k < 64
    · have d7 := r7.cell k (by omega)
      have h0 : (0 : Int) ≤ k := by omega
      have h1 : (k : Int) < 160 := by omega
      have h2 : (k : Int) < 64 := by omega
      have hm := mod_next b k
      generalize b.testBit k = y at *
      cases y
      · rw [if_neg (by decide), Nat.add_zero] at hm
        replace hm := hid hm
        go_wp2
        go_roundw
        case rel => exact ⟨k + 1, by omega, by go_num, by rw [hm.out]; exact r5, r6, r7, r4, hB⟩
        case measure => simp [intOf]; omega
      · rw [if_pos rfl] at hm
        have hs : a * (b % 2 ^ (k + 1)) = a * (b % 2 ^ k) + a <<< k := by rw [hm, Nat.mul_add, Nat.shiftLeft_eq]
        replace hs := hid hs
        clear hm
        generalize a * (b % 2 ^ k) = m at *
        generalize hm2 : a * (b % 2 ^ (k + 1)) = m2 at *
        replace hm2 := hid hm2
        have cm := fun w => rmoved_any a k (a <<< k) w hlt rfl
        generalize a <<< k = sh at *
        have cp := fun w => rplus_any m sh w
        rw [← hs.out] at cp
        replace cm := hid cm
        replace cp := hid cp
        go_upto_region 7 with fail
        refine reg7 a b k g m m2 sh w wr _ (fun _ _ _ _ _ h => h) cm cp hn5 hn7 r6 r5 r7 r4 hB ?_
        clear cm cp r6 r5 r7 r4 hB d7
        intro w8 r5 r6 r7 r4 hB
        go_wp2
        go_roundw
        case rel => exact ⟨k + 1, by omega, by go_num, by rw [hm2.out]; exact r5, r6, r7, r4, hB⟩
        case measure => simp [intOf]; omega
    · have h2 : ¬ (k : Int) < 64 := by omega
      obtain rfl : k = 64 := by omega
      have e64 : b % 2 ^ 64 = b := Nat.mod_eq_of_lt (by have := hb.out; omega)
      rw [e64] at r5
      clear e64
      go_wp2_with (first
        | (refine arm_load rfl _ rfl rfl r5 ?_)
        | (refine arm_store rfl _ _ rfl rfl rfl r4 ?_))
      exact bodyPost_ret (v := .agg (row fun j => (a * b).testBit j)) (row_result Try.results31 rfl (r4.setRow _)) rfl ⟨rfl, below_setRow hB (Nat.le_refl _) _⟩
end Go.Proofs.Ytogmbiiahccljaa
