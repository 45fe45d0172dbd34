/-
  The reference's long numbers: a number times 2 to some power, and over it; how great a number is.
-/
import Derived.Test.YtogmbiiahccljaaSBig
namespace Go.Proofs.Ytogmbiiahccljaa
open Go.RowKit

set_option maxHeartbeats 400000 in
theorem size_any (n : Int) (w : World) (hn : Fits n) :
    Calls Try.prog 32 #[.int .i64 n] w fun e w' => e = .returned (.int .u64 ((n.natAbs : Nat) : Int)) ∧ w = w' := by
  obtain ⟨h0, h1⟩ := hn
  by_cases hs : n < 0
  · have E := hid (show IntKind.u64.wrap (-(IntKind.u64.wrap n)) = ((n.natAbs : Nat) : Int) by rw [IntKind.wrap_u64, IntKind.wrap_u64]; omega)
    go_enter Try.func32, Try.ntmps32
    go_wp2
    go_ret
    exact ⟨ret1 (by first | exact E.out | (rw [← E.out]; rw [IntKind.wrap_u64]; rw [IntKind.wrap_u64]; omega)), rfl⟩
  · have E := hid (show IntKind.u64.wrap n = ((n.natAbs : Nat) : Int) by rw [IntKind.wrap_u64]; omega)
    go_enter Try.func32, Try.ntmps32
    go_wp2
    go_ret
    exact ⟨ret1 (by first | exact E.out | omega), rfl⟩

set_option maxRecDepth 100000 in
set_option maxHeartbeats 3200000 in
theorem rmoved_any (a s m : Nat) (w : World) (hs : s < 64) (hm : m = a <<< s) :
    Calls Try.prog 36 #[.agg (row fun i => a.testBit i), .int .i64 s] w fun e w' => e = .returned (.agg (row fun i => m.testBit i)) ∧ Below w.heap.size w w' := by
  have hbits : ∀ j, m.testBit j = (decide (j ≥ s) && a.testBit (j - s)) := fun j => by rw [hm, Nat.testBit_shiftLeft]
  clear hm
  replace hbits := hid hbits
  have hz := zero_run
  have hb := built_row
  have hZ := row_size fun _ => false
  have r0 := ((Row.new w fun i => a.testBit i).old (.cells (row fun _ => false) 49)).old (.cells (row fun _ => false) 49)
  have r1 := (Row.new (w.alloc (.cells (row fun i => a.testBit i) 49)) fun _ => false).old (.cells (row fun _ => false) 49)
  have r2 := Row.new ((w.alloc (.cells (row fun i => a.testBit i) 49)).alloc (.cells (row fun _ => false) 49)) fun _ => false
  have hB := (((Below.refl w.heap.size w).alloc (Nat.le_refl _) (.cells (row fun i => a.testBit i) 49)).alloc (by rw [World.size_alloc]; omega) (.cells (row fun _ => false) 49)).alloc (by rw [World.size_alloc, World.size_alloc]; omega) (.cells (row fun _ => false) 49)
  simp only [World.size_alloc] at r0 r1 r2
  have hst := r2.store fun _ => false
  replace hB := hid (below_setRow hB (show w.heap.size ≤ w.heap.size + 1 + 1 by omega) (row fun _ => false))
  replace r0 := hid (r0.setRow_other (show w.heap.size ≠ w.heap.size + 1 + 1 by omega) (row fun _ => false))
  replace r1 := hid (r1.setRow_other (show w.heap.size + 1 ≠ w.heap.size + 1 + 1 by omega) (row fun _ => false))
  replace r2 := hid (r2.setRow fun _ => false)
  generalize hA : (row fun i => a.testBit i) = A at *
  generalize (row fun _ => false) = Z at *
  replace hA := hid hA
  go_enter Try.func36, Try.ntmps36
  go_wp2
  generalize (((w.alloc (.cells A 49)).alloc (.cells Z 49)).alloc (.cells Z 49)).setRow (w.heap.size + 1 + 1) Z = w1 at *
  go_loopw [6] (fun i wr => ∃ k : Nat, k ≤ 160 ∧ i = .int .i64 k ∧ Row wr (w.heap.size + 1 + 1) (fun j => decide (j < k + s) && m.testBit j) ∧ Row wr w.heap.size (fun j => a.testBit j) ∧ Row wr (w.heap.size + 1) (fun _ => false) ∧ Below w.heap.size w wr) (fun i _ => 160 - (intOf i).toNat)
  case atStart =>
    refine ⟨0, by omega, rfl, r2.out.congr fun i _ => ?_, r0.out, r1.out, hB.out⟩
    rw [hbits.out]
    by_cases h : i < s
    · rw [decide_eq_false (by omega : ¬ s ≤ i)]; simp
    · rw [decide_eq_false (by omega : ¬ i < 0 + s)]; rfl
  case round =>
    obtain ⟨k, hk, rfl, hr, hq, ht, hB⟩ := hrel
    by_cases hlt : k < 160
    · have c1 := hq.cell k hlt
      have h0 : (0 : Int) ≤ k := by omega
      have h2 : (k : Int) < 160 := by omega
      have hbit : m.testBit (k + s) = a.testBit k := by
        rw [hbits.out, decide_eq_true (by omega : k + s ≥ s), Bool.true_and]; congr 1; omega
      have N : ∀ (p : Nat → Bool) (wr' : World), Row wr' (w.heap.size + 1 + 1) p → (∀ i, i < 160 → p i = (decide (i < k + 1 + s) && m.testBit i)) → Row wr' (w.heap.size + 1 + 1) (fun j => decide (j < k + 1 + s) && m.testBit j) := fun p wr' h he => h.congr he
      have S : a.testBit k = false ∨ 160 ≤ k + s → ∀ i, i < 160 → (decide (i < k + s) && m.testBit i) = (decide (i < k + 1 + s) && m.testBit i) := fun hh i hi => by
        by_cases hik : i = k + s
        · subst hik
          rcases hh with hh | hh
          · rw [hbit, hh]; simp
          · omega
        · congr 1; exact decide_eq_decide.2 (by omega)
      have T : a.testBit k = true → ∀ i, i < 160 → (if i = k + s then true else (decide (i < k + s) && m.testBit i)) = (decide (i < k + 1 + s) && m.testBit i) := fun hh i hi => by
        by_cases hik : i = k + s
        · subst hik
          rw [if_pos rfl, hbit, hh, decide_eq_true (by omega)]; rfl
        · rw [if_neg hik]; congr 1; exact decide_eq_decide.2 (by omega)
      replace N := hid N
      replace S := hid S
      replace T := hid T
      clear hbit
      generalize hx : a.testBit k = x at *
      replace hx := hid hx
      cases x
      · go_wp2
        go_roundw
        case rel => exact ⟨k + 1, by omega, by go_num, N.out _ _ hr (S.out (Or.inl rfl)), hq, ht, hB⟩
        case measure => simp [intOf]; omega
      · by_cases h3 : k + s < 160
        · have h3' : (k : Int) + (s : Int) < 160 := by omega
          have d1 := hr.cell (k + s) h3
          have f1 := hr.free (k + s)
          have h4 : 0 ≤ (k : Int) + (s : Int) := by omega
          have h5 : ((k : Int) + (s : Int)).toNat = k + s := by omega
          go_wp2
          go_roundw
          case rel => exact ⟨k + 1, by omega, by go_num, N.out _ _ (hr.set (k + s) true) (T.out rfl), hq.other (show w.heap.size ≠ w.heap.size + 1 + 1 by omega) _, ht.other (show w.heap.size + 1 ≠ w.heap.size + 1 + 1 by omega) _, hB.setCell (by simp; omega) _⟩
          case measure => simp [intOf]; omega
        · have h3' : ¬ (k : Int) + (s : Int) < 160 := by omega
          go_wp2
          go_roundw
          case rel => exact ⟨k + 1, by omega, by go_num, N.out _ _ hr (S.out (Or.inr (by omega))), hq, ht, hB⟩
          case measure => simp [intOf]; omega
    · have h2 : ¬ (k : Int) < 160 := by omega
      go_wp2_with (first
        | (refine arm_load rfl _ rfl rfl hr ?_)
        | (refine arm_store rfl _ _ rfl rfl rfl ht ?_))
      refine bodyPost_ret (v := .agg (row fun j => decide (j < k + s) && m.testBit j)) (row_result Try.results36 rfl (ht.setRow _)) rfl ⟨?_, below_setRow hB (by omega) _⟩
      exact congrArg (fun r => Ending.returned (Value.agg r)) (row_congr fun i hi => by rw [decide_eq_true (show i < k + s by omega), Bool.true_and])
end Go.Proofs.Ytogmbiiahccljaa
