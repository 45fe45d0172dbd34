/-
  VecCounts, walked (given what the program's Count answers).
-/
import Derived.Test.YtkmknogejhhajaaDoorVRCount
import Derived.Test.YtkmknogejhhajaaDoorVSort
import Derived.Test.YtkmknogejhhajaaDoorVAlive
namespace Go.Proofs.YtkmknogejhhajaaDoor
open Go.RowKit

set_option maxRecDepth 100000 in
set_option maxHeartbeats 8000000 in
theorem counts_walk (A : Option Addr) (l : List V3) (cap : Nat) (w : World) (hs : SegV w w.heap.size A l) (hw : Env w)
    (hC : ∀ W, Below w.heap.size w W → l.length ≤ 500 → Calls Tryd.prog 29 #[.slice A l.length cap] W fun e w' => ∃ v, e = .returned v ∧ OwnY w' TTal W.heap.size v (tally l) ∧ Below W.heap.size W w') :
    Calls Tryd.prog 6 #[.slice A l.length cap] w fun e w' => e = .returned (.bool true) ∧ Below w.heap.size w w' := by
  have hal := fun W (hW : Below w.heap.size w W) => alive_any W (hw.below hW)
  by_cases h5 : l.length ≤ 500
  · have i1 : ¬ (500 : Int) < l.length := by omega
    have hc := hC w (Below.refl _ _) h5
    have hr := fun W (hW : Below w.heap.size w W) => rCount_any l A cap W (SegV.more (SegV.below hs hW) hW.size) (by omega)
    have hTl := Nat.le_trans (tally_len l) h5
    clear hC hs hw
    generalize tally l = T at *
    go_enter Tryd.func6, Tryd.ntmps6
    go_upto_region 6 with (first
      | (go_at_call 29; (with_reducible refine hc.mono ?_); rintro e w1 ⟨v1, rfl, o1, b1⟩; obtain ⟨A1, c1, rfl, _, _, s1⟩ := OwnY.shape o1; replace s1 := fhid s1; clear o1)
      | (go_at_call 30; (with_reducible refine (hr _ b1).mono ?_); rintro e w2 ⟨v2, rfl, o2, b2⟩; obtain ⟨A2, c2, rfl, _, _, s2⟩ := OwnY.shape o2; have s3 := fhid (SegC.below s1.out b2); replace s2 := fhid s2; have g2 := b1.trans (b2.mono b1.size); clear o2))
    clear hc hr s1
    have hsz := b2.size
    go_wp2_with fail
    go_loopw [21] (fun i wr => ∃ j : Nat, j ≤ T.length ∧ i = .int .i64 (j : Int) ∧ Below w2.heap.size w2 wr) (fun i _ => T.length - (intOf i).toNat)
    case atStart => exact ⟨0, Nat.zero_le _, rfl, Below.refl _ _⟩
    case round =>
      obtain ⟨j, hj, rfl, hB⟩ := hrel
      have gB := g2.trans (hB.mono g2.size)
      rename World => wo
      have i0 : (0 : Int) ≤ j := by omega
      by_cases hlt : j < T.length
      · have i2 : (j : Int) < T.length := by omega
        obtain ⟨bo, oo, rfl, _, u0, u1, u2, u3⟩ := tal_cells (SegC.below s3.out (hB.mono hsz)) hlt
        obtain ⟨bp, op, rfl, _, t0, t1, t2, t3⟩ := tal_cells (SegC.below s2.out hB) hlt
        have hne := fun W => neq_vec T[j].1.1 T[j].1.2.1 T[j].1.2.2 T[j].1.1 T[j].1.2.1 T[j].1.2.2 W
        rw [decide_eq_true (⟨rfl, rfl, rfl⟩ : T[j].1.1 = T[j].1.1 ∧ T[j].1.2.1 = T[j].1.2.1 ∧ T[j].1.2.2 = T[j].1.2.2)] at hne
        have m0 := fun d os => cell_regrown u0 d os
        have m1 := fun d os => cell_regrown u1 d os
        have m2 := fun d os => cell_regrown u2 d os
        have m3 := fun d os => cell_regrown u3 d os
        have m4 := fun d os => cell_regrown t0 d os
        have m5 := fun d os => cell_regrown t1 d os
        have m6 := fun d os => cell_regrown t2 d os
        have m7 := fun d os => cell_regrown t3 d os
        generalize T[j].1.1 = p at *
        generalize T[j].1.2.1 = q at *
        generalize T[j].1.2.2 = r at *
        generalize (T[j].2 : Int) = n at *
        go_wp2_with fail
        clear u0 u1 u2 u3 t0 t1 t2 t3
        refine wp_region_quiet_below (by kernel_rfl) (by kernel_rfl) ?_
        repeat (first | go_big_quiet_step (fail) | quiet_step (fail))
        refine wpQuiet_nil ?_
        rintro w9 ⟨pq, rfl⟩
        have b9 := below_regrown wo pq.d pq.os
        generalize Sort.grow (redrawn wo pq.d) pq.os = w9 at *
        go_wp2_with fail
        go_roundw
        case rel => exact ⟨j + 1, by omega, by go_num, hB.trans (b9.mono hB.size)⟩
        case measure => simp [intOf]; omega
      · have i2 : ¬ (j : Int) < T.length := by omega
        go_wp2_with (go_at_call 18; (with_reducible refine (hal _ gB).mono ?_); rintro e w7 ⟨rfl, b7⟩)
        go_ret
        exact ⟨rfl, gB.trans (b7.mono gB.size)⟩
  · have i1 : (500 : Int) < l.length := by omega
    clear hC hs hw
    go_enter Tryd.func6, Tryd.ntmps6
    go_wp2_with (go_at_call 18; (with_reducible refine (hal _ (Below.refl _ _)).mono ?_); rintro e w7 ⟨rfl, b7⟩)
    go_ret
    exact ⟨rfl, b7⟩
end Go.Proofs.YtkmknogejhhajaaDoor
