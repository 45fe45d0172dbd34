/-
  alive: the probe that stands in each statement.
-/
import Derived.Test.YtffmcfhanmonkaaDoorInts
import Derived.ChangeKeysEq
namespace Go.Proofs.YtffmcfhanmonkaaDoor
open Go.RowKit
theorem eq_same (x0 x1 x2 x3 : Int) (w : World) :
    (Op.equalIn 10000 26 (.agg #[.int .u64 x0, .int .u64 x1, .int .u64 x2, .int .u64 x3]) (.agg #[.int .u64 x0, .int .u64 x1, .int .u64 x2, .int .u64 x3])).run Tryd.prog w = .ok true w := by
  obtain ⟨i, hi⟩ : ∃ i, Tryd.prog.info? 24 = some i := ⟨_, rfl⟩
  rw [run_equalIn_array w 9999 _ _ Tryd.underlying26 hi]
  have hc : Tryd.prog.cellsOf 24 = 1 := by kernel_rfl
  rw [hc, show List.range 4 = [0, 1, 2, 3] by rfl]
  have e := fun (a : Int) (w : World) => run_equalIn_int (P := Tryd.prog) w 9998 24 .u64 .u64 a a Tryd.underlying24
  simp [Op.eqItems, go_sem, e]
theorem alive_nodes : nodes (memP [0, 64, 255]) = .agg #[.int .u64 1, .int .u64 1, .int .u64 0, .int .u64 9223372036854775808] := by
  have h0 : word (memP [0, 64, 255]) 0 = 1 := by decide +kernel
  have h1 : word (memP [0, 64, 255]) 1 = 1 := by decide +kernel
  have h2 : word (memP [0, 64, 255]) 2 = 0 := by decide +kernel
  have h3 : word (memP [0, 64, 255]) 3 = 9223372036854775808 := by decide +kernel
  unfold nodes
  rw [h0, h1, h2, h3]
  rfl
theorem alive_cnt : cnt (memP [0, 64, 255]) 256 = 3 := by decide +kernel
theorem alive_lst : lst (memP [0, 64, 255]) 256 = [0, 64, 255] := by decide +kernel
theorem reads_three (w : World) : Reads (w.alloc (.cells #[.int .i64 0, .int .i64 64, .int .i64 255] 3)) (.slice (some ⟨w.heap.size, 0, none⟩) 3 3) [0, 64, 255] := by
  refine .inr ⟨w.heap.size, 0, 3, rfl, by simp, fun k x hx => ?_⟩
  match k, hx with
  | 0, hx => simp at hx; subst hx; simp [go_sem]
  | 1, hx => simp at hx; subst hx; simp [go_sem]
  | 2, hx => simp at hx; subst hx; simp [go_sem]
/-- The block of the three nodes. -/
def Three (w : World) (b : Nat) : Prop := w.heap[b]? = some (.cells #[.int .u64 1, .int .u64 1, .int .u64 0, .int .u64 9223372036854775808] 26)
theorem Three.cells {w : World} {b : Nat} (h : Three w b) : w.cell? ⟨b, 0, none⟩ = some (.int .u64 1) ∧ w.cell? ⟨b, 1, none⟩ = some (.int .u64 1) ∧ w.cell? ⟨b, 2, none⟩ = some (.int .u64 0) ∧ w.cell? ⟨b, 3, none⟩ = some (.int .u64 9223372036854775808) := by
  unfold Three at h
  simp [World.cell?, h]
theorem Three.new (w : World) : Three (w.alloc (.cells #[.int .u64 1, .int .u64 1, .int .u64 0, .int .u64 9223372036854775808] 26)) w.heap.size := by
  show (w.heap.push _)[w.heap.size]? = _
  simp
theorem Three.below {w w' : World} {b B : Nat} (h : Three w b) (hb : Below B w w') (hB : b < B) : Three w' b := by
  unfold Three at *
  rw [hb.block b hB]; exact h
theorem alive_count (w : World) :
    Calls Tryd.prog 27 #[.agg #[.int .u64 1, .int .u64 1, .int .u64 0, .int .u64 9223372036854775808]] w fun e w' => e = .returned (.int .i64 3) ∧ Below w.heap.size w w' := by
  have h := count_any (memP [0, 64, 255]) w
  rw [alive_nodes, alive_cnt] at h
  exact h
theorem alive_list (w : World) (hT : Tab w) :
    Calls Tryd.prog 30 #[.agg #[.int .u64 1, .int .u64 1, .int .u64 0, .int .u64 9223372036854775808]] w (Row w [0, 64, 255]) := by
  have h := list_any (memP [0, 64, 255]) w hT
  rw [alive_nodes, alive_lst] at h
  exact h
set_option maxRecDepth 100000 in
set_option maxHeartbeats 1600000 in
theorem alive_any (w : World) (hT : Tab w) :
    Calls Tryd.prog 10 #[] w fun e w' => e = .returned (.bool true) ∧ Below w.heap.size w w' := by
  have hn := hid alive_nodes
  have hT1 := hid hT
  clear hT
  go_enter Tryd.func10, Tryd.ntmps10
  go_wp2_with fail
  refine (of_any _ _ _ (reads_three w) (by simp)).mono ?_
  rintro e w1 ⟨rfl, hx⟩
  rw [hn.out]
  have hB1 : Below w.heap.size w w1 := ((Below.refl _ _).alloc (Nat.le_refl _) _).trans (hx.mono (by simp))
  clear hx
  have heq := fun w => eq_same 1 1 0 9223372036854775808 w
  go_wp2_with fail
  refine (alive_count _).mono ?_
  rintro e w2 ⟨rfl, hx⟩
  have s2 := (Three.new w1).below hx (by simp)
  have hB2 : Below w.heap.size w w2 := (hB1.alloc hB1.size _).trans (hx.mono (by simp; have := hB1.size; omega))
  clear hx hB1 heq
  obtain ⟨c0, c1, c2, c3⟩ := s2.cells
  have hT2 := hid (tab_below hT1.out hB2)
  go_wp2_with fail
  refine (alive_list _ hT2.out).mono ?_
  rintro e w3 ⟨v, rfl, hown, hx⟩
  have hB3 := hB2.trans (hx.mono hB2.size)
  have r1 := hid ((Reads.ofOwn hown).below ((Below.refl _ _).alloc (Nat.le_refl _) (.cells #[.int .i64 0, .int .i64 64, .int .i64 255] 3)))
  clear hx hB2 c0 c1 c2 c3 s2 hown
  go_wp2_with fail
  refine (ints_any _ _ _ _ r1.out (reads_three w3) (by simp)).mono ?_
  rintro e w4 ⟨rfl, hx⟩
  have hB4 : Below w.heap.size w w4 := (hB3.alloc hB3.size _).trans (hx.mono (by simp; have := hB3.size; omega))
  clear hx hB3
  go_wp2
  go_ret
  exact ⟨rfl, hB4⟩
end Go.Proofs.YtffmcfhanmonkaaDoor
