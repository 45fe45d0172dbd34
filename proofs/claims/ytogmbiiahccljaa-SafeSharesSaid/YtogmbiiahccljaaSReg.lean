/-
  The region of the reference's product that adds a moved number: both ways through.
-/
import Derived.Test.YtogmbiiahccljaaSChain
namespace Go.Proofs.Ytogmbiiahccljaa
open Go.RowKit

abbrev ops7 : Array Oper := #[{ dst := some 21, op := Op.load 49 (Operand.tmp 5), type := 49, pos := "ref.go:77", after := #[], guard := none }, { dst := some 22, op := Op.load 49 (Operand.tmp 6), type := 49, pos := "ref.go:77", after := #[], guard := none }, { dst := some 23, op := Op.move (Operand.tmp 8), type := 3, pos := "ref.go:77", after := #[], guard := none }, { dst := some 24, op := Op.call { callee := Callee.value (Operand.func 36), args := #[Operand.tmp 22, Operand.tmp 23], argTypes := #[49, 3] }, type := 49, pos := "ref.go:77", after := #[{ on := 1, ground := Ground.data }, { on := 2, ground := Ground.data }], guard := none }, { dst := some 25, op := Op.call { callee := Callee.value (Operand.func 35), args := #[Operand.tmp 21, Operand.tmp 24], argTypes := #[49, 49] }, type := 49, pos := "ref.go:77", after := #[{ on := 0, ground := Ground.data }, { on := 3, ground := Ground.data }, { on := 3, ground := Ground.chain }], guard := none }, { dst := none, op := Op.store 49 (Operand.tmp 5) (Operand.tmp 25), type := 0, pos := "ref.go:77", after := #[{ on := 4, ground := Ground.data }, { on := 4, ground := Ground.chain }, { on := 0, ground := Ground.phase }, { on := 1, ground := Ground.phase }, { on := 2, ground := Ground.phase }, { on := 3, ground := Ground.phase }, { on := 4, ground := Ground.phase }], guard := none }]

set_option maxRecDepth 100000 in
set_option maxHeartbeats 1600000 in
theorem reg7 (a b k g m m2 sh : Nat) (w wr : World) (Q : Exit → Act → World → Prop) {v0 v1 v2 v3 v4 v7 v9 v10 v11 v12 v13 v14 v15 v16 v17 v18 v19 v20 v21 v22 v23 v24 v25 v26 : Value}
    (hP : ∀ c (a : Act) t v w, Q (.panic c) (a.put (some t) v) w → Q (.panic c) a w)
    (cm : Hid (∀ w, Calls Try.prog 36 #[.agg (row fun i => a.testBit i), .int .i64 k] w fun e w' => e = .returned (.agg (row fun i => sh.testBit i)) ∧ Below w.heap.size w w'))
    (cp : Hid (∀ w, Calls Try.prog 35 #[.agg (row fun i => m.testBit i), .agg (row fun i => sh.testBit i)] w fun e w' => e = .returned (.agg (row fun i => m2.testBit i)) ∧ Below w.heap.size w w'))
    (hn5 : Hid (g ≠ w.heap.size + 1)) (hn7 : Hid (g + 1 ≠ w.heap.size + 1))
    (r6 : Row wr g fun j => a.testBit j) (r5 : Row wr (w.heap.size + 1) fun j => m.testBit j) (r7 : Row wr (g + 1) fun j => b.testBit j) (r4 : Row wr w.heap.size fun _ => false) (hB : Below w.heap.size w wr)
    (fin : ∀ w8, Row w8 (w.heap.size + 1) (fun j => m2.testBit j) → Row w8 g (fun j => a.testBit j) → Row w8 (g + 1) (fun j => b.testBit j) → Row w8 w.heap.size (fun _ => false) → Below w.heap.size w w8 →
      Q .normal { tmps := #[v0, v1, v2, v3, v4, Value.pointer (some { block := w.heap.size + 1, off := 0 }), Value.pointer (some { block := g, off := 0 }), v7, Value.int IntKind.i64 (k : Int), v9, v10, v11, v12, v13, v14, v15, v16, v17, v18, v19, v20, Value.agg (row fun j => m.testBit j), Value.agg (row fun j => a.testBit j), Value.int IntKind.i64 (k : Int), Value.agg (row fun j => sh.testBit j), Value.agg (row fun j => m2.testBit j), v26], defers := [] } w8) :
    (Code.region 7 ops7 true).wp Try.prog Q { tmps := #[v0, v1, v2, v3, v4, Value.pointer (some { block := w.heap.size + 1, off := 0 }), Value.pointer (some { block := g, off := 0 }), v7, Value.int IntKind.i64 (k : Int), v9, v10, v11, v12, v13, v14, v15, v16, v17, v18, v19, v20, v21, v22, v23, v24, v25, v26], defers := [] } wr := by
  have s6 : Row wr.drew g (fun j => a.testBit j) := r6.drewN 1
  refine chain6 (S := fun w' => Row w' g fun j => a.testBit j) (v1 := .agg (row fun j => a.testBit j)) (v2 := .int .i64 k) (by kernel_rfl) rfl rfl rfl rfl rfl rfl rfl (by kernel_rfl) (by kernel_rfl) (by kernel_rfl) (by kernel_rfl) (by kernel_rfl) (by kernel_rfl) (by kernel_rfl) (by kernel_rfl) (by kernel_rfl) (by kernel_rfl) (by kernel_rfl) rfl rfl rfl rfl (fun c a w h => hP c a 22 _ w h) (fun c a w h => hP c a 23 _ w h) s6 (row_yields (by rfl) _ rfl rfl (fun _ h => h)) (Or.inl ⟨by rfl, fun _ _ => rfl⟩) ?_ ?_
  all_goals
    replace r4 : Row wr.drew w.heap.size _ := r4.drewN 1
    replace r5 : Row wr.drew (w.heap.size + 1) _ := r5.drewN 1
    replace r7 : Row wr.drew (g + 1) _ := r7.drewN 1
    replace hB : Below w.heap.size w wr.drew := hB.drew
    replace r6 := s6
    clear s6
    generalize wr.drew = w5 at *
    replace fin := hid fin
  · refine wp_load_big _ rfl rfl r5 ⟨r6, ?_⟩
    refine wp_hide (fun K hK => ?_)
    go_wp2_with (go_at_call 36; refine (cm.out _).mono ?_; rintro e w6 ⟨rfl, x6⟩)
    refine hK.out.out _ _ ⟨Row.below r6 x6 (Row.lt r6), ?_⟩
    clear hK K
    replace r6 : Row w6 g _ := r6.below x6 r6.lt
    replace r5 : Row w6 (w.heap.size + 1) _ := r5.below x6 r5.lt
    replace r4 : Row w6 w.heap.size _ := r4.below x6 r4.lt
    replace r7 : Row w6 (g + 1) _ := r7.below x6 r7.lt
    replace hB : Below w.heap.size w w6 := hB.trans (x6.mono hB.size)
    refine wp_hide (fun K hK => ?_)
    go_wp2_with (go_at_call 35; refine (cp.out _).mono ?_; rintro e w7 ⟨rfl, x7⟩)
    refine hK.out.out _ _ ⟨Row.below r6 x7 (Row.lt r6), ?_⟩
    clear hK K
    replace r6 : Row w7 g _ := r6.below x7 r6.lt
    replace r5 : Row w7 (w.heap.size + 1) _ := r5.below x7 r5.lt
    replace r4 : Row w7 w.heap.size _ := r4.below x7 r4.lt
    replace r7 : Row w7 (g + 1) _ := r7.below x7 r7.lt
    replace hB : Below w.heap.size w w7 := hB.trans (x7.mono hB.size)
    have ho : ops7[5].op = Op.store 49 (Operand.tmp 5) (Operand.tmp 25) := rfl
    have hd : ops7[5].dst = none := rfl
    generalize ops7[5] = o at *
    refine wp_store_big (q := fun j => m2.testBit j) _ _ ho rfl rfl r5 ⟨r6.setRow_other hn5.out _, ?_⟩
    rw [hd]
    replace hB := below_setRow hB (show w.heap.size ≤ w.heap.size + 1 by omega) (row fun j => m2.testBit j)
    replace r4 := r4.setRow_other (show w.heap.size ≠ w.heap.size + 1 by omega) (row fun j => m2.testBit j)
    replace r6 := r6.setRow_other hn5.out (row fun j => m2.testBit j)
    replace r7 := r7.setRow_other hn7.out (row fun j => m2.testBit j)
    replace r5 := r5.setRow fun j => m2.testBit j
    generalize w7.setRow (w.heap.size + 1) (row fun j => m2.testBit j) = w8 at *
    exact fin.out w8 r5 r6 r7 r4 hB
  · refine wp_hide (fun K hK => ?_)
    go_wp2_with (go_at_call 36; refine (cm.out _).mono ?_; rintro e w6 ⟨rfl, x6⟩)
    refine hK.out.out _ _ ⟨Row.below r6 x6 (Row.lt r6), ?_⟩
    clear hK K
    replace r6 : Row w6 g _ := r6.below x6 r6.lt
    replace r5 : Row w6 (w.heap.size + 1) _ := r5.below x6 r5.lt
    replace r4 : Row w6 w.heap.size _ := r4.below x6 r4.lt
    replace r7 : Row w6 (g + 1) _ := r7.below x6 r7.lt
    replace hB : Below w.heap.size w w6 := hB.trans (x6.mono hB.size)
    refine wp_load_big _ rfl rfl r5 ⟨r6, ?_⟩
    refine wp_hide (fun K hK => ?_)
    go_wp2_with (go_at_call 35; refine (cp.out _).mono ?_; rintro e w7 ⟨rfl, x7⟩)
    refine hK.out.out _ _ ⟨Row.below r6 x7 (Row.lt r6), ?_⟩
    clear hK K
    replace r6 : Row w7 g _ := r6.below x7 r6.lt
    replace r5 : Row w7 (w.heap.size + 1) _ := r5.below x7 r5.lt
    replace r4 : Row w7 w.heap.size _ := r4.below x7 r4.lt
    replace r7 : Row w7 (g + 1) _ := r7.below x7 r7.lt
    replace hB : Below w.heap.size w w7 := hB.trans (x7.mono hB.size)
    have ho : ops7[5].op = Op.store 49 (Operand.tmp 5) (Operand.tmp 25) := rfl
    have hd : ops7[5].dst = none := rfl
    generalize ops7[5] = o at *
    refine wp_store_big (q := fun j => m2.testBit j) _ _ ho rfl rfl r5 ⟨r6.setRow_other hn5.out _, ?_⟩
    rw [hd]
    replace hB := below_setRow hB (show w.heap.size ≤ w.heap.size + 1 by omega) (row fun j => m2.testBit j)
    replace r4 := r4.setRow_other (show w.heap.size ≠ w.heap.size + 1 by omega) (row fun j => m2.testBit j)
    replace r6 := r6.setRow_other hn5.out (row fun j => m2.testBit j)
    replace r7 := r7.setRow_other hn7.out (row fun j => m2.testBit j)
    replace r5 := r5.setRow fun j => m2.testBit j
    generalize w7.setRow (w.heap.size + 1) (row fun j => m2.testBit j) = w8 at *
    exact fin.out w8 r5 r6 r7 r4 hB
end Go.Proofs.Ytogmbiiahccljaa
