/-
  Blocks of 160 bools: how they are made, read and written as a whole.
-/
import Derived.Test.YtogmbiiahccljaaSScale
import Derived.BigQuiet
import Derived.Laws.Tables
import Derived.Deep.WholeRow
namespace Go.Proofs.Ytogmbiiahccljaa
open Go.RowKit

/-- 160 bools. -/
def row (p : Nat → Bool) : Array Value := Array.ofFn (n := 160) fun i => .bool (p i)
theorem row_size (p : Nat → Bool) : (row p).size = 160 := Array.size_ofFn
theorem row_get (p : Nat → Bool) (i : Nat) (h : i < 160) : (row p)[i]? = some (.bool (p i)) := by
  unfold row; rw [Array.getElem?_ofFn, dif_pos h]
theorem row_out (p : Nat → Bool) (i : Nat) (h : 160 ≤ i) : (row p)[i]? = none := by
  unfold row; rw [Array.getElem?_ofFn, dif_neg (by omega)]
theorem row_eq {cs : Array Value} {p : Nat → Bool} (hs : cs.size = 160) (h : ∀ i, i < 160 → cs[i]? = some (.bool (p i))) : cs = row p := by
  apply Array.ext_getElem?
  intro i
  by_cases hi : i < 160
  · rw [h i hi, row_get p i hi]
  · rw [row_out p i (by omega), Array.getElem?_eq_none (by omega)]
theorem row_congr {p q : Nat → Bool} (h : ∀ i, i < 160 → p i = q i) : row p = row q :=
  row_eq (row_size p) fun i hi => by rw [row_get p i hi, h i hi]
theorem row_set (p : Nat → Bool) (j : Nat) (b : Bool) : (row p).setIfInBounds j (.bool b) = row fun i => if i = j then b else p i := by
  refine row_eq (by rw [Array.size_setIfInBounds, row_size]) fun i hi => ?_
  rw [Array.getElem?_setIfInBounds]
  by_cases h : j = i
  · subst h
    rw [if_pos rfl, if_pos (by rw [row_size]; exact hi), if_pos rfl]
  · rw [if_neg h, row_get p i hi, if_neg (fun e => h e.symm)]
theorem row_one (p : Nat → Bool) : (row p).all (·.oneCell') = true := by
  rw [Array.all_eq_true_iff_forall_mem]
  intro v hv
  obtain ⟨i, hi, rfl⟩ := Array.mem_iff_getElem.1 hv
  rw [row_size] at hi
  have := row_get p i hi
  rw [Array.getElem?_eq_getElem (by rw [row_size]; exact hi)] at this
  rw [Option.some.inj this]; rfl

theorem infoBig : (Try.prog.info? 49).map (·.size) = some 160 := by kernel_rfl
theorem zeroInfo : (Try.prog.info? 49).bind (·.zero) = some (.agg (Array.replicate 160 (.bool false))) := by kernel_rfl
theorem built0 : Try.prog.built 49 [] = some (Array.replicate 160 (.bool false)) := by kernel_rfl
theorem zero_row : (Array.replicate 160 (.bool false) : Array Value) = row fun _ => false :=
  row_eq (by simp) fun i hi => by simp [hi]
theorem zero_run (w : World) : (zeroValue 49).run Try.prog w = .ok (.agg (row fun _ => false)) w := by
  have h := zeroInfo
  cases hq : Try.prog.info? 49 with
  | none => rw [hq] at h; cases h
  | some i =>
    rw [hq, zero_row] at h
    have h' : i.zero = some (.agg (row fun _ => false)) := h
    simp [zeroValue, typeInfo, Sem.run_bind, hq, h']
theorem built_row : Try.prog.built 49 [] = some (row fun _ => false) := by rw [built0, zero_row]

/-- Block g holds the bools p. -/
def Row (w : World) (g : Nat) (p : Nat → Bool) : Prop := w.heap[g]? = some (.cells (row p) 49 (0, 0))
namespace Row
variable {w w' : World} {g : Nat} {p q : Nat → Bool}
theorem new (w : World) (p : Nat → Bool) : Row (w.alloc (.cells (row p) 49)) w.heap.size p := heap_alloc_last w _
theorem lt (h : Row w g p) : g < w.heap.size := by
  by_cases hg : g < w.heap.size
  · exact hg
  · unfold Row at h; rw [Array.getElem?_eq_none (by omega)] at h; cases h
theorem old (h : Row w g p) (o : Obj) : Row (w.alloc o) g p := (Below.heap_alloc w o g h.lt).trans h
theorem below {B : Nat} (h : Row w g p) (hb : Below B w w') (hB : g < B) : Row w' g p := (hb.block g hB).trans h
theorem drewN (h : Row w g p) (n : Nat) : Row (w.drewN n) g p := h
theorem cell (h : Row w g p) (j : Nat) (hj : j < 160) : w.cell? ⟨g, j, none⟩ = some (.bool (p j)) := by
  rw [cell_of_row w g j _ _ _ h, row_get p j hj]
theorem free (h : Row w g p) (j : Nat) : w.frozen? ⟨g, j, none⟩ = false := by
  unfold Row at h
  simp [World.frozen?, h]
theorem congr (h : Row w g p) (e : ∀ i, i < 160 → p i = q i) : Row w g q := by unfold Row at *; rw [h, row_congr e]
theorem other (h : Row w g p) {a : Addr} (ha : g ≠ a.block) (v : Value) : Row (w.setCell a v) g p := (Below.heap_setCell w a v g ha).trans h
theorem set (h : Row w g p) (j : Nat) (b : Bool) : Row (w.setCell ⟨g, j, none⟩ (.bool b)) g fun i => if i = j then b else p i := by
  unfold Row at *
  rw [← row_set]
  simp [World.setCell, Array.getElem?_modify, h]
theorem setRow (h : Row w g p) (q : Nat → Bool) : Row (w.setRow g (row q)) g q := setRow_heap w g _ _ _ _ h
theorem setRow_other (h : Row w g p) {g' : Nat} (hg : g ≠ g') (cs : Array Value) : Row (w.setRow g' cs) g p := by
  unfold Row World.setRow at *
  rw [Array.getElem?_modify, if_neg (fun e => hg e.symm)]
  exact h
theorem load (h : Row w g p) : (loadCellsFrom ⟨g, 0, none⟩ 0 160 #[]).run Try.prog w = .ok (row p) w := by
  have := run_loadCells_list (P := Try.prog) w ⟨g, 0, none⟩ (row p).toList (fun j v hv => by
    have hadd : (⟨g, 0, none⟩ : Addr).add j = ⟨g, j, none⟩ := by unfold Addr.add; split <;> simp_all
    rw [hadd, cell_of_row _ _ j _ _ _ h]
    simpa using hv)
  simpa [loadCells, row_size] using this
theorem store (h : Row w g p) (q : Nat → Bool) : (storeCells ⟨g, 0, none⟩ (row q).toList).run Try.prog w = .ok () (w.setRow g (row q)) := by
  have := run_storeVar_row (P := Try.prog) w g _ _ _ (row q) h (infoBig.trans (by rw [row_size])) (by rw [row_size, row_size]) (row_one q)
  have hi := infoBig
  cases hq : Try.prog.info? 49 with
  | none => rw [hq] at hi; cases hi
  | some i =>
    rw [hq] at hi
    have hs : i.size = 160 := Option.some.inj hi
    simpa [storeVar, sizeOf, typeInfo, hq, Value.cells, hs, row_size] using this
end Row
theorem infoRow (p : Nat → Bool) : (Try.prog.info? 49).map (·.size) = some (row p).size := by rw [row_size]; exact infoBig
/-- A whole row read, and written, in a region's list. -/
theorem arm_load {ops : Array Oper} {rest : List Oper} {o : Oper} {a : Act} {w : World} {Q : Exit → Act → World → Prop} {g : Nat} {p : Nat → Bool} (hgd : o.guard = none) (x : Operand)
    (ho : o.op = .load 49 x) (hx : a.eval x = .pointer (some ⟨g, 0, none⟩)) (hg : Row w g p)
    (h : wpList Try.prog ops Q rest (a.put o.dst (.agg (row p))) w) : wpList Try.prog ops Q (o :: rest) a w :=
  wpList_load_row hgd _ x ho g hx _ _ _ _ hg Try.underlying49 rfl (infoRow p) h
theorem arm_store {ops : Array Oper} {rest : List Oper} {o : Oper} {a : Act} {w : World} {Q : Exit → Act → World → Prop} {g : Nat} {p q : Nat → Bool} (hgd : o.guard = none) (x y : Operand)
    (ho : o.op = .store 49 x y) (hx : a.eval x = .pointer (some ⟨g, 0, none⟩)) (hy : a.eval y = .agg (row q)) (hg : Row w g p)
    (h : wpList Try.prog ops Q rest (a.put o.dst undef) (w.setRow g (row q))) : wpList Try.prog ops Q (o :: rest) a w :=
  wpList_store_row hgd _ x y ho g (row q) hx hy _ _ hg (infoRow q) (by rw [row_size, row_size]) (row_one q) h
theorem row_result {fn : Func} {t : Tmp} (h : fn.results = #[.cell t 49]) {tmps : Array Value} {w : World} {g : Nat} {p : Nat → Bool}
    (hp : tmps.getD t undef = .pointer (some ⟨g, 0, none⟩)) (hg : Row w g p) : (results fn tmps).run Try.prog w = .ok (.agg (row p)) w :=
  results_cell_row h tmps w g _ _ _ _ hp hg Try.underlying49 rfl (infoRow p)
theorem below_setRow {B : Nat} {w w' : World} (h : Below B w w') {g : Nat} (hg : B ≤ g) (cs : Array Value) : Below B w (w'.setRow g cs) :=
  h.trans ⟨rfl, rfl, rfl, by unfold World.setRow; simp, fun k hk => by
    unfold World.setRow
    rw [Array.getElem?_modify, if_neg (by omega)]⟩
end Go.Proofs.Ytogmbiiahccljaa
