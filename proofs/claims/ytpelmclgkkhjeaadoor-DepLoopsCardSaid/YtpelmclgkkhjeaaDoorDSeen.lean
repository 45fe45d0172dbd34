/-
  A map that is a set of numbers.
-/
import Derived.Test.YtpelmclgkkhjeaaDoorDBase
import Derived.MapKept
namespace Go.Proofs.YtpelmclgkkhjeaaDoor
open Go.RowKit Go.Maps Go.MapKept

abbrev unit : Value := .agg #[]
/-- The map in block b has just these keys, in the order in which they came. -/
def KMap (w : World) (b : Nat) (l : List Int) : Prop := ∃ es clock, w.heap[b]? = some (.map es clock) ∧ Stamped es clock ∧ es.toList.map (fun e => (e.key, e.val)) = l.map fun n => (Value.int .i64 n, unit)
def KS (l : List Int) : List (Int × Value) := l.map fun n => (n, unit)
theorem KS_map (l : List Int) : (KS l).map (fun x => (Value.int .i64 x.1, x.2)) = l.map fun n => (Value.int .i64 n, unit) := by simp [KS]
theorem look_KS (l : List Int) (k : Int) : look (KS l) k = if k ∈ l then some unit else none := by
  induction l with
  | nil => rfl
  | cons x r ih =>
    show (if x = k then some unit else look (KS r) k) = _
    by_cases h : x = k
    · rw [if_pos h, if_pos (by simp [h])]
    · rw [if_neg h, ih]
      by_cases h2 : k ∈ r
      · rw [if_pos h2, if_pos (by simp [h2])]
      · rw [if_neg h2, if_neg (by simp [h2, Ne.symm h])]
section
variable {w w' : World} {b B : Nat} {l : List Int}
theorem KMap.imap (h : KMap w b l) : IMap w b (KS l) := by
  obtain ⟨es, c, a, _, e⟩ := h
  exact ⟨es, c, a, by rw [KS_map]; exact e⟩
theorem KMap.new (w : World) : KMap (w.alloc (.map #[] 0)) w.heap.size [] := ⟨#[], 0, heap_alloc_new w _, stamped_empty 0, rfl⟩
theorem KMap.keep (h : KMap w b l) (hk : w'.heap[b]? = w.heap[b]?) : KMap w' b l := by
  obtain ⟨es, c, a, e⟩ := h
  exact ⟨es, c, hk.trans a, e⟩
theorem KMap.lt (h : KMap w b l) : b < w.heap.size := by
  obtain ⟨es, c, a, _⟩ := h
  exact lt_of_block a
theorem KMap.below (h : KMap w b l) (hb : Below B w w') (hB : b < B) : KMap w' b l := h.keep (hb.block b hB)
theorem KMap.len (h : KMap w b l) (T : TypeId) : (Builtin.len_ #[51] T #[.map (some b)]).run Tryd.prog w = .ok (.int .i64 l.length) w := by
  obtain ⟨es, c, a, _, e⟩ := h
  have hl := congrArg List.length e
  rw [List.length_map, List.length_map, Array.length_toList] at hl
  have := run_len_map (P := Tryd.prog) w 51 T b es c (by kernel_rfl) a
  rw [hl] at this
  exact this
end
theorem zeroUnit (w : World) : (zeroValue 53).run Tryd.prog w = .ok unit w := by kernel_rfl
section
variable {w : World} {ops : Array Oper} {rest : List Oper} {o : Oper} {a : Act} {Q : Exit → Act → World → Prop}
theorem kmap_look (hg : o.guard = none) (m x : Operand) (hop : o.op = Op.lookup 51 m x true) (b : Nat) (l : List Int) (hm : a.eval m = .map (some b)) (h : KMap w b l) (k : Int) (hx : a.eval x = .int .i64 k) (r : Bool) (hr : decide (k ∈ l) = r)
    (hq : wpList Tryd.prog ops Q rest (a.put o.dst (.tuple #[unit, .bool r])) w) : wpList Tryd.prog ops Q (o :: rest) a w := by
  refine imap_look_ok hg m x 51 3 53 hop Tryd.underlying51 Tryd.underlying3 unit (zeroUnit w) b (KS l) hm h.imap k hx ?_
  rw [look_KS]
  by_cases hk : k ∈ l
  · rw [decide_eq_true hk] at hr
    rw [if_pos hk]
    subst hr
    exact hq
  · rw [decide_eq_false hk] at hr
    rw [if_neg hk]
    subst hr
    exact hq
theorem kmap_put (hg : o.guard = none) (m x v : Operand) (hop : o.op = Op.mapUpdate 51 m x v) (b : Nat) (l : List Int) (hm : a.eval m = .map (some b)) (h : KMap w b l) (k : Int) (hx : a.eval x = .int .i64 k) (hv : a.eval v = unit) (hl : k ∉ l)
    (hq : ∀ w', KMap w' b (l ++ [k]) → w.grownBy w' (some b) → w'.heap.size = w.heap.size → wpList Tryd.prog ops Q rest (a.put o.dst undef) w') : wpList Tryd.prog ops Q (o :: rest) a w := by
  refine wpList_plain hg fun K' hK' => ?_
  obtain ⟨es, clock, hb, hs, he⟩ := h
  obtain ⟨j, hj⟩ := findNow_look k es.toList (KS l) 0 (by rw [KS_map]; exact he)
  rw [look_KS, if_neg hl] at hj
  have hK := Tryd.underlying3
  have hf := MapKept.run_findKey (w := w) hK hj
  have hc := fun e => MapKept.run_checkKey (P := Tryd.prog) (w := w) hK (isKey_int k) e 9999
  have hrun : (Instr.mapUpdate 51 (.map (some b)) (.int .i64 k) unit).run Tryd.prog w = .ok () (ChangeMaps.setBlock w b (.map (es.push ⟨.int .i64 k, unit, clock⟩) (clock + 1))) := by
    simp [Instr.mapUpdate, run_underlying Tryd.underlying51, MapKept.run_getObj_map hb, hc, hf, MapKept.run_setObj_map _ hb, Result.andThen, ChangeMaps.setBlock]
  have hne : ∀ x ∈ es.toList, x.key ≠ .int .i64 k := fun x hx e => by
    have hm := List.mem_map_of_mem (f := fun e : MapEntry => (e.key, e.val)) hx
    rw [he] at hm
    obtain ⟨n, hn, e2⟩ := List.mem_map.1 hm
    have e3 : Value.int .i64 n = x.key := congrArg Prod.fst e2
    rw [e] at e3
    have : n = k := by simpa using e3
    exact hl (this ▸ hn)
  unfold Oper.wp
  simp [execOp, hop, hm, hx, hv, hrun, Result.andThen]
  refine hK' _ _ (hq _ ⟨_, _, ChangeMaps.heap_setBlock_same hb _, stamped_push hs hne, ?_⟩ ⟨rfl, rfl, rfl, by simp [ChangeMaps.setBlock], fun i _ hi => ChangeMaps.heap_setBlock_other hb _ (fun e => hi (by rw [e]))⟩ (by simp [ChangeMaps.setBlock]))
  rw [Array.toList_push, List.map_append, he, List.map_append]
  rfl
end
/-- How many entries the map in a block has. -/
def mapLen (w : World) (b : Nat) : Nat := match w.heap[b]? with
  | some (.map es _) => es.size
  | _ => 0
theorem KMap.mapLen {w : World} {b : Nat} {l : List Int} (h : KMap w b l) : Go.Proofs.YtpelmclgkkhjeaaDoor.mapLen w b = l.length := by
  obtain ⟨es, c, a, _, e⟩ := h
  have hl := congrArg List.length e
  rw [List.length_map, List.length_map, Array.length_toList] at hl
  unfold Go.Proofs.YtpelmclgkkhjeaaDoor.mapLen
  rw [a]
  exact hl
end Go.Proofs.YtpelmclgkkhjeaaDoor
