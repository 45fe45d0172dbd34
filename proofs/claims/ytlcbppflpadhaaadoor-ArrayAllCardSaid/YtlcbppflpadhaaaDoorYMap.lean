/-
  Maps of truths: a key set to true, new or not; how many there are.
-/
import Derived.Test.YtlcbppflpadhaaaDoorYRStep
namespace Go.Proofs.YtlcbppflpadhaaaDoor
open Go.RowKit Go.MapKept

theorem BMap.new (w : World) : BMap (w.alloc (.map #[] 0)) w.heap.size [] := ⟨[], IMap.new w, fun _ => Iff.rfl⟩
theorem BS_map (l : List Int) : (BS l).map (fun x => (Value.int .i64 x.1, x.2)) = l.map fun n => (Value.int .i64 n, .bool true) := by simp [BS]
theorem bmap_put {w : World} {ops : Array Oper} {rest : List Oper} {o : Oper} {a : Act} {Q : Exit → Act → World → Prop} (hg : o.guard = none) (m x v : Operand) (hop : o.op = Op.mapUpdate 35 m x v) (b : Nat) (l : List Int) (hm : a.eval m = .map (some b)) (h : BMap w b l) (k : Int) (hx : a.eval x = .int .i64 k) (hv : a.eval v = .bool true)
    (hq : ∀ w', BMap w' b (l ++ [k]) → w.grownBy w' (some b) → w'.heap.size = w.heap.size → wpList Tryd.prog ops Q rest (a.put o.dst undef) w') : wpList Tryd.prog ops Q (o :: rest) a w := by
  refine wpList_plain hg fun K' hK' => ?_
  obtain ⟨ks, ⟨es, clock, hb, he⟩, hks⟩ := h
  rw [BS_map] at he
  have hK := Tryd.underlying3
  have hkey : ∀ y ∈ es.toList, IsKey (.int .i64) y.key ∧ y.val = .bool true := fun y hy => by
    have hmem := List.mem_map_of_mem (f := fun e : MapEntry => (e.key, e.val)) hy
    rw [he] at hmem
    obtain ⟨n, _, e2⟩ := List.mem_map.1 hmem
    have e3 : Value.int .i64 n = y.key := congrArg Prod.fst e2
    have e4 : Value.bool true = y.val := congrArg Prod.snd e2
    exact ⟨by rw [← e3]; exact isKey_int n, e4.symm⟩
  have hc := fun e => run_checkKey (P := Tryd.prog) (w := w) hK (isKey_int k) e 9999
  rcases findNow_spec (isKey_int k) es.toList 0 (fun y hy => (hkey y hy).1) with ⟨h1, h2⟩ | ⟨j, e, h1, h2, h3⟩
  · have hf := run_findKey (w := w) hK h1
    have hrun : (Instr.mapUpdate 35 (.map (some b)) (.int .i64 k) (.bool true)).run Tryd.prog w = .ok () (ChangeMaps.setBlock w b (.map (es.push ⟨.int .i64 k, .bool true, clock⟩) (clock + 1))) := by
      simp [Instr.mapUpdate, run_underlying Tryd.underlying35, MapKept.run_getObj_map hb, hc, hf, run_setObj_map _ hb, Result.andThen, ChangeMaps.setBlock]
    unfold Oper.wp
    simp [execOp, hop, hm, hx, hv, hrun, Result.andThen]
    refine hK' _ _ (hq _ ⟨ks ++ [k], ⟨_, _, ChangeMaps.heap_setBlock_same hb _, ?_⟩, fun y => by simp [hks y]⟩ ⟨rfl, rfl, rfl, by simp [ChangeMaps.setBlock], fun i _ hi => ChangeMaps.heap_setBlock_other hb _ (fun e => hi (by rw [e]))⟩ (by simp [ChangeMaps.setBlock]))
    rw [BS_map, Array.toList_push, List.map_append, he, List.map_append]
    rfl
  · have hf := run_findKey (w := w) hK h1
    have hj : es[j]? = some e := by simpa using h2
    have hmemj : e ∈ es.toList := List.mem_of_getElem? h2
    have hrun : (Instr.mapUpdate 35 (.map (some b)) (.int .i64 k) (.bool true)).run Tryd.prog w = .ok () (ChangeMaps.setBlock w b (.map (es.modify j fun e' => { e' with key := .int .i64 k, val := .bool true }) clock)) := by
      simp [Instr.mapUpdate, run_underlying Tryd.underlying35, MapKept.run_getObj_map hb, hc, hf, hj, h3, run_keyThatStays (isKey_int k), run_setObj_map _ hb, Result.andThen, ChangeMaps.setBlock]
    have hsame : (es.modify j fun e' => { e' with key := .int .i64 k, val := .bool true }).toList.map (fun e => (e.key, e.val)) = es.toList.map (fun e => (e.key, e.val)) := by
      apply List.ext_getElem
      · simp
      · intro i h4 h5
        rw [List.getElem_map, List.getElem_map]
        have h6 : i < es.size := by simpa using h5
        rw [Array.getElem_toList, Array.getElem_modify, Array.getElem_toList]
        by_cases hij : j = i
        · subst hij
          rw [if_pos rfl]
          have he2 : es[j] = e := by
            rw [Array.getElem?_eq_getElem h6] at hj
            exact Option.some.inj hj
          rw [he2, h3, (hkey e hmemj).2]
        · rw [if_neg hij]
    have hin : k ∈ ks := by
      have hmem := List.mem_map_of_mem (f := fun e : MapEntry => (e.key, e.val)) hmemj
      rw [he] at hmem
      obtain ⟨n, hn, e2⟩ := List.mem_map.1 hmem
      have e3 : Value.int .i64 n = e.key := congrArg Prod.fst e2
      rw [h3] at e3
      have : n = k := by simpa using e3
      exact this ▸ hn
    unfold Oper.wp
    simp [execOp, hop, hm, hx, hv, hrun, Result.andThen]
    refine hK' _ _ (hq _ ⟨ks, ⟨_, _, ChangeMaps.heap_setBlock_same hb _, ?_⟩, fun y => ?_⟩ ⟨rfl, rfl, rfl, by simp [ChangeMaps.setBlock], fun i _ hi => ChangeMaps.heap_setBlock_other hb _ (fun e => hi (by rw [e]))⟩ (by simp [ChangeMaps.setBlock]))
    · rw [BS_map, hsame, he]
    · rw [hks y, List.mem_append, List.mem_singleton]
      exact ⟨fun h => .inl h, fun h => by rcases h with h | h; exact h; rw [h]; exact (hks k).1 hin⟩
end Go.Proofs.YtlcbppflpadhaaaDoor
