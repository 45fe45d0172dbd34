/-
  A map that is a set of numbers; its keys, sorted; a range's indexes put into it.
-/
import Derived.Test.YtlcbppflpadhaaaDoorYRange
import Derived.Test.YtlcbppflpadhaaaDoorSShelf
import Derived.Test.YtlcbppflpadhaaaDoorSIter
import Derived.Shelf.SlIterI.Nil
import Derived.Shelf.SortM.Plain
import Derived.Shelf.SortM.SortNone
namespace Go.Proofs.YtlcbppflpadhaaaDoor
open Go.RowKit Go.Maps Go.MapKept

abbrev unit : Value := .agg #[]
/-- The map in block b has just these keys, in the order in which they came. -/
def KMap (w : World) (b : Nat) (l : List Int) : Prop := ∃ es clock, w.heap[b]? = some (.map es clock) ∧ Stamped es clock ∧ es.toList.map (fun e => (e.key, e.val)) = l.map fun n => (Value.int .i64 n, unit)
def KS (l : List Int) : List (Int × Value) := l.map fun n => (n, unit)
theorem KS_map (l : List Int) : (KS l).map (fun x => (Value.int .i64 x.1, x.2)) = l.map fun n => (Value.int .i64 n, unit) := by simp [KS]
theorem look_KS (l : List Int) (k : Int) : look (KS l) k = if k ∈ l then some unit else none := by
  induction l with
  | nil => rfl
  | cons x r ih =>
    show (if x = k then some unit else look (KS r) k) = _
    by_cases h : x = k
    · rw [if_pos h, if_pos (by simp [h])]
    · rw [if_neg h, ih]
      by_cases h2 : k ∈ r
      · rw [if_pos h2, if_pos (by simp [h2])]
      · rw [if_neg h2, if_neg (by simp [h2, Ne.symm h])]
section
variable {w w' : World} {b B : Nat} {l : List Int}
theorem KMap.imap (h : KMap w b l) : IMap w b (KS l) := by
  obtain ⟨es, c, a, _, e⟩ := h
  exact ⟨es, c, a, by rw [KS_map]; exact e⟩
theorem KMap.new (w : World) : KMap (w.alloc (.map #[] 0)) w.heap.size [] := ⟨#[], 0, heap_alloc_new w _, stamped_empty 0, rfl⟩
theorem KMap.keep (h : KMap w b l) (hk : w'.heap[b]? = w.heap[b]?) : KMap w' b l := by
  obtain ⟨es, c, a, e⟩ := h
  exact ⟨es, c, hk.trans a, e⟩
theorem KMap.lt (h : KMap w b l) : b < w.heap.size := by
  obtain ⟨es, c, a, _⟩ := h
  exact lt_of_block a
theorem KMap.below (h : KMap w b l) (hb : Below B w w') (hB : b < B) : KMap w' b l := h.keep (hb.block b hB)
theorem KMap.len (h : KMap w b l) (T : TypeId) : (Builtin.len_ #[68] T #[.map (some b)]).run Tryd.prog w = .ok (.int .i64 l.length) w := by
  obtain ⟨es, c, a, _, e⟩ := h
  have hl := congrArg List.length e
  rw [List.length_map, List.length_map, Array.length_toList] at hl
  have := run_len_map (P := Tryd.prog) w 68 T b es c (by kernel_rfl) a
  rw [hl] at this
  exact this
end
theorem zeroUnit (w : World) : (zeroValue 78).run Tryd.prog w = .ok unit w := by kernel_rfl
section
variable {w : World} {ops : Array Oper} {rest : List Oper} {o : Oper} {a : Act} {Q : Exit → Act → World → Prop}
theorem kmap_look (hg : o.guard = none) (m x : Operand) (hop : o.op = Op.lookup 68 m x true) (b : Nat) (l : List Int) (hm : a.eval m = .map (some b)) (h : KMap w b l) (k : Int) (hx : a.eval x = .int .i64 k) (r : Bool) (hr : decide (k ∈ l) = r)
    (hq : wpList Tryd.prog ops Q rest (a.put o.dst (.tuple #[unit, .bool r])) w) : wpList Tryd.prog ops Q (o :: rest) a w := by
  refine imap_look_ok hg m x 68 3 78 hop Tryd.underlying68 Tryd.underlying3 unit (zeroUnit w) b (KS l) hm h.imap k hx ?_
  rw [look_KS]
  by_cases hk : k ∈ l
  · rw [decide_eq_true hk] at hr
    rw [if_pos hk]
    subst hr
    exact hq
  · rw [decide_eq_false hk] at hr
    rw [if_neg hk]
    subst hr
    exact hq
theorem kmap_put (hg : o.guard = none) (m x v : Operand) (hop : o.op = Op.mapUpdate 68 m x v) (b : Nat) (l : List Int) (hm : a.eval m = .map (some b)) (h : KMap w b l) (k : Int) (hx : a.eval x = .int .i64 k) (hv : a.eval v = unit) (hl : k ∉ l)
    (hq : ∀ w', KMap w' b (l ++ [k]) → w.grownBy w' (some b) → w'.heap.size = w.heap.size → wpList Tryd.prog ops Q rest (a.put o.dst undef) w') : wpList Tryd.prog ops Q (o :: rest) a w := by
  refine wpList_plain hg fun K' hK' => ?_
  obtain ⟨es, clock, hb, hs, he⟩ := h
  obtain ⟨j, hj⟩ := findNow_look k es.toList (KS l) 0 (by rw [KS_map]; exact he)
  rw [look_KS, if_neg hl] at hj
  have hK := Tryd.underlying3
  have hf := MapKept.run_findKey (w := w) hK hj
  have hc := fun e => MapKept.run_checkKey (P := Tryd.prog) (w := w) hK (isKey_int k) e 9999
  have hrun : (Instr.mapUpdate 68 (.map (some b)) (.int .i64 k) unit).run Tryd.prog w = .ok () (ChangeMaps.setBlock w b (.map (es.push ⟨.int .i64 k, unit, clock⟩) (clock + 1))) := by
    simp [Instr.mapUpdate, run_underlying Tryd.underlying68, MapKept.run_getObj_map hb, hc, hf, MapKept.run_setObj_map _ hb, Result.andThen, ChangeMaps.setBlock]
  have hne : ∀ x ∈ es.toList, x.key ≠ .int .i64 k := fun x hx e => by
    have hm := List.mem_map_of_mem (f := fun e : MapEntry => (e.key, e.val)) hx
    rw [he] at hm
    obtain ⟨n, hn, e2⟩ := List.mem_map.1 hm
    have e3 : Value.int .i64 n = x.key := congrArg Prod.fst e2
    rw [e] at e3
    have : n = k := by simpa using e3
    exact hl (this ▸ hn)
  unfold Oper.wp
  simp [execOp, hop, hm, hx, hv, hrun, Result.andThen]
  refine hK' _ _ (hq _ ⟨_, _, ChangeMaps.heap_setBlock_same hb _, stamped_push hs hne, ?_⟩ ⟨rfl, rfl, rfl, by simp [ChangeMaps.setBlock], fun i _ hi => ChangeMaps.heap_setBlock_other hb _ (fun e => hi (by rw [e]))⟩ (by simp [ChangeMaps.setBlock]))
  rw [Array.toList_push, List.map_append, he, List.map_append]
  rfl
end
/-- How an entry's value reads: as anything. -/
def RAny : Value → Option (DataW Unit × List MemPlace) := fun _ => some (.lit (.bool true), [])
theorem KMap.owns {w : World} {b : Nat} {l : List Int} (h : KMap w b l) (hl : l.length ≤ maxLen) (hx : ∀ n ∈ l, -9223372036854775808 ≤ n ∧ n ≤ 9223372036854775807) : ∃ D : DataW Unit, w.ownsMap Tryd.prog 3 RAny b l.length D ∧ (intKeys D).Perm l ∧ Maps.size D = l.length := by
  obtain ⟨es, clock, hb, hs, he⟩ := h
  have hlen := congrArg List.length he
  rw [List.length_map, List.length_map, Array.length_toList] at hlen
  have hkey : ∀ x ∈ es.toList, ∃ n, n ∈ l ∧ x.key = .int .i64 n ∧ keyOf Tryd.prog 3 x.key = some (.int .i64 n) := fun x hx1 => by
    have hm := List.mem_map_of_mem (f := fun e : MapEntry => (e.key, e.val)) hx1
    rw [he] at hm
    obtain ⟨n, hn, e2⟩ := List.mem_map.1 hm
    have e3 : Value.int .i64 n = x.key := congrArg Prod.fst e2
    refine ⟨n, hn, e3.symm, ?_⟩
    rw [← e3]
    exact Maps.keyOf_int_mk Tryd.underlying3 (by have := hx n hn; simp [Lit.wf, IntKind.min, IntKind.max, IntKind.signed, IntKind.bits]; omega)
  have hread : ∀ x ∈ es.toList, ∀ n, x.key = .int .i64 n → n ∈ l → WideElems.rd Tryd.prog 3 RAny x = some (.int .i64 n, .lit (.bool true)) := fun x hx1 n e hn => by
    obtain ⟨m, _, e1, e2⟩ := hkey x hx1
    have : m = n := by rw [e1] at e; simpa using e
    subst this
    unfold WideElems.rd RAny
    rw [e2]; rfl
  have F : WideElems.Fit Tryd.prog 3 RAny es clock := ⟨by omega, hs, fun x hx1 => by
    obtain ⟨n, hn, e1, _⟩ := hkey x hx1
    exact ⟨_, hread x hx1 n e1 hn⟩⟩
  refine ⟨_, ⟨es, clock, hb, F, by omega, rfl⟩, ?_, ?_⟩
  · show (((es.toList.map (WideElems.rg Tryd.prog 3 RAny)).foldr DataW.insert []).map fun p => Go.intOf p.1).Perm l
    refine ((WideShapes.sorted_perm _).map _).trans ?_
    rw [List.map_map]
    have : es.toList.map ((fun p : Lit × DataW Unit => Go.intOf p.1) ∘ WideElems.rg Tryd.prog 3 RAny) = l := by
      apply List.ext_getElem
      · rw [List.length_map, Array.length_toList, hlen]
      · intro j h1 h2
        rw [List.getElem_map]
        have h3 : j < es.toList.length := by simpa using h1
        obtain ⟨n, hn, e1, _⟩ := hkey _ (List.getElem_mem h3)
        have e4 : (es.toList.map fun e : MapEntry => (e.key, e.val))[j]'(by simpa using h3) = (l.map fun n => (Value.int .i64 n, unit))[j]'(by simpa using h2) := by simp only [he]
        rw [List.getElem_map, List.getElem_map] at e4
        have e5 : es.toList[j].key = .int .i64 l[j] := congrArg Prod.fst e4
        have e6 := WideElems.rg_of (hread _ (List.getElem_mem h3) _ e5 (List.getElem_mem h2))
        rw [Function.comp, e6]
        rfl
    rw [this]
  · show ((es.toList.map (WideElems.rg Tryd.prog 3 RAny)).foldr DataW.insert []).length = _
    rw [length_sorted, List.length_map, Array.length_toList, hlen]
set_option maxRecDepth 100000 in
/-- slices.Sort's two contracts at this dump, at the fence that asks nothing. -/
theorem sortsI (m : Nat) : AnyZI.SortsIn Tryd.prog Tryd.sortedI_ren Fence.wide m :=
  ⟨fun blk off cap ss W hH hblk hsz => callsIn_wide.2 (AnyM.slices_Sort_int Tryd.laysSlM5_f42 blk off cap ss W hH hblk hsz),
   fun p cap W => callsIn_wide.2 (AnyM.slices_Sort_int_none Tryd.laysSlM5_f42 p cap W)⟩
abbrev keysV (w : World) : Value := .func (.func 43) #[] #[.pointer (some ⟨w.heap.size, 0, none⟩)]
set_option maxRecDepth 100000 in
theorem Keys_any (mb : Option Nat) (w : World) : Calls Tryd.prog 34 #[.map mb] w fun e w' => e = .returned (keysV w) ∧ w' = w.alloc (.cells #[.map mb] 68) :=
  (callsIn_wide (n := 5)).1 (AnyZI.keys_in Tryd.keysI Fence.wide 5 trivial rfl mb w)
/-- Numbers of the call's own, from a base on. -/
def IntsFrom (w : World) (B : Nat) (l : List Int) (e : Ending) (w' : World) : Prop := ∃ v, e = .returned v ∧ OwnI w' B v l ∧ Below w.heap.size w w'
set_option maxRecDepth 100000 in
/-- The keys, sorted: w is the world ahead of the call of maps.Keys. -/
theorem Sorted_any (b : Nat) (l : List Int) (w : World) (h : KMap w b l) (hl : l.length ≤ 1000) (hx : ∀ n ∈ l, -9223372036854775808 ≤ n ∧ n ≤ 9223372036854775807) :
    Calls Tryd.prog 33 #[keysV w] (w.alloc (.cells #[.map (some b)] 68)) (IntsFrom (w.alloc (.cells #[.map (some b)] 68)) (w.heap.size + 1) (srt l)) := by
  have hbl := h.lt
  obtain ⟨D0, hown, hperm, hsize⟩ := h.owns (by unfold maxLen; omega) hx
  have hseq : SeqGives Fence.wide 2 Tryd.prog 43 #[.pointer (some ⟨w.heap.size, 0, none⟩)] encZ (fun ss => ss.Perm (intKeys D0)) (Maps.size D0) (w.alloc (.cells #[.map (some b)] 68)) :=
    AnyZI.keys_gives (ρ := Tryd.keysI_ren) { Tryd.keysI with } Fence.wide _ trivial rfl (by omega) w.heap.size b l.length D0 _ (by simp) (by simp) (by
      obtain ⟨es, clock, hb, Ft, hs, hD⟩ := hown
      exact ⟨es, clock, (Below.heap_alloc _ _ b hbl).trans hb, Ft, hs, hD⟩)
  have cS := AnyZI.sorted_in Tryd.sortedI Fence.wide 5 trivial trivial trivial trivial rfl (by omega) (sortsI _) (enters_of Tryd.func42 (by kernel_rfl) rfl) 43 #[.pointer (some ⟨w.heap.size, 0, none⟩)] trivial (enters_of Tryd.func43 (by kernel_rfl) rfl) _ _ (by rw [hsize]; unfold maxLen; omega) (by rw [hsize]; omega) _ hseq
  change CallsIn _ _ Tryd.prog 33 _ _ _ at cS
  refine (callsIn_wide.1 cS).mono ?_
  rintro e w' ⟨v, ss, rfl, hS, hrow, hnil, hb⟩
  have hsl : ss.mergeSort (fun x y => decide (x ≤ y)) = srt l := mergeSort_of_perm_i (hS.trans hperm)
  refine ⟨v, rfl, ?_, hb⟩
  have hlen : ss.length = (srt l).length := by rw [← hsl, List.length_mergeSort]
  rw [hsl, hlen] at hrow
  unfold OwnI
  rw [← World.size_alloc w (.cells #[.map (some b)] 68)]
  exact hrow
end Go.Proofs.YtlcbppflpadhaaaDoor
