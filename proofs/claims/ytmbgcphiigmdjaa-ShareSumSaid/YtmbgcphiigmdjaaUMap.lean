/-
  Maps by names: what a name stands for, a name put, how many there are.
-/
import Derived.Test.YtmbgcphiigmdjaaUList
import Derived.WideKeyEntry
namespace Go.Proofs.Ytmbgcphiigmdjaa
open Go.RowKit Go.MapKept Ds

abbrev gE (e : MapEntry) : Value × Value := (e.key, e.val)
abbrev hE (x : Str × Value) : Value × Value := (Value.string (str x.1), x.2)
/-- The map in block b has these entries, each name once, in the order in which they came. -/
def SM (w : World) (b : Nat) (L : List (Str × Value)) : Prop := ∃ es clock, w.heap[b]? = some (.map es clock) ∧ Stamped es clock ∧ es.toList.map gE = L.map hE
section
variable {w w' : World} {b B : Nat} {L : List (Str × Value)}
theorem SM.new (w : World) : SM (w.alloc (.map #[] 0)) w.heap.size [] := ⟨#[], 0, heap_alloc_new w _, stamped_empty 0, rfl⟩
theorem SM.keep (h : SM w b L) (hk : w'.heap[b]? = w.heap[b]?) : SM w' b L := by
  obtain ⟨es, c, a, e⟩ := h
  exact ⟨es, c, hk.trans a, e⟩
theorem SM.lt (h : SM w b L) : b < w.heap.size := by
  obtain ⟨es, c, a, _⟩ := h
  exact lt_of_block a
theorem SM.below (h : SM w b L) (hb : Below B w w') (hB : b < B) : SM w' b L := h.keep (hb.block b hB)
theorem SM.len (h : SM w b L) {M : TypeId} (hM : Try.prog.underlying M = some (.map (Try.prog.mapKeyOf M) (Try.prog.mapElemOf M))) (T : TypeId) : (Builtin.len_ #[M] T #[.map (some b)]).run Try.prog w = .ok (.int .i64 L.length) w := by
  obtain ⟨es, c, a, _, e⟩ := h
  have hl := congrArg List.length e
  rw [List.length_map, List.length_map, Array.length_toList] at hl
  have := run_len_map (P := Try.prog) w M T b es c hM a
  rw [hl] at this
  exact this
end
theorem isKey_str (s : ByteArray) : MapKept.IsKey .string (.string s) := by simp [MapKept.IsKey]
theorem str_inj {a b : Str} (h : str a = str b) : a = b := by rw [← bl_str a, h, bl_str]
theorem str_beq (a b : Str) : (str a == str b) = decide (a = b) := by
  rw [Bool.eq_iff_iff, MapKept.bytes_beq, decide_eq_true_eq]
  exact ⟨str_inj, fun h => by rw [h]⟩
theorem find_str (s : Str) : ∀ (es : List MapEntry) (L : List (Str × Value)) (i : Nat), es.map gE = L.map hE →
    ∃ j, Instr.findNow .string (.string (str s)) es i = some ((lookG s L).map fun v => (j, v)) ∧ ((lookG s L).isSome → i ≤ j ∧ ∃ v, L[j - i]? = some (s, v) ∧ ∀ u, putG s u L = L.set (j - i) (s, u))
  | [], [], i, _ => ⟨i, rfl, fun h => by cases h⟩
  | [], _ :: _, _, h => by simp at h
  | _ :: _, [], _, h => by simp at h
  | e :: es, x :: L, i, h => by
    simp only [List.map_cons, List.cons.injEq, Prod.mk.injEq] at h
    obtain ⟨⟨hk, hv⟩, hr⟩ := h
    have hs : Instr.sameNow .string (.string (str s)) e.key = some (decide (s = x.1)) := by
      rw [hk]
      show some (str s == str x.1) = _
      rw [str_beq]
    unfold Instr.findNow
    rw [hs]
    by_cases hx : x.1 = s
    · refine ⟨i, ?_, fun _ => ⟨Nat.le_refl _, x.2, ?_, fun u => ?_⟩⟩
      · rw [decide_eq_true hx.symm, show lookG s (x :: L) = some x.2 from if_pos hx, hv]
        rfl
      · rw [Nat.sub_self, ← hx]; rfl
      · rw [Nat.sub_self, show putG s u (x :: L) = (s, u) :: L from if_pos hx]; rfl
    · obtain ⟨j, hj, hj2⟩ := find_str s es L (i + 1) hr
      refine ⟨j, ?_, fun h => ?_⟩
      · rw [decide_eq_false (Ne.symm hx), show lookG s (x :: L) = lookG s L from if_neg hx]
        exact hj
      · rw [show lookG s (x :: L) = lookG s L from if_neg hx] at h
        obtain ⟨h1, v, h2, h3⟩ := hj2 h
        have e : j - i = (j - (i + 1)) + 1 := by omega
        refine ⟨by omega, v, ?_, fun u => ?_⟩
        · rw [e]; exact h2
        · rw [show putG s u (x :: L) = x :: putG s u L from if_neg hx, h3, e]; rfl
section
variable {w : World} {ops : Array Oper} {rest : List Oper} {o : Oper} {a : Act} {Q : Exit → Act → World → Prop} {T K E : TypeId}
theorem run_sm_look (c : Bool) (hT : Try.prog.underlying T = some (.map K E)) (hK : Try.prog.underlying K = some .string) {z : Value} (hz : (zeroValue E).run Try.prog w = .ok z w) {b : Nat} {L : List (Str × Value)} (h : SM w b L) (s : Str) :
    (Instr.lookup T (.map (some b)) (.string (str s)) c).run Try.prog w = .ok (if c then .tuple #[(lookG s L).getD z, .bool (lookG s L).isSome] else (lookG s L).getD z) w := by
  obtain ⟨es, clock, hb, _, he⟩ := h
  obtain ⟨j, hj, _⟩ := find_str s es.toList L 0 he
  have hf := MapKept.run_findKey (w := w) hK hj
  have hc := fun e => MapKept.run_checkKey (P := Try.prog) (w := w) hK (isKey_str (str s)) e 9999
  cases hl : lookG s L with
  | none =>
    rw [hl] at hf
    simp [Instr.lookup, run_underlying hT, MapKept.run_getObj_map hb, hc, hf, hz, Result.andThen]
  | some v =>
    rw [hl] at hf
    simp [Instr.lookup, run_underlying hT, MapKept.run_getObj_map hb, hc, hf, Result.andThen]
theorem run_sm_put (hT : Try.prog.underlying T = some (.map K E)) (hK : Try.prog.underlying K = some .string) {b : Nat} {L : List (Str × Value)} (h : SM w b L) (s : Str) (u : Value) :
    ∃ w', (Instr.mapUpdate T (.map (some b)) (.string (str s)) u).run Try.prog w = .ok () w' ∧ SM w' b (putG s u L) ∧ w.grownBy w' (some b) ∧ w'.heap.size = w.heap.size := by
  obtain ⟨es, clock, hb, hst, he⟩ := h
  obtain ⟨j, hj, hj2⟩ := find_str s es.toList L 0 he
  have hf := MapKept.run_findKey (w := w) hK hj
  have hc := fun e => MapKept.run_checkKey (P := Try.prog) (w := w) hK (isKey_str (str s)) e 9999
  cases hl : lookG s L with
  | none =>
    rw [hl] at hf
    have hput : putG s u L = L ++ [(s, u)] := by
      clear hf hj hj2 he
      induction L with
      | nil => rfl
      | cons x r ih =>
        rw [lookG] at hl
        by_cases hx : x.1 = s
        · rw [if_pos hx] at hl; cases hl
        · rw [if_neg hx] at hl
          rw [putG, if_neg hx, ih hl]; rfl
    have hne : ∀ x ∈ es.toList, x.key ≠ .string (str s) := fun x hx e => by
      have hm := List.mem_map_of_mem (f := gE) hx
      rw [he] at hm
      obtain ⟨y, hy, e2⟩ := List.mem_map.1 hm
      have e3 : Value.string (str y.1) = x.key := congrArg Prod.fst e2
      rw [e] at e3
      injection e3 with e3
      exact lookG_none.1 hl (by rw [← str_inj e3]; exact List.mem_map_of_mem (f := Prod.fst) hy)
    refine ⟨ChangeMaps.setBlock w b (.map (es.push ⟨.string (str s), u, clock⟩) (clock + 1)), ?_, ⟨_, _, ChangeMaps.heap_setBlock_same hb _, stamped_push hst hne, ?_⟩, ⟨rfl, rfl, rfl, by simp [ChangeMaps.setBlock], fun i _ hi => ChangeMaps.heap_setBlock_other hb _ (fun e => hi (by rw [e]))⟩, by simp [ChangeMaps.setBlock]⟩
    · simp [Instr.mapUpdate, run_underlying hT, MapKept.run_getObj_map hb, hc, hf, MapKept.run_setObj_map _ hb, Result.andThen, ChangeMaps.setBlock]
    · rw [Array.toList_push, List.map_append, he, hput, List.map_append]
      rfl
  | some v =>
    rw [hl] at hf
    obtain ⟨_, v', hv', hput⟩ := hj2 (by rw [hl]; rfl)
    rw [Nat.sub_zero] at hv' hput
    have hlen := congrArg List.length he
    rw [List.length_map, List.length_map] at hlen
    obtain ⟨hjl, hv2⟩ := List.getElem?_eq_some_iff.1 hv'
    have hje : j < es.toList.length := by omega
    have hge : gE es.toList[j] = hE L[j] := by
      have h1 := List.getElem_of_eq he (i := j) (by rw [List.length_map]; exact hje)
      rw [List.getElem_map, List.getElem_map] at h1
      exact h1
    rw [hv2] at hge
    have hkey : es.toList[j].key = .string (str s) := congrArg Prod.fst hge
    have hkey3 : (es[j]'(by simpa using hje)).key = .string (str s) := by simpa using hkey
    have hj3 : es.toList[j]? = some es.toList[j] := List.getElem?_eq_getElem hje
    have hj4 : es[j]? = some es.toList[j] := by rw [← Array.getElem?_toList]; exact hj3
    refine ⟨ChangeMaps.setBlock w b (.map (es.modify j fun e' => { e' with key := .string (str s), val := u }) clock), ?_, ⟨_, _, ChangeMaps.heap_setBlock_same hb _, ?_, ?_⟩, ⟨rfl, rfl, rfl, by simp [ChangeMaps.setBlock], fun i _ hi => ChangeMaps.heap_setBlock_other hb _ (fun e => hi (by rw [e]))⟩, by simp [ChangeMaps.setBlock]⟩
    · simp [Instr.mapUpdate, run_underlying hT, MapKept.run_getObj_map hb, hc, hf, hj4, hkey3, run_keyThatStays (isKey_str (str s)), MapKept.run_setObj_map _ hb, Result.andThen, ChangeMaps.setBlock]
    · have hmod : (es.modify j fun e' => { e' with key := .string (str s), val := u }) = es.modify j fun e' => { e' with val := u } := by
        apply Array.ext_getElem?
        intro i
        rw [Array.getElem?_modify, Array.getElem?_modify]
        by_cases hi : j = i
        · subst hi
          rw [if_pos rfl, if_pos rfl, hj4]
          simp [← hkey]
        · rw [if_neg hi, if_neg hi]
      rw [hmod]
      exact stamped_modify hst _ _ (fun _ _ => rfl) (fun _ _ _ => rfl)
    · rw [hput]
      apply List.ext_getElem?
      intro i
      have hei : (es.toList.map gE)[i]? = (L.map hE)[i]? := by rw [he]
      rw [List.getElem?_map, List.getElem?_map, Array.getElem?_toList, Array.getElem?_modify, List.getElem?_set]
      rw [List.getElem?_map, List.getElem?_map, Array.getElem?_toList] at hei
      by_cases hi : j = i
      · subst hi
        rw [if_pos rfl, if_pos rfl, if_pos hjl, hj4]
        rfl
      · rw [if_neg hi, if_neg hi]
        exact hei
/-- A look-up that tells whether there is one. -/
theorem sm_look_ok (hg : o.guard = none) (m x : Operand) (hop : o.op = Op.lookup T m x true) (hT : Try.prog.underlying T = some (.map K E)) (hK : Try.prog.underlying K = some .string) (z : Value) (hz : (zeroValue E).run Try.prog w = .ok z w)
    (b : Nat) (L : List (Str × Value)) (hm : a.eval m = .map (some b)) (h : SM w b L) (s : Str) (hx : a.eval x = .string (str s))
    (hq : wpList Try.prog ops Q rest (a.put o.dst (.tuple #[(lookG s L).getD z, .bool (lookG s L).isSome])) w) : wpList Try.prog ops Q (o :: rest) a w := by
  refine wpList_plain hg fun K' hK' => ?_
  have hrun := run_sm_look true hT hK hz h s
  unfold Oper.wp
  simp [execOp, hop, hm, hx, hrun, Result.andThen]
  exact hK' _ _ hq
theorem sm_look (hg : o.guard = none) (m x : Operand) (hop : o.op = Op.lookup T m x false) (hT : Try.prog.underlying T = some (.map K E)) (hK : Try.prog.underlying K = some .string) (z : Value) (hz : (zeroValue E).run Try.prog w = .ok z w)
    (b : Nat) (L : List (Str × Value)) (hm : a.eval m = .map (some b)) (h : SM w b L) (s : Str) (hx : a.eval x = .string (str s))
    (hq : wpList Try.prog ops Q rest (a.put o.dst ((lookG s L).getD z)) w) : wpList Try.prog ops Q (o :: rest) a w := by
  refine wpList_plain hg fun K' hK' => ?_
  have hrun := run_sm_look false hT hK hz h s
  unfold Oper.wp
  simp [execOp, hop, hm, hx, hrun, Result.andThen]
  exact hK' _ _ hq
/-- A name put, new or not. -/
theorem sm_put (hg : o.guard = none) (m x v : Operand) (hop : o.op = Op.mapUpdate T m x v) (hT : Try.prog.underlying T = some (.map K E)) (hK : Try.prog.underlying K = some .string)
    (b : Nat) (L : List (Str × Value)) (hm : a.eval m = .map (some b)) (h : SM w b L) (s : Str) (hx : a.eval x = .string (str s)) (u : Value) (hv : a.eval v = u)
    (hq : ∀ w', SM w' b (putG s u L) → w.grownBy w' (some b) → w'.heap.size = w.heap.size → wpList Try.prog ops Q rest (a.put o.dst undef) w') : wpList Try.prog ops Q (o :: rest) a w := by
  refine wpList_plain hg fun K' hK' => ?_
  obtain ⟨w', hrun, h1, h2, h3⟩ := run_sm_put hT hK h s u
  unfold Oper.wp
  simp [execOp, hop, hm, hx, hv, hrun, Result.andThen]
  exact hK' _ _ (hq w' h1 h2 h3)
end
end Go.Proofs.Ytmbgcphiigmdjaa
