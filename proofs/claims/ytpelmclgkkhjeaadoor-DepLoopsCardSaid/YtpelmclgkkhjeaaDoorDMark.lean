/-
  Bytes of the call's own in a row that may bear a conversion's mark behind its cells; what is put behind them.
-/
import Derived.Test.YtpelmclgkkhjeaaDoorDBase
import Derived.Lib.FrozenHead
import Derived.Lib.ConvBytes
import Derived.Laws.IdiomStrings

namespace Go.Proofs.YtpelmclgkkhjeaaDoor
open Go.RowKit

theorem storeCells_mark (P : Program) (g o : Nat) (t : TypeId) (fz : Nat × Nat) : ∀ (vs : List Value) (i : Nat) (cur : Array Value) (w : World), w.heap[g]? = some (.cells cur t fz) → (fz.2 = 0 ∨ cur.size ≤ fz.1) → o + i + vs.length ≤ cur.size → (∀ v ∈ vs, v.oneCell' = true) →
    (storeCells ⟨g, o, none⟩ vs i).run P w = .ok () (w.setRow g (cur.toList.take (o + i) ++ vs ++ cur.toList.drop (o + i + vs.length)).toArray)
  | [], i, cur, w, hg, _, _, _ => by
    simp only [storeCells, List.append_nil, List.length_nil, Nat.add_zero, List.take_append_drop, Array.toArray_toList]
    rw [setRow_self w g cur t fz hg]
    rfl
  | v :: rest, i, cur, w, hg, hfz, hl, h1 => by
    have hi : o + i < cur.size := by simp at hl; omega
    have hadd : (⟨g, o, none⟩ : Addr).add i = ⟨g, o + i, none⟩ := by unfold Addr.add; split <;> simp_all
    have hcell : w.cell? ⟨g, o + i, none⟩ = some cur[o + i] := by simp [World.cell?, hg, hi]
    have hfro : w.frozen? ⟨g, o + i, none⟩ = false := by
      obtain ⟨lo, hi'⟩ := fz
      simp only [World.frozen?, hg, Bool.and_eq_false_iff, decide_eq_false_iff_not]
      simp only at hfz
      omega
    have hst : (store ((⟨g, o, none⟩ : Addr).add i) v).run P w = .ok () (w.setRow g (cur.setIfInBounds (o + i) v)) := by
      rw [hadd, run_store P w _ v _ (h1 v (by simp)), hcell]
      simp [hfro, setCell_eq_setRow w g (o + i) cur t fz v hg]
    have ih := storeCells_mark P g o t fz rest (i + 1) (cur.setIfInBounds (o + i) v) (w.setRow g (cur.setIfInBounds (o + i) v)) (setRow_heap w g cur _ t _ hg) (by simpa using hfz) (by simp at hl ⊢; omega) (fun x hx => h1 x (by simp [hx]))
    simp only [storeCells, Sem.run_bind, hst, Result.andThen_ok, ih, setRow_setRow]
    congr 3
    have e := list_seg_step cur.toList (o + i) v rest (by simp at hl ⊢; omega)
    simpa [Array.toList_setIfInBounds, Nat.add_assoc] using e
abbrev TU8 : TypeId := 5
abbrev TBy : TypeId := 75
theorem infoU8 : (Tryd.prog.info? TU8).map (fun i => (i.zero, i.size, i.bytes)) = some (some (.int .u8 0), 1, 1) := by kernel_rfl
/-- A slice of the call's own holds these bytes; behind its cells its row may bear a mark. -/
def OwnB (w : World) (base : Nat) (v : Value) (l : List UInt8) : Prop := ∃ g cap cur fz, v = .slice (some ⟨g, 0, none⟩) l.length cap ∧ base ≤ g ∧ w.heap[g]? = some (.cells cur TU8 fz) ∧ (fz.2 = 0 ∨ cur.size ≤ fz.1) ∧ l.length ≤ cap ∧ cap ≤ maxLen ∧ cur.size = cap ∧ cur.toList.take l.length = Lib.byteCells l
theorem OwnB.below {w w' : World} {base : Nat} {v : Value} {l : List UInt8} (h : OwnB w base v l) (hb : Below w.heap.size w w') : OwnB w' base v l := by
  obtain ⟨g, cap, cur, fz, e, hg, hh, rest⟩ := h
  exact ⟨g, cap, cur, fz, e, hg, (hb.block g (lt_of_block hh)).trans hh, rest⟩
theorem OwnB.shape {w : World} {base : Nat} {v : Value} {l : List UInt8} (h : OwnB w base v l) : ∃ g cap, v = .slice (some ⟨g, 0, none⟩) l.length cap ∧ ∀ j u, (Lib.byteCells l)[j]? = some u → w.cell? ((⟨g, 0, none⟩ : Addr).add j) = some u := by
  obtain ⟨g, cap, cur, fz, e, hg, hh, _, _, _, _, ht⟩ := h
  refine ⟨g, cap, e, fun j u hu => ?_⟩
  have hadd : (⟨g, 0, none⟩ : Addr).add j = ⟨g, j, none⟩ := by unfold Addr.add; split <;> simp_all
  rw [hadd, cell_of_row w g j cur _ fz hh]
  rw [← ht, List.getElem?_take] at hu
  split at hu
  · simpa using hu
  · cases hu
/-- What a law of 'append' hands on. -/
def AppB (w : World) (base : Nat) (l us : List UInt8) (r : Result Value) : Prop := ∃ v' w', r = .ok v' w' ∧ OwnB w' base v' (l ++ us) ∧ Below base w w'
theorem grown_mark {w : World} {base : Nat} (l us : List UInt8) (n m old : Nat) (hn : n = l.length) (hm : m = us.length) (hs : n + m ≤ 140737488355328) (hbase : base ≤ w.heap.size) :
    OwnB (w.drew.alloc (.cells ((Lib.byteCells l).toArray ++ (Lib.byteCells us).toArray ++ Builtin.zeroCells (Value.int .u8 0).cells (grownCap w (n + m) old TU8 - (n + m))) TU8)) base (.slice (some ⟨w.heap.size, 0, none⟩) (n + m) (grownCap w (n + m) old TU8)) (l ++ us) ∧
      Below base w (w.drew.alloc (.cells ((Lib.byteCells l).toArray ++ (Lib.byteCells us).toArray ++ Builtin.zeroCells (Value.int .u8 0).cells (grownCap w (n + m) old TU8 - (n + m))) TU8)) := by
  subst hn
  subst hm
  have hge := grownCap_ge w (l.length + us.length) old TU8
  have hcm : grownCap w (l.length + us.length) old TU8 ≤ maxLen := grownCap_le_maxLen w (l.length + us.length) old TU8 (by unfold maxLen; omega)
  have hll : (l ++ us).length = l.length + us.length := List.length_append
  refine ⟨⟨w.heap.size, _, _, (0, 0), by rw [hll], hbase, heap_alloc_new w.drew _, .inl rfl, by rw [hll]; exact hge, hcm, ?_, ?_⟩, ((Below.refl _ _).drew).alloc hbase _⟩
  · simp only [Array.size_append, List.size_toArray, size_zeroCells, Lib.byteCells_length]
    have : (Value.int IntKind.u8 0).cells.size = 1 := rfl
    rw [this]
    omega
  · rw [Lib.byteCells_append]
    simp only [Array.toList_append, List.append_assoc]
    rw [← List.append_assoc, hll]
    have : l.length + us.length = (Lib.byteCells l ++ Lib.byteCells us).length := by rw [List.length_append, Lib.byteCells_length, Lib.byteCells_length]
    rw [this]
    exact List.take_left
theorem room_mark {w : World} {base g cap : Nat} {cur : Array Value} {fz : Nat × Nat} (l us : List UInt8) (hbg : base ≤ g) (hg : w.heap[g]? = some (.cells cur TU8 fz)) (hfz : fz.2 = 0 ∨ cur.size ≤ fz.1) (hcm : cap ≤ maxLen) (hcs : cur.size = cap) (ht : cur.toList.take l.length = Lib.byteCells l) (hroom : l.length + us.length ≤ cap) :
    OwnB (w.setRow g (cur.toList.take l.length ++ Lib.byteCells us ++ cur.toList.drop (l.length + us.length)).toArray) base (.slice (some ⟨g, 0, none⟩) (l.length + us.length) cap) (l ++ us) ∧
      Below base w (w.setRow g (cur.toList.take l.length ++ Lib.byteCells us ++ cur.toList.drop (l.length + us.length)).toArray) := by
  have hll : (l ++ us).length = l.length + us.length := List.length_append
  have hsz : (cur.toList.take l.length ++ Lib.byteCells us ++ cur.toList.drop (l.length + us.length)).toArray.size = cur.size := by
    simp only [List.size_toArray, List.length_append, List.length_take, List.length_drop, Array.length_toList, Lib.byteCells_length]
    omega
  refine ⟨⟨g, cap, _, fz, by rw [hll], hbg, setRow_heap w g cur _ TU8 _ hg, by rw [hsz]; exact hfz, by rw [hll]; exact hroom, hcm, by rw [hsz]; exact hcs, ?_⟩, ⟨rfl, rfl, rfl, by simp, fun k hk => setRow_other w g k _ (by omega)⟩⟩
  rw [ht, Lib.byteCells_append]
  have : (l ++ us).length = (Lib.byteCells l ++ Lib.byteCells us).length := by rw [hll, List.length_append, Lib.byteCells_length, Lib.byteCells_length]
  rw [this]
  exact List.take_left
theorem byteCells_one (l : List UInt8) : ∀ v ∈ Lib.byteCells l, v.oneCell' = true := by
  intro v hv
  simp only [Lib.byteCells, List.mem_map] at hv
  obtain ⟨b, _, rfl⟩ := hv
  rfl
theorem run_app_mark (w : World) (ty : TypeId) (base : Nat) (v : Value) (l us : List UInt8) (hown : OwnB w base v l) (a : Addr) (m c : Nat) (hm : m = us.length) (hnews : ∀ j u, (Lib.byteCells us)[j]? = some u → w.cell? (a.add j) = some u) (hlen : l.length + us.length ≤ 1099511627776) (hbase : base ≤ w.heap.size) :
    AppB w base l us ((Builtin.append_ #[TBy, TBy] ty #[v, .slice (some a) m c]).run Tryd.prog w) := by
  subst hm
  obtain ⟨i0, hi, hz0, hz1, hz2⟩ := info_parts infoU8
  obtain ⟨g, cap, hv, holds⟩ := hown.shape
  obtain ⟨g', cap', cur, fz, e, hbg, hg, hfz, hnc, hcm, hcs, ht⟩ := hown
  rw [hv] at e
  injection e with e1 _ e3
  injection e1 with e1
  injection e1 with e1
  subst e1 e3 hv
  by_cases hroom : l.length + us.length ≤ cap
  · have hf := run_firstCells_some (P := Tryd.prog) w 1 us.length a us.length c (Lib.byteCells us) (by rw [Lib.byteCells_length, Nat.mul_one]) hnews
    have hst := storeCells_mark Tryd.prog g l.length TU8 fz (Lib.byteCells us) 0 cur w hg hfz (by rw [Lib.byteCells_length]; omega) (byteCells_one us)
    simp only [Nat.add_zero, Lib.byteCells_length] at hst
    obtain ⟨h1, h2⟩ := room_mark (w := w) l us hbg hg hfz hcm hcs ht hroom
    refine ⟨_, _, ?_, h1, h2⟩
    simp [Builtin.append_, run_underlying Tryd.underlying75, sizeOf, typeInfo, hi, hz1, Builtin.lenOf, hroom, hf, Addr.add_lit, hst]
  · have hr := run_append_grow (P := Tryd.prog) w TBy ty TU8 i0 (.int .u8 0) Tryd.underlying75 hi hz0 ⟨g, 0, none⟩ l.length cap (Lib.byteCells l) (by rw [hz1, Lib.byteCells_length, Nat.mul_one]) holds a us.length c (Lib.byteCells us) (by rw [hz1, Lib.byteCells_length, Nat.mul_one]) hnews (by omega) (by omega) (by rw [hz2]; exact growslice_fits (by omega) (by omega))
    obtain ⟨h1, h2⟩ := grown_mark (w := w) (base := base) l us l.length us.length cap rfl rfl (by omega) hbase
    exact ⟨_, _, hr, h1, h2⟩
theorem run_app_mark_str (w : World) (ty : TypeId) (base : Nat) (v : Value) (l : List UInt8) (s : ByteArray) (hown : OwnB w base v l) (hlen : l.length + s.size ≤ 1099511627776) (hbase : base ≤ w.heap.size) :
    AppB w base l (bl s) ((Builtin.append_ #[TBy, 9] ty #[v, .string s]).run Tryd.prog w) := by
  obtain ⟨i0, hi, hz0, hz1, hz2⟩ := info_parts infoU8
  obtain ⟨g, cap, hv, holds⟩ := hown.shape
  obtain ⟨g', cap', cur, fz, e, hbg, hg, hfz, hnc, hcm, hcs, ht⟩ := hown
  rw [hv] at e
  injection e with e1 _ e3
  injection e1 with e1
  injection e1 with e1
  subst e1 e3 hv
  have hus : (bl s).length = s.size := bl_len s
  have hsc : Lib.strCells s = Lib.byteCells (bl s) := rfl
  by_cases hroom : l.length + s.size ≤ cap
  · have hf := Lib.run_firstCells_string (P := Tryd.prog) w 1 s
    have hst := storeCells_mark Tryd.prog g l.length TU8 fz (Lib.byteCells (bl s)) 0 cur w hg hfz (by rw [Lib.byteCells_length]; omega) (byteCells_one _)
    simp only [Nat.add_zero, Lib.byteCells_length] at hst
    obtain ⟨h1, h2⟩ := room_mark (w := w) l (bl s) hbg hg hfz hcm hcs ht (by omega)
    rw [hsc] at hf
    refine ⟨_, _, ?_, h1, h2⟩
    simp [Builtin.append_, run_underlying Tryd.underlying75, run_underlying Tryd.underlying9, sizeOf, typeInfo, hi, hz1, Builtin.lenOf, hroom, hf, Addr.add_lit, hst, hus]
  · have hr := Lib.run_append_grow_string (P := Tryd.prog) w TBy 9 ty TU8 i0 (.int .u8 0) Tryd.underlying75 Tryd.underlying9 hi hz0 ⟨g, 0, none⟩ l.length cap (Lib.byteCells l) (by rw [hz1, Lib.byteCells_length, Nat.mul_one]) holds s (by omega) (by omega) (by rw [hz2]; exact growslice_fits (by omega) (by omega))
    obtain ⟨h1, h2⟩ := grown_mark (w := w) (base := base) l (bl s) l.length s.size cap rfl hus.symm (by omega) hbase
    exact ⟨_, _, hr, h1, h2⟩
section
variable {w : World} {ops : Array Oper} {rest : List Oper} {o : Oper} {a : Act} {Q : Exit → Act → World → Prop}
theorem app_mark (hgd : o.guard = none) (s x : Operand) (ho : o.op = .call { callee := .builtin .append, args := #[s, x], argTypes := #[TBy, TBy] })
    (base : Nat) (v : Value) (l us : List UInt8) (hs : a.eval s = v) (hown : OwnB w base v l) (ad : Addr) (m c : Nat) (hx : a.eval x = .slice (some ad) m c) (hm : m = us.length) (hnews : ∀ j u, (Lib.byteCells us)[j]? = some u → w.cell? (ad.add j) = some u)
    (hlen : l.length + us.length ≤ 1099511627776) (hbase : base ≤ w.heap.size)
    (h : ∀ v' w', OwnB w' base v' (l ++ us) → Below base w w' → wpList Tryd.prog ops Q rest (a.put o.dst v') w') : wpList Tryd.prog ops Q (o :: rest) a w := by
  refine wpList_plain hgd fun K hK => ?_
  obtain ⟨v', w', hrun, h1, h2⟩ := run_app_mark w o.type base v l us hown ad m c hm hnews hlen hbase
  unfold Oper.wp execOp
  simp only [ho, resolve, invoke, builtin, Sem.run_bind, Sem.run_pure, Result.andThen_ok, List.map_toArray, List.map_cons, List.map_nil, hs, hx, hrun]
  exact hK _ _ (h v' w' h1 h2)
theorem app_mark_str (hgd : o.guard = none) (s x : Operand) (ho : o.op = .call { callee := .builtin .append, args := #[s, x], argTypes := #[TBy, 9] })
    (base : Nat) (v : Value) (l : List UInt8) (hs : a.eval s = v) (hown : OwnB w base v l) (t : ByteArray) (hx : a.eval x = .string t)
    (hlen : l.length + t.size ≤ 1099511627776) (hbase : base ≤ w.heap.size)
    (h : ∀ v' w', OwnB w' base v' (l ++ bl t) → Below base w w' → wpList Tryd.prog ops Q rest (a.put o.dst v') w') : wpList Tryd.prog ops Q (o :: rest) a w := by
  refine wpList_plain hgd fun K hK => ?_
  obtain ⟨v', w', hrun, h1, h2⟩ := run_app_mark_str w o.type base v l t hown hlen hbase
  unfold Oper.wp execOp
  simp only [ho, resolve, invoke, builtin, Sem.run_bind, Sem.run_pure, Result.andThen_ok, List.map_toArray, List.map_cons, List.map_nil, hs, hx, hrun]
  exact hK _ _ (h v' w' h1 h2)
end
/-- A string's bytes, converted. -/
theorem conv_own (w : World) (s : ByteArray) (base : Nat) (hb : base ≤ w.heap.size) (hs : s.size ≤ 1099511627776) : ∃ cap, (convert 9 TBy (.string s)).run Tryd.prog w = .ok (.slice (some ⟨w.heap.size, 0, none⟩) s.size cap) (Lib.bytesWorld w TU8 s) ∧ OwnB (Lib.bytesWorld w TU8 s) base (.slice (some ⟨w.heap.size, 0, none⟩) s.size cap) (bl s) ∧ Below base w (Lib.bytesWorld w TU8 s) := by
  have h := Lib.run_convert_string_bytes (P := Tryd.prog) w 9 TBy TU8 s Tryd.underlying9 Tryd.underlying75 Tryd.underlying5
  have hge : s.size ≤ grownCap w s.size 0 TU8 := grownCap_ge w s.size 0 TU8
  have hcm : grownCap w s.size 0 TU8 ≤ maxLen := grownCap_le_maxLen w s.size 0 TU8 (by unfold maxLen; omega)
  have hsz : (Lib.bytesCells w TU8 s).size = grownCap w s.size 0 TU8 := by
    unfold Lib.bytesCells
    rw [Array.size_append, Array.size_map, Array.size_replicate]
    have : s.data.size = s.size := rfl
    omega
  refine ⟨_, h, ⟨w.heap.size, _, _, _, by rw [bl_len], hb, Lib.bytesWorld_at_new w TU8 s, .inr (Nat.le_refl _), by rw [bl_len]; exact hge, hcm, hsz, ?_⟩, ⟨rfl, rfl, rfl, by rw [Lib.bytesWorld_size]; omega, fun k hk => Lib.bytesWorld_at_old w TU8 s k (by omega)⟩⟩
  unfold Lib.bytesCells
  rw [Array.toList_append, Array.toList_map, bl_len]
  have : s.size = (s.data.toList.map fun b => Value.int .u8 (b.toNat : Int)).length := by rw [List.length_map, Array.length_toList]; rfl
  rw [this]
  exact List.take_left
end Go.Proofs.YtpelmclgkkhjeaaDoor
