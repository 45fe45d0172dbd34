/-
  Parts: DMark DAppInt DFmtI DFmt.
-/
import Derived.Test.YtjpihophigjbpaaGreatDoorD1
import Derived.Lib.FrozenHead
import Derived.Lib.ConvBytes
import Derived.Laws.IdiomStrings
import Derived.Test.YtjpihophigjbpaaGreatDoorS0
import Derived.Lib.AppendIntMem
set_option linter.unusedSimpArgs false
set_option linter.unusedVariables false
/-
  Bytes of the call's own in a row that may bear a conversion's mark behind its cells; what is put behind them.
-/

namespace Go.Proofs.YtjpihophigjbpaaGreatDoor.Ds
open Go.RowKit

theorem storeCells_mark (P : Program) (g o : Nat) (t : TypeId) (fz : Nat × Nat) : ∀ (vs : List Value) (i : Nat) (cur : Array Value) (w : World), w.heap[g]? = some (.cells cur t fz) → (fz.2 = 0 ∨ cur.size ≤ fz.1) → o + i + vs.length ≤ cur.size → (∀ v ∈ vs, v.oneCell' = true) →
    (storeCells ⟨g, o, none⟩ vs i).run P w = .ok () (w.setRow g (cur.toList.take (o + i) ++ vs ++ cur.toList.drop (o + i + vs.length)).toArray)
  | [], i, cur, w, hg, _, _, _ => by
    simp only [storeCells, List.append_nil, List.length_nil, Nat.add_zero, List.take_append_drop, Array.toArray_toList]
    rw [setRow_self w g cur t fz hg]
    rfl
  | v :: rest, i, cur, w, hg, hfz, hl, h1 => by
    have hi : o + i < cur.size := by simp at hl; omega
    have hadd : (⟨g, o, none⟩ : Addr).add i = ⟨g, o + i, none⟩ := by unfold Addr.add; split <;> simp_all
    have hcell : w.cell? ⟨g, o + i, none⟩ = some cur[o + i] := by simp [World.cell?, hg, hi]
    have hfro : w.frozen? ⟨g, o + i, none⟩ = false := by
      obtain ⟨lo, hi'⟩ := fz
      simp only [World.frozen?, hg, Bool.and_eq_false_iff, decide_eq_false_iff_not]
      simp only at hfz
      omega
    have hst : (store ((⟨g, o, none⟩ : Addr).add i) v).run P w = .ok () (w.setRow g (cur.setIfInBounds (o + i) v)) := by
      rw [hadd, run_store P w _ v _ (h1 v (by simp)), hcell]
      simp [hfro, setCell_eq_setRow w g (o + i) cur t fz v hg]
    have ih := storeCells_mark P g o t fz rest (i + 1) (cur.setIfInBounds (o + i) v) (w.setRow g (cur.setIfInBounds (o + i) v)) (setRow_heap w g cur _ t _ hg) (by simpa using hfz) (by simp at hl ⊢; omega) (fun x hx => h1 x (by simp [hx]))
    simp only [storeCells, Sem.run_bind, hst, Result.andThen_ok, ih, setRow_setRow]
    congr 3
    have e := list_seg_step cur.toList (o + i) v rest (by simp at hl ⊢; omega)
    simpa [Array.toList_setIfInBounds, Nat.add_assoc] using e
abbrev TU8 : TypeId := 5
abbrev TBy : TypeId := 138
theorem infoU8 : (Tryz.prog.info? TU8).map (fun i => (i.zero, i.size, i.bytes)) = some (some (.int .u8 0), 1, 1) := by kernel_rfl
/-- A slice of the call's own holds these bytes; behind its cells its row may bear a mark. -/
def OwnB (w : World) (base : Nat) (v : Value) (l : List UInt8) : Prop := ∃ g cap cur fz, v = .slice (some ⟨g, 0, none⟩) l.length cap ∧ base ≤ g ∧ w.heap[g]? = some (.cells cur TU8 fz) ∧ (fz.2 = 0 ∨ cur.size ≤ fz.1) ∧ l.length ≤ cap ∧ cap ≤ maxLen ∧ cur.size = cap ∧ cur.toList.take l.length = Lib.byteCells l
theorem OwnB.below {w w' : World} {base : Nat} {v : Value} {l : List UInt8} (h : OwnB w base v l) (hb : Below w.heap.size w w') : OwnB w' base v l := by
  obtain ⟨g, cap, cur, fz, e, hg, hh, rest⟩ := h
  exact ⟨g, cap, cur, fz, e, hg, (hb.block g (lt_of_block hh)).trans hh, rest⟩
theorem OwnB.shape {w : World} {base : Nat} {v : Value} {l : List UInt8} (h : OwnB w base v l) : ∃ g cap, v = .slice (some ⟨g, 0, none⟩) l.length cap ∧ ∀ j u, (Lib.byteCells l)[j]? = some u → w.cell? ((⟨g, 0, none⟩ : Addr).add j) = some u := by
  obtain ⟨g, cap, cur, fz, e, hg, hh, _, _, _, _, ht⟩ := h
  refine ⟨g, cap, e, fun j u hu => ?_⟩
  have hadd : (⟨g, 0, none⟩ : Addr).add j = ⟨g, j, none⟩ := by unfold Addr.add; split <;> simp_all
  rw [hadd, cell_of_row w g j cur _ fz hh]
  rw [← ht, List.getElem?_take] at hu
  split at hu
  · simpa using hu
  · cases hu
/-- What a law of 'append' hands on. -/
def AppB (w : World) (base : Nat) (l us : List UInt8) (r : Result Value) : Prop := ∃ v' w', r = .ok v' w' ∧ OwnB w' base v' (l ++ us) ∧ Below base w w'
theorem grown_mark {w : World} {base : Nat} (l us : List UInt8) (n m old : Nat) (hn : n = l.length) (hm : m = us.length) (hs : n + m ≤ 140737488355328) (hbase : base ≤ w.heap.size) :
    OwnB (w.drew.alloc (.cells ((Lib.byteCells l).toArray ++ (Lib.byteCells us).toArray ++ Builtin.zeroCells (Value.int .u8 0).cells (grownCap w (n + m) old TU8 - (n + m))) TU8)) base (.slice (some ⟨w.heap.size, 0, none⟩) (n + m) (grownCap w (n + m) old TU8)) (l ++ us) ∧
      Below base w (w.drew.alloc (.cells ((Lib.byteCells l).toArray ++ (Lib.byteCells us).toArray ++ Builtin.zeroCells (Value.int .u8 0).cells (grownCap w (n + m) old TU8 - (n + m))) TU8)) := by
  subst hn
  subst hm
  have hge := grownCap_ge w (l.length + us.length) old TU8
  have hcm : grownCap w (l.length + us.length) old TU8 ≤ maxLen := grownCap_le_maxLen w (l.length + us.length) old TU8 (by unfold maxLen; omega)
  have hll : (l ++ us).length = l.length + us.length := List.length_append
  refine ⟨⟨w.heap.size, _, _, (0, 0), by rw [hll], hbase, heap_alloc_new w.drew _, .inl rfl, by rw [hll]; exact hge, hcm, ?_, ?_⟩, ((Below.refl _ _).drew).alloc hbase _⟩
  · simp only [Array.size_append, List.size_toArray, size_zeroCells, Lib.byteCells_length]
    have : (Value.int IntKind.u8 0).cells.size = 1 := rfl
    rw [this]
    omega
  · rw [Lib.byteCells_append]
    simp only [Array.toList_append, List.append_assoc]
    rw [← List.append_assoc, hll]
    have : l.length + us.length = (Lib.byteCells l ++ Lib.byteCells us).length := by rw [List.length_append, Lib.byteCells_length, Lib.byteCells_length]
    rw [this]
    exact List.take_left
theorem room_mark {w : World} {base g cap : Nat} {cur : Array Value} {fz : Nat × Nat} (l us : List UInt8) (hbg : base ≤ g) (hg : w.heap[g]? = some (.cells cur TU8 fz)) (hfz : fz.2 = 0 ∨ cur.size ≤ fz.1) (hcm : cap ≤ maxLen) (hcs : cur.size = cap) (ht : cur.toList.take l.length = Lib.byteCells l) (hroom : l.length + us.length ≤ cap) :
    OwnB (w.setRow g (cur.toList.take l.length ++ Lib.byteCells us ++ cur.toList.drop (l.length + us.length)).toArray) base (.slice (some ⟨g, 0, none⟩) (l.length + us.length) cap) (l ++ us) ∧
      Below base w (w.setRow g (cur.toList.take l.length ++ Lib.byteCells us ++ cur.toList.drop (l.length + us.length)).toArray) := by
  have hll : (l ++ us).length = l.length + us.length := List.length_append
  have hsz : (cur.toList.take l.length ++ Lib.byteCells us ++ cur.toList.drop (l.length + us.length)).toArray.size = cur.size := by
    simp only [List.size_toArray, List.length_append, List.length_take, List.length_drop, Array.length_toList, Lib.byteCells_length]
    omega
  refine ⟨⟨g, cap, _, fz, by rw [hll], hbg, setRow_heap w g cur _ TU8 _ hg, by rw [hsz]; exact hfz, by rw [hll]; exact hroom, hcm, by rw [hsz]; exact hcs, ?_⟩, ⟨rfl, rfl, rfl, by simp, fun k hk => setRow_other w g k _ (by omega)⟩⟩
  rw [ht, Lib.byteCells_append]
  have : (l ++ us).length = (Lib.byteCells l ++ Lib.byteCells us).length := by rw [hll, List.length_append, Lib.byteCells_length, Lib.byteCells_length]
  rw [this]
  exact List.take_left
theorem byteCells_one (l : List UInt8) : ∀ v ∈ Lib.byteCells l, v.oneCell' = true := by
  intro v hv
  simp only [Lib.byteCells, List.mem_map] at hv
  obtain ⟨b, _, rfl⟩ := hv
  rfl
theorem run_app_mark (w : World) (ty : TypeId) (base : Nat) (v : Value) (l us : List UInt8) (hown : OwnB w base v l) (a : Addr) (m c : Nat) (hm : m = us.length) (hnews : ∀ j u, (Lib.byteCells us)[j]? = some u → w.cell? (a.add j) = some u) (hlen : l.length + us.length ≤ 1099511627776) (hbase : base ≤ w.heap.size) :
    AppB w base l us ((Builtin.append_ #[TBy, TBy] ty #[v, .slice (some a) m c]).run Tryz.prog w) := by
  subst hm
  obtain ⟨i0, hi, hz0, hz1, hz2⟩ := info_parts infoU8
  obtain ⟨g, cap, hv, holds⟩ := hown.shape
  obtain ⟨g', cap', cur, fz, e, hbg, hg, hfz, hnc, hcm, hcs, ht⟩ := hown
  rw [hv] at e
  injection e with e1 _ e3
  injection e1 with e1
  injection e1 with e1
  subst e1 e3 hv
  by_cases hroom : l.length + us.length ≤ cap
  · have hf := run_firstCells_some (P := Tryz.prog) w 1 us.length a us.length c (Lib.byteCells us) (by rw [Lib.byteCells_length, Nat.mul_one]) hnews
    have hst := storeCells_mark Tryz.prog g l.length TU8 fz (Lib.byteCells us) 0 cur w hg hfz (by rw [Lib.byteCells_length]; omega) (byteCells_one us)
    simp only [Nat.add_zero, Lib.byteCells_length] at hst
    obtain ⟨h1, h2⟩ := room_mark (w := w) l us hbg hg hfz hcm hcs ht hroom
    refine ⟨_, _, ?_, h1, h2⟩
    simp [Builtin.append_, run_underlying Tryz.underlying138, sizeOf, typeInfo, hi, hz1, Builtin.lenOf, hroom, hf, Addr.add_lit, hst]
  · have hr := run_append_grow (P := Tryz.prog) w TBy ty TU8 i0 (.int .u8 0) Tryz.underlying138 hi hz0 ⟨g, 0, none⟩ l.length cap (Lib.byteCells l) (by rw [hz1, Lib.byteCells_length, Nat.mul_one]) holds a us.length c (Lib.byteCells us) (by rw [hz1, Lib.byteCells_length, Nat.mul_one]) hnews (by omega) (by omega) (by rw [hz2]; exact growslice_fits (by omega) (by omega))
    obtain ⟨h1, h2⟩ := grown_mark (w := w) (base := base) l us l.length us.length cap rfl rfl (by omega) hbase
    exact ⟨_, _, hr, h1, h2⟩
theorem run_app_mark_str (w : World) (ty : TypeId) (base : Nat) (v : Value) (l : List UInt8) (s : ByteArray) (hown : OwnB w base v l) (hlen : l.length + s.size ≤ 1099511627776) (hbase : base ≤ w.heap.size) :
    AppB w base l (bl s) ((Builtin.append_ #[TBy, 9] ty #[v, .string s]).run Tryz.prog w) := by
  obtain ⟨i0, hi, hz0, hz1, hz2⟩ := info_parts infoU8
  obtain ⟨g, cap, hv, holds⟩ := hown.shape
  obtain ⟨g', cap', cur, fz, e, hbg, hg, hfz, hnc, hcm, hcs, ht⟩ := hown
  rw [hv] at e
  injection e with e1 _ e3
  injection e1 with e1
  injection e1 with e1
  subst e1 e3 hv
  have hus : (bl s).length = s.size := bl_len s
  have hsc : Lib.strCells s = Lib.byteCells (bl s) := rfl
  by_cases hroom : l.length + s.size ≤ cap
  · have hf := Lib.run_firstCells_string (P := Tryz.prog) w 1 s
    have hst := storeCells_mark Tryz.prog g l.length TU8 fz (Lib.byteCells (bl s)) 0 cur w hg hfz (by rw [Lib.byteCells_length]; omega) (byteCells_one _)
    simp only [Nat.add_zero, Lib.byteCells_length] at hst
    obtain ⟨h1, h2⟩ := room_mark (w := w) l (bl s) hbg hg hfz hcm hcs ht (by omega)
    rw [hsc] at hf
    refine ⟨_, _, ?_, h1, h2⟩
    simp [Builtin.append_, run_underlying Tryz.underlying138, run_underlying Tryz.underlying9, sizeOf, typeInfo, hi, hz1, Builtin.lenOf, hroom, hf, Addr.add_lit, hst, hus]
  · have hr := Lib.run_append_grow_string (P := Tryz.prog) w TBy 9 ty TU8 i0 (.int .u8 0) Tryz.underlying138 Tryz.underlying9 hi hz0 ⟨g, 0, none⟩ l.length cap (Lib.byteCells l) (by rw [hz1, Lib.byteCells_length, Nat.mul_one]) holds s (by omega) (by omega) (by rw [hz2]; exact growslice_fits (by omega) (by omega))
    obtain ⟨h1, h2⟩ := grown_mark (w := w) (base := base) l (bl s) l.length s.size cap rfl hus.symm (by omega) hbase
    exact ⟨_, _, hr, h1, h2⟩
section
variable {w : World} {ops : Array Oper} {rest : List Oper} {o : Oper} {a : Act} {Q : Exit → Act → World → Prop}
theorem app_mark (hgd : o.guard = none) (s x : Operand) (ho : o.op = .call { callee := .builtin .append, args := #[s, x], argTypes := #[TBy, TBy] })
    (base : Nat) (v : Value) (l us : List UInt8) (hs : a.eval s = v) (hown : OwnB w base v l) (ad : Addr) (m c : Nat) (hx : a.eval x = .slice (some ad) m c) (hm : m = us.length) (hnews : ∀ j u, (Lib.byteCells us)[j]? = some u → w.cell? (ad.add j) = some u)
    (hlen : l.length + us.length ≤ 1099511627776) (hbase : base ≤ w.heap.size)
    (h : ∀ v' w', OwnB w' base v' (l ++ us) → Below base w w' → wpList Tryz.prog ops Q rest (a.put o.dst v') w') : wpList Tryz.prog ops Q (o :: rest) a w := by
  refine wpList_plain hgd fun K hK => ?_
  obtain ⟨v', w', hrun, h1, h2⟩ := run_app_mark w o.type base v l us hown ad m c hm hnews hlen hbase
  unfold Oper.wp execOp
  simp only [ho, resolve, invoke, builtin, Sem.run_bind, Sem.run_pure, Result.andThen_ok, List.map_toArray, List.map_cons, List.map_nil, hs, hx, hrun]
  exact hK _ _ (h v' w' h1 h2)
theorem app_mark_str (hgd : o.guard = none) (s x : Operand) (ho : o.op = .call { callee := .builtin .append, args := #[s, x], argTypes := #[TBy, 9] })
    (base : Nat) (v : Value) (l : List UInt8) (hs : a.eval s = v) (hown : OwnB w base v l) (t : ByteArray) (hx : a.eval x = .string t)
    (hlen : l.length + t.size ≤ 1099511627776) (hbase : base ≤ w.heap.size)
    (h : ∀ v' w', OwnB w' base v' (l ++ bl t) → Below base w w' → wpList Tryz.prog ops Q rest (a.put o.dst v') w') : wpList Tryz.prog ops Q (o :: rest) a w := by
  refine wpList_plain hgd fun K hK => ?_
  obtain ⟨v', w', hrun, h1, h2⟩ := run_app_mark_str w o.type base v l t hown hlen hbase
  unfold Oper.wp execOp
  simp only [ho, resolve, invoke, builtin, Sem.run_bind, Sem.run_pure, Result.andThen_ok, List.map_toArray, List.map_cons, List.map_nil, hs, hx, hrun]
  exact hK _ _ (h v' w' h1 h2)
end
/-- A string's bytes, converted. -/
theorem conv_own (w : World) (s : ByteArray) (base : Nat) (hb : base ≤ w.heap.size) (hs : s.size ≤ 1099511627776) : ∃ cap, (convert 9 TBy (.string s)).run Tryz.prog w = .ok (.slice (some ⟨w.heap.size, 0, none⟩) s.size cap) (Lib.bytesWorld w TU8 s) ∧ OwnB (Lib.bytesWorld w TU8 s) base (.slice (some ⟨w.heap.size, 0, none⟩) s.size cap) (bl s) ∧ Below base w (Lib.bytesWorld w TU8 s) := by
  have h := Lib.run_convert_string_bytes (P := Tryz.prog) w 9 TBy TU8 s Tryz.underlying9 Tryz.underlying138 Tryz.underlying5
  have hge : s.size ≤ grownCap w s.size 0 TU8 := grownCap_ge w s.size 0 TU8
  have hcm : grownCap w s.size 0 TU8 ≤ maxLen := grownCap_le_maxLen w s.size 0 TU8 (by unfold maxLen; omega)
  have hsz : (Lib.bytesCells w TU8 s).size = grownCap w s.size 0 TU8 := by
    unfold Lib.bytesCells
    rw [Array.size_append, Array.size_map, Array.size_replicate]
    have : s.data.size = s.size := rfl
    omega
  refine ⟨_, h, ⟨w.heap.size, _, _, _, by rw [bl_len], hb, Lib.bytesWorld_at_new w TU8 s, .inr (Nat.le_refl _), by rw [bl_len]; exact hge, hcm, hsz, ?_⟩, ⟨rfl, rfl, rfl, by rw [Lib.bytesWorld_size]; omega, fun k hk => Lib.bytesWorld_at_old w TU8 s k (by omega)⟩⟩
  unfold Lib.bytesCells
  rw [Array.toList_append, Array.toList_map, bl_len]
  have : s.size = (s.data.toList.map fun b => Value.int .u8 (b.toNat : Int)).length := by rw [List.length_map, Array.length_toList]; rfl
  rw [this]
  exact List.take_left
end Go.Proofs.YtjpihophigjbpaaGreatDoor.Ds
/-
  strconv.AppendInt at base 10, of a number that is not below 0, behind bytes in a row that may bear a mark.
-/
namespace Go.Proofs.YtjpihophigjbpaaGreatDoor.Ds
open Go.RowKit

/-- The library's table of powers of ten reads as the program's text lays it. -/
def Tab (w : World) : Prop := Lib.TabIs Tryz.prog w "internal/strconv.uint64pow10" .u64 Lib.pow10Tab
theorem tab_below {w w' : World} (h : Tab w) (hb : Below w.heap.size w w') : Tab w' := ((Lib.tabBelow_of_tabIs h).on hb).here
/-- What a call that puts digits behind bytes hands back. -/
def DigPost (w : World) (base : Nat) (l : List UInt8) (e : Ending) (w' : World) : Prop := ∃ v', e = .returned v' ∧ OwnB w' base v' l ∧ Below base w w'
theorem dec_len (u : Nat) (h : u < 18446744073709551616) : (dec u).length ≤ 20 := by
  unfold dec
  rw [Lib.decDigits_length]
  by_cases h0 : u < 10
  · rw [Lib.nDigits_small h0]; omega
  · have := Lib.numDigits_eq u (by omega) h
    split at this <;> omega
set_option maxRecDepth 100000 in
set_option maxHeartbeats 2000000 in
theorem AppendUint_small (base u : Nat) (hu : u < 100) (v : Value) (l : List UInt8) (w : World) (hown : OwnB w base v l) (hb : base ≤ w.heap.size) (hlen : l.length ≤ 1000000000) :
    Calls Tryz.prog 164 #[v, .int .u64 u, .int .i64 10] w (DigPost w base (l ++ dec u)) := by
  have hd := dec_len u (by omega)
  have hE := fhid (show bl (⟨(Lib.decDigits u).toArray⟩ : ByteArray) = dec u from rfl)
  have hz : l.length + (⟨(Lib.decDigits u).toArray⟩ : ByteArray).size ≤ 1099511627776 := by
    show l.length + (Lib.decDigits u).toArray.size ≤ _
    simp only [List.size_toArray]
    have : (Lib.decDigits u).length ≤ 20 := hd
    omega
  have hs := fun W => Tryz.internal_strconv_small u hu W
  have iu : (u : Int) < 100 := by omega
  have iu0 : (0 : Int) ≤ u := by omega
  generalize (⟨(Lib.decDigits u).toArray⟩ : ByteArray) = S at *
  replace hown := fhid hown
  go_enter Tryz.func164, Tryz.ntmps164
  go_wp2_with (first
    | (go_at_call 82; (with_reducible refine (hs _).mono ?_); rintro e w1 ⟨rfl, rfl⟩)
    | (at_builtin; (refine app_mark_str rfl _ _ rfl base v l rfl hown.out S rfl hz hb ?_; intro v2 w2 o2 b2)))
  go_ret
  exact ⟨_, rfl, by rw [← hE.out]; exact o2, b2⟩
set_option maxRecDepth 100000 in
set_option maxHeartbeats 4000000 in
theorem AppendUint_big (base u : Nat) (hu : 100 ≤ u) (hu64 : u < 18446744073709551616) (v : Value) (l : List UInt8) (w : World) (hT : Tab w) (hown : OwnB w base v l) (hb : base ≤ w.heap.size) (hlen : l.length ≤ 1000000000) :
    Calls Tryz.prog 164 #[v, .int .u64 u, .int .i64 10] w (DigPost w base (l ++ dec u)) := by
  have hd := dec_len u hu64
  have hnl : (Lib.decDigits u).length = Lib.nDigits u := Lib.decDigits_length u
  have hnd : Lib.nDigits u ≤ 20 := by rw [← hnl]; exact hd
  have hnu := fun W hW => Tryz.internal_strconv_numDigits u (by omega) hu64 W hW
  have hH0 := Lib.holds_zero0 w 134 (Lib.nDigits u) (by omega)
  have hfmt := Tryz.internal_strconv_formatBase10 w.heap.size 0 24 u (Array.replicate (Lib.nDigits u) 0) (w.alloc (.cells Lib.zeros24 134)) hH0 (by rw [Array.size_replicate]; exact Lib.lt_pow_nDigits u) hu64 (by rw [Array.size_replicate]; omega)
  rw [Array.size_replicate] at hfmt
  have iu : ¬ (u : Int) < 100 := by omega
  have iu0 : (0 : Int) ≤ u := by omega
  have hal : Tryz.prog.arrayLen 134 = 24 := by kernel_rfl
  have hsl : ∀ W, (Instr.sliceAt 134 (.pointer (some ⟨w.heap.size, 0, none⟩)) none (some (.int .i64 (Lib.nDigits u : Int))) none).run Tryz.prog W = .ok (.slice (some ⟨w.heap.size, 0, none⟩) (Lib.nDigits u) 24) W := fun W => by
    rw [run_sliceAt_array_h W 134 ⟨w.heap.size, 0, none⟩ (by simp [Program.arrayLen, Program.elem, Tryz.underlying134]) .i64 (Lib.nDigits u : Int) (by omega) (by rw [hal]; omega)]
    go_simp
  have fin : ∀ (dk : Array UInt8) (k v' : Nat), Lib.FmtInv (Lib.nDigits u) u 0 v' dk → ∃ W, (Sort.putRow (fun (b : UInt8) => Value.int .u8 (b.toNat : Int)) (w.alloc (.cells Lib.zeros24 134)) w.heap.size 0 dk).drewN k = W ∧ Below w.heap.size w W ∧ ∀ j u', (Lib.byteCells (dec u))[j]? = some u' → W.cell? ((⟨w.heap.size, 0, none⟩ : Addr).add j) = some u' := by
    intro dk k v' hF
    obtain ⟨os, eo⟩ := Lib.fin_at w (.cells Lib.zeros24 134) dk k 0
    refine ⟨_, rfl, by rw [eo]; exact Lib.below_grow w.heap.size w (Nat.le_refl _) k os, fun j u' hj => ?_⟩
    have hjl : j < (Lib.decDigits u).length := by
      have h5 := (List.getElem?_eq_some_iff.1 hj).1
      rwa [Lib.byteCells_length] at h5
    have e5 : (Lib.byteCells (dec u))[j]? = some (Value.int .u8 ((Lib.decDigits u)[j].toNat : Int)) := by simp [Lib.byteCells, hjl, dec]
    rw [e5] at hj
    cases hj
    rw [Lib.row_is_numeral hF j hjl, Lib.add_plain, World.cell?_drewN]
    exact Sort.cell?_putRow (fun (b : UInt8) => Value.int .u8 (b.toNat : Int)) _ w.heap.size 0 _ dk hH0 (by rw [hF.size, Array.size_replicate]) j (by rw [hF.size]; omega)
  have hm : Lib.nDigits u = (dec u).length := hnl.symm
  replace hown := fhid hown
  replace fin := fhid fin
  clear hH0 hal hnl
  replace hm := fhid hm
  replace hT := fhid hT
  generalize Lib.nDigits u = nd at *
  go_enter Tryz.func164, Tryz.ntmps164
  go_wp2_with (first
    | (go_at_call 83; (refine (hnu _ (tab_below hT.out ((Below.refl _ _).alloc (Nat.le_refl _) _))).mono ?_); rintro e w1 ⟨rfl, rfl⟩)
    | (go_at_call 84; refine hfmt.mono ?_; rintro e w1 ⟨rfl, k, v', dk, rfl, hF⟩
       obtain ⟨W, hW, bW, hc⟩ := fin.out dk k v' hF
       rw [hW]
       clear hW hF hfmt
       replace hc := fhid hc)
    | (at_builtin; (refine app_mark rfl _ _ rfl base v l (dec u) rfl (hown.out.below bW) ⟨w.heap.size, 0, none⟩ nd 24 rfl hm.out hc.out (by omega) (Nat.le_trans hb bW.size) ?_; intro v2 w2 o2 b2)))
  go_ret
  exact ⟨_, rfl, o2, (bW.mono hb).trans b2⟩
theorem AppendUint_any (base u : Nat) (hu64 : u < 18446744073709551616) (v : Value) (l : List UInt8) (w : World) (hT : Tab w) (hown : OwnB w base v l) (hb : base ≤ w.heap.size) (hlen : l.length ≤ 1000000000) :
    Calls Tryz.prog 164 #[v, .int .u64 u, .int .i64 10] w (DigPost w base (l ++ dec u)) := by
  by_cases h : u < 100
  · exact AppendUint_small base u h v l w hown hb hlen
  · exact AppendUint_big base u (by omega) hu64 v l w hT hown hb hlen
set_option maxRecDepth 100000 in
set_option maxHeartbeats 2000000 in
theorem AppendInt_in (base u : Nat) (hu : u < 9223372036854775808) (v : Value) (l : List UInt8) (w : World) (hT : Tab w) (hown : OwnB w base v l) (hb : base ≤ w.heap.size) (hlen : l.length ≤ 1000000000) :
    Calls Tryz.prog 139 #[v, .int .i64 u, .int .i64 10] w (DigPost w base (l ++ dec u)) := by
  have hu1 := AppendUint_any base u (by omega) v l w hT hown hb hlen
  have i0 : ¬ (u : Int) < 0 := by omega
  have i1 : (0 : Int) ≤ u := by omega
  have i2 : (u : Int) ≤ 9223372036854775807 := by omega
  replace hown := fhid hown
  replace hT := fhid hT
  go_enter Tryz.func139, Tryz.ntmps139
  go_wp2_with (go_at_call 164; (with_reducible refine hu1.mono ?_); rintro e w1 ⟨v1, rfl, o1, b1⟩)
  go_ret
  exact ⟨_, rfl, o1, b1⟩
set_option maxHeartbeats 2000000 in
theorem AppendInt_any (base u : Nat) (ui : Int) (hui : ui = u) (hu : u < 9223372036854775808) (v : Value) (l : List UInt8) (w : World) (hT : Tab w) (hown : OwnB w base v l) (hb : base ≤ w.heap.size) (hlen : l.length ≤ 1000000000) :
    Calls Tryz.prog 105 #[v, .int .i64 ui, .int .i64 10] w (DigPost w base (l ++ dec u)) := by
  subst hui
  have hu1 := AppendInt_in base u hu v l w hT hown hb hlen
  replace hown := fhid hown
  replace hT := fhid hT
  go_enter Tryz.func105, Tryz.ntmps105
  go_wp2_with (go_at_call 139; (with_reducible refine hu1.mono ?_); rintro e w1 ⟨v1, rfl, o1, b1⟩)
  go_ret
  exact ⟨_, rfl, o1, b1⟩
end Go.Proofs.YtjpihophigjbpaaGreatDoor.Ds
/-
  An item's text.
-/
namespace Go.Proofs.YtjpihophigjbpaaGreatDoor.Ds
open Go.RowKit

/-- One byte put behind bytes. -/
theorem app_byte {w : World} {ops : Array Oper} {rest : List Oper} {o : Oper} {a : Act} {Q : Exit → Act → World → Prop} (hgd : o.guard = none) (s x : Operand) (ho : o.op = .call { callee := .builtin .append, args := #[s, x], argTypes := #[TBy, TBy] })
    (base : Nat) (v : Value) (l : List UInt8) (c : UInt8) (w0 : World) (hs : a.eval s = v) (hown : OwnB w0 base v l) (hw : w = w0.alloc (.cells #[.int .u8 (c.toNat : Int)] TU8)) (g : Nat) (hg : g = w0.heap.size) (hx : a.eval x = .slice (some ⟨g, 0, none⟩) 1 1)
    (hlen : l.length ≤ 1000000000) (hbase : base ≤ w0.heap.size)
    (h : ∀ v' w', OwnB w' base v' (l ++ [c]) → Below base w0 w' → wpList Tryz.prog ops Q rest (a.put o.dst v') w') : wpList Tryz.prog ops Q (o :: rest) a w := by
  subst hw
  subst hg
  have hb : Below w0.heap.size w0 (w0.alloc (.cells #[.int .u8 (c.toNat : Int)] TU8)) := (Below.refl _ _).alloc (Nat.le_refl _) _
  refine app_mark hgd s x ho base v l [c] hs (hown.below hb) ⟨w0.heap.size, 0, none⟩ 1 1 hx rfl ?_ (by simp; omega) (by rw [World.size_alloc]; omega) ?_
  · intro j u hj
    have hh := heap_alloc_new w0 (.cells #[.int .u8 (c.toNat : Int)] TU8)
    have h0 : j = 0 := by
      have := (List.getElem?_eq_some_iff.1 hj).1
      rw [Lib.byteCells_length] at this
      simp at this
      omega
    subst h0
    have : u = .int .u8 (c.toNat : Int) := by simpa [Lib.byteCells] using hj.symm
    subst this
    rw [show (⟨w0.heap.size, 0, none⟩ : Addr).add 0 = ⟨w0.heap.size, 0, none⟩ from rfl]
    unfold World.cell?
    simp only [hh]
    rfl
  · intro v' w' o' b'
    exact h v' w' o' ((hb.mono hbase).trans b')
theorem back_own {w : World} {base : Nat} {v : Value} {l : List UInt8} (h : OwnB w base v l) : (convert TBy 9 v).run Tryz.prog w = .ok (.string (str l)) w := by
  obtain ⟨g, cap, rfl, hc⟩ := h.shape
  refine run_convert_bytes_back w TBy 9 TU8 ⟨g, 0, none⟩ cap l Tryz.underlying138 Tryz.underlying5 Tryz.underlying9 (fun j hj => ?_)
  exact hc j _ (by simp [Lib.byteCells, hj])
theorem word_len (k : Int) : (word k).length ≤ 10 := by
  unfold word
  repeat (first | decide | split)
theorem numT_len (n : Int) (h : n < 9223372036854775808) : (numT n).length ≤ 22 := by
  have := dec_len (max n 0).toNat (by omega)
  unfold numT
  rw [List.length_cons, List.length_append]
  split
  · simp only [List.length_cons, List.length_nil]; omega
  · simp only [List.length_nil]; omega
theorem nums_len (js : List Int) (h : ∀ n ∈ js, n < 9223372036854775808) : (js.flatMap numT).length ≤ 22 * js.length := by
  induction js with
  | nil => simp
  | cons x r ih =>
    have h1 := numT_len x (h x (by simp))
    have h2 := ih (fun n hn => h n (by simp [hn]))
    rw [List.flatMap_cons, List.length_append, List.length_cons]
    omega
theorem itemT_len (x : Itm) (h : ∀ n ∈ x.2, n < 9223372036854775808) : (itemT x).length ≤ 10 + 22 * x.2.length := by
  have h1 := word_len x.1
  have h2 := nums_len x.2 h
  unfold itemT
  split
  · rw [List.length_append]; omega
  · omega
/-- A call that answers a text, and makes memory. -/
def TP (w : World) (l : List UInt8) (e : Ending) (w' : World) : Prop := e = .returned (.string (str l)) ∧ Below w.heap.size w w'
set_option maxRecDepth 100000 in
set_option maxHeartbeats 4000000 in
theorem formatItem_any (k : Int) (js : List Int) (A : Option Addr) (cap : Nat) (w : World) (hT : Tab w) (hs : Ints w w.heap.size A js) (hl : js.length ≤ 1048576) (hj : ∀ n ∈ js, n < 9223372036854775808) :
    Calls Tryz.prog 74 #[.agg #[.int .i64 k, .slice A js.length cap]] w (TP w (itemT (k, js))) := by
  have hnj := fun W => namesJobs_any k W
  have hw := fun W => word_any k W
  have hwl := word_len k
  by_cases h14 : 1 ≤ k ∧ k ≤ 4
  · rw [decide_eq_true h14] at hnj
    have hE := fhid (show itemT (k, js) = word k ++ js.flatMap numT from if_pos h14)
    clear h14
    have hbS := bl_str (word k)
    have hsS := str_size (word k)
    generalize hS : str (word k) = S at *
    generalize word k = W0 at *
    replace hs := fhid hs
    replace hT := fhid hT
    replace hj := fhid hj
    replace hS := fhid hS
    go_enter Tryz.func74, Tryz.ntmps74
    go_upto_region 1 with fail
    have hi : IB (w.alloc (.cells #[.int .i64 k, .slice A js.length cap] 57)) w.heap.size 57 k (.slice A js.length cap) := heap_alloc_new w _
    have g0 : Below w.heap.size w (w.alloc (.cells #[.int .i64 k, .slice A js.length cap] 57)) := (Below.refl _ _).alloc (Nat.le_refl _) _
    generalize w.alloc _ = w1 at *
    obtain ⟨c0, c1, _, _, hz⟩ := hi.facts
    obtain ⟨cap0, hcv, ocv, bcv⟩ := conv_own w1 S w1.heap.size (Nat.le_refl _) (by omega)
    rw [hbS] at ocv
    rw [hsS] at ocv hcv
    generalize Lib.bytesWorld w1 TU8 S = w2 at *
    replace hi := fhid hi
    obtain ⟨c2, c3, _, _, hz2⟩ := (hi.out.below bcv hz).facts
    go_wp2_with (first
      | (go_at_call 102; (with_reducible refine (hnj _).mono ?_); rintro e w3 ⟨rfl, rfl⟩)
      | (go_at_call 104; (with_reducible refine (hw _).mono ?_); rintro e w3 ⟨rfl, rfl⟩))
    clear hcv c0 c1 hnj hw
    replace ocv := fhid ocv
    go_loopw [3, 20] (fun v i wr => ∃ j : Nat, j ≤ js.length ∧ i = .int .i64 (j : Int) ∧ OwnB wr w1.heap.size v (W0 ++ (js.take j).flatMap numT) ∧ Below w1.heap.size w1 wr) (fun _ i _ => js.length - (intOf i).toNat)
    case atStart => exact ⟨0, Nat.zero_le _, rfl, by rw [List.take_zero, List.flatMap_nil, List.append_nil]; exact ocv.out, bcv⟩
    case round =>
      obtain ⟨j, hjl, rfl, hO, hB⟩ := hrel
      have hsz := hB.size
      have gB := g0.trans (hB.mono g0.size)
      clear c2 c3
      obtain ⟨c2, c3, _, _, _⟩ := (hi.out.below hB hz).facts
      have hnl := nums_len (js.take j) (fun n hn => hj.out n (List.mem_of_mem_take hn))
      rw [List.length_take] at hnl
      have hlen : (W0 ++ (js.take j).flatMap numT).length ≤ 100000000 := by rw [List.length_append]; omega
      clear hnl
      by_cases hlt : j < js.length
      · obtain ⟨bb, o, rfl, hbb, hc⟩ := Ints.at_ hs.out hlt
        replace hc := (gB.cell (p := ⟨bb, o + j, none⟩) hbb).trans hc
        have hjx := hj.out js[j] (List.getElem_mem hlt)
        have hsn := fhid (show W0 ++ (js.take (j + 1)).flatMap numT = W0 ++ (js.take j).flatMap numT ++ numT js[j] by rw [List.take_succ_eq_append_getElem hlt, List.flatMap_append, List.append_assoc]; simp)
        have i1 : (j : Int) < js.length := by omega
        have i0 : (0 : Int) ≤ j := by omega
        generalize js[j] = x at *
        generalize W0 ++ (js.take j).flatMap numT = pre at *
        replace hO := fhid hO
        replace hlen := fhid hlen
        by_cases hx : x < 0
        · have hT2 := fhid (show pre ++ [58] ++ [45] ++ dec 0 = pre ++ numT x by
            unfold numT
            rw [if_pos hx, show (max x 0).toNat = 0 by omega]
            simp)
          have hmx : max x 0 = 0 := by omega
          have hxi : ¬ 0 ≤ x := by omega
          have hxi2 : x ≤ 0 := by omega
          go_wp2_with (first
            | (at_builtin; (refine app_byte rfl _ _ rfl w1.heap.size _ pre 58 wr rfl hO.out rfl _ rfl rfl (by have := hlen.out; omega) hsz ?_; intro v3 w3 o3 b3)
               have z3 := b3.size)
            | (at_builtin; (refine app_byte rfl _ _ rfl w1.heap.size _ (pre ++ [58]) 45 w3 rfl o3 rfl _ rfl rfl (by have := hlen.out; rw [List.length_append, List.length_singleton]; omega) (by omega) ?_; intro v4 w4 o4 b4)
               have z4 := b4.size)
            | (go_at_call 105; (refine (AppendInt_any w1.heap.size 0 _ (by omega) (by omega) _ (pre ++ [58] ++ [45]) _ (tab_below hT.out (gB.trans ((b3.trans b4).mono g0.size))) o4 (by omega) (by have := hlen.out; rw [List.length_append, List.length_append, List.length_singleton, List.length_singleton]; omega)).mono ?_); rintro e w5 ⟨v5, rfl, o5, b5⟩))
          go_roundw
          case rel => exact ⟨j + 1, by omega, by go_num, by rw [hsn.out, ← hT2.out]; exact o5, hB.trans ((b3.trans b4).trans b5)⟩
          case measure => simp [intOf]; omega
        · have hT2 := fhid (show pre ++ [58] ++ dec x.toNat = pre ++ numT x by
            unfold numT
            rw [if_neg hx, show (max x 0).toNat = x.toNat by omega]
            simp)
          have hmx : max x 0 = x := by omega
          have hxi : 0 ≤ x := by omega
          go_wp2_with (first
            | (at_builtin; (refine app_byte rfl _ _ rfl w1.heap.size _ pre 58 wr rfl hO.out rfl _ rfl rfl (by have := hlen.out; omega) hsz ?_; intro v3 w3 o3 b3)
               have z3 := b3.size)
            | (go_at_call 105; (refine (AppendInt_any w1.heap.size x.toNat _ (by omega) (by omega) _ (pre ++ [58]) _ (tab_below hT.out (gB.trans (b3.mono g0.size))) o3 (by omega) (by have := hlen.out; rw [List.length_append, List.length_singleton]; omega)).mono ?_); rintro e w5 ⟨v5, rfl, o5, b5⟩))
          go_roundw
          case rel => exact ⟨j + 1, by omega, by go_num, by rw [hsn.out, ← hT2.out]; exact o5, hB.trans (b3.trans b5)⟩
          case measure => simp [intOf]; omega
      · obtain rfl : j = js.length := by omega
        rw [List.take_length] at hO
        have hbk := back_own hO
        rw [← hE.out] at hbk
        have i1 : ¬ (js.length : Int) < js.length := by omega
        clear hlen
        replace hO := fhid hO
        generalize hST : str (itemT (k, js)) = ST at *
        replace hST := fhid hST
        go_wp2_with fail
        go_ret
        exact ⟨by rw [hST.out]; rfl, gB⟩
  · rw [decide_eq_false h14] at hnj
    have hE := fhid (show itemT (k, js) = word k from if_neg h14)
    clear h14
    generalize hS : str (word k) = S at *
    replace hS := fhid hS
    replace hs := fhid hs
    go_enter Tryz.func74, Tryz.ntmps74
    go_wp2_with (first
      | (go_at_call 102; (with_reducible refine (hnj _).mono ?_); rintro e w3 ⟨rfl, rfl⟩)
      | (go_at_call 104; (with_reducible refine (hw _).mono ?_); rintro e w3 ⟨rfl, rfl⟩))
    go_ret
    exact ⟨by rw [hE.out, hS.out]; rfl, (Below.refl _ _).alloc (Nat.le_refl _) _⟩
end Go.Proofs.YtjpihophigjbpaaGreatDoor.Ds
/-
  A dependency's text.
-/
namespace Go.Proofs.YtjpihophigjbpaaGreatDoor.Ds
open Go.RowKit

/-- Names, as cells. -/
def NV (ns : List (List UInt8)) : List Value := ns.map fun n => .string (str n)
theorem NV_len (ns : List (List UInt8)) : (NV ns).length = ns.length := List.length_map _
theorem NV_get (ns : List (List UInt8)) (j : Nat) (h : j < ns.length) (h' : j < (NV ns).length) : (NV ns)[j] = .string (str ns[j]) := by simp [NV]
theorem NV_app (a b : List (List UInt8)) : NV (a ++ b) = NV a ++ NV b := List.map_append
theorem infoString : (Tryz.prog.info? 9).map (fun i => (i.zero, i.size, i.bytes)) = some (some (.string ⟨#[]⟩), 1, 16) := by kernel_rfl
/-- A slice of the call's own holds these texts. -/
def OwnS (w : World) (base : Nat) (v : Value) (ns : List (List UInt8)) : Prop := w.ownsRow base 9 1 v ns.length (NV ns)
section
variable {w : World} {ops : Array Oper} {rest : List Oper} {o : Oper} {a : Act} {Q : Exit → Act → World → Prop}
theorem app_name (hgd : o.guard = none) (s x : Operand) (ho : o.op = .call { callee := .builtin .append, args := #[s, x], argTypes := #[51, 51] })
    (base : Nat) (v : Value) (ns : List (List UInt8)) (n : List UInt8) (S : ByteArray) (hS : S = str n) (w0 : World) (hs : a.eval s = v) (hown : OwnS w0 base v ns)
    (hw : w = w0.alloc (.cells #[.string S] 9)) (g : Nat) (hg : g = w0.heap.size) (hx : a.eval x = .slice (some ⟨g, 0, none⟩) 1 1) (hlen : ns.length ≤ 1048576) (hbase : base ≤ w0.heap.size)
    (h : ∀ v' w', OwnS w' base v' (ns ++ [n]) → Below base w0 w' → wpList Tryz.prog ops Q rest (a.put o.dst v') w') : wpList Tryz.prog ops Q (o :: rest) a w := by
  subst hS
  subst hw
  subst hg
  refine app_own 51 9 (.string ⟨#[]⟩) 1 16 Tryz.underlying51 infoString rfl (by decide) hgd s x ho base v ns.length (NV ns) hs (World.ownsRow.alloc hown _) (w0.heap.size + 1) (some ⟨w0.heap.size, 0, none⟩) 1 1 [.string (str n)] hx (one_cells w0 _ _) rfl (fun u hu => by simp at hu; rcases hu with rfl; rfl) (fun h => by cases h) (by omega) (by omega) (by rw [World.size_alloc]; omega) ?_
  intro v' w' h1 _ h3 _
  refine h v' w' ?_ (((Below.refl _ _).alloc hbase _).trans h3)
  unfold OwnS
  rw [NV_app, List.length_append]
  exact h1
end
theorem OwnS.below {w w' : World} {base : Nat} {v : Value} {ns : List (List UInt8)} (h : OwnS w base v ns) (hb : Below w.heap.size w w') : OwnS w' base v ns := ownsRow_below h hb
theorem OwnS.nil (w : World) (base : Nat) : OwnS w base (.slice none 0 0) [] := ownsRow_nil _ _ _ _
theorem map_str (ns : List (List UInt8)) : (ns.map str).map (fun x => x.data.toList) = ns := by
  induction ns with
  | nil => rfl
  | cons x r ih => simp [str] at ih ⊢; exact ih
theorem joinTail_le (B : Nat) (c : UInt8) (r : List (List UInt8)) (h : ∀ x ∈ r, x.length ≤ B) : (Go.Lib.joinTail [c] r).length ≤ (B + 1) * r.length := by
  induction r with
  | nil => simp [Go.Lib.joinTail]
  | cons x r ih =>
    have h1 := h x (by simp)
    have h2 := ih (fun y hy => h y (by simp [hy]))
    have e : Go.Lib.joinTail [c] (x :: r) = ([c] ++ x) ++ Go.Lib.joinTail [c] r := by simp [Go.Lib.joinTail]
    rw [e, List.length_append, List.length_append, List.length_cons, List.length_cons, List.length_nil, Nat.mul_add, Nat.mul_one]
    omega
theorem join_le (B : Nat) (c : UInt8) (ns : List (List UInt8)) (h : ∀ x ∈ ns, x.length ≤ B) : (Go.Lib.join ns [c]).length ≤ (B + 1) * ns.length := by
  cases ns with
  | nil => simp [Go.Lib.join]
  | cons x r =>
    have h1 := h x (by simp)
    have h2 := joinTail_le B c r (fun y hy => h y (by simp [hy]))
    rw [Go.Lib.join_cons, List.length_append, List.length_cons, Nat.mul_add, Nat.mul_one]
    omega
/-- Texts of the call's own, joined. -/
theorem join_any (base : Nat) (v : Value) (ns : List (List UInt8)) (c : UInt8) (w : World) (hown : OwnS w base v ns) (hl : ns.length ≤ 1048576) (h : ∀ x ∈ ns, x.length ≤ 33554432) :
    Calls Tryz.prog 69 #[v, .string ⟨#[c]⟩] w fun e w' => e = .returned (.string (str (Go.Lib.join ns [c]))) ∧ Below w.heap.size w w' := by
  obtain ⟨A, cap, rfl, hc, _, hs⟩ := ownsRow_shape hown
  by_cases hp : 0 < ns.length
  · obtain ⟨b, o, rfl, hb, hcell⟩ := hs (by rw [NV_len]; exact hp)
    have := Tryz.strings_Join b o cap (ns.map str) ⟨#[c]⟩ w (fun j x hx => by
      rw [List.getElem?_map] at hx
      cases hn : ns[j]? with
      | none => rw [hn] at hx; cases hx
      | some y =>
        rw [hn] at hx
        obtain ⟨hj, rfl⟩ := List.getElem?_eq_some_iff.1 hn
        have hx' : str ns[j] = x := by simpa using hx
        subst hx'
        rw [hcell j (by rw [NV_len]; exact hj), NV_get ns j hj]) hb (by rw [List.length_map]; omega) (by rw [List.length_map]; exact hc) (by
          rw [map_str]
          have := join_le 33554432 c ns h
          show (Go.Lib.join ns [c]).length ≤ _
          have : (33554432 + 1) * ns.length ≤ 33554433 * 1048576 := Nat.mul_le_mul_left _ hl
          omega)
    rw [map_str, List.length_map] at this
    exact this
  · obtain rfl : ns = [] := List.eq_nil_of_length_eq_zero (by omega)
    refine (Tryz.strings_Join_none A cap ⟨#[c]⟩ w).mono ?_
    rintro e w' ⟨rfl, rfl⟩
    exact ⟨by rw [show Go.Lib.join [] [c] = [] from rfl]; rfl, Below.refl _ _⟩
theorem enc44 : Utf8.encode 44 = ⟨#[44]⟩ := by kernel_rfl
theorem enc63 : Utf8.encode 63 = ⟨#[63]⟩ := by kernel_rfl
theorem conv_sep (any : Bool) (w : World) : (convert 5 9 (.int .u8 ((sepT any).toNat : Int))).run Tryz.prog w = .ok (.string ⟨#[sepT any]⟩) w := by
  cases any
  · rw [show ((sepT false).toNat : Int) = 44 from rfl, run_convert_int_string w 5 9 _ _ (by rw [Tryz.underlying5]; rfl) Tryz.underlying9, enc44]
    rfl
  · rw [show ((sepT true).toNat : Int) = 63 from rfl, run_convert_int_string w 5 9 _ _ (by rw [Tryz.underlying5]; rfl) Tryz.underlying9, enc63]
    rfl
theorem dep_texts (any : Bool) (l : List Itm) (hl : l.length ≤ 1048576) (hx : ∀ x ∈ l, x.2.length ≤ 1048576 ∧ ∀ n ∈ x.2, n < 9223372036854775808) : (l.map itemT).length ≤ 1048576 ∧ (∀ t ∈ l.map itemT, t.length ≤ 33554432) ∧ Go.Lib.join (l.map itemT) [sepT any] = depT any l := by
  refine ⟨by rw [List.length_map]; omega, fun t ht => ?_, rfl⟩
  obtain ⟨x, hx1, rfl⟩ := List.mem_map.1 ht
  obtain ⟨a, b⟩ := hx x hx1
  have := itemT_len x b
  omega
set_option maxRecDepth 100000 in
set_option maxHeartbeats 4000000 in
theorem FormatU_any (any : Bool) (l : List Itm) (A : Option Addr) (cap : Nat) (w : World) (hT : Tab w) (hs : Its w w.heap.size A l) (hl : l.length ≤ 1048576) (hx : ∀ x ∈ l, x.2.length ≤ 1048576 ∧ ∀ n ∈ x.2, n < 9223372036854775808) :
    Calls Tryz.prog 50 #[.agg #[.bool any, .slice A l.length cap]] w (TP w (depT any l)) := by
  obtain ⟨t1, t2, t3⟩ := dep_texts any l hl hx
  have hbt := fun W => between_any any W
  have hcv := fun W => conv_sep any W
  have hjn := fun base v W h => join_any base v (l.map itemT) (sepT any) W h t1 t2
  rw [t3] at hjn
  clear t1 t2 t3
  generalize hsq : sepT any = sq at *
  generalize hD : depT any l = D at *
  replace hsq := fhid hsq
  replace hD := fhid hD
  replace hs := fhid hs
  replace hT := fhid hT
  replace hx := fhid hx
  go_enter Tryz.func50, Tryz.ntmps50
  go_upto_region 1 with fail
  have hi : DB (w.alloc (.cells #[.bool any, .slice A l.length cap] 37)) w.heap.size 37 any (.slice A l.length cap) := heap_alloc_new w _
  have g0 : Below w.heap.size w (w.alloc (.cells #[.bool any, .slice A l.length cap] 37)) := (Below.refl _ _).alloc (Nat.le_refl _) _
  generalize w.alloc _ = w1 at *
  obtain ⟨c0, c1, _, _, hz⟩ := hi.facts
  replace hi := fhid hi
  go_wp2_with fail
  go_loopw [3, 9] (fun v i wr => ∃ j : Nat, j ≤ l.length ∧ i = .int .i64 (j : Int) ∧ OwnS wr w1.heap.size v ((l.take j).map itemT) ∧ Below w1.heap.size w1 wr) (fun _ i _ => l.length - (intOf i).toNat)
  case atStart => exact ⟨0, Nat.zero_le _, rfl, OwnS.nil _ _, Below.refl _ _⟩
  case round =>
    obtain ⟨j, hjl, rfl, hO, hB⟩ := hrel
    have hsz := hB.size
    have gB := g0.trans (hB.mono g0.size)
    clear c0 c1
    obtain ⟨c0, c1, _, _, _⟩ := (hi.out.below hB hz).facts
    by_cases hlt : j < l.length
    · have hsW := hs.out.below gB
      obtain ⟨bb, o, rfl, hbb, hc1, A', cp, hc2, hjc, hcm, hjs⟩ := hsW.at_ hlt
      obtain ⟨x1, x2⟩ := hx.out l[j] (List.getElem_mem hlt)
      have hsn := fhid (show (l.take (j + 1)).map itemT = (l.take j).map itemT ++ [itemT l[j]] by rw [List.take_succ_eq_append_getElem hlt, List.map_append]; rfl)
      have i1 : (j : Int) < l.length := by omega
      have i0 : (0 : Int) ≤ j := by omega
      have hln : ((l.take j).map itemT).length ≤ 1048576 := by rw [List.length_map, List.length_take]; omega
      clear hsW
      generalize l[j] = x at *
      obtain ⟨k, js⟩ := x
      simp only at hc1 hc2 hjc hjs x1 x2
      generalize (l.take j).map itemT = pre at *
      have bA : Below wr.heap.size wr (wr.alloc (.cells #[.int .i64 k, .slice A' js.length cp] 57)) := (Below.refl _ _).alloc (Nat.le_refl _) _
      have zA : (wr.alloc (.cells #[.int .i64 k, .slice A' js.length cp] 57)).heap.size = wr.heap.size + 1 := World.size_alloc _ _
      have hfi := formatItem_any k js A' cp (wr.alloc (.cells #[.int .i64 k, .slice A' js.length cp] 57)) (tab_below hT.out (gB.trans (bA.mono gB.size))) ((hjs.below (bA.mono gB.size)).more (by have := gB.size; omega)) (by omega) x2
      replace hln := fhid hln
      replace hO := fhid hO
      replace hjs := fhid hjs
      replace x2 := fhid x2
      replace zA := fhid zA
      go_wp2_with (first
        | (go_at_call 74; (with_reducible refine hfi.mono ?_); rintro e w3 ⟨rfl, b3⟩
           have o3 := fhid (OwnS.below (OwnS.below hO.out bA) b3)
           have z3 := b3.size
           rw [zA.out] at z3
           generalize hST : str (itemT (k, js)) = ST at *
           replace hST := fhid hST)
        | (at_builtin; (refine app_name rfl _ _ rfl w1.heap.size _ pre (itemT (k, js)) ST hST.out.symm w3 rfl o3.out rfl _ rfl rfl (by have := hln.out; omega) (by omega) ?_; intro v4 w4 o4 b4)))
      go_roundw
      case rel => exact ⟨j + 1, by omega, by go_num, by rw [hsn.out]; exact o4, hB.trans ((bA.mono hsz).trans ((b3.mono (by rw [zA.out]; omega)).trans b4))⟩
      case measure => simp [intOf]; omega
    · obtain rfl : j = l.length := by omega
      rw [List.take_length] at hO
      have hj2 := hjn _ _ _ hO
      have i1 : ¬ (l.length : Int) < l.length := by omega
      replace hO := fhid hO
      clear hjn
      generalize hST : str D = ST at *
      replace hST := fhid hST
      go_wp2_with (first
        | (go_at_call 72; (with_reducible refine (hbt _).mono ?_); rintro e w2 ⟨rfl, rfl⟩)
        | (go_at_call 69; (with_reducible refine hj2.mono ?_); rintro e w3 ⟨rfl, b3⟩))
      go_ret
      exact ⟨by rw [hST.out]; rfl, gB.trans (b3.mono gB.size)⟩
theorem Format_any (any : Bool) (l : List Itm) (A : Option Addr) (cap : Nat) (w : World) (hT : Tab w) (hs : Its w w.heap.size A l) (hl : l.length ≤ 100) (hx : ∀ x ∈ l, x.2.length ≤ 1000 ∧ ∀ n ∈ x.2, n < 9223372036854775808) :
    Calls Tryz.prog 50 #[.agg #[.bool any, .slice A l.length cap]] w (TP w (depT any l)) :=
  FormatU_any any l A cap w hT hs (by omega) fun x h => ⟨by have := (hx x h).1; omega, (hx x h).2⟩
end Go.Proofs.YtjpihophigjbpaaGreatDoor.Ds
