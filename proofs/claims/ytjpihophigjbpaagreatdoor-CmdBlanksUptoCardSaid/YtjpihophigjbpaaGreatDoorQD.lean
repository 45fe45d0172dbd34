/-
  Parts: QOpen QWit QLBack.
-/
import Derived.Test.YtjpihophigjbpaaGreatDoorQC
import Derived.Deep.Slices
import Derived.Deep.Strs
import Derived.Deep.DeepHandedRow
import Derived.Deep.RegionHeld3
set_option linter.unusedSimpArgs false
set_option linter.unusedVariables false
/-
  Commands that came in, and how much they have.
-/
namespace Go.Proofs.YtjpihophigjbpaaGreatDoor
open Go.Joins Go.ChangeShapes Go.WideShapes Go.ChangeAt Go.WideMaps Go.WideElems Go.RowKit Go.Deep Vs

theorem bulk_mem {H : Type} : ∀ {l : List (DataW H)} {d : DataW H}, d ∈ l → Rows.uptoBulk d ≤ Rows.uptoBulkAll l
  | x :: l, d, h => by
    simp only [Rows.uptoBulkAll]
    rcases List.mem_cons.1 h with rfl | h
    · omega
    · have := bulk_mem h; omega
theorem bulk_pos10 {H : Type} (d : DataW H) : 1 ≤ Rows.uptoBulk d := by
  cases d with
  | lit l => cases l <;> simp [Rows.uptoBulk]
  | nil => simp [Rows.uptoBulk]
  | ptr d => simp [Rows.uptoBulk]
  | slice elems spare => simp [Rows.uptoBulk]
  | agg parts => simp [Rows.uptoBulk]
  | iface t d => simp [Rows.uptoBulk]
  | map entries => simp [Rows.uptoBulk]
  | held h => simp [Rows.uptoBulk]
theorem bulk_count10 {H : Type} (l : List (DataW H)) : l.length ≤ Rows.uptoBulkAll l := by
  induction l with
  | nil => simp [Rows.uptoBulkAll]
  | cons x r ih => have := bulk_pos10 x; simp only [Rows.uptoBulkAll, List.length_cons]; omega
theorem bulk_row {H : Type} (elems spare : List (DataW H)) : elems.length ≤ Rows.uptoBulk (.slice elems spare) := by
  have := bulk_count10 elems
  simp only [Rows.uptoBulk]; omega
theorem bulk_elem {H : Type} {elems spare : List (DataW H)} {d : DataW H} (h : d ∈ elems) : Rows.uptoBulk d ≤ Rows.uptoBulk (.slice elems spare) := by
  have := bulk_mem h
  simp only [Rows.uptoBulk]; omega
theorem bulk_part {H : Type} {parts : List (DataW H)} {d : DataW H} (h : d ∈ parts) : Rows.uptoBulk d ≤ Rows.uptoBulk (.agg parts) := by
  have := bulk_mem h
  simp only [Rows.uptoBulk]; omega
theorem cellsInt10 : Tryz.prog.cellsOf 3 = 1 := by kernel_rfl
theorem cellsBool10 : Tryz.prog.cellsOf 4 = 1 := by kernel_rfl
theorem cellsInts10 : Tryz.prog.cellsOf 27 = 1 := by kernel_rfl
theorem cellsRIt10 : Tryz.prog.cellsOf 56 = 2 := by kernel_rfl
theorem cellsRIts10 : Tryz.prog.cellsOf 24 = 1 := by kernel_rfl
theorem cellsRDep10 : Tryz.prog.cellsOf 26 = 2 := by kernel_rfl
theorem cellsRAr10 : Tryz.prog.cellsOf 29 = 2 := by kernel_rfl
theorem cellsVec10 : Tryz.prog.cellsOf 23 = 3 := by kernel_rfl
theorem cellsRCmd : Tryz.prog.cellsOf 31 = 17 := by kernel_rfl
theorem wf_I64' {n : Int} (h : (Lit.int .i64 n).wf = true) : I64 n := by
  have : -9223372036854775808 ≤ n ∧ n ≤ 9223372036854775807 := by simpa [Lit.wf, IntKind.min, IntKind.max, IntKind.signed, IntKind.bits] using h
  exact this
/-- A slice of numbers, as it lies in a cell. -/
theorem ints_cellsB {H : Type} {enc : TypeId × Value → H} {W : World} {q : Nat} {v : Value} {x : DataW H × List MemPlace}
    (hf : DataW.trod enc Tryz.prog W 0 (fun _ => true) true q 27 [v] = some x) :
    ∃ (A : Option Addr) (ns : List Int) (cap : Nat), v = .slice A ns.length cap ∧ ns.length ≤ cap ∧ cap ≤ maxLen ∧ Ds.Ints W W.heap.size A ns ∧ (∀ n ∈ ns, I64 n) ∧ ns.length ≤ Rows.uptoBulk x.1 := by
  rcases open_ints Tryz.underlying27 Tryz.underlying3 cellsInt10 hf with ⟨hcs, _⟩ | ⟨a, len', cap', zs, hcs, _, hl, hm, hz, hd, hcell, hw⟩
  · injection hcs with hcs
    subst hcs
    exact ⟨none, [], 0, rfl, Nat.le_refl _, by unfold maxLen; omega, Ds.SegP.nil _ _ _, (fun n hn => by cases hn), Nat.zero_le _⟩
  · injection hcs with hcs
    subst hcs
    simp at hz
    have hlen : (zs.take len').length = len' := by rw [List.length_take]; omega
    refine ⟨some a, zs.take len', cap', by rw [hlen], by rw [hlen]; exact hl, hm, fun h0 => ?_, fun n hn => wf_I64' (hw n (List.mem_of_mem_take hn)), ?_⟩
    · rw [Ds.IV_len, hlen] at h0
      obtain ⟨hsp, hb⟩ := plain_addr10 (hcell 0 (by omega))
      obtain ⟨b, off, sp⟩ := a
      have hsp : sp = none := by simpa [Addr.add] using hsp
      subst hsp
      rw [add_off10] at hb
      refine ⟨b, off, rfl, hb, fun j hj => ?_⟩
      rw [Ds.IV_len, hlen] at hj
      have := hcell j (by omega)
      rw [add_off10] at this
      rw [this, Ds.IV_get _ _ (by rw [hlen]; exact hj), List.getElem_take, List.getD_eq_getElem?_getD, List.getElem?_eq_getElem (by omega), Option.getD_some]
    · rw [hd]
      have := bulk_row (H := H) (lits .i64 (zs.take len')) (lits .i64 (zs.drop len'))
      have e : (lits (H := H) .i64 (zs.take len')).length = (zs.take len').length := by simp [lits]
      show (zs.take len').length ≤ Rows.uptoBulk (.slice (lits .i64 (zs.take len')) (lits .i64 (zs.drop len')))
      omega
set_option maxRecDepth 100000 in
/-- Two cells that read as an item. -/
theorem item_cellsB {H : Type} {enc : TypeId × Value → H} {W : World} {n : Nat} {cs : List Value} {x : DataW H × List MemPlace}
    (h : DataW.trod enc Tryz.prog W 0 (fun _ => true) true n 56 cs = some x) (hl : cs.length = 2) : ∃ (k : Int) (A : Option Addr) (ns : List Int) (cap : Nat), cs = [.int .i64 k, .slice A ns.length cap] ∧ ns.length ≤ cap ∧ cap ≤ maxLen ∧ Ds.Ints W W.heap.size A ns ∧ (∀ n ∈ ns, I64 n) ∧ ns.length ≤ Rows.uptoBulk x.1 := by
  obtain ⟨y0, y1, n', hx, _, h0, h1⟩ := trod_struct2 Tryz.underlying56 h
  match cs, hl with
  | [c0, c1], _ =>
    simp only [cellsInt10, cellsInts10, List.drop_zero, List.drop_succ_cons, List.take_succ_cons, List.take_zero] at h0 h1
    obtain ⟨a, ea, _, wa⟩ := DataW.trod_int Tryz.underlying3 h0
    obtain ⟨A, ns, cap, rfl, r1, r2, r3, r4, r5⟩ := ints_cellsB h1
    injection ea with ea _
    subst ea
    refine ⟨a, A, ns, cap, rfl, r1, r2, r3, r4, ?_⟩
    rw [hx]
    have := bulk_part (H := H) (parts := [y0.1, y1.1]) (d := y1.1) (by simp)
    exact Nat.le_trans r5 this
/-- An item that lies at two cells. -/
def ItAt10 (W : World) (M b o : Nat) (x : Ds.Itm) (A : Option Addr) (c : Nat) : Prop := W.cell? ⟨b, o, none⟩ = some (.int .i64 x.1) ∧ W.cell? ⟨b, o + 1, none⟩ = some (.slice A x.2.length c) ∧ x.2.length ≤ c ∧ c ≤ maxLen ∧ Ds.Ints W W.heap.size A x.2 ∧ (∀ n ∈ x.2, I64 n) ∧ x.2.length ≤ M
theorem its_of10 {W : World} {M b o : Nat} (len : Nat) (hb : b < W.heap.size) (h : ∀ i, i < len → ∃ x A c, ItAt10 W M b (o + i * 2) x A c) : ∃ l : List Ds.Itm, l.length = len ∧ Ds.Its W W.heap.size (some ⟨b, o, none⟩) l ∧ ∀ x ∈ l, x.2.length ≤ M ∧ ∀ n ∈ x.2, I64 n := by
  induction len with
  | zero => exact ⟨[], rfl, Ds.Its.nil _ _ _, fun x hx => by cases hx⟩
  | succ len ih =>
    obtain ⟨l, hl, ⟨xs, h1, h2⟩, h3⟩ := ih (fun i hi => h i (by omega))
    obtain ⟨x, A, c, a1, a2, a3, a4, a5, a6, a7⟩ := h len (by omega)
    have hxl := h2.1
    refine ⟨l ++ [x], by rw [List.length_append, hl]; rfl, ⟨xs ++ [.int .i64 x.1, .slice A x.2.length c], fun _ => ⟨b, o, rfl, hb, fun j hj => ?_⟩, h2.app (Ds.ItC.one a3 a4 a5)⟩, fun y hy => ?_⟩
    · rw [List.length_append] at hj
      simp only [List.length_cons, List.length_nil] at hj
      by_cases hj' : j < xs.length
      · rw [List.getElem_append_left hj']
        obtain ⟨b', o', e, _, hc⟩ := h1 (by omega)
        injection e with e
        injection e with e1 e2 _
        subst e1 e2
        exact hc j hj'
      · rw [List.getElem_append_right (by omega)]
        rcases (show j = xs.length ∨ j = xs.length + 1 by omega) with e | e
        · have e2 : j - xs.length = 0 := by omega
          simp only [e2]
          rw [show o + j = o + len * 2 by omega]
          exact a1
        · have e2 : j - xs.length = 1 := by omega
          simp only [e2]
          rw [show o + j = o + len * 2 + 1 by omega]
          exact a2
    · rcases List.mem_append.1 hy with hy | hy
      · exact h3 y hy
      · rw [List.mem_singleton.1 hy]
        exact ⟨a7, a6⟩
set_option maxRecDepth 100000 in
/-- A slice of items, as it lies in a cell. -/
theorem its_cellsB {H : Type} {enc : TypeId × Value → H} {W : World} {q : Nat} {v : Value} {x : DataW H × List MemPlace}
    (hf : DataW.trod enc Tryz.prog W 0 (fun _ => true) true q 24 [v] = some x) :
    ∃ (A : Option Addr) (l : List Ds.Itm) (cap : Nat), v = .slice A l.length cap ∧ l.length ≤ cap ∧ cap ≤ maxLen ∧ Ds.Its W W.heap.size A l ∧ (∀ x ∈ l, ∀ n ∈ x.2, I64 n) ∧ l.length ≤ Rows.uptoBulk x.1 ∧ ∀ y ∈ l, y.2.length ≤ Rows.uptoBulk x.1 := by
  rcases open_slice Tryz.underlying24 hf with ⟨hcs, _⟩ | ⟨a, len, cap, m, n, D, Pl, hcs, _, hlc, hcm, hm, hx, hi⟩
  · injection hcs with hcs
    subst hcs
    exact ⟨none, [], 0, rfl, Nat.le_refl _, by unfold maxLen; omega, Ds.Its.nil _ _ _, (fun x hx => by cases hx), Nat.zero_le _, (fun x hx => by cases hx)⟩
  · injection hcs with hcs
    subst hcs
    have hm' : m = cap := by simpa using hm
    clear hm
    have hbl : len ≤ Rows.uptoBulk x.1 := by
      rw [hx]
      have := bulk_row (H := H) ((List.range len).map D) ((List.range (m - len)).map fun j => D (len + j))
      rw [List.length_map, List.length_range] at this
      exact this
    have hbd : ∀ i, i < len → Rows.uptoBulk (D i) ≤ Rows.uptoBulk x.1 := fun i h => by
      rw [hx]
      exact bulk_elem (List.mem_map.2 ⟨i, List.mem_range.2 h, rfl⟩)
    generalize Rows.uptoBulk x.1 = M at *
    by_cases h0 : len = 0
    · subst h0
      exact ⟨some a, [], cap, rfl, Nat.zero_le _, hcm, Ds.Its.nil _ _ _, (fun x hx => by cases hx), Nat.zero_le _, (fun x hx => by cases hx)⟩
    · have hcell : ∀ i, i < len → ∃ (k : Int) (A : Option Addr) (ns : List Int) (c : Nat), W.cell? (a.add (i * 2)) = some (.int .i64 k) ∧ W.cell? ((a.add (i * 2)).add 1) = some (.slice A ns.length c) ∧ ns.length ≤ c ∧ c ≤ maxLen ∧ Ds.Ints W W.heap.size A ns ∧ (∀ n ∈ ns, I64 n) ∧ ns.length ≤ M := by
        intro i hlt
        obtain ⟨cs', hc, ht⟩ := hi i (by omega)
        rw [cellsRIt10] at hc
        obtain ⟨_, hcl, hat⟩ := World.cells?_some hc
        obtain ⟨k, A, ns, c, rfl, r1, r2, r3, r4, r5⟩ := item_cellsB ht hcl
        refine ⟨k, A, ns, c, ?_, hat 1 (by omega), r1, r2, r3, r4, Nat.le_trans r5 (hbd i hlt)⟩
        have := hat 0 (by omega)
        simpa [Addr.add] using this
      obtain ⟨k0, _, _, _, hz, _⟩ := hcell 0 (by omega)
      have hz' : W.cell? a = some (.int .i64 k0) := by simpa [Addr.add] using hz
      obtain ⟨hsp, hb⟩ := plain_addr10 hz'
      obtain ⟨b, o, sp⟩ := a
      have hsp' : sp = none := hsp
      subst hsp'
      obtain ⟨l, hl, hI, hx⟩ := its_of10 (o := o) (M := M) len hb (fun i hlt => by
        obtain ⟨k, A, ns, c, h1, h2, h3⟩ := hcell i hlt
        rw [add_off10] at h1 h2
        rw [add_off10] at h2
        exact ⟨(k, ns), A, c, h1, h2, h3⟩)
      exact ⟨some ⟨b, o, none⟩, l, cap, by rw [hl], by rw [hl]; exact hlc, hcm, hI, (fun x h => (hx x h).2), by omega, fun y h => (hx y h).1⟩
theorem has_its {W : World} {A : Option Addr} {l : List Ds.Itm} {cap : Nat} (h1 : l.length ≤ cap) (h2 : cap ≤ maxLen) (h : Ds.Its W W.heap.size A l) : HasI NoX W (.slice A l.length cap) l := by
  obtain ⟨xs, s1, s2⟩ := h
  exact ⟨A, cap, rfl, h1, h2, xs, s1.imp fun _ _ hb => ⟨fun h => h.elim, hb⟩, s2.imp fun _ _ hb => ⟨fun h => h.elim, hb⟩⟩
theorem has_ints {W : World} {A : Option Addr} {l : List Int} {cap : Nat} (h1 : l.length ≤ cap) (h2 : cap ≤ maxLen) (h : Ds.Ints W W.heap.size A l) : HasA NoX W (.slice A l.length cap) l :=
  ⟨A, cap, rfl, h1, h2, h.imp fun _ _ hb => ⟨fun h => h.elim, hb⟩⟩
/-- What a command that came in is, and how much it has. -/
def CameC (W : World) (M : Nat) (l : List Value) (c : CmdC) : Prop := InvC c l W ∧ (I64 c.nodes ∧ I64 c.time ∧ I64 c.run ∧ I64 c.job) ∧ (I64 c.req.1 ∧ I64 c.req.2.1 ∧ I64 c.req.2.2) ∧ c.items.length ≤ M ∧ (∀ x ∈ c.items, x.2.length ≤ M ∧ ∀ n ∈ x.2, n < 9223372036854775808) ∧ c.idx.length ≤ M ∧ c.user.length ≤ M ∧ c.part.length ≤ M ∧ c.qos.length ≤ M ∧ c.name.length ≤ M ∧ c.host.length ≤ M
theorem CameC.wide {W : World} {M : Nat} {l : List Value} {c : CmdC} (h : CameC W M l c) (hM : M ≤ 1048576) : InvC c l W ∧ WideC c ∧ (∀ i, i < 10 → (txtQ i c).length ≤ 1125899906842624) ∧ c.host.length ≤ 1125899906842624 ∧ c.idx.length ≤ 10000000 := by
  obtain ⟨h1, h2, h3, h4, h5, h6, h7, h8, h9, h10, h11⟩ := h
  have hw : WideC c := ⟨h2, h3, by omega, fun x hx => ⟨by have := (h5 x hx).1; omega, (h5 x hx).2⟩⟩
  exact ⟨h1, hw, txt_wide hw (by omega) (by omega) (by omega) (by omega), by omega, by omega⟩
set_option maxRecDepth 100000 in
set_option maxHeartbeats 2000000 in
theorem cmd_cells {H : Type} {enc : TypeId × Value → H} {W : World} {n : Nat} {cs : List Value} {x : DataW H × List MemPlace}
    (h : DataW.trod enc Tryz.prog W 0 (fun _ => true) true n 31 cs = some x) (hl : cs.length = 17) : ∃ (v0 v5 v6 v7 v8 v9 vx vl vj : Int) (v1 v2 v3 v4 vh : ByteArray) (vb : Bool) (vA vD : Option Addr) (vn vc vm ve : Nat), ∃ c : CmdC, cs = [.int .i64 v0, .string v1, .string v2, .string v3, .string v4, .int .i64 v5, .int .i64 v6, .int .i64 v7, .int .i64 v8, .int .i64 v9, .int .i64 vx, .bool vb, .slice vA vn vc, .slice vD vm ve, .int .i64 vl, .int .i64 vj, .string vh] ∧ CameC W (Rows.uptoBulk x.1) [.int .i64 v0, .string v1, .string v2, .string v3, .string v4, .int .i64 v5, .int .i64 v6, .int .i64 v7, .int .i64 v8, .int .i64 v9, .int .i64 vx, .bool vb, .slice vA vn vc, .slice vD vm ve, .int .i64 vl, .int .i64 vj, .string vh] c := by
  obtain ⟨xs, m, _, rfl, _, hlen, hf⟩ := DataW.trod_struct Tryz.underlying31 h
  match xs, hlen with
  | [y0, y1, y2, y3, y4, y5, y6, y7, y8, y9, y10, y11, y12], _ =>
    match cs, hl with
    | [c0, c1, c2, c3, c4, c5, c6, c7, c8, c9, c10, c11, c12, c13, c14, c15, c16], _ =>
      have f0 := hf 0 _ rfl
      have f1 := hf 1 _ rfl
      have f2 := hf 2 _ rfl
      have f3 := hf 3 _ rfl
      have f4 := hf 4 _ rfl
      have f5 := hf 5 _ rfl
      have f6 := hf 6 _ rfl
      have f7 := hf 7 _ rfl
      have f8 := hf 8 _ rfl
      have f9 := hf 9 _ rfl
      have f10 := hf 10 _ rfl
      have f11 := hf 11 _ rfl
      have f12 := hf 12 _ rfl
      simp only [cellsInt10, cellsString10, cellsVec10, cellsRDep10, cellsRAr10, List.drop_zero, List.drop_succ_cons, List.take_succ_cons, List.take_zero, List.getElem?_cons_zero, List.getElem?_cons_succ] at f0 f1 f2 f3 f4 f5 f6 f7 f8 f9 f10 f11 f12
      obtain ⟨k0, e, z0, w0⟩ := DataW.trod_int Tryz.underlying3 f0
      injection e with e _
      subst e
      obtain ⟨s1, e, z1, _⟩ := DataW.trod_string Tryz.underlying9 f1
      injection e with e _
      subst e
      obtain ⟨s2, e, z2, _⟩ := DataW.trod_string Tryz.underlying9 f2
      injection e with e _
      subst e
      obtain ⟨s3, e, z3, _⟩ := DataW.trod_string Tryz.underlying9 f3
      injection e with e _
      subst e
      obtain ⟨s4, e, z4, _⟩ := DataW.trod_string Tryz.underlying9 f4
      injection e with e _
      subst e
      obtain ⟨k5, e, z5, w5⟩ := DataW.trod_int Tryz.underlying3 f5
      injection e with e _
      subst e
      obtain ⟨k6, e, z6, w6⟩ := DataW.trod_int Tryz.underlying3 f6
      injection e with e _
      subst e
      obtain ⟨k7, e, z7, w7⟩ := DataW.trod_int Tryz.underlying3 f7
      injection e with e _
      subst e
      obtain ⟨xv, mv, _, z8, _, hlv, hfv⟩ := DataW.trod_struct Tryz.underlying23 f8
      match xv, hlv with
      | [r0, r1, r2], _ =>
        have g0 := hfv 0 _ rfl
        have g1 := hfv 1 _ rfl
        have g2 := hfv 2 _ rfl
        simp only [cellsInt10, List.drop_zero, List.drop_succ_cons, List.take_succ_cons, List.take_zero, List.getElem?_cons_zero, List.getElem?_cons_succ] at g0 g1 g2
        obtain ⟨k8, e, _, w80⟩ := DataW.trod_int Tryz.underlying3 g0
        injection e with e _
        subst e
        obtain ⟨k9, e, _, w81⟩ := DataW.trod_int Tryz.underlying3 g1
        injection e with e _
        subst e
        obtain ⟨k10, e, _, w82⟩ := DataW.trod_int Tryz.underlying3 g2
        injection e with e _
        subst e
        obtain ⟨d0, d1, _, z9, _, h0, h1⟩ := trod_struct2 Tryz.underlying26 f9
        simp only [cellsBool10, cellsRIts10, List.drop_zero, List.drop_succ_cons, List.take_succ_cons, List.take_zero] at h0 h1
        obtain ⟨b, e, _⟩ := DataW.trod_bool Tryz.underlying4 h0
        injection e with e _
        subst e
        obtain ⟨Ai, il, ci, rfl, i1, i2, i3, i4, i5, i6⟩ := its_cellsB h1
        obtain ⟨d2, d3, _, z10, _, h2, h3⟩ := trod_struct2 Tryz.underlying29 f10
        simp only [cellsInt10, cellsInts10, List.drop_zero, List.drop_succ_cons, List.take_succ_cons, List.take_zero] at h2 h3
        obtain ⟨Aa, al, ca, rfl, a1, a2, a3, a4, a5⟩ := ints_cellsB h2
        obtain ⟨lim, e, _, _⟩ := DataW.trod_int Tryz.underlying3 h3
        injection e with e _
        subst e
        obtain ⟨k15, e, z11, w11⟩ := DataW.trod_int Tryz.underlying3 f11
        injection e with e _
        subst e
        obtain ⟨s16, e, z12, _⟩ := DataW.trod_string Tryz.underlying9 f12
        injection e with e _
        subst e
        have hp : ∀ y : DataW H × List MemPlace, y ∈ [y0, y1, y2, y3, y4, y5, y6, y7, y8, y9, y10, y11, y12] → Rows.uptoBulk y.1 ≤ Rows.uptoBulk (.agg ([y0, y1, y2, y3, y4, y5, y6, y7, y8, y9, y10, y11, y12].map (·.1)) : DataW H) := fun y hy => bulk_part (List.mem_map.2 ⟨y, hy, rfl⟩)
        have b1 := hp y1 (by simp)
        have b2 := hp y2 (by simp)
        have b3 := hp y3 (by simp)
        have b4 := hp y4 (by simp)
        have b9 := hp y9 (by simp)
        have b10 := hp y10 (by simp)
        have b12 := hp y12 (by simp)
        show ∃ (v0 v5 v6 v7 v8 v9 vx vl vj : Int) (v1 v2 v3 v4 vh : ByteArray) (vb : Bool) (vA vD : Option Addr) (vn vc vm ve : Nat), ∃ c : CmdC, _ ∧ CameC W (Rows.uptoBulk (.agg ([y0, y1, y2, y3, y4, y5, y6, y7, y8, y9, y10, y11, y12].map (·.1)) : DataW H)) _ c
        generalize Rows.uptoBulk (.agg ([y0, y1, y2, y3, y4, y5, y6, y7, y8, y9, y10, y11, y12].map (·.1)) : DataW H) = M at *
        have c9 : Rows.uptoBulk d1.1 ≤ M := by
          rw [z9] at b9
          exact Nat.le_trans (bulk_part (H := H) (parts := [d0.1, d1.1]) (by simp)) b9
        have c10 : Rows.uptoBulk d2.1 ≤ M := by
          rw [z10] at b10
          exact Nat.le_trans (bulk_part (H := H) (parts := [d2.1, d3.1]) (by simp)) b10
        rw [z1] at b1
        rw [z2] at b2
        rw [z3] at b3
        rw [z4] at b4
        rw [z12] at b12
        simp only [Rows.uptoBulk] at b1 b2 b3 b4 b12
        refine ⟨k0, k5, k6, k7, k8, k9, k10, lim, k15, s1, s2, s3, s4, s16, b, Ai, Aa, il.length, ci, al.length, ca, ⟨k0, bl s1, bl s2, bl s3, bl s4, k5, k6, k7, (k8, k9, k10), b, il, al, lim, k15, bl s16⟩, rfl, ⟨Ai, ci, Aa, ca, ?_, has_its i1 i2 i3, has_ints a1 a2 a3⟩, ⟨wf_I64' w5, wf_I64' w6, wf_I64' w7, wf_I64' w11⟩, ⟨wf_I64' w80, wf_I64' w81, wf_I64' w82⟩, by show il.length ≤ M; omega, fun x hx => ⟨by have := i6 x hx; omega, fun n hn => by have := (i4 x hx n hn).2; omega⟩, by show al.length ≤ M; omega, ?_, ?_, ?_, ?_, ?_⟩
        · simp only [cellsC, str_bl]
        · show (bl s1).length ≤ M
          unfold bl; omega
        · show (bl s2).length ≤ M
          unfold bl; omega
        · show (bl s3).length ≤ M
          unfold bl; omega
        · show (bl s4).length ≤ M
          unfold bl; omega
        · show (bl s16).length ≤ M
          unfold bl; omega
set_option maxRecDepth 100000 in
/-- A command that came in. -/
theorem open_cmd {H : Type} {enc : TypeId × Value → H} {W : World} {base : Nat} {v : Value} {d : DataW H} {ps : List MemPlace}
    (hv : Value.okWide Tryz.prog W .any base 31 v) (h : DataW.Trod enc Tryz.prog W 0 (fun _ => true) true 31 v d ps) :
    ∃ (v0 v5 v6 v7 v8 v9 vx vl vj : Int) (v1 v2 v3 v4 vh : ByteArray) (vb : Bool) (vA vD : Option Addr) (vn vc vm ve : Nat), ∃ c : CmdC, v = .agg #[.int .i64 v0, .string v1, .string v2, .string v3, .string v4, .int .i64 v5, .int .i64 v6, .int .i64 v7, .int .i64 v8, .int .i64 v9, .int .i64 vx, .bool vb, .slice vA vn vc, .slice vD vm ve, .int .i64 vl, .int .i64 vj, .string vh] ∧ CameC W (Rows.uptoBulk d) [.int .i64 v0, .string v1, .string v2, .string v3, .string v4, .int .i64 v5, .int .i64 v6, .int .i64 v7, .int .i64 v8, .int .i64 v9, .int .i64 vx, .bool vb, .slice vA vn vc, .slice vD vm ve, .int .i64 vl, .int .i64 vj, .string vh] c := by
  obtain ⟨cs, rfl, hsz⟩ := okWide_struct Tryz.underlying31 hv
  rw [cellsRCmd] at hsz
  obtain ⟨fuel, hf⟩ := h
  obtain ⟨l⟩ := cs
  obtain ⟨v0, v5, v6, v7, v8, v9, vx, vl, vj, v1, v2, v3, v4, vh, vb, vA, vD, vn, vc, vm, ve, c, rfl, hc⟩ := cmd_cells hf hsz
  exact ⟨v0, v5, v6, v7, v8, v9, vx, vl, vj, v1, v2, v3, v4, vh, vb, vA, vD, vn, vc, vm, ve, c, rfl, hc⟩
end Go.Proofs.YtjpihophigjbpaaGreatDoor
/-
  A start that fits, of a row with a condition.
-/
namespace Go.Proofs.YtjpihophigjbpaaGreatDoor
open Go.ChangeShapes Go.WideShapes Go.ChangeAt Go.WideMaps Go.WideElems Go.RowKit Vs
/-- There is an input that fits. -/
theorem witness10 {H : Type} {enc : TypeId × Value → H} {C : Checked} {os : Os} {f : FuncId} {fn : Func} {s : OpenSpec} {conds : List PathCond} {apart : Bool} {laid : List (String × DataW Unit)} (modest : Bool) (w0 : World) (args : Array Value) (hos : w0.os = os)
    (hsh : (w0.forCall (fun _ _ => 0) ⟨#[], args, []⟩).Shaped C.prog)
    (hok : Input.okWideB C.prog (w0.forCall (fun _ _ => 0) ⟨#[], args, []⟩) f ⟨#[], args, []⟩ = true)
    (hrow : s.preRow enc C.prog fn conds apart laid (w0.forCall (fun _ _ => 0) ⟨#[], args, []⟩).memory args) :
    ∃ (w : World) (tape : Tape) (i : Input), w.os = os ∧ (w.forCall tape i).Shaped C.prog ∧ i.vars = [] ∧ Input.okWide C.prog (w.forCall tape i) .any w.heap.size f i ∧
      s.preRow enc C.prog fn conds apart laid (w.forCall tape i).memory i.args ∧ ({ modest := modest } : Assume).holds C.prog (lone (Frame.enter C.prog f i.args .normal) [] (w.forCall tape i)) :=
  ⟨w0, fun _ _ => 0, ⟨#[], args, []⟩, hos, hsh, (Input.okWide_of_okWideB (base := 0) hok).1, (Input.okWide_of_okWideB hok).2, hrow, by
    simp only [Assume.holds]
    exact ⟨by simp, by simp, fun _ => Modest.zero, by simp, by simp⟩⟩
/-- A reading that fits, found. -/
theorem found10 {α : Type} {o : Option α} {p : α → Bool} (h : (o.any p) = true) : ∃ x, o = some x ∧ p x = true := by
  cases o with
  | none => cases h
  | some x => exact ⟨x, rfl, h⟩
end Go.Proofs.YtjpihophigjbpaaGreatDoor
/-
  CmdBack, walked.
-/
namespace Go.Proofs.YtjpihophigjbpaaGreatDoor
open Go.RowKit Go.Shelf Vs

theorem right_parseB {c : CmdC} (h : rightQ c = true) : cmdP (textQ c) = (c, 0) := by
  unfold rightQ at h
  rw [Bool.and_eq_true, decide_eq_true_eq] at h
  have := (sameQ_iff _ _).1 h.2
  exact Prod.ext this h.1
section
attribute [local go_sem ↓] exec_ld_cmd exec_st_cmd exec_ld_rcmd exec_st_rcmd
set_option maxRecDepth 100000 in
set_option maxHeartbeats 4000000 in
theorem back_no (V : Array Value) (hV : V.size = 17) (c : CmdC) (w : World) (hw : Env w) (hi : InvC c V.toList w) (hn : WideC c) (hT : ∀ i, i < 10 → (txtQ i c).length ≤ 1125899906842624) (hH : c.host.length ≤ 1125899906842624) (hx : c.idx.length ≤ 10000000) (hR : rightQ c = false) : Calls Tryz.prog 3 #[.agg V] w (BoolP w true) := by
  have hal := fun W (hW : Below w.heap.size w W) => alive_any W (hw.below hW)
  have hth : ∀ (Y : Array Value) W, InvC c Y.toList W → _ := fun Y W h => let_theirs (c := c) (W := W) hn.2.2.1 h
  have hfo : ∀ (Y : Array Value) W, Below w.heap.size w W → InvC c Y.toList W → _ := fun Y W hW h => let_formatW (c := c) hn hT hH (hw.below hW) h
  unfold FmP at hfo
  unfold BoolP at hal ⊢
  have hff : fmtQ c = ([], 3) := by unfold fmtQ; rw [hR]; rfl
  rw [hff] at hfo
  simp only at hfo
  have e2 : (str []).toList = [] := by
    have h : ((str []).toList == (⟨#[]⟩ : ByteArray).toList) = true := by rw [Vs.str_eq]; decide
    simpa [go_sem] using h
  generalize str [] = E at *
  clear hff hR hn hT hH hx
  have q0 := box_new w TRCmd V
  have g0 : Below w.heap.size w (w.alloc (.cells V TRCmd)) := (Below.refl _ _).alloc (Nat.le_refl _) _
  have i0 := hi.below g0
  replace q0 := fhid q0
  replace g0 := fhid g0
  replace i0 := fhid i0
  replace hV := fhid hV
  clear hi
  go_enter Tryz.func3, Tryz.ntmps3
  go_upto_region 1 with fail
  have q1 := q0.out
  have g1 := g0.out
  have i1 := i0.out
  clear q0 g0 i0
  try generalize w.alloc _ = w0 at *
  have l1 := ld_rcmd q1 hV.out
  have zk := Box.lt q1
  replace q1 := fhid q1
  replace i1 := fhid i1
  go_upto_region 2 with (first
    | (go_at_call 8; (with_reducible refine (hth _ _ i1.out).mono ?_); rintro e w2 ⟨b2, T0, rfl, hj⟩; have g2 := g1.trans (b2.mono g1.size); have q2 := Box.below q1.out b2 zk; have i2 := i1.out.below b2; replace hj := fhid hj; replace q2 := fhid q2; replace i2 := fhid i2)
    | (go_at_call 7; (with_reducible refine (hfo _ _ g2 hj.out).mono ?_); rintro e w3 ⟨rfl, b3⟩; have g3 := g2.trans (b3.mono g2.size)))
  have q3 := Box.below q2.out b3 (Box.lt q2.out)
  have i3 := i2.out.below b3
  replace q3 := fhid q3
  replace i3 := fhid i3
  clear l1 zk q1 i1 q2 i2 hj
  go_wp2_with (go_at_call 9; (with_reducible refine (hal _ g3).mono ?_); rintro e w5 ⟨rfl, b5⟩)
  go_ret
  exact ⟨rfl, g3.trans (b5.mono g3.size)⟩
set_option maxRecDepth 100000 in
set_option maxHeartbeats 4000000 in
theorem back_yes (V : Array Value) (hV : V.size = 17) (c : CmdC) (w : World) (hw : Env w) (hi : InvC c V.toList w) (hn : WideC c) (hT : ∀ i, i < 10 → (txtQ i c).length ≤ 1125899906842624) (hH : c.host.length ≤ 1125899906842624) (hx : c.idx.length ≤ 10000000) (hR : rightQ c = true) : Calls Tryz.prog 3 #[.agg V] w (BoolP w true) := by
  have hal := fun W (hW : Below w.heap.size w W) => alive_any W (hw.below hW)
  have hth : ∀ (Y : Array Value) W, InvC c Y.toList W → _ := fun Y W h => let_theirs (c := c) (W := W) hn.2.2.1 h
  have hfo : ∀ (Y : Array Value) W, Below w.heap.size w W → InvC c Y.toList W → _ := fun Y W hW h => let_formatW (c := c) hn hT hH (hw.below hW) h
  unfold FmP at hfo
  unfold BoolP at hal ⊢
  have hff : fmtQ c = (textQ c, 0) := by unfold fmtQ; rw [hR]; rfl
  rw [hff] at hfo
  have hpb := fun W (hW : Below w.heap.size w W) => let_parse (textQ c) W (hw.below hW)
  rw [right_parseB hR] at hpb
  unfold AnsP at hpb
  simp only at hfo hpb
  generalize str (textQ c) = TX at *
  have hou : ∀ (Y : Array Value) W, InvC c Y.toList W → _ := fun Y W h => let_ours (c := c) (W := W) hn.2.2.1 h
  have hrs : ∀ (X Y : Array Value) W, InvC c X.toList W → InvC c Y.toList W → _ := fun X Y W h1 h2 => let_rsame (c := c) (W := W) hx h1 h2
  unfold BoolP at hrs
  clear hff hR hn hT hH hx
  have q0 := box_new w TRCmd V
  have g0 : Below w.heap.size w (w.alloc (.cells V TRCmd)) := (Below.refl _ _).alloc (Nat.le_refl _) _
  have i0 := hi.below g0
  replace q0 := fhid q0
  replace g0 := fhid g0
  replace i0 := fhid i0
  replace hV := fhid hV
  clear hi
  go_enter Tryz.func3, Tryz.ntmps3
  go_upto_region 1 with fail
  have q1 := q0.out
  have g1 := g0.out
  have i1 := i0.out
  clear q0 g0 i0
  try generalize w.alloc _ = w0 at *
  have l1 := ld_rcmd q1 hV.out
  have zk := Box.lt q1
  replace q1 := fhid q1
  replace i1 := fhid i1
  go_upto_region 2 with (first
    | (go_at_call 8; (with_reducible refine (hth _ _ i1.out).mono ?_); rintro e w2 ⟨b2, T0, rfl, hj⟩; have g2 := g1.trans (b2.mono g1.size); have q2 := Box.below q1.out b2 zk; have i2 := i1.out.below b2; replace hj := fhid hj; replace q2 := fhid q2; replace i2 := fhid i2)
    | (go_at_call 7; (with_reducible refine (hfo _ _ g2 hj.out).mono ?_); rintro e w3 ⟨rfl, b3⟩; have g3 := g2.trans (b3.mono g2.size)))
  have q3 := Box.below q2.out b3 (Box.lt q2.out)
  have i3 := i2.out.below b3
  replace q3 := fhid q3
  replace i3 := fhid i3
  clear l1 zk q1 i1 q2 i2 hj
  go_upto_region 5 with (go_at_call 10; (with_reducible refine (hpb _ g3).mono ?_); rintro e w6 ⟨b6, U, hu, hu1, rfl, hi⟩; obtain ⟨w7, h7, qx, bA, zA⟩ := st_new (w := w6) hu hu1 #[.int .i64 0, .string ⟨#[]⟩, .string ⟨#[]⟩, .string ⟨#[]⟩, .string ⟨#[]⟩, .int .i64 0, .int .i64 0, .int .i64 0, .int .i64 0, .int .i64 0, .int .i64 0, .bool false, .slice none 0 0, .slice none 0 0, .int .i64 0, .int .i64 0, .string ⟨#[]⟩] rfl)
  have hi := hi.below bA
  have b7 := b6.trans (bA.mono b6.size)
  have qy := Box.below q3.out b7 (Box.lt q3.out)
  have hj := i3.out.below b7
  have g7 := g3.trans (b7.mono g3.size)
  clear b6 bA hpb b7 g3 hth hfo q3 i3 zA h7 hu1
  generalize w6.heap.size = c5 at *
  have zx := Box.lt qx
  have zy := Box.lt qy
  have zS := fhid (show ∀ W, Below w7.heap.size w7 W → (ldS TCmd (.pointer (some ⟨c5, 0, none⟩))).run Tryz.prog W = .ok (.agg U) W ∧ (ldS TRCmd (.pointer (some ⟨w.heap.size, 0, none⟩))).run Tryz.prog W = .ok (.agg V) W from fun W hb => ⟨ld_cmd (Box.below qx hb zx) hu, ld_rcmd (Box.below qy hb zy) hV.out⟩)
  have tt : Below w7.heap.size w7 w7.drew := (Below.refl _ _).drew
  have z := zS.out _ tt
  have ix := fhid (hi.below tt)
  have iy := fhid (hj.below tt)
  replace qx := fhid qx
  replace qy := fhid qy
  clear hi hj
  go_region_held3 (fun W => (ldS TCmd (.pointer (some ⟨c5, 0, none⟩))).run Tryz.prog W = .ok (.agg U) W ∧ (ldS TRCmd (.pointer (some ⟨w.heap.size, 0, none⟩))).run Tryz.prog W = .ok (.agg V) W) (first | exact z | fail)
    (first
      | (go_at_call 12; (with_reducible refine (hou U _ ix.out).mono ?_); rintro e w8 ⟨b8, T1, rfl, hjx⟩; have tt := tt.trans (b8.mono tt.size); have z := zS.out _ tt; have iy := fhid (iy.out.below b8); have hjx := fhid hjx; clear ix)
      | (go_at_call 11; (with_reducible refine (hrs _ _ _ hjx.out iy.out).mono ?_); rintro e w9 ⟨rfl, b9⟩; have tt := tt.trans (b9.mono tt.size); have z := zS.out _ tt)
      | (go_at_call 9; (with_reducible refine (hal _ (g7.trans (tt.mono g7.size))).mono ?_); rintro e w10 ⟨rfl, b10⟩; have tt := tt.trans (b10.mono tt.size); have z := zS.out _ tt))
  all_goals
    go_wp2_with fail
    go_ret
    exact ⟨rfl, g7.trans (tt.mono g7.size)⟩
end
theorem back_walk (V : Array Value) (hV : V.size = 17) (c : CmdC) (w : World) (hw : Env w) (hi : InvC c V.toList w) (hn : WideC c) (hT : ∀ i, i < 10 → (txtQ i c).length ≤ 1125899906842624) (hH : c.host.length ≤ 1125899906842624) (hx : c.idx.length ≤ 10000000) : Calls Tryz.prog 3 #[.agg V] w (BoolP w true) := by
  cases hR : rightQ c with
  | false => exact back_no V hV c w hw hi hn hT hH hx hR
  | true => exact back_yes V hV c w hw hi hn hT hH hx hR
end Go.Proofs.YtjpihophigjbpaaGreatDoor
