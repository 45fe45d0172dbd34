/-
  Parts: KShut KShutC.
-/
import Derived.Test.YtmnmcikbbfcjcaaGreatDoorRows
import Derived.Test.YtmnmcikbbfcjcaaGreatDoorCards
import Derived.Test.YtmnmcikbbfcjcaaGreatDoorTie
import Derived.Test.YtmnmcikbbfcjcaaGreatDoorK1
import Derived.ProofKit
import Derived.OpenShut
import Derived.LaidMore
import Derived.Lay
import Derived.Stop.Joined
import Derived.Stop.LaidErr
import Derived.Lib.LaidTab
import Derived.LaidLaws
import Derived.Laws.IdiomArrays
import Derived.SliceStrings
import Derived.SevenTiedAt
import Derived.Lib.SmallJoins
import Derived.Test.YtmnmcikbbfcjcaaGreatDoorW2
import Derived.Deep.Slices
import Derived.Deep.Strs
set_option linter.unusedSimpArgs false
set_option linter.unusedVariables false
/-
  What all rows of this seat share: the tables, the library's two errors, the start that fits.
-/
namespace Go.Proofs.YtmnmcikbbfcjcaaGreatDoor
open Go.Joins Go.ChangeShapes Go.WideShapes Go.ChangeAt Go.WideMaps Go.WideElems Go.RowKit Go.Deep Vs

theorem own : ownKnob Tryz.prog.godebug = none := by kernel_rfl
theorem laidOut : laidOutB Tryz.prog = true := by kernel_rfl
theorem gPow : Tryz.prog.globalNamed "internal/strconv.uint64pow10" = some 4 := by kernel_rfl
theorem tyPow : (Tryz.prog.globals[4]?).map (·.type) = some 244 := by kernel_rfl
theorem cellsU64 : Tryz.prog.cellsOf 44 = 1 := by kernel_rfl
theorem cellsPow : Tryz.prog.cellsOf 244 = 20 := by kernel_rfl
end Go.Proofs.YtmnmcikbbfcjcaaGreatDoor
/-
  Configs that came in.
-/
namespace Go.Proofs.YtmnmcikbbfcjcaaGreatDoor
open Go.Joins Go.ChangeShapes Go.WideShapes Go.ChangeAt Go.WideMaps Go.WideElems Go.RowKit Go.Deep Vs

theorem cellsIntC : Tryz.prog.cellsOf 3 = 1 := by kernel_rfl
theorem cellsStrC : Tryz.prog.cellsOf 9 = 1 := by kernel_rfl
theorem cellsU64C : Tryz.prog.cellsOf 44 = 1 := by kernel_rfl
theorem cellsNodesC : Tryz.prog.cellsOf TNodes = 4 := by kernel_rfl
theorem cellsVecC : Tryz.prog.cellsOf 120 = 3 := by kernel_rfl
theorem cellsPartC : Tryz.prog.cellsOf TRPart = 8 := by kernel_rfl
theorem cellsQosC : Tryz.prog.cellsOf TRQos = 3 := by kernel_rfl
theorem cellsConfC : Tryz.prog.cellsOf TRConf = 12 := by kernel_rfl
theorem cellsValsC : Tryz.prog.cellsOf TVals = 8 := by kernel_rfl
theorem cellsSs : Tryz.prog.cellsOf 22 = 1 := by kernel_rfl
theorem cellsVs : Tryz.prog.cellsOf 23 = 1 := by kernel_rfl
theorem cellsPs : Tryz.prog.cellsOf 24 = 1 := by kernel_rfl
theorem cellsQs : Tryz.prog.cellsOf 25 = 1 := by kernel_rfl
theorem plain_addr2 {w : World} {a : Addr} {v : Value} (h : w.cell? a = some v) : a.spot = none ∧ a.block < w.heap.size := by
  obtain ⟨b, off, sp⟩ := a
  refine ⟨World.cell?_spot h, ?_⟩
  by_cases hb : b < w.heap.size
  · exact hb
  · simp only [World.cell?] at h
    rw [Array.getElem?_eq_none (by omega)] at h
    cases h
theorem add_off2 (b o k : Nat) : (⟨b, o, none⟩ : Addr).add k = ⟨b, o + k, none⟩ := by
  unfold Addr.add
  by_cases hk : k = 0
  · subst hk; rfl
  · rw [if_neg hk]
theorem four_words {n0 n1 n2 n3 : Nat} (h0 : n0 < 18446744073709551616) (h1 : n1 < 18446744073709551616) (h2 : n2 < 18446744073709551616) (h3 : n3 < 18446744073709551616) : ∃ p : Nat → Bool, n0 = Bs.word p 0 ∧ n1 = Bs.word p 1 ∧ n2 = Bs.word p 2 ∧ n3 = Bs.word p 3 := by
  refine ⟨fun i => (if i < 64 then n0 else if i < 128 then n1 else if i < 192 then n2 else n3).testBit (i % 64), ?_, ?_, ?_, ?_⟩
  · exact Bs.word_eq h0 fun j hj => by
      rw [show 64 * 0 + j = j by omega, if_pos hj, Nat.mod_eq_of_lt hj]
  · exact Bs.word_eq h1 fun j hj => by
      rw [if_neg (by omega), if_pos (by omega), show (64 * 1 + j) % 64 = j by omega]
  · exact Bs.word_eq h2 fun j hj => by
      rw [if_neg (by omega), if_neg (by omega), if_pos (by omega), show (64 * 2 + j) % 64 = j by omega]
  · exact Bs.word_eq h3 fun j hj => by
      rw [if_neg (by omega), if_neg (by omega), if_neg (by omega), show (64 * 3 + j) % 64 = j by omega]
section
variable {H : Type} {enc : TypeId × Value → H} {P : Program} {w : World} {base : Nat} {spare : Nat → Bool} {held : Bool}
theorem trod_struct5 {t : TypeId} {f0 f1 f2 f3 f4 : Field} {fuel : Nat} {cs : List Value} {x : DataW H × List MemPlace} (ht : P.underlying t = some (.struct #[f0, f1, f2, f3, f4])) (h : DataW.trod enc P w base spare held fuel t cs = some x) :
    ∃ y0 y1 y2 y3 y4 n, DataW.trod enc P w base spare held n f0.type ((cs.drop f0.offset).take (P.cellsOf f0.type)) = some y0 ∧
      DataW.trod enc P w base spare held n f1.type ((cs.drop f1.offset).take (P.cellsOf f1.type)) = some y1 ∧ DataW.trod enc P w base spare held n f2.type ((cs.drop f2.offset).take (P.cellsOf f2.type)) = some y2 ∧
      DataW.trod enc P w base spare held n f3.type ((cs.drop f3.offset).take (P.cellsOf f3.type)) = some y3 ∧ DataW.trod enc P w base spare held n f4.type ((cs.drop f4.offset).take (P.cellsOf f4.type)) = some y4 := by
  obtain ⟨xs, n, _, rfl, hl, hlen, hf⟩ := DataW.trod_struct ht h
  match xs, hlen with
  | [y0, y1, y2, y3, y4], _ => exact ⟨y0, y1, y2, y3, y4, n, by simpa using hf 0 f0 rfl, by simpa using hf 1 f1 rfl, by simpa using hf 2 f2 rfl, by simpa using hf 3 f3 rfl, by simpa using hf 4 f4 rfl⟩
end
theorem rows_seg {α : Type} (f : α → List Value) (k : Nat) (hf : ∀ x, (f x).length = k) {W : World} {b o : Nat} (hb : b < W.heap.size) : ∀ n, (∀ i, i < n → ∃ x, ∀ j, j < k → W.cell? ⟨b, o + i * k + j, none⟩ = (f x)[j]?) → ∃ l : List α, l.length = n ∧ ∀ j (hj : j < (l.flatMap f).length), W.cell? ⟨b, o + j, none⟩ = some (l.flatMap f)[j]
  | 0, _ => ⟨[], rfl, fun j hj => absurd hj (Nat.not_lt_zero _)⟩
  | n + 1, h => by
    obtain ⟨l, hl, hc⟩ := rows_seg f k hf hb n (fun i hi => h i (by omega))
    obtain ⟨x, hx⟩ := h n (by omega)
    have hlen : (l.flatMap f).length = n * k := by rw [flat_len f k hf, hl]
    refine ⟨l ++ [x], by simp [hl], fun j hj => ?_⟩
    have e : (l ++ [x]).flatMap f = l.flatMap f ++ f x := by simp
    have hj2 : j < (l.flatMap f ++ f x).length := by rw [← e]; exact hj
    have : ((l ++ [x]).flatMap f)[j] = (l.flatMap f ++ f x)[j] := by simp only [e]
    rw [this]
    by_cases h1 : j < (l.flatMap f).length
    · rw [List.getElem_append_left h1]
      exact hc j h1
    · rw [List.getElem_append_right (by omega)]
      rw [List.length_append, hf] at hj2
      have := hx (j - n * k) (by omega)
      rw [show o + n * k + (j - n * k) = o + j by omega] at this
      rw [this, List.getElem?_eq_getElem (by rw [hf]; omega)]
      simp only [hlen]
/-- A slice whose elements read so. -/
theorem open_rows {H : Type} {enc : TypeId × Value → H} {W : World} {q : Nat} {t e : TypeId} {v : Value} {x : DataW H × List MemPlace} {α : Type} (f : α → List Value) (k : Nat) (hk : 0 < k) (hf : ∀ x, (f x).length = k)
    (ht : Tryz.prog.underlying t = some (.slice e)) (hC : Tryz.prog.cellsOf e = k)
    (hel : ∀ (n : Nat) (cs : List Value) (y : DataW H × List MemPlace), DataW.trod enc Tryz.prog W 0 (fun _ => true) true n e cs = some y → cs.length = k → ∃ a : α, cs = f a)
    (h : DataW.trod enc Tryz.prog W 0 (fun _ => true) true q t [v] = some x) : ∃ (A : Option Addr) (l : List α) (cap : Nat), v = .slice A l.length cap ∧ RdS W A l.length cap (l.flatMap f) := by
  rcases open_slice ht h with ⟨hcs, _⟩ | ⟨a, len, cap, m, n, D, Pl, hcs, _, hlc, hcm, hm, _, hi⟩
  · injection hcs with hcs
    subst hcs
    exact ⟨none, [], 0, rfl, Nat.le_refl _, by unfold maxLen; omega, SegC.nil _ _ _⟩
  · injection hcs with hcs
    subst hcs
    have hm' : m = cap := by simpa using hm
    clear hm
    by_cases h0 : len = 0
    · subst h0
      exact ⟨some a, [], cap, rfl, Nat.zero_le _, hcm, SegC.nil _ _ _⟩
    · have hcell : ∀ i, i < len → ∃ y : α, ∀ j, j < k → W.cell? ((a.add (i * k)).add j) = (f y)[j]? := by
        intro i hlt
        obtain ⟨cs', hc, hte⟩ := hi i (by omega)
        rw [hC] at hc
        obtain ⟨_, hcl, hat⟩ := World.cells?_some hc
        obtain ⟨y, rfl⟩ := hel _ _ _ hte hcl
        exact ⟨y, fun j hj => by rw [hat j hj]⟩
      obtain ⟨y0, hy0⟩ := hcell 0 (by omega)
      have hz := hy0 0 hk
      rw [List.getElem?_eq_getElem (by rw [hf]; exact hk)] at hz
      have ha0 : (a.add (0 * k)).add 0 = a := by rw [Nat.zero_mul]; rfl
      rw [ha0] at hz
      have hz' := hz
      obtain ⟨hsp, hb⟩ := plain_addr2 hz'
      obtain ⟨b, o, sp⟩ := a
      have hsp' : sp = none := hsp
      subst hsp'
      obtain ⟨l, hl, hc⟩ := rows_seg f k hf (o := o) hb len (fun i hlt => by
        obtain ⟨y, hy⟩ := hcell i hlt
        refine ⟨y, fun j hj => ?_⟩
        have := hy j hj
        rw [add_off2, add_off2] at this
        exact this)
      exact ⟨some ⟨b, o, none⟩, l, cap, by rw [hl], by rw [hl]; exact hlc, hcm, fun _ => ⟨b, o, rfl, hb, hc⟩⟩
set_option maxRecDepth 100000 in
theorem vec_cells2 {H : Type} {enc : TypeId × Value → H} {W : World} {n : Nat} {cs : List Value} {x : DataW H × List MemPlace}
    (h : DataW.trod enc Tryz.prog W 0 (fun _ => true) true n 120 cs = some x) (hl : cs.length = 3) : ∃ a : V3, cs = [.int .i64 a.1, .int .i64 a.2.1, .int .i64 a.2.2] := by
  obtain ⟨y0, y1, y2, n', hx, _, h0, h1, h2⟩ := trod_struct3 Tryz.underlying120 h
  match cs, hl with
  | [c0, c1, c2], _ =>
    simp only [cellsIntC, List.drop_zero, List.drop_succ_cons, List.take_succ_cons, List.take_zero] at h0 h1 h2
    obtain ⟨a, ea, _, wa⟩ := DataW.trod_int Tryz.underlying3 h0
    obtain ⟨b, eb, _, wb⟩ := DataW.trod_int Tryz.underlying3 h1
    obtain ⟨c, ec, _, wc⟩ := DataW.trod_int Tryz.underlying3 h2
    injection ea with ea _
    injection eb with eb _
    injection ec with ec _
    subst ea eb ec
    exact ⟨(a, b, c), rfl⟩
theorem wf_u64 {x : Int} (hx : (Lit.int .u64 x).wf = true) : ∃ n : Nat, x = (n : Int) ∧ n < 18446744073709551616 := by
  have : 0 ≤ x ∧ x ≤ 18446744073709551615 := by simpa [Lit.wf, IntKind.min, IntKind.max, IntKind.signed, IntKind.bits] using hx
  exact ⟨x.toNat, by omega, by omega⟩
set_option maxRecDepth 100000 in
theorem part_cells {H : Type} {enc : TypeId × Value → H} {W : World} {n : Nat} {cs : List Value} {x : DataW H × List MemPlace}
    (h : DataW.trod enc Tryz.prog W 0 (fun _ => true) true n TRPart cs = some x) (hl : cs.length = 8) : ∃ q : PartC, cs = partV q := by
  obtain ⟨y0, y1, y2, y3, y4, n', h0, h1, h2, h3, h4⟩ := trod_struct5 Tryz.underlying68 h
  match cs, hl with
  | [c0, c1, c2, c3, c4, c5, c6, c7], _ =>
    simp only [cellsIntC, cellsStrC, cellsNodesC, List.drop_zero, List.drop_succ_cons, List.take_succ_cons, List.take_zero] at h0 h1 h2 h3 h4
    obtain ⟨s, es, _, _⟩ := DataW.trod_string Tryz.underlying9 h0
    injection es with es _
    subst es
    obtain ⟨z0, z1, z2, z3, m, _, g0, g1, g2, g3⟩ := trod_array4 Tryz.underlying46 cellsU64C h1
    obtain ⟨x0, e0, _, k0⟩ := DataW.trod_int Tryz.underlying44 g0
    obtain ⟨x1, e1, _, k1⟩ := DataW.trod_int Tryz.underlying44 g1
    obtain ⟨x2, e2, _, k2⟩ := DataW.trod_int Tryz.underlying44 g2
    obtain ⟨x3, e3, _, k3⟩ := DataW.trod_int Tryz.underlying44 g3
    injection e0 with e0 _
    injection e1 with e1 _
    injection e2 with e2 _
    injection e3 with e3 _
    subst e0 e1 e2 e3
    obtain ⟨n0, rfl, l0⟩ := wf_u64 k0
    obtain ⟨n1, rfl, l1⟩ := wf_u64 k1
    obtain ⟨n2, rfl, l2⟩ := wf_u64 k2
    obtain ⟨n3, rfl, l3⟩ := wf_u64 k3
    obtain ⟨p, p0, p1, p2, p3⟩ := four_words l0 l1 l2 l3
    obtain ⟨a, ea, _, wa⟩ := DataW.trod_int Tryz.underlying3 h2
    obtain ⟨b, eb, _, wb⟩ := DataW.trod_int Tryz.underlying3 h3
    obtain ⟨c, ec, _, wc⟩ := DataW.trod_int Tryz.underlying3 h4
    injection ea with ea _
    injection eb with eb _
    injection ec with ec _
    subst ea eb ec
    exact ⟨⟨bl s, p, a, b, c⟩, by unfold partV; rw [← p0, ← p1, ← p2, ← p3, str_bl]⟩
set_option maxRecDepth 100000 in
theorem qos_cells {H : Type} {enc : TypeId × Value → H} {W : World} {n : Nat} {cs : List Value} {x : DataW H × List MemPlace}
    (h : DataW.trod enc Tryz.prog W 0 (fun _ => true) true n TRQos cs = some x) (hl : cs.length = 3) : ∃ q : QosC, cs = qosV q := by
  obtain ⟨y0, y1, y2, n', hx, _, h0, h1, h2⟩ := trod_struct3 Tryz.underlying71 h
  match cs, hl with
  | [c0, c1, c2], _ =>
    simp only [cellsIntC, cellsStrC, List.drop_zero, List.drop_succ_cons, List.take_succ_cons, List.take_zero] at h0 h1 h2
    obtain ⟨s, es, _, _⟩ := DataW.trod_string Tryz.underlying9 h0
    injection es with es _
    subst es
    obtain ⟨b, eb, _, wb⟩ := DataW.trod_int Tryz.underlying3 h1
    obtain ⟨c, ec, _, wc⟩ := DataW.trod_int Tryz.underlying3 h2
    injection eb with eb _
    injection ec with ec _
    subst eb ec
    exact ⟨⟨bl s, b, c⟩, by unfold qosV; rw [str_bl]⟩
theorem SV_flat (l : List Str) : l.flatMap (fun s => [Value.string (str s)]) = SV l := by
  induction l with
  | nil => rfl
  | cons x l ih => rw [List.flatMap_cons, ih]; rfl
set_option maxRecDepth 100000 in
/-- A config that came in. -/
theorem open_conf {H : Type} {enc : TypeId × Value → H} {W : World} {base : Nat} {v : Value} {d : DataW H} {ps : List MemPlace}
    (hv : Value.okWide Tryz.prog W .any base TRConf v) (h : DataW.Trod enc Tryz.prog W 0 (fun _ => true) true TRConf v d ps) : ∃ c : Cfg, CR W v c := by
  obtain ⟨cs, rfl, hsz⟩ := okWide_struct Tryz.underlying28 hv
  rw [cellsConfC] at hsz
  obtain ⟨fuel, hf⟩ := h
  obtain ⟨l⟩ := cs
  match l, hsz with
  | [c0, c1, c2, c3, c4, c5, c6, c7, c8, c9, c10, c11], _ =>
    obtain ⟨y0, y1, y2, y3, y4, n, h0, h1, h2, h3, h4⟩ := trod_struct5 Tryz.underlying28 hf
    simp only [Value.cells, cellsSs, cellsVs, cellsPs, cellsQs, cellsValsC, List.drop_zero, List.drop_succ_cons, List.take_succ_cons, List.take_zero] at h0 h1 h2 h3 h4
    obtain ⟨AN, ns, cN, rfl, r1⟩ := open_rows (fun s : Str => [Value.string (str s)]) 1 (by decide) (fun _ => rfl) Tryz.underlying22 cellsStrC (fun n cs y hy hl => by
      obtain ⟨s, es, _, _⟩ := DataW.trod_string Tryz.underlying9 hy
      exact ⟨bl s, by rw [es, str_bl]⟩) h0
    obtain ⟨AV, vs, cV, rfl, r2⟩ := open_rows (fun v : V3 => [Value.int .i64 v.1, .int .i64 v.2.1, .int .i64 v.2.2]) 3 (by decide) (fun _ => rfl) Tryz.underlying23 cellsVecC (fun n cs y hy hl => vec_cells2 hy hl) h1
    obtain ⟨AP, pl, cP, rfl, r3⟩ := open_rows partV 8 (by decide) (fun _ => rfl) Tryz.underlying24 cellsPartC (fun n cs y hy hl => part_cells hy hl) h2
    obtain ⟨AQ, ql, cQ, rfl, r4⟩ := open_rows qosV 3 (by decide) (fun _ => rfl) Tryz.underlying25 cellsQosC (fun n cs y hy hl => qos_cells hy hl) h3
    rw [SV_flat] at r1
    obtain ⟨xs, m, _, _, _, _, hx⟩ := DataW.trod_array Tryz.underlying26 h4
    have hg : ∀ i, i < 8 → ∃ a : Int, ([c4, c5, c6, c7, c8, c9, c10, c11].drop i).take 1 = [.int .i64 a] := by
      intro i hi
      have := hx i hi
      rw [cellsIntC, Nat.mul_one] at this
      cases hy : xs[i]? with
      | none => exact absurd (List.getElem?_eq_none_iff.1 hy) (by omega)
      | some y =>
        rw [hy] at this
        obtain ⟨a, ea, _, _⟩ := DataW.trod_int Tryz.underlying3 this
        exact ⟨a, ea⟩
    obtain ⟨a0, e0⟩ := hg 0 (by decide)
    obtain ⟨a1, e1⟩ := hg 1 (by decide)
    obtain ⟨a2, e2⟩ := hg 2 (by decide)
    obtain ⟨a3, e3⟩ := hg 3 (by decide)
    obtain ⟨a4, e4⟩ := hg 4 (by decide)
    obtain ⟨a5, e5⟩ := hg 5 (by decide)
    obtain ⟨a6, e6⟩ := hg 6 (by decide)
    obtain ⟨a7, e7⟩ := hg 7 (by decide)
    simp at e0 e1 e2 e3 e4 e5 e6 e7
    subst e0 e1 e2 e3 e4 e5 e6 e7
    exact ⟨⟨ns, vs, pl, ql, [a0, a1, a2, a3, a4, a5, a6, a7]⟩, AN, cN, AV, cV, AP, cP, AQ, cQ, a0, a1, a2, a3, a4, a5, a6, a7, rfl, rfl, r1, r2, r3, r4⟩
end Go.Proofs.YtmnmcikbbfcjcaaGreatDoor
