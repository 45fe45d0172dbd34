/-
  What all rows of this seat share: the table, the start that fits; nodes, pairs, numbers that came in.
-/
import Derived.Test.YtmdebbkmhcfpfaaDoorRows
import Derived.Test.YtmdebbkmhcfpfaaDoorCards
import Derived.Test.YtmdebbkmhcfpfaaDoorTie
import Derived.Test.YtmdebbkmhcfpfaaDoorEAlive
import Derived.ProofKit
import Derived.OpenShut
import Derived.LaidMore
import Derived.Lay
import Derived.Stop.Joined
import Derived.Stop.LaidErr
import Derived.Lib.LaidTab
import Derived.LaidLaws
import Derived.Laws.IdiomArrays
import Derived.SliceStrings
import Derived.SevenTiedAt
import Derived.Lib.SmallJoins
import Derived.Deep.Slices
import Derived.Deep.Strs
namespace Go.Proofs.YtmdebbkmhcfpfaaDoor
open Go.Joins Go.ChangeShapes Go.WideShapes Go.ChangeAt Go.WideMaps Go.WideElems Go.RowKit Go.Deep

theorem own : ownKnob Tryd.prog.godebug = none := by kernel_rfl
theorem laidOut : laidOutB Tryd.prog = true := by kernel_rfl
theorem gTab : Tryd.prog.globalNamed "marlinspike/node.table" = some 0 := by kernel_rfl
theorem tyTab : (Tryd.prog.globals[0]?).map (·.type) = some 43 := by kernel_rfl
theorem cellsInt : Tryd.prog.cellsOf 3 = 1 := by kernel_rfl
theorem cellsInts : Tryd.prog.cellsOf 26 = 1 := by kernel_rfl
theorem cellsRow : Tryd.prog.cellsOf 42 = 12 := by kernel_rfl
theorem cellsTab : Tryd.prog.cellsOf 43 = 96 := by kernel_rfl
/-- What the rows list. -/
abbrev laidList : List (String × DataW Unit) := [("marlinspike/node.table", Rows.laid_marlinspike_node_table)]
/-- Rows of numbers, as they lie. -/
theorem cells_of_rows {H : Type} {enc : TypeId × Value → H} {P : Program} {w : World} {base : Nat} {sp : Nat → Bool} {held : Bool} {fuel : Nat} {t e e2 : TypeId} {n m : Nat} {k : IntKind} {cs : List Value} {rows : List (List Int)} {p : List MemPlace}
    (ht : P.underlying t = some (.array n e)) (he : P.underlying e = some (.array m e2)) (he2 : P.underlying e2 = some (.int k)) (hc2 : P.cellsOf e2 = 1) (hce : P.cellsOf e = m) (hct : P.cellsOf t = n * m)
    (h : DataW.trod enc P w base sp held fuel t cs = some (.agg (rows.map fun zs => Lib.tabData k zs), p)) (i j : Nat) (hi : i < n) (hj : j < m) : cs[i * m + j]? = some (.int k ((rows.getD i []).getD j 0)) := by
  cases fuel with
  | zero => simp [DataW.trod] at h
  | succ fuel =>
    simp only [DataW.trod, ht, hce, hct] at h
    split at h
    · rename_i hl
      obtain ⟨xs, hm, hx⟩ := Option.map_eq_some_iff.1 h
      have hxs : xs.map (·.1) = rows.map fun zs => (Lib.tabData k zs : DataW H) := by
        have := congrArg Prod.fst hx
        simpa using this
      obtain ⟨b, hb, hf⟩ := Lib.mapM_at hm i i (by simp [hi])
      have h2 : (xs.map (·.1))[i]? = some b.1 := by simp [hb]
      rw [hxs, List.getElem?_map, Option.map_eq_some_iff] at h2
      obtain ⟨zs, hz, hz2⟩ := h2
      obtain ⟨b1, b2⟩ := b
      simp only at hz2
      subst hz2
      have h3 := Lib.cells_of_tab he he2 hc2 hce hf
      have h4 := congrArg (·[j]?) h3
      simp only [List.getElem?_take, List.getElem?_drop, hj, if_true, List.getElem?_map] at h4
      have hlen : zs.length = m := by
        have h5 := congrArg List.length h3
        rw [List.length_map, List.length_take, List.length_drop] at h5
        have h6 : i * m + m ≤ cs.length := by
          have : cs.length = n * m := by simpa using hl
          rw [this]
          calc i * m + m = (i + 1) * m := by rw [Nat.add_mul, Nat.one_mul]
            _ ≤ n * m := Nat.mul_le_mul_right _ hi
        omega
      have h7 : rows.getD i [] = zs := by rw [List.getD_eq_getElem?_getD, hz]; rfl
      rw [h4, h7, List.getD_eq_getElem?_getD, List.getElem?_eq_getElem (by omega)]
      rfl
    · cases h
set_option maxRecDepth 100000 in
theorem tab_of {W : World} (h : laidMetH Tryd.prog laidList W) : TabW W := by
  rw [MakeChecks.laidMetH_plain _ _ _ (by kernel_rfl)] at h
  have h' : laidMet Tryd.prog (("marlinspike/node.table", .agg (rowsT.map fun zs => Lib.tabData .i64 zs)) :: []) W := h
  obtain ⟨ps, ⟨g', t', cs, fuel, p, q, hg', ht', hvar, hd, _, _⟩, _⟩ := h'
  obtain rfl := Option.some.inj (gTab.symm.trans hg')
  obtain rfl := Option.some.inj (tyTab.symm.trans ht')
  intro s e hs he
  have h1 := World.var?_cell gTab hvar (s * 12 + e)
  have h2 := cells_of_rows Tryd.underlying43 Tryd.underlying42 Tryd.underlying3 cellsInt cellsRow cellsTab hd s e hs he
  rw [h1]
  unfold tabN
  simpa using h2
set_option maxRecDepth 100000 in
theorem lay_met (os : Os) (args : Array Value) : laidMetH Tryd.prog laidList ((World.laidAll Tryd.prog os laidList).forCall (fun _ _ => 0) ⟨#[], args, []⟩).memory := by
  rw [MakeChecks.laidMetH_plain _ _ _ (by kernel_rfl)]
  exact laidMet_laidAll _ (by kernel_rfl) (by kernel_rfl)
theorem cellsRNd : Tryd.prog.cellsOf TRNd = 3 := by kernel_rfl
/-- A whole number of 64 bits. -/
def I64 (n : Int) : Prop := -9223372036854775808 ≤ n ∧ n ≤ 9223372036854775807
theorem wf_I64 {n : Int} (h : (Lit.int .i64 n).wf = true) : I64 n := by
  have : -9223372036854775808 ≤ n ∧ n ≤ 9223372036854775807 := by simpa [Lit.wf, IntKind.min, IntKind.max, IntKind.signed, IntKind.bits] using h
  exact this
theorem wf_U8 {n : Int} (h : (Lit.int .u8 n).wf = true) : 0 ≤ n ∧ n ≤ 255 := by
  simpa [Lit.wf, IntKind.min, IntKind.max, IntKind.signed, IntKind.bits] using h
theorem plain_addr {w : World} {a : Addr} {v : Value} (h : w.cell? a = some v) : a.spot = none ∧ a.block < w.heap.size := by
  obtain ⟨b, off, sp⟩ := a
  refine ⟨World.cell?_spot h, ?_⟩
  by_cases hb : b < w.heap.size
  · exact hb
  · simp only [World.cell?] at h
    rw [Array.getElem?_eq_none (by omega)] at h
    cases h
theorem add_off (b o k : Nat) : (⟨b, o, none⟩ : Addr).add k = ⟨b, o + k, none⟩ := by
  unfold Addr.add
  by_cases hk : k = 0
  · subst hk; rfl
  · rw [if_neg hk]
/-- A slice of numbers, as it lies in a cell. -/
theorem ints_cells {H : Type} {enc : TypeId × Value → H} {W : World} {q : Nat} {v : Value} {x : DataW H × List MemPlace}
    (hf : DataW.trod enc Tryd.prog W 0 (fun _ => true) true q 26 [v] = some x) :
    ∃ (A : Option Addr) (ns : List Int) (cap : Nat), v = .slice A ns.length cap ∧ ns.length ≤ cap ∧ cap ≤ maxLen ∧ Ints W W.heap.size A ns ∧ ∀ n ∈ ns, I64 n := by
  rcases open_ints Tryd.underlying26 Tryd.underlying3 cellsInt hf with ⟨hcs, _⟩ | ⟨a, len', cap', zs, hcs, _, hl, hm, hz, hd, hcell, hw⟩
  · injection hcs with hcs
    subst hcs
    exact ⟨none, [], 0, rfl, Nat.le_refl _, by unfold maxLen; omega, SegP.nil _ _ _, fun n hn => by cases hn⟩
  · injection hcs with hcs
    subst hcs
    simp at hz
    have hlen : (zs.take len').length = len' := by rw [List.length_take]; omega
    refine ⟨some a, zs.take len', cap', by rw [hlen], by rw [hlen]; exact hl, hm, fun h0 => ?_, fun n hn => wf_I64 (hw n (List.mem_of_mem_take hn))⟩
    rw [IV_len, hlen] at h0
    obtain ⟨hsp, hb⟩ := plain_addr (hcell 0 (by omega))
    obtain ⟨b, off, sp⟩ := a
    have hsp : sp = none := by simpa [Addr.add] using hsp
    subst hsp
    rw [add_off] at hb
    refine ⟨b, off, rfl, hb, fun j hj => ?_⟩
    rw [IV_len, hlen] at hj
    have := hcell j (by omega)
    rw [add_off] at this
    rw [this, IV_get _ _ (by rw [hlen]; exact hj), List.getElem_take, List.getD_eq_getElem?_getD, List.getElem?_eq_getElem (by omega), Option.getD_some]
set_option maxRecDepth 100000 in
theorem open_nums {H : Type} {enc : TypeId × Value → H} {W : World} {base : Nat} {v : Value} {d : DataW H} {ps : List MemPlace}
    (hv : Value.okWide Tryd.prog W .any base 26 v) (h : DataW.Trod enc Tryd.prog W 0 (fun _ => true) true 26 v d ps) :
    ∃ (A : Option Addr) (ns : List Int) (cap : Nat), v = .slice A ns.length cap ∧ ns.length ≤ cap ∧ cap ≤ maxLen ∧ Ints W W.heap.size A ns ∧ ∀ n ∈ ns, I64 n := by
  obtain ⟨a0, len, cap, rfl⟩ := okWide_slice Tryd.underlying26 hv
  obtain ⟨fuel, hf⟩ := h
  exact ints_cells hf
set_option maxRecDepth 100000 in
/-- A node that came in. -/
theorem open_node {H : Type} {enc : TypeId × Value → H} {W : World} {base : Nat} {v : Value} {d : DataW H} {ps : List MemPlace}
    (hv : Value.okWide Tryd.prog W .any base TRNd v) (h : DataW.Trod enc Tryd.prog W 0 (fun _ => true) true TRNd v d ps) :
    ∃ n : N3, v = nv n ∧ I64 n.1 ∧ I64 n.2.1 ∧ I64 n.2.2 := by
  obtain ⟨v0, v1, v2, y0, y1, y2, n, rfl, rfl, rfl, h0, h1, h2⟩ := open_agg3 Tryd.underlying23 (by kernel_rfl) cellsRNd hv h
  obtain ⟨a, ea, _, wa⟩ := DataW.trod_int Tryd.underlying3 h0
  obtain ⟨b, eb, _, wb⟩ := DataW.trod_int Tryd.underlying3 h1
  obtain ⟨c, ec, _, wc⟩ := DataW.trod_int Tryd.underlying3 h2
  injection ea with ea _
  injection eb with eb _
  injection ec with ec _
  subst ea eb ec
  exact ⟨(a, b, c), rfl, wf_I64 wa, wf_I64 wb, wf_I64 wc⟩
/-- An array of two. -/
theorem trod_two {H : Type} {enc : TypeId × Value → H} {P : Program} {w : World} {base : Nat} {spare : Nat → Bool} {held : Bool} {t e : TypeId} {fuel : Nat} {c0 c1 : Value} {x : DataW H × List MemPlace} (ht : P.underlying t = some (.array 2 e)) (hce : P.cellsOf e = 1)
    (h : DataW.trod enc P w base spare held fuel t [c0, c1] = some x) :
    ∃ y0 y1 n, x = (.agg [y0.1, y1.1], y0.2 ++ y1.2) ∧ DataW.trod enc P w base spare held n e [c0] = some y0 ∧ DataW.trod enc P w base spare held n e [c1] = some y1 := by
  cases fuel with
  | zero => simp [DataW.trod] at h
  | succ n =>
    unfold DataW.trod at h
    rw [ht] at h
    have r2 : List.range 2 = [0, 1] := rfl
    simp [r2, hce] at h
    obtain ⟨_, h⟩ := h
    cases h0 : DataW.trod enc P w base spare held n e [c0] with
    | none => simp [h0] at h
    | some y0 =>
      cases h1 : DataW.trod enc P w base spare held n e [c1] with
      | none => simp [h0, h1] at h
      | some y1 =>
        simp [h0, h1] at h
        exact ⟨y0, y1, n, h.symm, h0, h1⟩
end Go.Proofs.YtmdebbkmhcfpfaaDoor
