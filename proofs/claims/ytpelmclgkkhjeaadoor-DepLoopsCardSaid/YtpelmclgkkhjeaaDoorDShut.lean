/-
  What all rows of this seat share: the tables, the start that fits; dependencies, jobs, numbers that came in.
-/
import Derived.Test.YtpelmclgkkhjeaaDoorRows
import Derived.Test.YtpelmclgkkhjeaaDoorCards
import Derived.Test.YtpelmclgkkhjeaaDoorTie
import Derived.Test.YtpelmclgkkhjeaaDoorDAlive
import Derived.ProofKit
import Derived.OpenShut
import Derived.LaidMore
import Derived.Lay
import Derived.Stop.Joined
import Derived.Stop.LaidErr
import Derived.Lib.LaidTab
import Derived.LaidLaws
import Derived.Laws.IdiomArrays
import Derived.SliceStrings
import Derived.SevenTiedAt
import Derived.Lib.SmallJoins
import Derived.Deep.Slices
import Derived.Deep.Strs
namespace Go.Proofs.YtpelmclgkkhjeaaDoor
open Go.Joins Go.ChangeShapes Go.WideShapes Go.ChangeAt Go.WideMaps Go.WideElems Go.RowKit Go.Deep

theorem own : ownKnob Tryd.prog.godebug = none := by kernel_rfl
theorem laidOut : laidOutB Tryd.prog = true := by kernel_rfl
theorem gPow : Tryd.prog.globalNamed "internal/strconv.uint64pow10" = some 1 := by kernel_rfl
theorem tyPow : (Tryd.prog.globals[1]?).map (·.type) = some 121 := by kernel_rfl
theorem cellsU64 : Tryd.prog.cellsOf 101 = 1 := by kernel_rfl
theorem cellsPow : Tryd.prog.cellsOf 121 = 20 := by kernel_rfl
/-- What the rows list. -/
abbrev laidList : List (String × DataW Unit) := [("math/bits.deBruijn32tab", Rows.laid_math_bits_deBruijn32tab), ("math/bits.deBruijn64tab", Rows.laid_math_bits_deBruijn64tab), ("internal/strconv.uint64pow10", Rows.laid_internal_strconv_uint64pow10)]
set_option maxRecDepth 100000 in
theorem tab_of {W : World} (h : laidMetH Tryd.prog laidList W) : Tab W := by
  rw [MakeChecks.laidMetH_plain _ _ _ (by kernel_rfl)] at h
  have h2 := (laidMet.tail (laidMet.tail h))
  have h' : laidMet Tryd.prog (("internal/strconv.uint64pow10", Lib.tabData .u64 Lib.pow10Tab) :: []) W := h2
  exact Lib.tabIs_of_head gPow tyPow Tryd.underlying121 Tryd.underlying101 cellsU64 cellsPow h'
set_option maxRecDepth 100000 in
theorem lay_met (os : Os) (args : Array Value) : laidMetH Tryd.prog laidList ((World.laidAll Tryd.prog os laidList).forCall (fun _ _ => 0) ⟨#[], args, []⟩).memory := by
  rw [MakeChecks.laidMetH_plain _ _ _ (by kernel_rfl)]
  exact laidMet_laidAll _ (by kernel_rfl) (by kernel_rfl)
theorem cellsInt : Tryd.prog.cellsOf 3 = 1 := by kernel_rfl
theorem cellsRIt : Tryd.prog.cellsOf TRIt = 2 := by kernel_rfl
theorem cellsRDep : Tryd.prog.cellsOf TRDep = 2 := by kernel_rfl
theorem cellsInts : Tryd.prog.cellsOf 38 = 1 := by kernel_rfl
/-- A whole number of 64 bits. -/
def I64 (n : Int) : Prop := -9223372036854775808 ≤ n ∧ n ≤ 9223372036854775807
theorem wf_I64 {n : Int} (h : (Lit.int .i64 n).wf = true) : I64 n := by
  have : -9223372036854775808 ≤ n ∧ n ≤ 9223372036854775807 := by simpa [Lit.wf, IntKind.min, IntKind.max, IntKind.signed, IntKind.bits] using h
  exact this
theorem plain_addr {w : World} {a : Addr} {v : Value} (h : w.cell? a = some v) : a.spot = none ∧ a.block < w.heap.size := by
  obtain ⟨b, off, sp⟩ := a
  refine ⟨World.cell?_spot h, ?_⟩
  by_cases hb : b < w.heap.size
  · exact hb
  · simp only [World.cell?] at h
    rw [Array.getElem?_eq_none (by omega)] at h
    cases h
theorem add_off (b o k : Nat) : (⟨b, o, none⟩ : Addr).add k = ⟨b, o + k, none⟩ := by
  unfold Addr.add
  by_cases hk : k = 0
  · subst hk; rfl
  · rw [if_neg hk]
/-- A slice of numbers, as it lies in a cell. -/
theorem ints_cells {H : Type} {enc : TypeId × Value → H} {W : World} {q : Nat} {v : Value} {x : DataW H × List MemPlace}
    (hf : DataW.trod enc Tryd.prog W 0 (fun _ => true) true q 38 [v] = some x) :
    ∃ (A : Option Addr) (ns : List Int) (cap : Nat), v = .slice A ns.length cap ∧ ns.length ≤ cap ∧ cap ≤ maxLen ∧ Ints W W.heap.size A ns ∧ ∀ n ∈ ns, I64 n := by
  rcases open_ints Tryd.underlying38 Tryd.underlying3 cellsInt hf with ⟨hcs, _⟩ | ⟨a, len', cap', zs, hcs, _, hl, hm, hz, hd, hcell, hw⟩
  · injection hcs with hcs
    subst hcs
    exact ⟨none, [], 0, rfl, Nat.le_refl _, by unfold maxLen; omega, SegP.nil _ _ _, fun n hn => by cases hn⟩
  · injection hcs with hcs
    subst hcs
    simp at hz
    have hlen : (zs.take len').length = len' := by rw [List.length_take]; omega
    refine ⟨some a, zs.take len', cap', by rw [hlen], by rw [hlen]; exact hl, hm, fun h0 => ?_, fun n hn => wf_I64 (hw n (List.mem_of_mem_take hn))⟩
    rw [IV_len, hlen] at h0
    obtain ⟨hsp, hb⟩ := plain_addr (hcell 0 (by omega))
    obtain ⟨b, off, sp⟩ := a
    have hsp : sp = none := by simpa [Addr.add] using hsp
    subst hsp
    rw [add_off] at hb
    refine ⟨b, off, rfl, hb, fun j hj => ?_⟩
    rw [IV_len, hlen] at hj
    have := hcell j (by omega)
    rw [add_off] at this
    rw [this, IV_get _ _ (by rw [hlen]; exact hj), List.getElem_take, List.getD_eq_getElem?_getD, List.getElem?_eq_getElem (by omega), Option.getD_some]
set_option maxRecDepth 100000 in
/-- Two cells that read as an item. -/
theorem item_cells {H : Type} {enc : TypeId × Value → H} {W : World} {n : Nat} {cs : List Value} {x : DataW H × List MemPlace}
    (h : DataW.trod enc Tryd.prog W 0 (fun _ => true) true n TRIt cs = some x) (hl : cs.length = 2) : ∃ (k : Int) (A : Option Addr) (ns : List Int) (cap : Nat), cs = [.int .i64 k, .slice A ns.length cap] ∧ ns.length ≤ cap ∧ cap ≤ maxLen ∧ Ints W W.heap.size A ns ∧ ∀ n ∈ ns, I64 n := by
  obtain ⟨y0, y1, n', hx, _, h0, h1⟩ := trod_struct2 Tryd.underlying40 h
  match cs, hl with
  | [c0, c1], _ =>
    simp only [cellsInt, cellsInts, List.drop_zero, List.drop_succ_cons, List.take_succ_cons, List.take_zero] at h0 h1
    obtain ⟨a, ea, _, wa⟩ := DataW.trod_int Tryd.underlying3 h0
    obtain ⟨A, ns, cap, rfl, r⟩ := ints_cells h1
    injection ea with ea _
    subst ea
    exact ⟨a, A, ns, cap, rfl, r⟩
/-- An item that lies at two cells. -/
def ItAt (W : World) (b o : Nat) (x : Itm) (A : Option Addr) (c : Nat) : Prop := W.cell? ⟨b, o, none⟩ = some (.int .i64 x.1) ∧ W.cell? ⟨b, o + 1, none⟩ = some (.slice A x.2.length c) ∧ x.2.length ≤ c ∧ c ≤ maxLen ∧ Ints W W.heap.size A x.2 ∧ ∀ n ∈ x.2, I64 n
theorem its_of {W : World} {b o : Nat} (len : Nat) (hb : b < W.heap.size) (h : ∀ i, i < len → ∃ x A c, ItAt W b (o + i * 2) x A c) : ∃ l : List Itm, l.length = len ∧ Its W W.heap.size (some ⟨b, o, none⟩) l ∧ ∀ x ∈ l, x.2.length ≤ maxLen ∧ ∀ n ∈ x.2, I64 n := by
  induction len with
  | zero => exact ⟨[], rfl, Its.nil _ _ _, fun x hx => by cases hx⟩
  | succ len ih =>
    obtain ⟨l, hl, ⟨xs, h1, h2⟩, h3⟩ := ih (fun i hi => h i (by omega))
    obtain ⟨x, A, c, a1, a2, a3, a4, a5, a6⟩ := h len (by omega)
    have hxl := h2.1
    refine ⟨l ++ [x], by rw [List.length_append, hl]; rfl, ⟨xs ++ [.int .i64 x.1, .slice A x.2.length c], fun _ => ⟨b, o, rfl, hb, fun j hj => ?_⟩, h2.app (ItC.one a3 a4 a5)⟩, fun y hy => ?_⟩
    · rw [List.length_append] at hj
      simp only [List.length_cons, List.length_nil] at hj
      by_cases hj' : j < xs.length
      · rw [List.getElem_append_left hj']
        obtain ⟨b', o', e, _, hc⟩ := h1 (by omega)
        injection e with e
        injection e with e1 e2 _
        subst e1 e2
        exact hc j hj'
      · rw [List.getElem_append_right (by omega)]
        rcases (show j = xs.length ∨ j = xs.length + 1 by omega) with e | e
        · have e2 : j - xs.length = 0 := by omega
          simp only [e2]
          rw [show o + j = o + len * 2 by omega]
          exact a1
        · have e2 : j - xs.length = 1 := by omega
          simp only [e2]
          rw [show o + j = o + len * 2 + 1 by omega]
          exact a2
    · rcases List.mem_append.1 hy with hy | hy
      · exact h3 y hy
      · rw [List.mem_singleton.1 hy]
        exact ⟨Nat.le_trans a3 a4, a6⟩
set_option maxRecDepth 100000 in
/-- A slice of items, as it lies in a cell. -/
theorem its_cells {H : Type} {enc : TypeId × Value → H} {W : World} {q : Nat} {v : Value} {x : DataW H × List MemPlace}
    (hf : DataW.trod enc Tryd.prog W 0 (fun _ => true) true q 24 [v] = some x) :
    ∃ (A : Option Addr) (l : List Itm) (cap : Nat), v = .slice A l.length cap ∧ l.length ≤ cap ∧ cap ≤ maxLen ∧ Its W W.heap.size A l ∧ ∀ x ∈ l, x.2.length ≤ maxLen ∧ ∀ n ∈ x.2, I64 n := by
  rcases open_slice Tryd.underlying24 hf with ⟨hcs, _⟩ | ⟨a, len, cap, m, n, D, Pl, hcs, _, hlc, hcm, hm, _, hi⟩
  · injection hcs with hcs
    subst hcs
    exact ⟨none, [], 0, rfl, Nat.le_refl _, by unfold maxLen; omega, Its.nil _ _ _, fun x hx => by cases hx⟩
  · injection hcs with hcs
    subst hcs
    have hm' : m = cap := by simpa using hm
    clear hm
    by_cases h0 : len = 0
    · subst h0
      exact ⟨some a, [], cap, rfl, Nat.zero_le _, hcm, Its.nil _ _ _, fun x hx => by cases hx⟩
    · have hcell : ∀ i, i < len → ∃ (k : Int) (A : Option Addr) (ns : List Int) (c : Nat), W.cell? (a.add (i * 2)) = some (.int .i64 k) ∧ W.cell? ((a.add (i * 2)).add 1) = some (.slice A ns.length c) ∧ ns.length ≤ c ∧ c ≤ maxLen ∧ Ints W W.heap.size A ns ∧ ∀ n ∈ ns, I64 n := by
        intro i hlt
        obtain ⟨cs', hc, ht⟩ := hi i (by omega)
        rw [cellsRIt] at hc
        obtain ⟨_, hcl, hat⟩ := World.cells?_some hc
        obtain ⟨k, A, ns, c, rfl, r⟩ := item_cells ht hcl
        refine ⟨k, A, ns, c, ?_, hat 1 (by omega), r⟩
        have := hat 0 (by omega)
        simpa [Addr.add] using this
      obtain ⟨k0, _, _, _, hz, _⟩ := hcell 0 (by omega)
      have hz' : W.cell? a = some (.int .i64 k0) := by simpa [Addr.add] using hz
      obtain ⟨hsp, hb⟩ := plain_addr hz'
      obtain ⟨b, o, sp⟩ := a
      have hsp' : sp = none := hsp
      subst hsp'
      obtain ⟨l, hl, hI, hx⟩ := its_of (o := o) len hb (fun i hlt => by
        obtain ⟨k, A, ns, c, h1, h2, h3⟩ := hcell i hlt
        rw [add_off] at h1 h2
        rw [add_off] at h2
        exact ⟨(k, ns), A, c, h1, h2, h3⟩)
      exact ⟨some ⟨b, o, none⟩, l, cap, by rw [hl], by rw [hl]; exact hlc, hcm, hI, hx⟩
set_option maxRecDepth 100000 in
/-- A dependency that came in. -/
theorem open_dep {H : Type} {enc : TypeId × Value → H} {W : World} {base : Nat} {v : Value} {d : DataW H} {ps : List MemPlace}
    (hv : Value.okWide Tryd.prog W .any base TRDep v) (h : DataW.Trod enc Tryd.prog W 0 (fun _ => true) true TRDep v d ps) :
    ∃ (any : Bool) (A : Option Addr) (l : List Itm) (cap : Nat), v = .agg #[.bool any, .slice A l.length cap] ∧ l.length ≤ cap ∧ cap ≤ maxLen ∧ Its W W.heap.size A l ∧ ∀ x ∈ l, x.2.length ≤ maxLen ∧ ∀ n ∈ x.2, I64 n := by
  obtain ⟨v0, v1, y0, y1, n, rfl, rfl, rfl, h0, h1⟩ := open_agg2 Tryd.underlying26 (by kernel_rfl) cellsRDep hv h
  obtain ⟨b, eb, _⟩ := DataW.trod_bool Tryd.underlying4 h0
  injection eb with eb _
  subst eb
  obtain ⟨A, l, cap, rfl, r⟩ := its_cells h1
  exact ⟨b, A, l, cap, rfl, r⟩
set_option maxRecDepth 100000 in
theorem open_nums {H : Type} {enc : TypeId × Value → H} {W : World} {base : Nat} {v : Value} {d : DataW H} {ps : List MemPlace}
    (hv : Value.okWide Tryd.prog W .any base 38 v) (h : DataW.Trod enc Tryd.prog W 0 (fun _ => true) true 38 v d ps) :
    ∃ (A : Option Addr) (ns : List Int) (cap : Nat), v = .slice A ns.length cap ∧ ns.length ≤ cap ∧ cap ≤ maxLen ∧ Ints W W.heap.size A ns ∧ ∀ n ∈ ns, I64 n := by
  obtain ⟨a0, len, cap, rfl⟩ := okWide_slice Tryd.underlying38 hv
  obtain ⟨fuel, hf⟩ := h
  exact ints_cells hf
end Go.Proofs.YtpelmclgkkhjeaaDoor
