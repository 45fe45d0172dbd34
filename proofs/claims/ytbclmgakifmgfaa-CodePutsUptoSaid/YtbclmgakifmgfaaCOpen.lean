/-
  Scripts, and lists of numbers and texts, that came in, opened.
-/
import Derived.Test.YtbclmgakifmgfaaCShut
import Derived.Test.YtbclmgakifmgfaaCLStays
import Derived.Deep.Slices
import Derived.SliceStrings
import Derived.Laws.IdiomArrays
namespace Go.Proofs.Ytbclmgakifmgfaa
open Go.ChangeShapes Go.WideShapes Go.ChangeAt Go.WideMaps Go.WideElems Go.RowKit Go.Deep

theorem cellsAct : Try.prog.cellsOf 52 = 3 := by kernel_rfl
theorem cellsInt : Try.prog.cellsOf 3 = 1 := by kernel_rfl
theorem cellsString : Try.prog.cellsOf 9 = 1 := by kernel_rfl
/-- An address at which a cell lies is a block's. -/
theorem plain_addr {w : World} {a : Addr} {v : Value} (h : w.cell? a = some v) : a.spot = none ∧ a.block < w.heap.size := by
  obtain ⟨b, off, sp⟩ := a
  refine ⟨World.cell?_spot h, ?_⟩
  by_cases hb : b < w.heap.size
  · exact hb
  · simp only [World.cell?] at h
    rw [Array.getElem?_eq_none (by omega)] at h
    cases h
theorem add_off (b o k : Nat) : (⟨b, o, none⟩ : Addr).add k = ⟨b, o + k, none⟩ := by
  unfold Addr.add
  by_cases hk : k = 0
  · subst hk; rfl
  · rw [if_neg hk]
theorem open_acts {H : Type} {enc : TypeId × Value → H} {W : World} {base : Nat} {v : Value} {d : DataW H} {ps : List MemPlace}
    (hv : Value.okWide Try.prog W .any base 50 v) (h : DataW.Trod enc Try.prog W 0 (fun _ => true) true 50 v d ps) :
    ∃ (A : Option Addr) (n cap : Nat), v = .slice A n cap ∧ Acts W W.heap.size A n ∧ (n = 0 ∨ ∃ elems spare, d = .slice elems spare ∧ elems.length = n) := by
  obtain ⟨a0, len, cap, rfl⟩ := okWide_slice Try.underlying50 hv
  obtain ⟨fuel, hf⟩ := h
  rcases open_slice Try.underlying50 hf with ⟨hcs, _⟩ | ⟨a, len', cap', m, n, D, Pl, hcs, _, hle, _, hm, hx, hi⟩
  · simp [Value.cells] at hcs
    obtain ⟨rfl, rfl, rfl⟩ := hcs
    exact ⟨none, 0, 0, rfl, fun h => absurd h (Nat.lt_irrefl 0), .inl rfl⟩
  · simp [Value.cells] at hcs
    obtain ⟨rfl, rfl, rfl⟩ := hcs
    simp at hm
    refine ⟨some a, len, cap, rfl, fun h0 => ?_, .inr ⟨_, _, congrArg Prod.fst hx, by simp⟩⟩
    have each : ∀ j, j < len → ∃ (k : Nat) (lo hi : Int), k < 256 ∧ W.cell? (a.add (j * 3)) = some (.int .u8 k) ∧ W.cell? ((a.add (j * 3)).add 1) = some (.int .i64 lo) ∧ W.cell? ((a.add (j * 3)).add 2) = some (.int .i64 hi) := by
      intro j hj
      obtain ⟨cs, h1, h2⟩ := hi j (by omega)
      rw [cellsAct] at h1
      obtain ⟨_, hlen, hcell⟩ := World.cells?_some h1
      obtain ⟨xs, q, _, _, _, hxl, hfl⟩ := DataW.trod_struct Try.underlying52 h2
      match cs, hlen with
      | [v0, v1, v2], _ =>
        have e0 := hcell 0 (by omega)
        have e1 := hcell 1 (by omega)
        have e2 := hcell 2 (by omega)
        have g0 := hfl 0 _ rfl
        have g1 := hfl 1 _ rfl
        have g2 := hfl 2 _ rfl
        have l0 : 0 < xs.length := by rw [hxl]; decide
        have l1 : 1 < xs.length := by rw [hxl]; decide
        have l2 : 2 < xs.length := by rw [hxl]; decide
        rw [List.getElem?_eq_getElem l0] at g0
        rw [List.getElem?_eq_getElem l1] at g1
        rw [List.getElem?_eq_getElem l2] at g2
        change DataW.trod enc Try.prog W 0 (fun _ => true) true q 5 (List.take (Try.prog.cellsOf 5) (List.drop 0 [v0, v1, v2])) = _ at g0
        change DataW.trod enc Try.prog W 0 (fun _ => true) true q 3 (List.take (Try.prog.cellsOf 3) (List.drop 1 [v0, v1, v2])) = _ at g1
        change DataW.trod enc Try.prog W 0 (fun _ => true) true q 3 (List.take (Try.prog.cellsOf 3) (List.drop 2 [v0, v1, v2])) = _ at g2
        rw [cellsByte] at g0
        rw [cellsInt] at g1 g2
        obtain ⟨k, hk, _, hwf⟩ := DataW.trod_int Try.underlying5 g0
        obtain ⟨lo, hlo, _, _⟩ := DataW.trod_int Try.underlying3 g1
        obtain ⟨hh, hhi, _, _⟩ := DataW.trod_int Try.underlying3 g2
        simp at hk hlo hhi
        subst hk hlo hhi
        have hb : 0 ≤ k ∧ k ≤ 255 := by simpa [Lit.wf, IntKind.min, IntKind.max, IntKind.signed, IntKind.bits] using hwf
        obtain ⟨kn, rfl⟩ := Int.eq_ofNat_of_zero_le hb.1
        refine ⟨kn, lo, hh, by omega, ?_, by simpa using e1, by simpa using e2⟩
        have : (a.add (j * 3)).add 0 = a.add (j * 3) := by simp [Addr.add]
        rw [this] at e0
        simpa using e0
    obtain ⟨b, off, sp⟩ := a
    obtain ⟨_, _, _, _, x0, _, _⟩ := each 0 h0
    obtain ⟨hsp, hb⟩ := plain_addr x0
    have hsp : sp = none := by simpa [Addr.add] using hsp
    subst hsp
    rw [add_off] at hb
    refine ⟨b, off, rfl, hb, fun j hj => ?_⟩
    have := each j hj
    rw [add_off] at this
    simpa only [add_off] using this
/-- A slice of numbers that came in. -/
theorem open_numbers {H : Type} {enc : TypeId × Value → H} {W : World} {base : Nat} {v : Value} {d : DataW H} {ps : List MemPlace}
    (hv : Value.okWide Try.prog W .any base 22 v) (h : DataW.Trod enc Try.prog W 0 (fun _ => true) true 22 v d ps) :
    ∃ (A : Option Addr) (ns : List Int) (cap : Nat), v = .slice A ns.length cap ∧ SegV W A (ns.map (.int .i64)) ∧ (∀ n ∈ ns, InR n) ∧ (ns = [] ∨ ∃ elems spare, d = .slice elems spare ∧ elems.length = ns.length) := by
  obtain ⟨a0, len, cap, rfl⟩ := okWide_slice Try.underlying22 hv
  obtain ⟨fuel, hf⟩ := h
  rcases open_ints Try.underlying22 Try.underlying3 cellsInt hf with ⟨hcs, _⟩ | ⟨a, len', cap', zs, hcs, _, hl, hm, hz, hd, hcell, hw⟩
  · simp [Value.cells] at hcs
    obtain ⟨rfl, rfl, rfl⟩ := hcs
    exact ⟨none, [], 0, rfl, fun h => absurd h (Nat.lt_irrefl 0), fun n hn => by simp at hn, .inl rfl⟩
  · simp [Value.cells] at hcs
    obtain ⟨rfl, rfl, rfl⟩ := hcs
    simp at hz
    have hlen : (zs.take len).length = len := by rw [List.length_take]; omega
    refine ⟨some a, zs.take len, cap, by rw [hlen], fun h0 => ?_, fun n hn => ?_, .inr ⟨_, _, congrArg Prod.fst hd, by simp [lits]⟩⟩
    · rw [List.length_map, hlen] at h0
      obtain ⟨hsp, hb⟩ := plain_addr (hcell 0 (by omega))
      obtain ⟨b, off, sp⟩ := a
      have hsp : sp = none := by simpa [Addr.add] using hsp
      subst hsp
      rw [add_off] at hb
      refine ⟨b, off, rfl, hb, fun j hj => ?_⟩
      rw [List.length_map, hlen] at hj
      have := hcell j (by omega)
      rw [add_off] at this
      rw [this, List.getElem_map, List.getElem_take, List.getD_eq_getElem?_getD, List.getElem?_eq_getElem (by omega), Option.getD_some]
    · have := hw n (List.mem_of_mem_take hn)
      simpa [InR, Lit.wf, IntKind.min, IntKind.max, IntKind.signed, IntKind.bits] using this
theorem str_of (s : ByteArray) : str s.data.toList = s := by
  unfold str; simp
/-- A slice of texts that came in. -/
theorem open_texts {H : Type} {enc : TypeId × Value → H} {W : World} {base : Nat} {v : Value} {d : DataW H} {ps : List MemPlace}
    (hv : Value.okWide Try.prog W .any base 23 v) (h : DataW.Trod enc Try.prog W 0 (fun _ => true) true 23 v d ps) :
    ∃ (A : Option Addr) (ts : List (List UInt8)) (cap : Nat), v = .slice A ts.length cap ∧ SegV W A (ts.map fun t => .string (str t)) ∧ (ts = [] ∨ ∃ spare, d = .slice (ts.map fun t => .lit (.string t)) spare) := by
  obtain ⟨a0, len, cap, rfl⟩ := okWide_slice Try.underlying23 hv
  obtain ⟨fuel, hf⟩ := h
  rcases open_strings Try.underlying23 Try.underlying9 cellsString hf with ⟨hcs, _⟩ | ⟨a, len', cap', ss, hcs, _, hl, hm, hz, hd, hcell, hw⟩
  · simp [Value.cells] at hcs
    obtain ⟨rfl, rfl, rfl⟩ := hcs
    exact ⟨none, [], 0, rfl, fun h => absurd h (Nat.lt_irrefl 0), .inl rfl⟩
  · simp [Value.cells] at hcs
    obtain ⟨rfl, rfl, rfl⟩ := hcs
    simp at hz
    have hlen : ((ss.take len).map fun s => s.data.toList).length = len := by rw [List.length_map, List.length_take]; omega
    refine ⟨some a, (ss.take len).map fun s => s.data.toList, cap, by rw [hlen], fun h0 => ?_, .inr ⟨strs (ss.drop len), (congrArg Prod.fst hd).trans ?_⟩⟩
    · rw [List.length_map, hlen] at h0
      obtain ⟨hsp, hb⟩ := plain_addr (hcell 0 (by omega))
      obtain ⟨b, off, sp⟩ := a
      have hsp : sp = none := by simpa [Addr.add] using hsp
      subst hsp
      rw [add_off] at hb
      refine ⟨b, off, rfl, hb, fun j hj => ?_⟩
      rw [List.length_map, hlen] at hj
      have := hcell j (by omega)
      rw [add_off] at this
      rw [this, List.getElem_map, List.getElem_map, List.getElem_take, str_of, List.getD_eq_getElem?_getD, List.getElem?_eq_getElem (by omega), Option.getD_some]
    · simp [strs]
      rfl
theorem cellsNodes : Try.prog.cellsOf 26 = 4 := by kernel_rfl
theorem cellsU64 : Try.prog.cellsOf 24 = 1 := by kernel_rfl
/-- A set by value that came in: its words. -/
theorem open_words {H : Type} {enc : TypeId × Value → H} {W : World} {base : Nat} {v : Value} {d : DataW H} {ps : List MemPlace}
    (hv : Value.okWide Try.prog W .any base 26 v) (h : DataW.Trod enc Try.prog W 0 (fun _ => true) true 26 v d ps) :
    ∃ f : Nat → Nat, v = agg4 f ∧ ∀ j, j < 4 → f j < 18446744073709551616 := by
  obtain ⟨cs, rfl, hsz, _⟩ : ∃ cs, v = .agg cs ∧ cs.size = Try.prog.cellsOf 26 ∧ Row.okWide Try.prog W .any base 26 cs := by
    simpa [Value.okWide, Try.underlying26] using hv
  rw [cellsNodes] at hsz
  obtain ⟨l⟩ := cs
  match l, hsz with
  | [c0, c1, c2, c3], _ =>
    obtain ⟨fuel, hf⟩ := h
    obtain ⟨y0, y1, y2, y3, m, hx, hy0, hy1, hy2, hy3⟩ := trod_array4 Try.underlying26 cellsU64 hf
    obtain ⟨x0, e0, rfl, w0⟩ := DataW.trod_int Try.underlying24 hy0
    obtain ⟨x1, e1, rfl, w1⟩ := DataW.trod_int Try.underlying24 hy1
    obtain ⟨x2, e2, rfl, w2⟩ := DataW.trod_int Try.underlying24 hy2
    obtain ⟨x3, e3, rfl, w3⟩ := DataW.trod_int Try.underlying24 hy3
    simp at e0 e1 e2 e3
    subst e0 e1 e2 e3
    have b : ∀ x : Int, (Lit.int .u64 x).wf = true → ∃ n : Nat, x = (n : Int) ∧ n < 18446744073709551616 := fun x hx => by
      have : 0 ≤ x ∧ x ≤ 18446744073709551615 := by simpa [Lit.wf, IntKind.min, IntKind.max, IntKind.signed, IntKind.bits] using hx
      exact ⟨x.toNat, by omega, by omega⟩
    obtain ⟨n0, rfl, b0⟩ := b x0 w0
    obtain ⟨n1, rfl, b1⟩ := b x1 w1
    obtain ⟨n2, rfl, b2⟩ := b x2 w2
    obtain ⟨n3, rfl, b3⟩ := b x3 w3
    refine ⟨fun j => if j = 0 then n0 else if j = 1 then n1 else if j = 2 then n2 else n3, rfl, fun j hj => ?_⟩
    obtain rfl | rfl | rfl | rfl : j = 0 ∨ j = 1 ∨ j = 2 ∨ j = 3 := by omega
    · exact b0
    · exact b1
    · exact b2
    · exact b3
end Go.Proofs.Ytbclmgakifmgfaa
