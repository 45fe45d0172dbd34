/-
  What all rows of this seat share: bytes that came in, opened; what a bound on their bulk gives.
-/
import Derived.Test.YtbclmgakifmgfaaRows
import Derived.Test.YtbclmgakifmgfaaFSeg
import Derived.ProofKit
import Derived.OpenShut
import Derived.Laws.IdiomArrays
import Derived.SizedLaws
import Derived.JoinedCond
namespace Go.Proofs.Ytbclmgakifmgfaa
open Go.ChangeShapes Go.WideShapes Go.ChangeAt Go.WideMaps Go.WideElems Go.RowKit

theorem own : ownKnob Try.prog.godebug = none := by kernel_rfl
theorem laidOut : laidOutB Try.prog = true := by kernel_rfl
theorem cellsByte : Try.prog.cellsOf 5 = 1 := by kernel_rfl
theorem bytesByte : Try.prog.bytesOf 5 = 1 := by kernel_rfl

/-- Numbers that are bytes. -/
theorem bytes_of_ints (zs : List Int) (h : ∀ n ∈ zs, (Lit.int .u8 n).wf = true) : ∃ l : List UInt8, l.length = zs.length ∧ ∀ j (hj : j < l.length), zs.getD j 0 = (l[j].toNat : Int) := by
  refine ⟨zs.map fun z => UInt8.ofNat z.toNat, List.length_map _, fun j hj => ?_⟩
  rw [List.length_map] at hj
  have hw := h zs[j] (List.getElem_mem hj)
  have hb : 0 ≤ zs[j] ∧ zs[j] ≤ 255 := by simpa [Lit.wf, IntKind.min, IntKind.max, IntKind.signed, IntKind.bits] using hw
  rw [List.getD_eq_getElem?_getD, List.getElem?_eq_getElem hj, Option.getD_some, List.getElem_map, UInt8.toNat_ofNat']
  omega

/-- A slice of bytes, opened. -/
theorem open_bytes {H : Type} {enc : TypeId × Value → H} {W : World} {base : Nat} {v : Value} {d : DataW H} {ps : List MemPlace}
    (hv : Value.okWide Try.prog W .any base 27 v) (h : DataW.Trod enc Try.prog W 0 (fun _ => true) true 27 v d ps) :
    ∃ (A : Option Addr) (l : List UInt8) (cap : Nat), v = .slice A l.length cap ∧ l.length ≤ cap ∧ Seg W W.heap.size A l ∧ (l = [] ∨ ∃ elems spare, d = .slice elems spare ∧ elems.length = l.length) := by
  obtain ⟨a0, len, cap, rfl⟩ := okWide_slice Try.underlying27 hv
  obtain ⟨fuel, hf⟩ := h
  rcases open_ints Try.underlying27 Try.underlying5 cellsByte hf with ⟨hcs, _⟩ | ⟨a, len', cap', zs, hcs, _, hl, hm, hz, hd, hcell, hw⟩
  · simp [Value.cells] at hcs
    obtain ⟨rfl, rfl, rfl⟩ := hcs
    exact ⟨none, [], 0, rfl, Nat.le_refl _, Seg.nil _ _ _, .inl rfl⟩
  · simp [Value.cells] at hcs
    obtain ⟨rfl, rfl, rfl⟩ := hcs
    simp at hz
    have hlen : (zs.take len).length = len := by rw [List.length_take]; omega
    obtain ⟨l, hll, hlb⟩ := bytes_of_ints (zs.take len) (fun n hn => hw n (List.mem_of_mem_take hn))
    rw [hlen] at hll
    refine ⟨some a, l, cap, by rw [hll], by omega, fun h0 => ?_, ?_⟩
    · obtain ⟨b, off, sp⟩ := a
      have c0 := hcell 0 (by omega)
      rw [show (⟨b, off, sp⟩ : Addr).add 0 = ⟨b, off, sp⟩ by simp [Addr.add]] at c0
      have hsp : sp = none := by
        cases sp with
        | none => rfl
        | some s =>
          simp only [World.cell?] at c0
          split at c0
          · simp at c0
          · cases c0
      subst hsp
      have hb : b < W.heap.size := by
        by_cases hb : b < W.heap.size
        · exact hb
        · simp only [World.cell?] at c0
          rw [Array.getElem?_eq_none (by omega)] at c0
          cases c0
      refine ⟨b, off, rfl, hb, fun j hj => ?_⟩
      have e := hlb j hj
      rw [List.getD_eq_getElem?_getD, List.getElem?_take, if_pos (by omega), ← List.getD_eq_getElem?_getD] at e
      have := hcell j (by omega)
      rw [e, show (⟨b, off, none⟩ : Addr).add j = ⟨b, off + j, none⟩ by
        unfold Addr.add
        by_cases hk0 : j = 0
        · subst hk0; simp
        · simp [hk0]] at this
      exact this
    · refine .inr ⟨lits .u8 (zs.take len), lits .u8 (zs.drop len), ?_, ?_⟩
      · exact congrArg Prod.fst hd
      · simp only [lits, List.length_map]; omega
end Go.Proofs.Ytbclmgakifmgfaa
