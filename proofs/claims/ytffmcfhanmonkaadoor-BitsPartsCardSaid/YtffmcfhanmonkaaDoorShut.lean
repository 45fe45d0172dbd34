/-
  What all rows of this seat share: the table, the start that fits, arguments opened, and what a call leaves.
-/
import Derived.Test.YtffmcfhanmonkaaDoorRows
import Derived.Test.YtffmcfhanmonkaaDoorCards
import Derived.Test.YtffmcfhanmonkaaDoorTie
import Derived.Test.YtffmcfhanmonkaaDoorHeld
import Derived.ProofKit
import Derived.LaidMore
import Derived.Stop.Joined
import Derived.Lib.LaidTab
import Derived.Laws.IdiomArrays
import Derived.SevenTiedAt
namespace Go.Proofs.YtffmcfhanmonkaaDoor
open Go.ChangeShapes Go.WideShapes Go.ChangeAt Go.WideMaps Go.WideElems Go.RowKit

theorem own : ownKnob Tryd.prog.godebug = none := by kernel_rfl
theorem laidOut : laidOutB Tryd.prog = true := by kernel_rfl
theorem gTab : Tryd.prog.globalNamed "math/bits.deBruijn64tab" = some 0 := by kernel_rfl
theorem tyTab : (Tryd.prog.globals[0]?).map (·.type) = some 50 := by kernel_rfl
theorem cells5 : Tryd.prog.cellsOf 5 = 1 := by kernel_rfl
theorem cellsTab : Tryd.prog.cellsOf 50 = 64 := by kernel_rfl
theorem cellsNodes : Tryd.prog.cellsOf 26 = 4 := by kernel_rfl
theorem cellsU64 : Tryd.prog.cellsOf 24 = 1 := by kernel_rfl
theorem cellsInt : Tryd.prog.cellsOf 3 = 1 := by kernel_rfl

theorem tab_of {W : World} (h : laidMetH Tryd.prog [("math/bits.deBruijn64tab", Rows.laid_math_bits_deBruijn64tab)] W) : Tab W := by
  rw [MakeChecks.laidMetH_plain _ _ _ (by kernel_rfl)] at h
  have h' : laidMet Tryd.prog (("math/bits.deBruijn64tab", Lib.tabData .u8 (Lib.deBruijn64tab.map fun n : Nat => (n : Int))) :: []) W := h
  have ht := Lib.tabIs_of_head gTab tyTab Tryd.underlying50 Tryd.underlying5 cells5 cellsTab h'
  intro j hj
  have := ht.cell gTab j (by simpa using hj)
  rw [this]
  simp [List.getD_eq_getElem?_getD, List.getElem?_map, List.getElem?_eq_getElem hj]

theorem door_met (os : Os) (args : Array Value) : laidMetH Tryd.prog [("math/bits.deBruijn64tab", Rows.laid_math_bits_deBruijn64tab)] ((World.doorLaid Tryd.prog 400 os).forCall (fun _ _ => 0) ⟨#[], args, []⟩).memory :=
  laidMetH_of_parts3 (fuel := 8) (laidMet_of_run' 8 (by kernel_rfl) (by kernel_rfl)) (by kernel_rfl) (by kernel_rfl)

/-- A set by value, opened: its words, and the places that are true. -/
theorem open_nodes {H : Type} {enc : TypeId × Value → H} {W : World} {base : Nat} {v : Value} {d : DataW H} {ps : List MemPlace}
    (hv : Value.okWide Tryd.prog W .any base 26 v) (h : DataW.Trod enc Tryd.prog W 0 (fun _ => true) true 26 v d ps) :
    ∃ p : Nat → Bool, v = nodes p := by
  obtain ⟨cs, rfl, hsz, _⟩ : ∃ cs, v = .agg cs ∧ cs.size = Tryd.prog.cellsOf 26 ∧ Row.okWide Tryd.prog W .any base 26 cs := by
    simpa [Value.okWide, Tryd.underlying26] using hv
  rw [cellsNodes] at hsz
  obtain ⟨l⟩ := cs
  match l, hsz with
  | [c0, c1, c2, c3], _ =>
    obtain ⟨fuel, hf⟩ := h
    obtain ⟨y0, y1, y2, y3, m, hx, hy0, hy1, hy2, hy3⟩ := trod_array4 Tryd.underlying26 cellsU64 hf
    obtain ⟨x0, e0, rfl, w0⟩ := DataW.trod_int Tryd.underlying24 hy0
    obtain ⟨x1, e1, rfl, w1⟩ := DataW.trod_int Tryd.underlying24 hy1
    obtain ⟨x2, e2, rfl, w2⟩ := DataW.trod_int Tryd.underlying24 hy2
    obtain ⟨x3, e3, rfl, w3⟩ := DataW.trod_int Tryd.underlying24 hy3
    simp at e0 e1 e2 e3
    subst e0 e1 e2 e3
    have b : ∀ x : Int, (Lit.int .u64 x).wf = true → 0 ≤ x ∧ x < 18446744073709551616 := fun x hx => by
      have : 0 ≤ x ∧ x ≤ 18446744073709551615 := by simpa [Lit.wf, IntKind.min, IntKind.max, IntKind.signed, IntKind.bits] using hx
      omega
    obtain ⟨a0, b0⟩ := b x0 w0
    obtain ⟨a1, b1⟩ := b x1 w1
    obtain ⟨a2, b2⟩ := b x2 w2
    obtain ⟨a3, b3⟩ := b x3 w3
    obtain ⟨n0, rfl⟩ := Int.eq_ofNat_of_zero_le a0
    obtain ⟨n1, rfl⟩ := Int.eq_ofNat_of_zero_le a1
    obtain ⟨n2, rfl⟩ := Int.eq_ofNat_of_zero_le a2
    obtain ⟨n3, rfl⟩ := Int.eq_ofNat_of_zero_le a3
    refine ⟨fun i => (if i < 64 then n0 else if i < 128 then n1 else if i < 192 then n2 else n3).testBit (i % 64), ?_⟩
    have q0 : n0 = word (fun i => (if i < 64 then n0 else if i < 128 then n1 else if i < 192 then n2 else n3).testBit (i % 64)) 0 := word_eq (by omega) fun j hj => by
      rw [show 64 * 0 + j = j by omega, if_pos hj, Nat.mod_eq_of_lt hj]
    have q1 : n1 = word (fun i => (if i < 64 then n0 else if i < 128 then n1 else if i < 192 then n2 else n3).testBit (i % 64)) 1 := word_eq (by omega) fun j hj => by
      rw [if_neg (by omega), if_pos (by omega), show (64 * 1 + j) % 64 = j by omega]
    have q2 : n2 = word (fun i => (if i < 64 then n0 else if i < 128 then n1 else if i < 192 then n2 else n3).testBit (i % 64)) 2 := word_eq (by omega) fun j hj => by
      rw [if_neg (by omega), if_neg (by omega), if_pos (by omega), show (64 * 2 + j) % 64 = j by omega]
    have q3 : n3 = word (fun i => (if i < 64 then n0 else if i < 128 then n1 else if i < 192 then n2 else n3).testBit (i % 64)) 3 := word_eq (by omega) fun j hj => by
      rw [if_neg (by omega), if_neg (by omega), if_neg (by omega), show (64 * 3 + j) % 64 = j by omega]
    unfold nodes
    rw [← q0, ← q1, ← q2, ← q3]
/-- A slice of numbers, opened: it reads as a list. -/
theorem open_list {H : Type} {enc : TypeId × Value → H} {W : World} {base : Nat} {v : Value} {d : DataW H} {ps : List MemPlace}
    (hv : Value.okWide Tryd.prog W .any base 22 v) (h : DataW.Trod enc Tryd.prog W 0 (fun _ => true) true 22 v d ps) :
    ∃ (a : Option Addr) (l : List Int) (cap : Nat), v = .slice a l.length cap ∧ Reads W (.slice a l.length cap) l := by
  obtain ⟨a0, len, cap, rfl⟩ := okWide_slice Tryd.underlying22 hv
  obtain ⟨fuel, hf⟩ := h
  rcases open_ints Tryd.underlying22 Tryd.underlying3 cellsInt hf with ⟨hcs, _⟩ | ⟨a, len', cap', zs, hcs, _, hl, _, hz, _, hcell, _⟩
  · simp [Value.cells] at hcs
    obtain ⟨rfl, rfl, rfl⟩ := hcs
    exact ⟨none, [], 0, rfl, .inl ⟨rfl, none, 0, rfl⟩⟩
  · simp [Value.cells] at hcs
    obtain ⟨rfl, rfl, rfl⟩ := hcs
    simp at hz
    have hlen : (zs.take len).length = len := by rw [List.length_take]; omega
    by_cases h0 : len = 0
    · subst h0
      exact ⟨some a, [], cap, rfl, .inl ⟨rfl, some a, cap, rfl⟩⟩
    · obtain ⟨b, off, sp⟩ := a
      have c0 := hcell 0 (by omega)
      rw [show (⟨b, off, sp⟩ : Addr).add 0 = ⟨b, off, sp⟩ by simp [Addr.add]] at c0
      have hsp : sp = none := by
        cases sp with
        | none => rfl
        | some s =>
          simp only [World.cell?] at c0
          split at c0
          · simp at c0
          · cases c0
      subst hsp
      have hb : b < W.heap.size := by
        by_cases hb : b < W.heap.size
        · exact hb
        · simp only [World.cell?] at c0
          rw [Array.getElem?_eq_none (by omega)] at c0
          cases c0
      refine ⟨some ⟨b, off, none⟩, zs.take len, cap, by rw [hlen], .inr ⟨b, off, cap, rfl, hb, fun k x hx => ?_⟩⟩
      have hk : k < len := by
        by_cases hk : k < len
        · exact hk
        · rw [List.getElem?_eq_none (by omega)] at hx; cases hx
      rw [List.getElem?_take, if_pos hk] at hx
      have := hcell k (by omega)
      rw [List.getD_eq_getElem?_getD, hx] at this
      rw [show (⟨b, off, none⟩ : Addr).add k = ⟨b, off + k, none⟩ by
        unfold Addr.add
        by_cases hk0 : k = 0
        · subst hk0; simp
        · simp [hk0]] at this
      exact this
end Go.Proofs.YtffmcfhanmonkaaDoor
