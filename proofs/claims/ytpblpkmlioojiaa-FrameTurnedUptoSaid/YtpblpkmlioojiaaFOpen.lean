/-
  Lists of bytes that came in, opened; what a bound on their bulk gives.
-/
import Derived.Test.YtpblpkmlioojiaaFShut
import Derived.Test.YtpblpkmlioojiaaFBulk
import Derived.Test.YtpblpkmlioojiaaFRows
import Derived.Test.YtpblpkmlioojiaaFLayM
import Derived.Deep.Matrix
namespace Go.Proofs.Ytpblpkmlioojiaa
open Go.Deep Go.ChangeShapes Go.WideShapes Go.ChangeAt Go.WideMaps Go.WideElems Go.RowKit

theorem cellsSlice : Try.prog.cellsOf 22 = 1 := by kernel_rfl
theorem addr_plain {W : World} {a : Addr} {v : Value} (h : W.cell? a = some v) : ∃ b o, a = ⟨b, o, none⟩ ∧ b < W.heap.size := by
  obtain ⟨b, off, sp⟩ := a
  have hsp : sp = none := by
    cases sp with
    | none => rfl
    | some s =>
      simp only [World.cell?] at h
      split at h
      · simp at h
      · cases h
  subst hsp
  refine ⟨b, off, rfl, ?_⟩
  by_cases hb : b < W.heap.size
  · exact hb
  · simp only [World.cell?] at h
    rw [Array.getElem?_eq_none (by omega)] at h
    cases h
theorem add_plain (b o j : Nat) : (⟨b, o, none⟩ : Addr).add j = ⟨b, o + j, none⟩ := by
  unfold Addr.add
  by_cases hk0 : j = 0
  · subst hk0; simp
  · simp [hk0]
theorem bulk_rows {H : Type} (l : List Nat) (f : Nat → List UInt8) (D : Nat → DataW H) (h : ∀ r ∈ l, (f r).length + 1 ≤ Rows.uptoBulk (D r)) :
    (laid (l.map f)).length ≤ 12 * Rows.uptoBulkAll (l.map D) ∧ (l.map f).length ≤ Rows.uptoBulkAll (l.map D) := by
  induction l with
  | nil => exact ⟨Nat.zero_le _, Nat.zero_le _⟩
  | cons r l ih =>
    obtain ⟨a, b⟩ := ih (fun x hx => h x (by simp [hx]))
    have c := h r (by simp)
    simp only [List.map_cons, laid, List.length_append, frame_length, Rows.uptoBulkAll, List.length_cons]
    omega
/-- A slice of slices of bytes, opened. -/
theorem open_rows {H : Type} {enc : TypeId × Value → H} {W : World} {base : Nat} {v : Value} {d : DataW H} {pl : List MemPlace}
    (hv : Value.okWide Try.prog W .any base 37 v) (h : DataW.Trod enc Try.prog W 0 (fun _ => true) true 37 v d pl) :
    ∃ (A : Option Addr) (ps : List (List UInt8)) (cap : Nat), v = .slice A ps.length cap ∧ ps.length ≤ cap ∧ SegRows W W.heap.size A ps ∧
      (laid ps).length ≤ 12 * Rows.uptoBulk d ∧ ps.length ≤ Rows.uptoBulk d := by
  obtain ⟨a0, len, cap, rfl⟩ := okWide_slice Try.underlying37 hv
  obtain ⟨fuel, hf⟩ := h
  rcases open_int_rows Try.underlying37 Try.underlying22 Try.underlying5 cellsSlice cellsByte hf with ⟨hcs, _⟩ | ⟨a, len', cap', A, L, C, Z, hcs, _, hl, hm, hd, hcell⟩
  · simp [Value.cells] at hcs
    obtain ⟨rfl, rfl, rfl⟩ := hcs
    exact ⟨none, [], 0, rfl, Nat.le_refl _, SegRows.nil _ _ _, Nat.zero_le _, Nat.zero_le _⟩
  · simp [Value.cells] at hcs
    obtain ⟨rfl, rfl, rfl⟩ := hcs
    have hdd : d = .slice ((List.range len).map fun r => intRow .u8 (A r) (L r) (Z r)) ((List.range (cap - len)).map fun j => intRow .u8 (A (len + j)) (L (len + j)) (Z (len + j))) := congrArg Prod.fst hd
    have hrow : ∀ r, r < len → ∃ l : List UInt8, l.length = L r ∧ ∀ j (hj : j < l.length), (Z r).getD j 0 = (l[j].toNat : Int) := fun r hr => by
      obtain ⟨_, h1, _, h3, h4, _, _⟩ := hcell r (by omega)
      obtain ⟨l, hll, hlb⟩ := bytes_of_ints ((Z r).take (L r)) (fun n hn => h4 n (List.mem_of_mem_take hn))
      rw [List.length_take] at hll
      refine ⟨l, by omega, fun j hj => ?_⟩
      have e := hlb j hj
      rw [List.getD_eq_getElem?_getD, List.getElem?_take, if_pos (by omega), ← List.getD_eq_getElem?_getD] at e
      exact e
    obtain ⟨f, hf1⟩ : ∃ f : Nat → List UInt8, ∀ r, r < len → (f r).length = L r ∧ ∀ j (hj : j < (f r).length), (Z r).getD j 0 = ((f r)[j].toNat : Int) :=
      ⟨fun r => if hr : r < len then (hrow r hr).choose else [], fun r hr => by simp only [dif_pos hr]; exact (hrow r hr).choose_spec⟩
    have hbk := bulk_rows (H := H) (List.range len) f (fun r => intRow .u8 (A r) (L r) (Z r)) (fun r hr => by
      have hr' : r < len := List.mem_range.1 hr
      obtain ⟨_, h1, _, h3, _, h5, _⟩ := hcell r (by omega)
      rw [(hf1 r hr').1]
      unfold intRow
      cases hA : A r with
      | none => have := h5 hA; simp [Rows.uptoBulk]; omega
      | some a' =>
        have := bulk_slice (H := H) (lits .u8 ((Z r).take (L r))) (lits .u8 ((Z r).drop (L r)))
        simp only [lits, List.length_map, List.length_take] at this
        simp only [lits] at *
        omega)
    have hbd : Rows.uptoBulkAll (H := H) ((List.range len).map fun r => intRow .u8 (A r) (L r) (Z r)) ≤ Rows.uptoBulk d := by
      rw [hdd]; simp only [Rows.uptoBulk]; omega
    have hlen : ((List.range len).map f).length = len := by simp
    refine ⟨some a, (List.range len).map f, cap, by rw [hlen], by omega, fun h0 => ?_, by omega, by omega⟩
    have c0 := (hcell 0 (by omega)).1
    rw [show a.add 0 = a by simp [Addr.add]] at c0
    obtain ⟨b, off, rfl, hb⟩ := addr_plain c0
    refine ⟨b, off, rfl, hb, fun j hj => ?_⟩
    have hj' : j < len := by omega
    obtain ⟨h0, h1, _, h3, _, h5, h6⟩ := hcell j (by omega)
    obtain ⟨f1, f2⟩ := hf1 j hj'
    have hg : ((List.range len).map f)[j] = f j := by simp
    rw [hg]
    refine ⟨A j, C j, ?_, by omega, fun hp => ?_⟩
    · rw [add_plain] at h0
      rw [h0, f1]
    · cases hA : A j with
      | none => have := h5 hA; omega
      | some a' =>
        obtain ⟨_, hcs⟩ := h6 a' hA
        have d0 := hcs 0 (by omega)
        rw [show a'.add 0 = a' by simp [Addr.add]] at d0
        obtain ⟨b', o', rfl, hb'⟩ := addr_plain d0
        refine ⟨b', o', rfl, hb', fun c hc => ?_⟩
        have := hcs c (by omega)
        rw [add_plain, f2 c hc] at this
        exact this
end Go.Proofs.Ytpblpkmlioojiaa
