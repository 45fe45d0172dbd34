/-
  A byte of the call's own, written over.
-/
import Derived.Test.YtbclmgakifmgfaaCBase
import Derived.Deep.AppendLies
namespace Go.Proofs.Ytbclmgakifmgfaa
open Go.RowKit

theorem xor_byte (c y : UInt8) : bits .xor .u8 (c.toNat : Int) (y.toNat : Int) = ((c ^^^ y).toNat : Int) := by
  have hc := c.toNat_lt
  have hy := y.toNat_lt
  have h1 : (BitVec.ofInt 8 (c.toNat : Int)).toNat = c.toNat := by
    rw [BitVec.ofInt_natCast, BitVec.toNat_ofNat]; exact Nat.mod_eq_of_lt (by omega)
  have h2 : (BitVec.ofInt 8 (y.toNat : Int)).toNat = y.toNat := by
    rw [BitVec.ofInt_natCast, BitVec.toNat_ofNat]; exact Nat.mod_eq_of_lt (by omega)
  have hx : c.toNat ^^^ y.toNat < 2 ^ 8 := Nat.xor_lt_two_pow hc hy
  show IntKind.u8.wrap ((BitVec.ofInt 8 (c.toNat : Int) ^^^ BitVec.ofInt 8 (y.toNat : Int)).toNat : Int) = _
  rw [BitVec.toNat_xor, h1, h2, UInt8.toNat_xor]
  simp [IntKind.wrap, IntKind.bits, IntKind.signed]
  omega
theorem BV_set (l : List UInt8) (i : Nat) (x : UInt8) : BV (l.set i x) = (BV l).set i (.int .u8 (x.toNat : Int)) := by
  unfold BV; rw [List.map_set]
theorem Own.stored {w : World} {base g cap : Nat} {l : List UInt8} (h : Own w base (.slice (some ⟨g, 0, none⟩) l.length cap) l) (i : Nat) (x : UInt8) :
    Own (w.setCell ⟨g, i, none⟩ (.int .u8 (x.toNat : Int))) base (.slice (some ⟨g, 0, none⟩) l.length cap) (l.set i x) := by
  have := (World.ownsRow.stored h i (.int .u8 (x.toNat : Int))).1
  unfold Own
  rw [List.length_set, BV_set]
  exact this
theorem Own.cell_at {w : World} {base g cap : Nat} {l : List UInt8} (h : Own w base (.slice (some ⟨g, 0, none⟩) l.length cap) l) (i : Nat) (hi : i < l.length) :
    w.cell? ⟨g, i, none⟩ = some (.int .u8 (l[i].toNat : Int)) ∧ w.frozen? ⟨g, i, none⟩ = false := by
  refine ⟨?_, World.ownsRow.frozenAt h i⟩
  rw [World.ownsRow.cellAt h i (by omega)]
  unfold BV
  rw [List.getElem?_map, List.getElem?_eq_getElem hi]
  rfl
theorem Own.form2 {w : World} {base k : Nat} {A : Option Addr} {l : List UInt8} (h : Own w base (.slice A l.length k) l) (hn : 0 < l.length) : ∃ g, A = some ⟨g, 0, none⟩ ∧ base ≤ g := by
  obtain ⟨g, cap, hv, hb, _⟩ := World.ownsRow.form h hn
  injection hv with hA _ _
  exact ⟨g, hA, hb⟩
end Go.Proofs.Ytbclmgakifmgfaa
