/-
  A slice of bytes that reads as a list, the nil one too; the number of few bytes.
-/
import Derived.Test.YtbclmgakifmgfaaProg
import Derived.Test.YtbclmgakifmgfaaFMath
import Derived.WalkKit
import Derived.Below
import Derived.IntWalk
import Derived.Laws.Bits64b
import Derived.Deep.Draws
namespace Go.Proofs.Ytbclmgakifmgfaa
open Go.RowKit

theorem fhid {p : Prop} (h : p) : Hid p := h
theorem fret1 {k : IntKind} {a b : Int} (h : a = b) : Ending.returned (.int k a) = .returned (.int k b) := by rw [h]

theorem below_drewN {B : Nat} {a w : World} (h : Below B a w) (n : Nat) : Below B a (w.drewN n) := ⟨h.os, h.tape, h.output, h.size, h.block⟩
/-- The slice at address A reads as the bytes l, in a block below B. -/
def Seg (w : World) (B : Nat) (A : Option Addr) (l : List UInt8) : Prop :=
  0 < l.length → ∃ b o, A = some ⟨b, o, none⟩ ∧ b < B ∧ ∀ j (h : j < l.length), w.cell? ⟨b, o + j, none⟩ = some (.int .u8 (l[j].toNat : Int))

section
variable {w w' : World} {B B' : Nat} {A : Option Addr} {l : List UInt8}
theorem Seg.nil (w : World) (B : Nat) (A : Option Addr) : Seg w B A [] := fun h => absurd h (Nat.lt_irrefl 0)
theorem Seg.at_ (h : Seg w B A l) {k : Nat} (hk : k < l.length) : ∃ b o, A = some ⟨b, o, none⟩ ∧ b < B ∧ w.cell? ⟨b, o + k, none⟩ = some (.int .u8 (l[k].toNat : Int)) := by
  obtain ⟨b, o, e, hb, hc⟩ := h (by omega)
  exact ⟨b, o, e, hb, hc k hk⟩
theorem Seg.keep (h : Seg w B A l) (hk : ∀ p : Addr, p.block < B → w'.cell? p = w.cell? p) : Seg w' B A l := fun h0 => by
  obtain ⟨b, o, e, hb, hc⟩ := h h0
  exact ⟨b, o, e, hb, fun j hj => (hk _ hb).trans (hc j hj)⟩
theorem Seg.more (h : Seg w B A l) (hB : B ≤ B') : Seg w B' A l := fun h0 => by
  obtain ⟨b, o, e, hb, hc⟩ := h h0
  exact ⟨b, o, e, by omega, hc⟩
theorem Seg.below (h : Seg w B A l) (hb : Below B w w') : Seg w' B A l := h.keep fun _ hp => hb.cell hp
theorem Seg.take (h : Seg w B A l) (k : Nat) : Seg w B A (l.take k) := fun h0 => by
  rw [List.length_take] at h0
  obtain ⟨b, o, e, hb, hc⟩ := h (by omega)
  refine ⟨b, o, e, hb, fun j hj => ?_⟩
  rw [List.length_take] at hj
  rw [List.getElem_take]
  exact hc j (by omega)
theorem Seg.drop (h : Seg w B A l) {k cap : Nat} (hk : k ≤ l.length) (hc : l.length ≤ cap) : Seg w B (if cap = k then A else A.map (·.add k)) (l.drop k) := fun h0 => by
  rw [List.length_drop] at h0
  obtain ⟨b, o, rfl, hb, hcell⟩ := h (by omega)
  rw [if_neg (by omega)]
  refine ⟨b, o + k, ?_, hb, fun j hj => ?_⟩
  · show some (Addr.add _ _) = _
    unfold Addr.add
    by_cases h0 : k = 0
    · rw [if_pos h0, h0, Nat.add_zero]
    · rw [if_neg h0]
  · rw [List.getElem_drop, Nat.add_assoc]
    exact hcell (k + j) (by rw [List.length_drop] at hj; omega)
end
end Go.Proofs.Ytbclmgakifmgfaa
