/-
  FrameTurned's walk: of frames of which one byte was turned those ahead of the one that has it are got, and that one not as it was.
-/
import Derived.Test.YtpblpkmlioojiaaFLCut
import Derived.Test.YtpblpkmlioojiaaFTurnM
import Derived.BigQuiet
namespace Go.Proofs.Ytpblpkmlioojiaa
open Go.RowKit

theorem xor_byte (c y : UInt8) : bits .xor .u8 (c.toNat : Int) (y.toNat : Int) = ((c ^^^ y).toNat : Int) := by
  have hc := c.toNat_lt
  have hy := y.toNat_lt
  have h1 : (BitVec.ofInt 8 (c.toNat : Int)).toNat = c.toNat := by
    rw [BitVec.ofInt_natCast, BitVec.toNat_ofNat]; exact Nat.mod_eq_of_lt (by omega)
  have h2 : (BitVec.ofInt 8 (y.toNat : Int)).toNat = y.toNat := by
    rw [BitVec.ofInt_natCast, BitVec.toNat_ofNat]; exact Nat.mod_eq_of_lt (by omega)
  have hx : c.toNat ^^^ y.toNat < 2 ^ 8 := Nat.xor_lt_two_pow hc hy
  show IntKind.u8.wrap ((BitVec.ofInt 8 (c.toNat : Int) ^^^ BitVec.ofInt 8 (y.toNat : Int)).toNat : Int) = _
  rw [BitVec.toNat_xor, h1, h2, UInt8.toNat_xor]
  simp [IntKind.wrap, IntKind.bits, IntKind.signed]
  omega
theorem xor_ne (c y : UInt8) (h : y ≠ 0) : c ^^^ y ≠ c := by
  intro e
  apply h
  have h2 : c ^^^ (c ^^^ y) = c ^^^ c := by rw [e]
  rwa [← UInt8.xor_assoc, UInt8.xor_self, UInt8.zero_xor] at h2
theorem BV_set (l : List UInt8) (i : Nat) (x : UInt8) : BV (l.set i x) = (BV l).set i (.int .u8 (x.toNat : Int)) := by
  unfold BV; rw [List.map_set]
theorem Own.stored {w : World} {base g cap : Nat} {l : List UInt8} (h : Own w base (.slice (some ⟨g, 0, none⟩) l.length cap) l) (i : Nat) (x : UInt8) :
    Own (w.setCell ⟨g, i, none⟩ (.int .u8 (x.toNat : Int))) base (.slice (some ⟨g, 0, none⟩) l.length cap) (l.set i x) := by
  have := (World.ownsRow.stored h i (.int .u8 (x.toNat : Int))).1
  unfold Own
  rw [List.length_set, BV_set]
  exact this
theorem Own.cell_at {w : World} {base g cap : Nat} {l : List UInt8} (h : Own w base (.slice (some ⟨g, 0, none⟩) l.length cap) l) (i : Nat) (hi : i < l.length) :
    w.cell? ⟨g, i, none⟩ = some (.int .u8 (l[i].toNat : Int)) ∧ w.frozen? ⟨g, i, none⟩ = false := by
  refine ⟨?_, World.ownsRow.frozenAt h i⟩
  rw [World.ownsRow.cellAt h i (by omega)]
  unfold BV
  rw [List.getElem?_map, List.getElem?_eq_getElem hi]
  rfl
set_option maxRecDepth 100000 in
set_option maxHeartbeats 2000000 in
theorem turned_not (A : Option Addr) (ps : List (List UInt8)) (cap : Nat) (x : Int) (y : UInt8) (w : World) (h : SegRows w w.heap.size A ps) (hl : (laid ps).length ≤ 12582912) (hm : ps.length ≤ 1048576) (hf : ¬ Fit ps) :
    Calls Try.prog 7 #[.slice A ps.length cap, .int .i64 x, .int .u8 (y.toNat : Int)] w fun e w' => e = .returned (.bool true) ∧ Below w.heap.size w w' := by
  have c1 := (lay_some A ps cap w h hl hm).mono (R' := fun e w' => e = .returned (.tuple #[.slice none 0 0, .bool false]) ∧ Below w.heap.size w w') fun e w' hg => hg.2 hf
  clear hf h
  go_enter Try.func7, Try.ntmps7
  go_wp2_with (first
    | (go_at_call 21; (with_reducible refine c1.mono ?_); rintro e w1 ⟨rfl, b1⟩)
    | (go_at_call 12; refine (alive_any _).mono ?_; rintro e w6 ⟨rfl, b6⟩))
  go_ret
  exact ⟨rfl, b1.trans (b6.mono b1.size)⟩
set_option maxRecDepth 100000 in
set_option maxHeartbeats 2000000 in
theorem turned_none (A : Option Addr) (ps : List (List UInt8)) (cap : Nat) (x : Int) (y : UInt8) (w : World) (h : SegRows w w.heap.size A ps) (hl : (laid ps).length ≤ 12582912) (hm : ps.length ≤ 1048576) (hf : Fit ps) (hy : (laid ps).length = 0 ∨ y = 0) :
    Calls Try.prog 7 #[.slice A ps.length cap, .int .i64 x, .int .u8 (y.toNat : Int)] w fun e w' => e = .returned (.bool true) ∧ Below w.heap.size w w' := by
  have c1 := (lay_some A ps cap w h hl hm).mono (R' := Gives w w.heap.size (fun v => .tuple #[v, .bool true]) (laid ps)) fun e w' hg => hg.1 hf
  clear h
  by_cases h0 : (laid ps).length = 0
  · have hnil : laid ps = [] := List.eq_nil_of_length_eq_zero h0
    rw [hnil] at c1
    clear hy h0 hnil
    go_enter Try.func7, Try.ntmps7
    go_wp2_with (first
      | (go_at_call 21
         (with_reducible refine c1.mono ?_)
         rintro e w1 ⟨v1, rfl, o1, b1⟩
         obtain ⟨A1, k1, hv1, hle, _, s1⟩ := o1.shape
         rw [List.length_nil] at hv1
         subst hv1
         clear o1)
      | (go_at_call 12; refine (alive_any _).mono ?_; rintro e w6 ⟨rfl, b6⟩))
    go_ret
    exact ⟨rfl, b1.trans (b6.mono b1.size)⟩
  · obtain rfl : y = 0 := hy.resolve_left h0
    have hn : ¬ ((laid ps).length : Int) = 0 := by omega
    have hn2 : (((laid ps).length : Int) == 0) = false := by simpa using hn
    have hz : ((0 : UInt8).toNat : Int) = 0 := rfl
    rw [hz]
    clear hy h0 hz
    go_enter Try.func7, Try.ntmps7
    go_wp2_with (first
      | (go_at_call 21
         (with_reducible refine c1.mono ?_)
         rintro e w1 ⟨v1, rfl, o1, b1⟩
         obtain ⟨A1, k1, hv1, hle, _, s1⟩ := o1.shape
         subst hv1
         clear o1)
      | (go_at_call 12; refine (alive_any _).mono ?_; rintro e w6 ⟨rfl, b6⟩))
    go_ret
    exact ⟨rfl, b1.trans (b6.mono b1.size)⟩
end Go.Proofs.Ytpblpkmlioojiaa
