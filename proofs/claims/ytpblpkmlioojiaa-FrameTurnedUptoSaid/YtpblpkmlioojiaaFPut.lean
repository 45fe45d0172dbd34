/-
  A number's bytes put behind others; a frame put behind others.
-/
import Derived.Test.YtpblpkmlioojiaaFApp
import Derived.Test.YtpblpkmlioojiaaFSum
import Derived.Test.YtpblpkmlioojiaaFLe
namespace Go.Proofs.Ytpblpkmlioojiaa
open Go.RowKit

/-- The call answers a slice of its own with these bytes. -/
def Gives (w : World) (base : Nat) (f : Value → Value) (l : List UInt8) (e : Ending) (w' : World) : Prop := ∃ v, e = .returned (f v) ∧ Own w' base v l ∧ Below base w w'

theorem shifted_down (n k : Nat) : IntKind.u8.wrap ((n : Int) / 2 ^ (8 * k)) = ((UInt8.ofNat (n / 256 ^ k)).toNat : Int) := by
  have e : (n : Int) / 2 ^ (8 * k) = ((n / 256 ^ k : Nat) : Int) := by
    rw [pow_256, Int.natCast_ediv, Int.natCast_pow]; rfl
  rw [e, byte_of]
  generalize n / 256 ^ k = x
  simp [IntKind.wrap, IntKind.bits, IntKind.signed]
set_option maxRecDepth 100000 in
set_option maxHeartbeats 1000000 in
theorem putNumber_any (v : Value) (l : List UInt8) (n k base : Nat) (w : World) (hv : Own w base v l) (hn : n < 18446744073709551616) (hk : k ≤ 8) (hb : base ≤ w.heap.size) (hl : l.length + 8 ≤ 140737488355328) :
    Calls Try.prog 24 #[v, .int .u64 n, .int .i64 k] w (Gives w base id (l ++ le k n)) := by
  replace hn := fhid hn
  go_enter Try.func24, Try.ntmps24
  go_wp2
  go_loopw [0, 9] (fun v i wr => ∃ j : Nat, j ≤ k ∧ i = .int .i64 j ∧ Own wr base v (l ++ le j n) ∧ Below base w wr) (fun _ i _ => k - (intOf i).toNat)
  case atStart => exact ⟨0, Nat.zero_le _, rfl, by rw [le, List.append_nil]; exact hv, Below.refl _ _⟩
  case round =>
    obtain ⟨j, hj, rfl, hO, hB⟩ := hrel
    clear hv
    by_cases hlt : j < k
    · have h2 : (j : Int) < k := by omega
      have e1 := shifted_down n j
      have hle := fhid (le_snoc j n)
      have hsz := hB.size
      generalize UInt8.ofNat (n / 256 ^ j) = c at *
      go_wp2_with (at_builtin; refine app_seg rfl _ _ rfl base _ (l ++ le j n) rfl (hO.alloc _) (wr.heap.size + 1) (some ⟨wr.heap.size, 0, none⟩) [c] 1 rfl (Seg.one wr c) (by rw [List.length_append, le_length, List.length_singleton]; omega) (by rw [World.size_alloc]; omega) ?_; intro v1 w1 ho1 hb1)
      go_roundw
      case rel => exact ⟨j + 1, by omega, by go_num, by rw [hle.out, ← List.append_assoc]; exact ho1, (hB.alloc (by omega) _).trans hb1⟩
      case measure => simp [intOf]; omega
    · obtain rfl : j = k := by omega
      have h2 : ¬ (j : Int) < j := by omega
      go_wp2
      go_ret
      exact ⟨_, rfl, hO, hB⟩

set_option maxHeartbeats 400000 in
theorem Put_many (A Bo : Option Addr) (n m ca cb : Nat) (w : World) (hm : 65536 < m) :
    Calls Try.prog 13 #[.slice A n ca, .slice Bo m cb] w fun e w' => e = .returned (.tuple #[.slice none 0 0, .int .i64 5]) ∧ w = w' := by
  have h2 : (m : Int) > 65536 := by omega
  go_enter Try.func13, Try.ntmps13
  go_wp2
  go_ret2
  exact ⟨rfl, rfl⟩
set_option maxRecDepth 100000 in
set_option maxHeartbeats 2000000 in
theorem Put_any (A Bo : Option Addr) (l m : List UInt8) (ca cb : Nat) (w : World) (hl : Seg w w.heap.size A l) (hm : Seg w w.heap.size Bo m) (hm1 : m.length ≤ 65536)
    (hlen : l.length + 65560 ≤ 140737488355328) (hcb : m.length ≤ cb) :
    Calls Try.prog 13 #[.slice A l.length ca, .slice Bo m.length cb] w (Gives w w.heap.size (fun v => .tuple #[v, .int .i64 0]) (l ++ frame m)) := by
  obtain ⟨i0, hi, hz0, hz1, hz2⟩ := info_parts infoByte
  have hs4 := fhid (le_length 4 m.length)
  have hs8 := fhid (le_length 8 (sumOf m))
  have hfr := fhid (show l ++ frame m = ((l ++ le 4 m.length) ++ m) ++ le 8 (sumOf m) by unfold frame; simp only [List.append_assoc])
  have hsl := fhid (sumOf_lt m)
  have hlw : IntKind.u64.wrap ((m.length : Nat) : Int) = ((m.length : Nat) : Int) := by rw [IntKind.wrap_u64]; omega
  have h2 : ¬ (m.length : Int) > 65536 := by omega
  replace hl := fhid hl
  replace hm := fhid hm
  have p4 := fun v l n base w a b c d => putNumber_any v l n 4 base w a b (by omega) c d
  have p8 := fun v l n base w a b c d => putNumber_any v l n 8 base w a b (by omega) c d
  rw [show ((4 : Nat) : Int) = 4 from rfl] at p4
  rw [show ((8 : Nat) : Int) = 8 from rfl] at p8
  go_enter Try.func13, Try.ntmps13
  go_wp2_with (first
    | (at_make
       refine wpList_make_own _ rfl _ _ 22 rfl w.heap.size 5 i0 (.int .u8 0) 1 Try.underlying22 hi hz0 hz1 _ _ _ (l.length + 4 + m.length + 8) rfl rfl (by omega) (by rw [hz2]; omega) (by unfold maxLen; omega) (Nat.le_refl _) ?_
       intro w1 ho1 hg1
       have b1 : Below w.heap.size w w1 := (Below.refl _ _).grown hg1 (Nat.le_refl _) (fun k h => by cases h))
    | (at_builtin
       refine app_seg rfl _ _ rfl w.heap.size _ [] rfl ho1 w.heap.size A l ca rfl (hl.out.below b1) (by rw [List.length_nil]; omega) b1.size ?_
       intro v2 w2 o2 b2
       have c2 := b1.trans b2)
    | (go_at_call 24
       with_reducible refine (p4 v2 ([] ++ l) m.length w.heap.size w2 o2 (by omega) c2.size (by rw [List.nil_append]; omega)).mono ?_
       rintro e w3 ⟨v3, rfl, o3, b3⟩
       have c3 := c2.trans b3)
    | (at_builtin
       refine app_seg rfl _ _ rfl w.heap.size v3 _ rfl o3 w.heap.size Bo m cb rfl (hm.out.below c3) (by have := hs4.out; rw [List.nil_append, List.length_append]; omega) c3.size ?_
       intro v4 w4 o4 b4
       have c4 := c3.trans b4)
    | (go_at_call 10
       with_reducible refine (Sum_any Bo m cb w4 ((hm.out.below c4).more c4.size) hcb (by omega)).mono ?_
       rintro e w5 ⟨rfl, b5⟩
       have o5 := o4.below b5
       have c5 := c4.trans (b5.mono c4.size))
    | (go_at_call 24
       with_reducible refine (p8 v4 _ (sumOf m) w.heap.size w5 o5 hsl.out c5.size (by have := hs4.out; simp only [List.nil_append, List.length_append]; omega)).mono ?_
       rintro e w6 ⟨v6, rfl, o6, b6⟩
       have c6 := c5.trans b6))
  go_ret2
  exact ⟨v6, rfl, by rw [hfr.out]; exact o6, c6⟩
end Go.Proofs.Ytpblpkmlioojiaa
