/-
  The reference's number and frame.
-/
import Derived.Test.YtpblpkmlioojiaaFPut
import Derived.Test.YtpblpkmlioojiaaFSumR
namespace Go.Proofs.Ytpblpkmlioojiaa
open Go.RowKit

theorem low_byte (m : Nat) : IntKind.u8.wrap ((m : Int) % 256) = ((UInt8.ofNat m).toNat : Int) := by
  rw [byte_of]
  simp [IntKind.wrap, IntKind.bits, IntKind.signed]
set_option maxRecDepth 100000 in
set_option maxHeartbeats 1000000 in
theorem rnumber_any (n k : Nat) (w : World) (hn : n < 18446744073709551616) (hk : k ≤ 8) :
    Calls Try.prog 25 #[.int .u64 n, .int .i64 k] w (Gives w w.heap.size id (le k n)) := by
  have hn2 : (n : Int) ≤ 18446744073709551615 := by omega
  clear hn
  go_enter Try.func25, Try.ntmps25
  go_wp2
  go_loopw [0, 5, 6] (fun x v i wr => ∃ j m : Nat, j ≤ k ∧ i = .int .i64 j ∧ x = .int .u64 m ∧ m = n / 256 ^ j ∧ (m : Int) ≤ 18446744073709551615 ∧ Own wr w.heap.size v (le j n) ∧ Below w.heap.size w wr) (fun _ _ i _ => k - (intOf i).toNat)
  case atStart => exact ⟨0, n, Nat.zero_le _, rfl, rfl, by simp, hn2, Own.none_ _ _, Below.refl _ _⟩
  case round =>
    obtain ⟨j, m, hj, rfl, rfl, hm, hm2, hO, hB⟩ := hrel
    by_cases hlt : j < k
    · have h2 : (j : Int) < k := by omega
      have e1 := low_byte m
      have hle := fhid (show le (j + 1) n = le j n ++ [UInt8.ofNat m] by rw [le_snoc, hm])
      have hm' := fhid (show m / 256 = n / 256 ^ (j + 1) by rw [hm, Nat.div_div_eq_div_mul, Nat.pow_succ])
      have hlj := fhid (le_length j n)
      have hsz := hB.size
      replace hm := fhid hm
      generalize UInt8.ofNat m = c at *
      go_wp2_with (at_builtin; refine app_seg rfl _ _ rfl w.heap.size _ (le j n) rfl (hO.alloc _) (wr.heap.size + 1) (some ⟨wr.heap.size, 0, none⟩) [c] 1 rfl (Seg.one wr c) (by rw [hlj.out, List.length_singleton]; omega) (by rw [World.size_alloc]; omega) ?_; intro v1 w1 ho1 hb1)
      go_roundw
      case rel => exact ⟨j + 1, m / 256, by omega, by go_num, by congr 1, hm'.out, by omega, by rw [hle.out]; exact ho1, (hB.alloc (by omega) _).trans hb1⟩
      case measure => simp [intOf]; omega
    · obtain rfl : j = k := by omega
      have h2 : ¬ (j : Int) < j := by omega
      clear hm
      go_wp2
      go_ret
      exact ⟨_, rfl, hO, hB⟩
set_option maxHeartbeats 400000 in
theorem rPut_many (A Bo : Option Addr) (n m ca cb : Nat) (w : World) (hm : 65536 < m) :
    Calls Try.prog 14 #[.slice A n ca, .slice Bo m cb] w fun e w' => e = .returned (.tuple #[.slice none 0 0, .int .i64 5]) ∧ w = w' := by
  have h2 : (m : Int) > 65536 := by omega
  go_enter Try.func14, Try.ntmps14
  go_wp2
  go_ret2
  exact ⟨rfl, rfl⟩
set_option maxRecDepth 100000 in
set_option maxHeartbeats 2000000 in
theorem rPut_any (A Bo : Option Addr) (l m : List UInt8) (ca cb : Nat) (w : World) (hl : Seg w w.heap.size A l) (hm : Seg w w.heap.size Bo m) (hm1 : m.length ≤ 65536)
    (hlen : l.length + 65560 ≤ 140737488355328) :
    Calls Try.prog 14 #[.slice A l.length ca, .slice Bo m.length cb] w (Gives w w.heap.size (fun v => .tuple #[v, .int .i64 0]) (l ++ frame m)) := by
  have hs4 := fhid (le_length 4 m.length)
  have hs8 := fhid (le_length 8 (sumOf m))
  have hfr := fhid (show l ++ frame m = ((l ++ le 4 m.length) ++ m) ++ le 8 (sumOf m) by unfold frame; simp only [List.append_assoc])
  have hsl := fhid (sumOf_lt m)
  have hlw : IntKind.u64.wrap ((m.length : Nat) : Int) = ((m.length : Nat) : Int) := by rw [IntKind.wrap_u64]; omega
  have h2 : ¬ (m.length : Int) > 65536 := by omega
  replace hl := fhid hl
  replace hm := fhid hm
  have p4 := fun n w a => rnumber_any n 4 w a (by omega)
  have p8 := fun n w a => rnumber_any n 8 w a (by omega)
  rw [show ((4 : Nat) : Int) = 4 from rfl] at p4
  rw [show ((8 : Nat) : Int) = 8 from rfl] at p8
  go_enter Try.func14, Try.ntmps14
  go_wp2_with (first
    | (at_builtin
       refine app_seg rfl _ (.tmp 10) rfl w.heap.size _ [] rfl (Own.none_ w w.heap.size) w.heap.size A l ca rfl hl.out (by rw [List.length_nil]; omega) (Nat.le_refl _) ?_
       intro v1 w1 o1 b1)
    | (go_at_call 25
       with_reducible refine (p4 m.length w1 (by omega)).mono ?_
       rintro e w2 ⟨v2, rfl, o2, b2⟩
       obtain ⟨A2, c2, hv2, _, _, s2⟩ := o2.shape
       replace hv2 : v2 = .slice A2 (le 4 m.length).length c2 := hv2
       rw [id, hv2]
       have x2 := b1.trans (b2.mono b1.size)
       have o1' := o1.below b2)
    | (at_builtin
       refine app_seg rfl _ (.tmp 15) rfl w.heap.size v1 _ rfl o1' w2.heap.size A2 (le 4 m.length) c2 rfl s2 (by have := hs4.out; rw [List.nil_append]; omega) x2.size ?_
       intro v3 w3 o3 b3
       have x3 := x2.trans b3)
    | (at_builtin
       refine app_seg rfl _ (.tmp 18) rfl w.heap.size v3 _ rfl o3 w.heap.size Bo m cb rfl (hm.out.below x3) (by have := hs4.out; rw [List.nil_append, List.length_append]; omega) x3.size ?_
       intro v4 w4 o4 b4
       have x4 := x3.trans b4)
    | (go_at_call 11
       with_reducible refine (rSum_any Bo m cb w.heap.size w4 (hm.out.below x4) (by omega)).mono ?_
       rintro e w5 ⟨rfl, rfl⟩)
    | (go_at_call 25
       with_reducible refine (p8 (sumOf m) w4 hsl.out).mono ?_
       rintro e w6 ⟨v6, rfl, o6, b6⟩
       obtain ⟨A6, c6, hv6, _, _, s6⟩ := o6.shape
       rw [id, hv6]
       have x6 := x4.trans (b6.mono x4.size)
       have o4' := o4.below b6)
    | (at_builtin
       refine app_seg rfl _ (.tmp 22) rfl w.heap.size v4 _ rfl o4' w6.heap.size A6 (le 8 (sumOf m)) c6 rfl s6 (by have := hs4.out; have := hs8.out; simp only [List.nil_append, List.length_append]; omega) x6.size ?_
       intro v7 w7 o7 b7
       have x7 := x6.trans b7))
  go_ret2
  exact ⟨v7, rfl, by rw [hfr.out]; exact o7, x7⟩
end Go.Proofs.Ytpblpkmlioojiaa
