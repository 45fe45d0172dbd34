/-
  A number's bytes, and a word's, put behind others.
-/
import Derived.Test.YtbclmgakifmgfaaCExt
import Derived.Test.YtbclmgakifmgfaaCFold
import Derived.Test.YtbclmgakifmgfaaCBits
namespace Go.Proofs.Ytbclmgakifmgfaa
open Go.RowKit

/-- The call answers v grown to these bytes. -/
def Puts (w : World) (v : Value) (l : List UInt8) (e : Ending) (w' : World) : Prop := ∃ v', e = .returned v' ∧ Own w' 0 v' l ∧ Ext none v w v' w'
set_option maxRecDepth 100000 in
set_option maxHeartbeats 1000000 in
theorem putNumber_any (v : Value) (l : List UInt8) (n : Int) (w : World) (hv : Own w 0 v l) (h1 : -9223372036854775808 ≤ n) (h2 : n ≤ 9223372036854775807) (hl : l.length + 10 ≤ 140737488355328) :
    Calls Try.prog 25 #[v, .int .i64 n] w (Puts w v (l ++ nb n)) := by
  have cf := fold_any n w h1 h2
  have hu := fold_lt n h1 h2
  have hten := nb_ten n h1 h2
  unfold nb at hten
  unfold nb
  generalize foldN n = u at *
  have hlen : (l ++ vb u).length ≤ 140737488355328 := by rw [List.length_append]; omega
  obtain ⟨L, hL⟩ : ∃ L, l ++ vb u = L := ⟨_, rfl⟩
  rw [hL] at hlen ⊢
  replace hL := fhid hL
  clear h1 h2 hten hl
  go_enter Try.func25, Try.ntmps25
  go_wp2_with (go_at_call 32; with_reducible refine cf.mono ?_; rintro e w1 ⟨rfl, rfl⟩)
  go_loopw [0, 5] (fun v1 s wr => ∃ (x : Nat) (pre : List UInt8), s = .int .u64 x ∧ x < 18446744073709551616 ∧ pre ++ vb x = L ∧ Own wr 0 v1 pre ∧ Ext none v w v1 wr) (fun _ s _ => (intOf s).toNat)
  case atStart => exact ⟨u, l, rfl, hu, hL.out, hv, Ext.refl _ _ _⟩
  case round =>
    obtain ⟨x, pre, rfl, hx, hp, hO, hE⟩ := hrel
    have hpl : pre.length + (vb x).length ≤ 140737488355328 := by rw [← List.length_append, hp]; exact hlen
    have hvp := vb_pos x
    clear hu hv cf
    by_cases hb : x ≥ 128
    · have e1 := put_more x
      rw [show IntKind.u8.wrap (x : Int) = (x : Int) % 256 by simp [IntKind.wrap, IntKind.bits, IntKind.signed]] at e1
      have hnx := fhid (show (pre ++ [UInt8.ofNat (128 + x % 128)]) ++ vb (x / 128) = L by rw [← hp, vb_big x (by omega), List.append_assoc]; rfl)
      have h2 : (x : Int) ≥ 128 := by omega
      replace hp := fhid hp
      generalize UInt8.ofNat (128 + x % 128) = c at *
      go_wp2_with (at_builtin; refine app_ext rfl _ _ rfl _ pre rfl (hO.alloc _) (wr.heap.size + 1) (some ⟨wr.heap.size, 0, none⟩) [c] 1 rfl (Seg.one wr c) (by rw [List.length_singleton]; omega) ?_; intro v1 w1 ho1 he1)
      go_roundw
      case rel => exact ⟨x / 128, _, by congr 1, by omega, hnx.out, ho1, (hE.alloc _).trans he1⟩
      case measure => simp [intOf]; omega
    · have S1 := Seg.one wr (UInt8.ofNat x)
      rw [byte_small x (by omega)] at S1
      have hnx := fhid (show pre ++ [UInt8.ofNat x] = L by rw [← hp, vb_small x (by omega)])
      have h2 : ¬ (x : Int) ≥ 128 := by omega
      replace hp := fhid hp
      generalize UInt8.ofNat x = c at *
      replace S1 := fhid S1
      go_wp2_with (at_builtin; refine app_ext rfl _ _ rfl _ pre rfl (hO.alloc _) (wr.heap.size + 1) (some ⟨wr.heap.size, 0, none⟩) [c] 1 rfl S1.out (by rw [List.length_singleton]; omega) ?_; intro v1 w1 ho1 he1)
      go_ret
      exact ⟨_, rfl, by rw [← hnx.out]; exact ho1, (hE.alloc _).trans he1⟩
theorem shifted_down (n k : Nat) : IntKind.u8.wrap ((n : Int) / 2 ^ (8 * k)) = ((UInt8.ofNat (n / 256 ^ k)).toNat : Int) := by
  have e : (n : Int) / 2 ^ (8 * k) = ((n / 256 ^ k : Nat) : Int) := by
    rw [pow_256, Int.natCast_ediv, Int.natCast_pow]; rfl
  rw [e, byte_of]
  generalize n / 256 ^ k = x
  simp [IntKind.wrap, IntKind.bits, IntKind.signed]
set_option maxRecDepth 100000 in
set_option maxHeartbeats 1000000 in
theorem putWord_any (v : Value) (l : List UInt8) (n : Nat) (w : World) (hv : Own w 0 v l) (hl : l.length + 8 ≤ 140737488355328) :
    Calls Try.prog 26 #[v, .int .u64 n] w (Puts w v (l ++ le 8 n)) := by
  go_enter Try.func26, Try.ntmps26
  go_wp2
  go_loopw [0, 6] (fun v1 i wr => ∃ j : Nat, j ≤ 8 ∧ i = .int .i64 j ∧ Own wr 0 v1 (l ++ le j n) ∧ Ext none v w v1 wr) (fun _ i _ => 8 - (intOf i).toNat)
  case atStart => exact ⟨0, Nat.zero_le _, rfl, by rw [le, List.append_nil]; exact hv, Ext.refl _ _ _⟩
  case round =>
    obtain ⟨j, hj, rfl, hO, hE⟩ := hrel
    clear hv
    by_cases hlt : j < 8
    · have h2 : (j : Int) < 8 := by omega
      have e1 := shifted_down n j
      have hle := fhid (le_snoc j n)
      have hlen := le_length j n
      have i1 : (0 : Int) ≤ j := by omega
      generalize UInt8.ofNat (n / 256 ^ j) = c at *
      generalize hpre : l ++ le j n = pre at *
      have hpl : pre.length + 1 ≤ l.length + 8 := by rw [← hpre, List.length_append]; omega
      replace hpre := fhid hpre
      clear hlen
      go_wp2_with (at_builtin; refine app_ext rfl _ _ rfl _ pre rfl (hO.alloc _) (wr.heap.size + 1) (some ⟨wr.heap.size, 0, none⟩) [c] 1 rfl (Seg.one wr c) (by rw [List.length_singleton]; omega) ?_; intro v1 w1 ho1 he1)
      go_roundw
      case rel => exact ⟨j + 1, by omega, by go_num, by rw [hle.out, ← List.append_assoc, hpre.out]; exact ho1, (hE.alloc _).trans he1⟩
      case measure => simp [intOf]; omega
    · obtain rfl : j = 8 := by omega
      have h2 : ¬ ((8 : Nat) : Int) < 8 := by omega
      go_wp2
      go_ret
      exact ⟨_, rfl, hO, hE⟩
end Go.Proofs.Ytbclmgakifmgfaa
