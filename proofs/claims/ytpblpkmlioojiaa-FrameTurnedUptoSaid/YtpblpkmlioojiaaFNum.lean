/-
  The number of at most 8 bytes.
-/
import Derived.Test.YtpblpkmlioojiaaFSeg
namespace Go.Proofs.Ytpblpkmlioojiaa
open Go.RowKit

theorem or_plus {a b k : Nat} (hb : b < 2 ^ k) : b ||| a * 2 ^ k = b + a * 2 ^ k := by
  rw [Nat.or_comm, Nat.mul_comm, ← Nat.two_pow_add_eq_or_of_lt hb a, Nat.add_comm]
theorem shifted_byte (c : UInt8) (k : Nat) (h : k < 8) : IntKind.u64.wrap ((c.toNat : Int) * 2 ^ (8 * k)) = ((256 ^ k * c.toNat : Nat) : Int) := by
  have hc := c.toNat_lt
  rw [pow_256]
  have e : (c.toNat : Int) * 2 ^ (8 * k) = ((2 ^ (8 * k) * c.toNat : Nat) : Int) := by
    rw [Int.natCast_mul, Int.natCast_pow, Int.mul_comm]; rfl
  rw [e]
  have h1 : (2 : Nat) ^ (8 * k) ≤ 2 ^ 56 := Nat.pow_le_pow_right (by omega) (by omega)
  have h2 : 2 ^ (8 * k) * c.toNat ≤ 2 ^ 56 * 255 := Nat.mul_le_mul h1 (by omega)
  generalize 2 ^ (8 * k) * c.toNat = x at *
  rw [IntKind.wrap_u64]; omega
theorem or_byte (l : List UInt8) (k : Nat) (h : k < l.length) (h8 : l.length ≤ 8) :
    bits .or .u64 ((num (l.take k) : Nat) : Int) ((256 ^ k * l[k].toNat : Nat) : Int) = ((num (l.take (k + 1)) : Nat) : Int) := by
  have h1 := num_take_lt l k (by omega)
  have h2 := num_take l k h
  have h3 : num (l.take (k + 1)) < 18446744073709551616 := num_small _ (by rw [List.length_take]; omega)
  rw [bits_or_u64_nat _ _ (by omega) (by omega)]
  rw [pow_256] at h1 h2 ⊢
  rw [Nat.mul_comm, or_plus h1, Nat.mul_comm]
  rw [h2]
set_option maxHeartbeats 400000 in
theorem number_any (A : Option Addr) (l : List UInt8) (cap B : Nat) (w : World) (h : Seg w B A l) (h8 : l.length ≤ 8) :
    Calls Try.prog 23 #[.slice A l.length cap] w fun e w' => e = .returned (.int .u64 ((num l : Nat) : Int)) ∧ w = w' := by
  have hs := fhid h
  clear h
  go_enter Try.func23, Try.ntmps23
  go_wp2
  go_loop [3, 8] (fun n i => ∃ k : Nat, k ≤ l.length ∧ i = .int .i64 k ∧ n = .int .u64 ((num (l.take k) : Nat) : Int)) (fun _ i => l.length - (intOf i).toNat)
  case atStart => exact ⟨0, Nat.zero_le _, rfl, rfl⟩
  case round =>
    obtain ⟨k, hk, rfl, rfl⟩ := hrel
    by_cases hlt : k < l.length
    · obtain ⟨b, o, rfl, hb, hc⟩ := hs.out.at_ hlt
      have e1 := shifted_byte l[k] k (by omega)
      have e2 := or_byte l k hlt h8
      have h2 : (k : Int) < l.length := by omega
      have e0 : IntKind.u64.wrap (l[k].toNat : Int) = (l[k].toNat : Int) := by have := l[k].toNat_lt; rw [IntKind.wrap_u64]; omega
      generalize ((num (l.take k) : Nat) : Int) = n0 at *
      generalize hn1 : ((num (l.take (k + 1)) : Nat) : Int) = n1 at *
      replace hn1 := fhid hn1
      generalize l[k].toNat = c at *
      generalize ((256 ^ k * c : Nat) : Int) = x at *
      go_wp2
      go_round
      case rel => exact ⟨k + 1, by omega, by go_num, by rw [hn1.out]⟩
      case measure => simp [intOf]; omega
    · obtain rfl : k = l.length := by omega
      have h2 : ¬ (l.length : Int) < l.length := by omega
      go_wp2
      go_ret
      exact ⟨fret1 (by first | rfl | rw [List.take_length]), rfl⟩
end Go.Proofs.Ytpblpkmlioojiaa
