/-
  A word's eight bytes, read.
-/
import Derived.Test.YtbclmgakifmgfaaCBits
namespace Go.Proofs.Ytbclmgakifmgfaa
open Go.RowKit

set_option maxRecDepth 100000 in
set_option maxHeartbeats 400000 in
theorem getWord_any (A : Option Addr) (m : List UInt8) (n cap B : Nat) (w : World) (h : Seg w B A m) (hn : n = m.length) (h8 : 8 ≤ m.length) (hl : m.length ≤ 140737488355328) :
    Calls Try.prog 30 #[.slice A n cap] w fun e w' => e = .returned (.int .u64 ((num (m.take 8) : Nat) : Int)) ∧ w' = w := by
  subst hn
  have hs := fhid h
  clear h
  go_enter Try.func30, Try.ntmps30
  go_wp2
  go_loop [3, 5] (fun n i => ∃ k : Nat, k ≤ 8 ∧ i = .int .i64 k ∧ n = .int .u64 ((num (m.take k) : Nat) : Int)) (fun _ i => 8 - (intOf i).toNat)
  case atStart => exact ⟨0, Nat.zero_le _, rfl, rfl⟩
  case round =>
    obtain ⟨k, hk, rfl, rfl⟩ := hrel
    by_cases hlt : k < 8
    · obtain ⟨b, o, rfl, hb, hc⟩ := hs.out.at_ (k := k) (by omega)
      have hkl : k < (m.take 8).length := by rw [List.length_take]; omega
      have e1 := shifted_byte m[k] k (by omega)
      have e2 := or_byte (m.take 8) k hkl (by rw [List.length_take]; omega)
      rw [List.getElem_take, List.take_take, List.take_take, Nat.min_eq_left (by omega), Nat.min_eq_left (by omega)] at e2
      have h2 : (k : Int) < 8 := by omega
      have h3 : (k : Int) < m.length := by omega
      have h4 : (0 : Int) ≤ k := by omega
      have e0 : IntKind.u64.wrap (m[k].toNat : Int) = (m[k].toNat : Int) := by have := m[k].toNat_lt; rw [IntKind.wrap_u64]; omega
      generalize ((num (m.take k) : Nat) : Int) = n0 at *
      generalize hn1 : ((num (m.take (k + 1)) : Nat) : Int) = n1 at *
      replace hn1 := fhid hn1
      generalize m[k].toNat = c at *
      generalize ((256 ^ k * c : Nat) : Int) = x at *
      clear hkl
      go_wp2
      go_round
      case rel => exact ⟨k + 1, by omega, by go_num, by rw [hn1.out]⟩
      case measure => simp [intOf]; omega
    · obtain rfl : k = 8 := by omega
      have h2 : ¬ ((8 : Nat) : Int) < 8 := by omega
      go_wp2
      go_ret
      exact ⟨rfl, rfl⟩
end Go.Proofs.Ytbclmgakifmgfaa
