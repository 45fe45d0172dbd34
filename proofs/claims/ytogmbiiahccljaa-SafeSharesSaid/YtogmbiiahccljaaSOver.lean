/-
  The reference's long numbers: a number over 2 to some power.
-/
import Derived.Test.YtogmbiiahccljaaSDown
namespace Go.Proofs.Ytogmbiiahccljaa
open Go.RowKit

theorem half_up (m k : Nat) : m / 2 ^ k = 2 * (m / 2 ^ (k + 1)) + (if m.testBit k then 1 else 0) := by
  have h1 : m / 2 ^ (k + 1) = m / 2 ^ k / 2 := by rw [Nat.div_div_eq_div_mul, Nat.pow_succ]
  have h2 : m.testBit k = decide (m / 2 ^ k % 2 = 1) := Nat.testBit_eq_decide_div_mod_eq
  rw [h1, h2]
  generalize m / 2 ^ k = q
  by_cases h : q % 2 = 1
  · rw [decide_eq_true h, if_pos rfl]; omega
  · rw [decide_eq_false h]; simp; omega
theorem div_mono (m s k : Nat) (h : s ≤ k) : m / 2 ^ k ≤ m / 2 ^ s := Nat.div_le_div_left (Nat.pow_le_pow_right (by omega) h) (Nat.two_pow_pos s)

set_option maxRecDepth 100000 in
set_option maxHeartbeats 1600000 in
theorem rdown_any (m s : Nat) (w : World) (hm : m < 2 ^ 160) (hs : s < 160) :
    Calls Try.prog 30 #[.agg (row fun i => m.testBit i), .int .i64 s] w fun e w' =>
      e = .returned (.tuple #[.int .u64 ((if m / 2 ^ s < 18446744073709551616 then m / 2 ^ s else 0 : Nat) : Int), .bool (decide (m / 2 ^ s < 18446744073709551616))]) ∧ Below w.heap.size w w' := by
  have r0 := hid (Row.new w fun i => m.testBit i)
  have hB := hid ((Below.refl w.heap.size w).alloc (Nat.le_refl _) (.cells (row fun i => m.testBit i) 49))
  have hm0 := hid (Nat.div_eq_of_lt hm)
  clear hm
  generalize hA : (row fun i => m.testBit i) = A at *
  replace hA := hid hA
  generalize hE : (Ending.returned (.tuple #[.int .u64 ((if m / 2 ^ s < 18446744073709551616 then m / 2 ^ s else 0 : Nat) : Int), .bool (decide (m / 2 ^ s < 18446744073709551616))])) = E
  replace hE := hid hE
  go_enter Try.func30, Try.ntmps30
  go_wp2
  generalize w.alloc (.cells A 49) = w1 at *
  go_loopw [6, 7] (fun n i wr => ∃ (k q : Nat), s ≤ k ∧ k ≤ 160 ∧ i = .int .i64 ((k : Int) - 1) ∧ n = .int .u64 (q : Int) ∧ q = m / 2 ^ k ∧ q < 18446744073709551616 ∧ Row wr w.heap.size (fun j => m.testBit j) ∧ Below w.heap.size w wr) (fun _ i _ => (intOf i + 1).toNat)
  case atStart => exact ⟨160, 0, by omega, by omega, rfl, rfl, hm0.out.symm, by omega, r0.out, hB.out⟩
  case round =>
    obtain ⟨k, q, hsk, hk, rfl, rfl, hq, hq2, hr, hB⟩ := hrel
    by_cases hlt : s < k
    · obtain ⟨j, rfl⟩ : ∃ j, k = j + 1 := ⟨k - 1, by omega⟩
      have h0 : ((j + 1 : Nat) : Int) - 1 = (j : Int) := by omega
      rw [h0]
      have hge : (s : Int) ≤ (j : Int) := by omega
      have hu := half_up m j
      rw [← hq] at hu
      have c1 := hr.cell j (by omega)
      have h1 : (0 : Int) ≤ j := by omega
      have h2 : (j : Int) < 160 := by omega
      by_cases hbig : q ≥ 9223372036854775808
      · have hF := hid (show E = Ending.returned (.tuple #[.int .u64 0, .bool false]) by
          have h3 := div_mono m s j (by omega)
          have h4 : ¬ m / 2 ^ s < 18446744073709551616 := by omega
          rw [← hE.out, if_neg h4, decide_eq_false h4]; rfl)
        have hbig' : (q : Int) ≥ 9223372036854775808 := by omega
        clear hu hq hbig hq2
        go_wp2
        go_ret2
        exact ⟨hF.out.symm, hB⟩
      · have hbig' : ¬ (q : Int) ≥ 9223372036854775808 := by omega
        have hq3 := hid hq2
        clear hbig hq2
        generalize hx : m.testBit j = x at *
        replace hx := hid hx
        replace hq := hid hq
        cases x
        · have hu : 2 * q = m / 2 ^ j := by rw [hu]; rfl
          replace hu := hid hu
          go_wp2
          go_roundw
          case rel => exact ⟨j, 2 * q, by omega, by omega, by go_num, by congr 1; omega, hu.out, by omega, hr, hB⟩
          case measure => simp [intOf]
        · have hu : 2 * q + 1 = m / 2 ^ j := by rw [hu]; rfl
          replace hu := hid hu
          go_wp2
          go_roundw
          case rel => exact ⟨j, 2 * q + 1, by omega, by omega, by go_num, by congr 1; omega, hu.out, by omega, hr, hB⟩
          case measure => simp [intOf]
    · obtain rfl : k = s := by omega
      have hF := hid (show E = Ending.returned (.tuple #[.int .u64 (q : Int), .bool true]) by
        rw [← hq] at hE
        rw [← hE.out, if_pos hq2, decide_eq_true hq2])
      have h2 : ¬ (k : Int) ≤ (k : Int) - 1 := by omega
      clear hq
      go_wp2
      go_ret2
      exact ⟨hF.out.symm, hB⟩
end Go.Proofs.Ytogmbiiahccljaa
