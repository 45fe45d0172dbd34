/-
  Sums, differences, multiples of vectors.
-/
import Derived.Test.YtkmknogejhhajaaDoorVAllR
namespace Go.Proofs.YtkmknogejhhajaaDoor
open Go.RowKit

theorem eql_vec (a b c d e f : Int) (w : World) : (binOp .eql 23 (vec a b c) (vec d e f)).run Tryd.prog w = .ok (.bool (decide (a = d ∧ b = e ∧ c = f))) w := by
  have hS : Tryd.prog.underlying 23 = some (.struct (Tryd.prog.fieldsOf 23)) := by kernel_rfl
  have hp : Tryd.prog.stoodInHeld 23 = false := by kernel_rfl
  rw [run_eql_struct, show (10000 : Nat) = 9999 + 1 from rfl, run_equalIn_agg w 9999 23 _ _ hS hp]
  simp only [Program.fieldsOf, Tryd.underlying23]
  go_simp
  by_cases h1 : a = d <;> by_cases h2 : b = e <;> by_cases h3 : c = f <;> simp [h1, h2, h3]
theorem neq_vec (a b c d e f : Int) (w : World) : (binOp .neq 23 (vec a b c) (vec d e f)).run Tryd.prog w = .ok (.bool !(decide (a = d ∧ b = e ∧ c = f))) w := by
  have hS : Tryd.prog.underlying 23 = some (.struct (Tryd.prog.fieldsOf 23)) := by kernel_rfl
  have hp : Tryd.prog.stoodInHeld 23 = false := by kernel_rfl
  rw [run_neq_struct, show (10000 : Nat) = 9999 + 1 from rfl, run_equalIn_agg w 9999 23 _ _ hS hp]
  simp only [Program.fieldsOf, Tryd.underlying23]
  go_simp
  by_cases h1 : a = d <;> by_cases h2 : b = e <;> by_cases h3 : c = f <;> simp [h1, h2, h3]
theorem ret2 {a b c d : Int} (h : a = b) (h' : c = d) : Ending.returned (.tuple #[.int .i64 a, .int .i64 c]) = .returned (.tuple #[.int .i64 b, .int .i64 d]) := by rw [h, h']
set_option maxHeartbeats 400000 in
theorem sAdd (a b : Int) (w : World) (a0 : 0 ≤ a) (a1 : a ≤ 1073741824) (b0 : 0 ≤ b) (b1 : b ≤ 1073741824) :
    Calls Tryd.prog 36 #[.int .i64 a, .int .i64 b] w fun e w' => e = .returned (.tuple #[.int .i64 (a + b), .int .i64 0]) ∧ w' = w := by
  have h1 : ¬ b < 0 := by omega
  have h2 : ¬ a > 9223372036854775807 - b := by omega
  by_cases h0 : b > 0
  all_goals
    go_enter Tryd.func36, Tryd.ntmps36
    go_wp2
    go_ret2
    exact ⟨rfl, rfl⟩
set_option maxHeartbeats 400000 in
theorem sSub (a b : Int) (w : World) (a0 : 0 ≤ a) (a1 : a ≤ 1073741824) (b0 : 0 ≤ b) (b1 : b ≤ 1073741824) :
    Calls Tryd.prog 37 #[.int .i64 a, .int .i64 b] w fun e w' => e = .returned (.tuple #[.int .i64 (a - b), .int .i64 0]) ∧ w' = w := by
  have h1 : ¬ b < 0 := by omega
  have h2 : ¬ a < -9223372036854775808 + b := by omega
  by_cases h0 : b > 0
  all_goals
    go_enter Tryd.func37, Tryd.ntmps37
    go_wp2
    go_ret2
    exact ⟨rfl, rfl⟩
/-- What goes round is told by the quotient. -/
theorem mul_round (a b N : Int) (hb0 : ¬ b = 0) (hb : I64 b) (hN : I64 N) (hm : ∃ k : Int, a * b = N + 18446744073709551616 * k) (hq : N.tdiv b = a) : a * b = N := by
  obtain ⟨k, hk⟩ := hm
  obtain ⟨b0, b1⟩ := hb
  obtain ⟨n0, n1⟩ := hN
  have h1 := Int.tdiv_mul_add_tmod N b
  rw [hq] at h1
  have h2 := Int.natAbs_tmod N b
  have h3 : N.natAbs % b.natAbs < b.natAbs := Nat.mod_lt _ (by omega)
  omega
theorem wrap_mod (n : Int) : ∃ k : Int, n = wrap64 n + 18446744073709551616 * k :=
  ⟨(n + 9223372036854775808) / 18446744073709551616, by unfold wrap64; omega⟩
theorem wrap_fits (n : Int) : I64 (wrap64 n) := by unfold wrap64 I64; omega
theorem wrap_same (n : Int) (h : I64 n) : wrap64 n = n := by unfold I64 at h; unfold wrap64; omega

/-- Where it does not go round: the quotient is the factor. -/
theorem quo_in (a b : Int) (ha : I64 a) (hb0 : ¬ b = 0) (h : I64 (a * b)) : wrap64 ((wrap64 (a * b)).tdiv b) = a := by
  rw [wrap_same _ h, Int.mul_tdiv_cancel _ hb0, wrap_same _ ha]
/-- Where it does: it is not, but for the least int over -1. -/
theorem quo_out (a b : Int) (ha : I64 a) (hb : I64 b) (hb0 : ¬ b = 0) (h : ¬ I64 (a * b)) (hs : ¬ (b = -1 ∧ a = -9223372036854775808)) : ¬ wrap64 ((wrap64 (a * b)).tdiv b) = a := by
  intro hq
  have hN := wrap_fits (a * b)
  have hm := wrap_mod (a * b)
  generalize wrap64 (a * b) = N at *
  have hf : I64 (N.tdiv b) := by
    by_cases hb1 : b = -1
    · subst hb1
      rw [Int.tdiv_neg, Int.tdiv_one] at hq ⊢
      unfold I64 wrap64 at *
      omega
    · obtain ⟨n0, n1⟩ := hN
      have h2 : (N.tdiv b).natAbs = N.natAbs / b.natAbs := Int.natAbs_tdiv N b
      by_cases h1 : b = 1
      · subst h1; rw [Int.tdiv_one]; exact ⟨n0, n1⟩
      · have h3 : N.natAbs / b.natAbs ≤ N.natAbs / 2 := Nat.div_le_div_left (by omega) (by omega)
        generalize N.natAbs / b.natAbs = q at *
        unfold I64; omega
  rw [wrap_same _ hf] at hq
  exact h (mul_round a b N hb0 hb hN hm hq ▸ hN)

/-- A product that goes round is answered as 0, with the fault. -/
def mgot (n : Int) : Int := if n ≤ 9223372036854775807 then n else 0
def merr (n : Int) : Int := if n ≤ 9223372036854775807 then 0 else 5
set_option maxHeartbeats 400000 in
theorem sMul (a b : Int) (w : World) (a0 : 0 ≤ a) (a1 : a ≤ 1073741824) (b0 : 0 ≤ b) (b1 : b ≤ 9223372036854775807) :
    Calls Tryd.prog 38 #[.int .i64 a, .int .i64 b] w fun e w' => e = .returned (.tuple #[.int .i64 (mgot (a * b)), .int .i64 (merr (a * b))]) ∧ w' = w := by
  have ha : I64 a := ⟨by omega, by omega⟩
  have hb : I64 b := ⟨by omega, by omega⟩
  have hp : 0 ≤ a * b := Int.mul_nonneg a0 b0
  have hm1 : ¬ b = -1 := by omega
  by_cases h0 : b = 0
  · subst h0
    have e1 : mgot (a * 0) = 0 := by rw [Int.mul_zero]; rfl
    have e2 : merr (a * 0) = 0 := by rw [Int.mul_zero]; rfl
    rw [e1, e2]
    go_enter Tryd.func38, Tryd.ntmps38
    go_wp2
    go_ret2
    exact ⟨rfl, rfl⟩
  · by_cases h : a * b ≤ 9223372036854775807
    · have E := quo_in a b ha h0 ⟨by omega, h⟩
      have F := fhid (wrap_same _ (show I64 (a * b) from ⟨by omega, h⟩))
      have e1 : mgot (a * b) = a * b := if_pos h
      have e2 : merr (a * b) = 0 := if_pos h
      rw [e1, e2]
      clear h e1 e2 hp ha hb
      go_enter Tryd.func38, Tryd.ntmps38
      go_wp2
      go_ret2
      exact ⟨ret2 F.out rfl, rfl⟩
    · have E := quo_out a b ha hb h0 (fun h' => h h'.2) (fun h' => hm1 h'.1)
      have e1 : mgot (a * b) = 0 := if_neg h
      have e2 : merr (a * b) = 5 := if_neg h
      rw [e1, e2]
      clear h e1 e2 hp ha hb
      go_enter Tryd.func38, Tryd.ntmps38
      go_wp2
      go_ret2
      exact ⟨rfl, rfl⟩
/-- What is answered, of three parts and their faults. -/
def cres (x y z e f g : Int) : V3 × Int := if orI [e, f, g] ≠ 0 then ((0, 0, 0), orI [e, f, g]) else if right x y z = true then ((x, y, z), 0) else ((0, 0, 0), 5)
def VP (w : World) (r : V3 × Int) (e : Ending) (w' : World) : Prop := e = .returned (.tuple #[vv r.1, .int .i64 r.2]) ∧ Below w.heap.size w w'
end Go.Proofs.YtkmknogejhhajaaDoor
