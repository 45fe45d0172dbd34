/-
  Sums, differences, multiples of vectors.
-/
import Derived.Test.YtbdoppgcelihcaaDoorVAllR
namespace Go.Proofs.YtbdoppgcelihcaaDoor
open Go.RowKit

theorem eql_vec (a b c d e f : Int) (w : World) : (binOp .eql 37 (vec a b c) (vec d e f)).run Tryd.prog w = .ok (.bool (decide (a = d ∧ b = e ∧ c = f))) w := by
  have hS : Tryd.prog.underlying 37 = some (.struct (Tryd.prog.fieldsOf 37)) := by kernel_rfl
  have hp : Tryd.prog.stoodInHeld 37 = false := by kernel_rfl
  rw [run_eql_struct, show (10000 : Nat) = 9999 + 1 from rfl, run_equalIn_agg w 9999 37 _ _ hS hp]
  simp only [Program.fieldsOf, Tryd.underlying37]
  go_simp
  by_cases h1 : a = d <;> by_cases h2 : b = e <;> by_cases h3 : c = f <;> simp [h1, h2, h3]
theorem neq_vec (a b c d e f : Int) (w : World) : (binOp .neq 37 (vec a b c) (vec d e f)).run Tryd.prog w = .ok (.bool !(decide (a = d ∧ b = e ∧ c = f))) w := by
  have hS : Tryd.prog.underlying 37 = some (.struct (Tryd.prog.fieldsOf 37)) := by kernel_rfl
  have hp : Tryd.prog.stoodInHeld 37 = false := by kernel_rfl
  rw [run_neq_struct, show (10000 : Nat) = 9999 + 1 from rfl, run_equalIn_agg w 9999 37 _ _ hS hp]
  simp only [Program.fieldsOf, Tryd.underlying37]
  go_simp
  by_cases h1 : a = d <;> by_cases h2 : b = e <;> by_cases h3 : c = f <;> simp [h1, h2, h3]
theorem ret2 {a b c d : Int} (h : a = b) (h' : c = d) : Ending.returned (.tuple #[.int .i64 a, .int .i64 c]) = .returned (.tuple #[.int .i64 b, .int .i64 d]) := by rw [h, h']
/-- What goes round is told by the quotient. -/
theorem mul_round (a b N : Int) (hb0 : ¬ b = 0) (hb : I64 b) (hN : I64 N) (hm : ∃ k : Int, a * b = N + 18446744073709551616 * k) (hq : N.tdiv b = a) : a * b = N := by
  obtain ⟨k, hk⟩ := hm
  obtain ⟨b0, b1⟩ := hb
  obtain ⟨n0, n1⟩ := hN
  have h1 := Int.tdiv_mul_add_tmod N b
  rw [hq] at h1
  have h2 := Int.natAbs_tmod N b
  have h3 : N.natAbs % b.natAbs < b.natAbs := Nat.mod_lt _ (by omega)
  omega
theorem wrap_mod (n : Int) : ∃ k : Int, n = wrap64 n + 18446744073709551616 * k :=
  ⟨(n + 9223372036854775808) / 18446744073709551616, by unfold wrap64; omega⟩
theorem wrap_fits (n : Int) : I64 (wrap64 n) := by unfold wrap64 I64; omega
theorem wrap_same (n : Int) (h : I64 n) : wrap64 n = n := by unfold I64 at h; unfold wrap64; omega

/-- Where it does not go round: the quotient is the factor. -/
theorem quo_in (a b : Int) (ha : I64 a) (hb0 : ¬ b = 0) (h : I64 (a * b)) : wrap64 ((wrap64 (a * b)).tdiv b) = a := by
  rw [wrap_same _ h, Int.mul_tdiv_cancel _ hb0, wrap_same _ ha]
/-- Where it does: it is not, but for the least int over -1. -/
theorem quo_out (a b : Int) (ha : I64 a) (hb : I64 b) (hb0 : ¬ b = 0) (h : ¬ I64 (a * b)) (hs : ¬ (b = -1 ∧ a = -9223372036854775808)) : ¬ wrap64 ((wrap64 (a * b)).tdiv b) = a := by
  intro hq
  have hN := wrap_fits (a * b)
  have hm := wrap_mod (a * b)
  generalize wrap64 (a * b) = N at *
  have hf : I64 (N.tdiv b) := by
    by_cases hb1 : b = -1
    · subst hb1
      rw [Int.tdiv_neg, Int.tdiv_one] at hq ⊢
      unfold I64 wrap64 at *
      omega
    · obtain ⟨n0, n1⟩ := hN
      have h2 : (N.tdiv b).natAbs = N.natAbs / b.natAbs := Int.natAbs_tdiv N b
      by_cases h1 : b = 1
      · subst h1; rw [Int.tdiv_one]; exact ⟨n0, n1⟩
      · have h3 : N.natAbs / b.natAbs ≤ N.natAbs / 2 := Nat.div_le_div_left (by omega) (by omega)
        generalize N.natAbs / b.natAbs = q at *
        unfold I64; omega
  rw [wrap_same _ hf] at hq
  exact h (mul_round a b N hb0 hb hN hm hq ▸ hN)

/-- A product that goes round is answered as 0, with the fault. -/
def mgot (n : Int) : Int := if n ≤ 9223372036854775807 then n else 0
def merr (n : Int) : Int := if n ≤ 9223372036854775807 then 0 else 5
/-- What is answered, of three parts and their faults. -/
def cres (x y z e f g : Int) : V3 × Int := if orI [e, f, g] ≠ 0 then ((0, 0, 0), orI [e, f, g]) else if right x y z = true then ((x, y, z), 0) else ((0, 0, 0), 5)
def VP (w : World) (r : V3 × Int) (e : Ending) (w' : World) : Prop := e = .returned (.tuple #[vv r.1, .int .i64 r.2]) ∧ Below w.heap.size w w'
end Go.Proofs.YtbdoppgcelihcaaDoor
