/-
  math/bits.Div64 at every two words whose quotient is one.
-/
import Derived.Test.YtmbgcphiigmdjaaSDivW
import Derived.Test.YtmbgcphiigmdjaaSDivN
import Derived.Test.YtmbgcphiigmdjaaSShelf
import Derived.Test.YtmbgcphiigmdjaaSDiv
namespace Go.Proofs.Ytmbgcphiigmdjaa.Ss
open Go.RowKit

theorem long_at (hi lo y s n1 n0 u v1 v0 : Nat) (w : World) (hh : hi ≠ 0) (hl : hi < y) (hy : y < 18446744073709551616) (hs : s < 64) (hg : 9223372036854775808 ≤ n1 * 4294967296 + n0) (hgl : n1 * 4294967296 + n0 < 18446744073709551616)
    (n0l : n0 < 4294967296) (hu : u < n1 * 4294967296 + n0) (hl1 : v1 * 4294967296 + v0 < 18446744073709551616) (v0l : v0 < 4294967296)
    (c1 : (y : Int) * 2 ^ s = ((n1 * 4294967296 + n0 : Nat) : Int))
    (e4 : IntKind.u64.wrap ((hi : Int) * 2 ^ s) = ((hi * 2 ^ s : Nat) : Int))
    (e5 : bits .or .u64 ((hi * 2 ^ s : Nat) : Int) ((lo : Int) / 2 ^ (64 - s)) = (u : Int))
    (e6 : IntKind.u64.wrap ((lo : Int) * 2 ^ s) = ((v1 * 4294967296 + v0 : Nat) : Int))
    (hA : (u * 18446744073709551616 + (v1 * 4294967296 + v0)) / (n1 * 4294967296 + n0) = (hi * 18446744073709551616 + lo) / y)
    (hR : (u * 18446744073709551616 + (v1 * 4294967296 + v0)) % (n1 * 4294967296 + n0) / 2 ^ s = (hi * 18446744073709551616 + lo) % y)
    (lz : ∀ w, Calls Try.prog 70 #[.int .u64 y] w fun e w' => e = .returned (.int .i64 (s : Int)) ∧ w' = w) :
    Calls Try.prog 55 #[.int .u64 hi, .int .u64 lo, .int .u64 y] w fun e w' =>
      e = .returned (.tuple #[.int .u64 (((hi * 18446744073709551616 + lo) / y : Nat) : Int), .int .u64 (((hi * 18446744073709551616 + lo) % y : Nat) : Int)]) ∧ w = w' := by
  have n1g : 2147483648 ≤ n1 := by omega
  have n1l : n1 < 4294967296 := by omega
  have v1l : v1 < 4294967296 := by omega
  have a3 := and_low (n1 * 4294967296 + n0) hgl
  have a8 := and_low (v1 * 4294967296 + v0) hl1
  rw [show (n1 * 4294967296 + n0) % 4294967296 = n0 by clear a3 a8; omega] at a3
  rw [show (v1 * 4294967296 + v0) % 4294967296 = v0 by clear a3 a8; omega] at a8
  have e1 : IntKind.u64.wrap ((y : Int) * 2 ^ s) = ((n1 * 4294967296 + n0 : Nat) : Int) := c1.symm ▸ wrap_lt hgl
  have d2 : ((n1 * 4294967296 + n0 : Nat) : Int) / 4294967296 = (n1 : Int) := div32 n1 n0 n0l
  have d7 : ((v1 * 4294967296 + v0 : Nat) : Int) / 4294967296 = (v1 : Int) := div32 v1 v0 v0l
  obtain ⟨Q, U2, Q2, hU2, hQ, hU, hQ2, j1, j2⟩ := long_facts n1 n0 u v1 v0 hu
  rw [← j1] at hA
  rw [← j2] at hR
  obtain ⟨p1, p2, p3, p4, p5, p6, p7⟩ := half_all n1 n0 u v1 n1g n1l n0l hu v1l Q hQ
  obtain ⟨q1, q2, q3, q4, q5, q6, q7⟩ := half_all n1 n0 U2 v0 n1g n1l n0l hU2 v0l Q2 hQ2
  have r1 := half_rest u v1 (n1 * 4294967296 + n0) (Nat.lt_of_le_of_lt (Nat.zero_le _) hu) hgl
  have r2 := half_rest U2 v0 (n1 * 4294967296 + n0) (Nat.lt_of_le_of_lt (Nat.zero_le _) hu) hgl
  rw [hQ, hU] at r1
  rw [hQ2] at r2
  have e14 : (Q : Int) * 4294967296 + (Q2 : Int) = (((hi * 18446744073709551616 + lo) / y : Nat) : Int) := by
    rw [← hA, Int.natCast_add, Int.natCast_mul]; rfl
  have e15 : (((U2 * 4294967296 + v0) % (n1 * 4294967296 + n0) : Nat) : Int) / 2 ^ s = (((hi * 18446744073709551616 + lo) % y : Nat) : Int) := by
    rw [← hR, Int.natCast_ediv, Int.natCast_pow]; rfl
  rw [← r2] at e15
  have t1 : ((s : Int)).toNat = s := Int.toNat_natCast s
  obtain ⟨t2, t3⟩ := cast_sub64 hs
  exact div64_walk hi lo y s ((n1 * 4294967296 + n0 : Nat) : Int) n1 n0 ((hi * 2 ^ s : Nat) : Int) u ((v1 * 4294967296 + v0 : Nat) : Int) v1 v0 _ _ Q U2 _ _ Q2 _ _ w
    (cast_ne0 hh) (Int.ofNat_lt.2 hl) (cast_ne0 (Nat.ne_of_gt (Nat.lt_of_le_of_lt (Nat.zero_le _) hl))) (cast_lt64 hy) t3 (Int.natCast_nonneg _) (cast_ne0 (Nat.ne_of_gt (Nat.lt_of_lt_of_le (by decide) n1g)))
    (by rw [t1]; exact e1) d2 a3 (by rw [t1]; exact e4) (by rw [t2]; exact e5) (by rw [t1]; exact e6) d7 a8 p1 p2 r1 q1 q2 e14 (by rw [t1]; exact e15)
    (Int.natCast_nonneg _) (cast_lt32 n0l) (Int.natCast_nonneg _) (cast_lt32 n1l) (Int.natCast_nonneg _) (cast_lt32 v1l) (Int.natCast_nonneg _) (cast_lt32 v0l)
    p3 p4 p5 p6 p7 q3 q4 q5 q6 q7 lz

theorem Div64_long (hi lo y : Nat) (hh : hi ≠ 0) (hl : hi < y) (hlo : lo < 18446744073709551616) (hy : y < 18446744073709551616) (w : World) :
    Calls Try.prog 55 #[.int .u64 hi, .int .u64 lo, .int .u64 y] w fun e w' =>
      e = .returned (.tuple #[.int .u64 (((hi * 18446744073709551616 + lo) / y : Nat) : Int), .int .u64 (((hi * 18446744073709551616 + lo) % y : Nat) : Int)]) ∧ w = w' := by
  have lz := fun w => Try.bits_LeadingZeros64 (y : Int) w (by omega) (by omega)
  rw [Int.toNat_natCast] at lz
  obtain ⟨s, hs, hsv, hg, hgl⟩ := shift_great y (by omega) hy
  rw [← hsv] at lz
  obtain ⟨u, l1, hu, hl1, hK, e4, e5, e6⟩ := words hi lo y s hl hlo hs hgl
  obtain ⟨hA, hR⟩ := moved_div (hi * 18446744073709551616 + lo) y s
  rw [hK] at hA hR
  have c1 : (y : Int) * 2 ^ s = ((y * 2 ^ s : Nat) : Int) := by rw [Int.natCast_mul, Int.natCast_pow]; rfl
  obtain ⟨n1, n0, hY, n0l⟩ : ∃ n1 n0, y * 2 ^ s = n1 * 4294967296 + n0 ∧ n0 < 4294967296 := ⟨y * 2 ^ s / 4294967296, y * 2 ^ s % 4294967296, (Nat.div_add_mod' _ _).symm, Nat.mod_lt _ (by decide)⟩
  obtain ⟨v1, v0, rfl, v0l⟩ : ∃ v1 v0, l1 = v1 * 4294967296 + v0 ∧ v0 < 4294967296 := ⟨l1 / 4294967296, l1 % 4294967296, (Nat.div_add_mod' _ _).symm, Nat.mod_lt _ (by decide)⟩
  rw [hY] at hg hgl hu hA hR c1
  exact long_at hi lo y s n1 n0 u v1 v0 w hh hl hy hs hg hgl n0l hu hl1 v0l c1 e4 e5 e6 hA hR lz

theorem Div64_any (hi lo y : Nat) (hl : hi < y) (hlo : lo < 18446744073709551616) (hy : y < 18446744073709551616) (w : World) :
    Calls Try.prog 55 #[.int .u64 hi, .int .u64 lo, .int .u64 y] w fun e w' =>
      e = .returned (.tuple #[.int .u64 (((hi * 18446744073709551616 + lo) / y : Nat) : Int), .int .u64 (((hi * 18446744073709551616 + lo) % y : Nat) : Int)]) ∧ ∃ n, w' = w.drewN n := by
  by_cases h : hi = 0
  · subst h
    have := Div64_short lo y hlo (by omega) hy w
    rw [Nat.zero_mul, Nat.zero_add]
    exact this
  · exact (Div64_long hi lo y h hl hlo hy w).mono fun e w' ⟨he, hw⟩ => ⟨he, 0, hw.symm⟩
end Go.Proofs.Ytmbgcphiigmdjaa.Ss
