/-
  Parts: SDivW SDivL SHalvR.
-/
import Derived.Test.YtmbgcphiigmdjaaS0
import Derived.BigQuiet
import Derived.Test.YtmbgcphiigmdjaaSShelf
set_option linter.unusedSimpArgs false
set_option linter.unusedVariables false
/-
  Div64 at a high word that is not 0: its walk, with a letter for the value of each step.
-/
namespace Go.Proofs.Ytmbgcphiigmdjaa.Ss
open Go.RowKit
set_option maxRecDepth 100000 in
set_option maxHeartbeats 4000000 in
theorem div64_walk (hi lo y s Y n1 n0 h1 u l1 v1 v0 q0 r0 Q U2 q2 r2 Q2 A R : Int) (w : World) (hh0 : ¬ hi = 0) (hl : hi < y) (hy0 : ¬ y = 0) (hy : y < 18446744073709551616) (hs : s < 64) (hs0 : 0 ≤ s) (hn1 : ¬ n1 = 0)
    (e1 : IntKind.u64.wrap (y * 2 ^ s.toNat) = Y) (e2 : Y / 4294967296 = n1) (e3 : bits .and .u64 Y 4294967295 = n0)
    (e4 : IntKind.u64.wrap (hi * 2 ^ s.toNat) = h1) (e5 : bits .or .u64 h1 (lo / 2 ^ (64 - s).toNat) = u)
    (e6 : IntKind.u64.wrap (lo * 2 ^ s.toNat) = l1) (e7 : l1 / 4294967296 = v1) (e8 : bits .and .u64 l1 4294967295 = v0)
    (e9 : IntKind.u64.wrap (u.tdiv n1) = q0) (e10 : IntKind.u64.wrap (u - IntKind.u64.wrap (q0 * n1)) = r0)
    (e11 : IntKind.u64.wrap (IntKind.u64.wrap (IntKind.u64.wrap (u * 4294967296) + v1) - IntKind.u64.wrap (Q * Y)) = U2)
    (e12 : IntKind.u64.wrap (U2.tdiv n1) = q2) (e13 : IntKind.u64.wrap (U2 - IntKind.u64.wrap (q2 * n1)) = r2)
    (e14 : Q * 4294967296 + Q2 = A)
    (e15 : IntKind.u64.wrap (IntKind.u64.wrap (IntKind.u64.wrap (U2 * 4294967296) + v0) - IntKind.u64.wrap (Q2 * Y)) / 2 ^ s.toNat = R)
    (b0 : 0 ≤ n0) (b0' : n0 < 4294967296) (b1 : 0 ≤ n1) (b1' : n1 < 4294967296) (c1 : 0 ≤ v1) (c1' : v1 < 4294967296) (c0 : 0 ≤ v0) (c0' : v0 < 4294967296)
    (st1 : Hid (0 ≤ q0 ∧ q0 ≤ 4294967297 ∧ 0 ≤ r0 ∧ r0 < 4294967296 ∧ q0 * n1 + r0 = u ∧ Q ≤ q0))
    (gt1 : Hid (∀ q r, 0 ≤ q → 0 ≤ r → q * n1 + r = u → 4294967296 * r + v1 < q * n0 → Q < q)) (le1 : Hid (∀ q r, 0 ≤ q → 0 ≤ r → q * n1 + r = u → q * n0 ≤ 4294967296 * r + v1 → q ≤ Q))
    (sp1 : Hid (∀ q r, 0 ≤ q → q ≤ 4294967296 → 4294967296 ≤ r → q * n1 + r = u → q ≤ Q)) (bot1 : Hid (0 ≤ Q ∧ Q < 4294967296))
    (st2 : Hid (0 ≤ q2 ∧ q2 ≤ 4294967297 ∧ 0 ≤ r2 ∧ r2 < 4294967296 ∧ q2 * n1 + r2 = U2 ∧ Q2 ≤ q2))
    (gt2 : Hid (∀ q r, 0 ≤ q → 0 ≤ r → q * n1 + r = U2 → 4294967296 * r + v0 < q * n0 → Q2 < q)) (le2 : Hid (∀ q r, 0 ≤ q → 0 ≤ r → q * n1 + r = U2 → q * n0 ≤ 4294967296 * r + v0 → q ≤ Q2))
    (sp2 : Hid (∀ q r, 0 ≤ q → q ≤ 4294967296 → 4294967296 ≤ r → q * n1 + r = U2 → q ≤ Q2)) (bot2 : Hid (0 ≤ Q2 ∧ Q2 < 4294967296))
    (lz : ∀ w, Calls Try.prog 70 #[.int .u64 y] w fun e w' => e = .returned (.int .i64 s) ∧ w' = w) :
    Calls Try.prog 55 #[.int .u64 hi, .int .u64 lo, .int .u64 y] w fun e w' => e = .returned (.tuple #[.int .u64 A, .int .u64 R]) ∧ w = w' := by
  have hl2 : ¬ y ≤ hi := by omega
  go_enter Try.func55, Try.ntmps55
  go_wp2_with (go_at_call 70; with_reducible refine (lz _).mono ?_; rintro e w' ⟨rfl, rfl⟩)
  clear e1 e2 e3 e4 e5 e6 e7 e8 e9 e10 hl2 hh0 hl hy0 hy lz
  go_loop [15, 16] (fun a b => ∃ q r : Int, a = .int .u64 q ∧ b = .int .u64 r ∧ 0 ≤ q ∧ q ≤ 4294967297 ∧ 0 ≤ r ∧ r < 4294967296 ∧ q * n1 + r = u ∧ Q ≤ q) (fun a _ => (intOf a).toNat)
  case atStart => exact ⟨q0, r0, rfl, rfl, st1.out.1, st1.out.2.1, st1.out.2.2.1, st1.out.2.2.2.1, st1.out.2.2.2.2.1, st1.out.2.2.2.2.2⟩
  case round =>
    obtain ⟨q, r, rfl, rfl, g0, g1, g2, g3, hs, hQ⟩ := hrel
    have B := bot1.out
    by_cases hbig : q ≥ 4294967296
    · have hq : (q - 1) * n1 + (r + n1) = u := by rw [Int.sub_mul, Int.one_mul]; omega
      have hq1 : 1 ≤ q := by omega
      have hm : Q ≤ q - 1 := by omega
      by_cases hst : r + n1 ≥ 4294967296
      · have hlast : q = Q + 1 := by have := sp1.out (q - 1) (r + n1) (by omega) (by omega) hst hq; omega
        subst hlast
        clear hs hq hQ
        go_wp2
        go_loop [16, 18] (fun a b => ∃ q r : Int, b = .int .u64 q ∧ a = .int .u64 r ∧ 0 ≤ q ∧ q ≤ 4294967297 ∧ 0 ≤ r ∧ r < 4294967296 ∧ q * n1 + r = U2 ∧ Q2 ≤ q) (fun _ b => (intOf b).toNat)
        case atStart => exact ⟨q2, r2, rfl, rfl, st2.out.1, st2.out.2.1, st2.out.2.2.1, st2.out.2.2.2.1, st2.out.2.2.2.2.1, st2.out.2.2.2.2.2⟩
        case round =>
          obtain ⟨q, r, rfl, rfl, g0, g1, g2, g3, hs, hQ⟩ := hrel
          have B := bot2.out
          by_cases hbig : q ≥ 4294967296
          · have hq : (q - 1) * n1 + (r + n1) = U2 := by rw [Int.sub_mul, Int.one_mul]; omega
            have hq1 : 1 ≤ q := by omega
            have hm : Q2 ≤ q - 1 := by omega
            by_cases hst : r + n1 ≥ 4294967296
            · have hlast : q = Q2 + 1 := by have := sp2.out (q - 1) (r + n1) (by omega) (by omega) hst hq; omega
              subst hlast
              clear hs hq hQ
              go_wp2
              go_ret2
              exact ⟨rfl, rfl⟩
            · have hh := hid (show (q - 1) * n1 + (r + n1) = U2 ∧ Q2 ≤ q - 1 from ⟨hq, by omega⟩)
              clear hs hq hQ
              go_wp2
              go_round
              case rel => exact ⟨q - 1, r + n1, by go_num, by go_num, by omega, by omega, by omega, by omega, hh.out.1, hh.out.2⟩
              case measure => simp [intOf]; omega
          · have w1 : IntKind.u64.wrap (q * n0) = q * n0 := by
              have : q * n0 ≤ 4294967295 * 4294967295 := Int.mul_le_mul (by omega) (by omega) b0 (by omega)
              have : 0 ≤ q * n0 := Int.mul_nonneg g0 b0
              generalize q * n0 = x at *
              rw [IntKind.wrap_u64]; omega
            have w2 : IntKind.u64.wrap (4294967296 * r) = 4294967296 * r := by rw [IntKind.wrap_u64]; omega
            have w3 : IntKind.u64.wrap (4294967296 * r + v0) = 4294967296 * r + v0 := by rw [IntKind.wrap_u64]; omega
            by_cases hc : q * n0 > 4294967296 * r + v0
            · have hq : (q - 1) * n1 + (r + n1) = U2 := by rw [Int.sub_mul, Int.one_mul]; omega
              have hm : Q2 ≤ q - 1 := by have := gt2.out q r g0 g2 hs (by omega); omega
              have hq1 : 1 ≤ q := by omega
              by_cases hst : r + n1 ≥ 4294967296
              · have hlast : q = Q2 + 1 := by have := sp2.out (q - 1) (r + n1) (by omega) (by omega) hst hq; omega
                subst hlast
                clear hs hq hQ
                go_wp2
                go_ret2
                exact ⟨rfl, rfl⟩
              · have hh := hid (show (q - 1) * n1 + (r + n1) = U2 ∧ Q2 ≤ q - 1 from ⟨hq, by omega⟩)
                clear hs hq hQ
                go_wp2
                go_round
                case rel => exact ⟨q - 1, r + n1, by go_num, by go_num, by omega, by omega, by omega, by omega, hh.out.1, hh.out.2⟩
                case measure => simp [intOf]; omega
            · have hlast : q = Q2 := by have := le2.out q r g0 g2 hs (by omega); omega
              subst hlast
              clear hs hQ
              go_wp2
              go_ret2
              exact ⟨rfl, rfl⟩
      · have hh := hid (show (q - 1) * n1 + (r + n1) = u ∧ Q ≤ q - 1 from ⟨hq, by omega⟩)
        clear hs hq hQ
        go_wp2
        go_round
        case rel => exact ⟨q - 1, r + n1, by go_num, by go_num, by omega, by omega, by omega, by omega, hh.out.1, hh.out.2⟩
        case measure => simp [intOf]; omega
    · have w1 : IntKind.u64.wrap (q * n0) = q * n0 := by
        have : q * n0 ≤ 4294967295 * 4294967295 := Int.mul_le_mul (by omega) (by omega) b0 (by omega)
        have : 0 ≤ q * n0 := Int.mul_nonneg g0 b0
        generalize q * n0 = x at *
        rw [IntKind.wrap_u64]; omega
      have w2 : IntKind.u64.wrap (4294967296 * r) = 4294967296 * r := by rw [IntKind.wrap_u64]; omega
      have w3 : IntKind.u64.wrap (4294967296 * r + v1) = 4294967296 * r + v1 := by rw [IntKind.wrap_u64]; omega
      by_cases hc : q * n0 > 4294967296 * r + v1
      · have hq : (q - 1) * n1 + (r + n1) = u := by rw [Int.sub_mul, Int.one_mul]; omega
        have hm : Q ≤ q - 1 := by have := gt1.out q r g0 g2 hs (by omega); omega
        have hq1 : 1 ≤ q := by omega
        by_cases hst : r + n1 ≥ 4294967296
        · have hlast : q = Q + 1 := by have := sp1.out (q - 1) (r + n1) (by omega) (by omega) hst hq; omega
          subst hlast
          clear hs hq hQ
          go_wp2
          go_loop [16, 18] (fun a b => ∃ q r : Int, b = .int .u64 q ∧ a = .int .u64 r ∧ 0 ≤ q ∧ q ≤ 4294967297 ∧ 0 ≤ r ∧ r < 4294967296 ∧ q * n1 + r = U2 ∧ Q2 ≤ q) (fun _ b => (intOf b).toNat)
          case atStart => exact ⟨q2, r2, rfl, rfl, st2.out.1, st2.out.2.1, st2.out.2.2.1, st2.out.2.2.2.1, st2.out.2.2.2.2.1, st2.out.2.2.2.2.2⟩
          case round =>
            obtain ⟨q, r, rfl, rfl, g0, g1, g2, g3, hs, hQ⟩ := hrel
            have B := bot2.out
            by_cases hbig : q ≥ 4294967296
            · have hq : (q - 1) * n1 + (r + n1) = U2 := by rw [Int.sub_mul, Int.one_mul]; omega
              have hq1 : 1 ≤ q := by omega
              have hm : Q2 ≤ q - 1 := by omega
              by_cases hst : r + n1 ≥ 4294967296
              · have hlast : q = Q2 + 1 := by have := sp2.out (q - 1) (r + n1) (by omega) (by omega) hst hq; omega
                subst hlast
                clear hs hq hQ
                go_wp2
                go_ret2
                exact ⟨rfl, rfl⟩
              · have hh := hid (show (q - 1) * n1 + (r + n1) = U2 ∧ Q2 ≤ q - 1 from ⟨hq, by omega⟩)
                clear hs hq hQ
                go_wp2
                go_round
                case rel => exact ⟨q - 1, r + n1, by go_num, by go_num, by omega, by omega, by omega, by omega, hh.out.1, hh.out.2⟩
                case measure => simp [intOf]; omega
            · have w1 : IntKind.u64.wrap (q * n0) = q * n0 := by
                have : q * n0 ≤ 4294967295 * 4294967295 := Int.mul_le_mul (by omega) (by omega) b0 (by omega)
                have : 0 ≤ q * n0 := Int.mul_nonneg g0 b0
                generalize q * n0 = x at *
                rw [IntKind.wrap_u64]; omega
              have w2 : IntKind.u64.wrap (4294967296 * r) = 4294967296 * r := by rw [IntKind.wrap_u64]; omega
              have w3 : IntKind.u64.wrap (4294967296 * r + v0) = 4294967296 * r + v0 := by rw [IntKind.wrap_u64]; omega
              by_cases hc : q * n0 > 4294967296 * r + v0
              · have hq : (q - 1) * n1 + (r + n1) = U2 := by rw [Int.sub_mul, Int.one_mul]; omega
                have hm : Q2 ≤ q - 1 := by have := gt2.out q r g0 g2 hs (by omega); omega
                have hq1 : 1 ≤ q := by omega
                by_cases hst : r + n1 ≥ 4294967296
                · have hlast : q = Q2 + 1 := by have := sp2.out (q - 1) (r + n1) (by omega) (by omega) hst hq; omega
                  subst hlast
                  clear hs hq hQ
                  go_wp2
                  go_ret2
                  exact ⟨rfl, rfl⟩
                · have hh := hid (show (q - 1) * n1 + (r + n1) = U2 ∧ Q2 ≤ q - 1 from ⟨hq, by omega⟩)
                  clear hs hq hQ
                  go_wp2
                  go_round
                  case rel => exact ⟨q - 1, r + n1, by go_num, by go_num, by omega, by omega, by omega, by omega, hh.out.1, hh.out.2⟩
                  case measure => simp [intOf]; omega
              · have hlast : q = Q2 := by have := le2.out q r g0 g2 hs (by omega); omega
                subst hlast
                clear hs hQ
                go_wp2
                go_ret2
                exact ⟨rfl, rfl⟩
        · have hh := hid (show (q - 1) * n1 + (r + n1) = u ∧ Q ≤ q - 1 from ⟨hq, by omega⟩)
          clear hs hq hQ
          go_wp2
          go_round
          case rel => exact ⟨q - 1, r + n1, by go_num, by go_num, by omega, by omega, by omega, by omega, hh.out.1, hh.out.2⟩
          case measure => simp [intOf]; omega
      · have hlast : q = Q := by have := le1.out q r g0 g2 hs (by omega); omega
        subst hlast
        clear hs hQ
        go_wp2
        go_loop [16, 18] (fun a b => ∃ q r : Int, b = .int .u64 q ∧ a = .int .u64 r ∧ 0 ≤ q ∧ q ≤ 4294967297 ∧ 0 ≤ r ∧ r < 4294967296 ∧ q * n1 + r = U2 ∧ Q2 ≤ q) (fun _ b => (intOf b).toNat)
        case atStart => exact ⟨q2, r2, rfl, rfl, st2.out.1, st2.out.2.1, st2.out.2.2.1, st2.out.2.2.2.1, st2.out.2.2.2.2.1, st2.out.2.2.2.2.2⟩
        case round =>
          obtain ⟨q, r, rfl, rfl, g0, g1, g2, g3, hs, hQ⟩ := hrel
          have B := bot2.out
          by_cases hbig : q ≥ 4294967296
          · have hq : (q - 1) * n1 + (r + n1) = U2 := by rw [Int.sub_mul, Int.one_mul]; omega
            have hq1 : 1 ≤ q := by omega
            have hm : Q2 ≤ q - 1 := by omega
            by_cases hst : r + n1 ≥ 4294967296
            · have hlast : q = Q2 + 1 := by have := sp2.out (q - 1) (r + n1) (by omega) (by omega) hst hq; omega
              subst hlast
              clear hs hq hQ
              go_wp2
              go_ret2
              exact ⟨rfl, rfl⟩
            · have hh := hid (show (q - 1) * n1 + (r + n1) = U2 ∧ Q2 ≤ q - 1 from ⟨hq, by omega⟩)
              clear hs hq hQ
              go_wp2
              go_round
              case rel => exact ⟨q - 1, r + n1, by go_num, by go_num, by omega, by omega, by omega, by omega, hh.out.1, hh.out.2⟩
              case measure => simp [intOf]; omega
          · have w1 : IntKind.u64.wrap (q * n0) = q * n0 := by
              have : q * n0 ≤ 4294967295 * 4294967295 := Int.mul_le_mul (by omega) (by omega) b0 (by omega)
              have : 0 ≤ q * n0 := Int.mul_nonneg g0 b0
              generalize q * n0 = x at *
              rw [IntKind.wrap_u64]; omega
            have w2 : IntKind.u64.wrap (4294967296 * r) = 4294967296 * r := by rw [IntKind.wrap_u64]; omega
            have w3 : IntKind.u64.wrap (4294967296 * r + v0) = 4294967296 * r + v0 := by rw [IntKind.wrap_u64]; omega
            by_cases hc : q * n0 > 4294967296 * r + v0
            · have hq : (q - 1) * n1 + (r + n1) = U2 := by rw [Int.sub_mul, Int.one_mul]; omega
              have hm : Q2 ≤ q - 1 := by have := gt2.out q r g0 g2 hs (by omega); omega
              have hq1 : 1 ≤ q := by omega
              by_cases hst : r + n1 ≥ 4294967296
              · have hlast : q = Q2 + 1 := by have := sp2.out (q - 1) (r + n1) (by omega) (by omega) hst hq; omega
                subst hlast
                clear hs hq hQ
                go_wp2
                go_ret2
                exact ⟨rfl, rfl⟩
              · have hh := hid (show (q - 1) * n1 + (r + n1) = U2 ∧ Q2 ≤ q - 1 from ⟨hq, by omega⟩)
                clear hs hq hQ
                go_wp2
                go_round
                case rel => exact ⟨q - 1, r + n1, by go_num, by go_num, by omega, by omega, by omega, by omega, hh.out.1, hh.out.2⟩
                case measure => simp [intOf]; omega
            · have hlast : q = Q2 := by have := le2.out q r g0 g2 hs (by omega); omega
              subst hlast
              clear hs hQ
              go_wp2
              go_ret2
              exact ⟨rfl, rfl⟩
end Go.Proofs.Ytmbgcphiigmdjaa.Ss
/-
  math/bits.Div64 at every two words whose quotient is one.
-/
namespace Go.Proofs.Ytmbgcphiigmdjaa.Ss
open Go.RowKit

theorem long_at (hi lo y s n1 n0 u v1 v0 : Nat) (w : World) (hh : hi ≠ 0) (hl : hi < y) (hy : y < 18446744073709551616) (hs : s < 64) (hg : 9223372036854775808 ≤ n1 * 4294967296 + n0) (hgl : n1 * 4294967296 + n0 < 18446744073709551616)
    (n0l : n0 < 4294967296) (hu : u < n1 * 4294967296 + n0) (hl1 : v1 * 4294967296 + v0 < 18446744073709551616) (v0l : v0 < 4294967296)
    (c1 : (y : Int) * 2 ^ s = ((n1 * 4294967296 + n0 : Nat) : Int))
    (e4 : IntKind.u64.wrap ((hi : Int) * 2 ^ s) = ((hi * 2 ^ s : Nat) : Int))
    (e5 : bits .or .u64 ((hi * 2 ^ s : Nat) : Int) ((lo : Int) / 2 ^ (64 - s)) = (u : Int))
    (e6 : IntKind.u64.wrap ((lo : Int) * 2 ^ s) = ((v1 * 4294967296 + v0 : Nat) : Int))
    (hA : (u * 18446744073709551616 + (v1 * 4294967296 + v0)) / (n1 * 4294967296 + n0) = (hi * 18446744073709551616 + lo) / y)
    (hR : (u * 18446744073709551616 + (v1 * 4294967296 + v0)) % (n1 * 4294967296 + n0) / 2 ^ s = (hi * 18446744073709551616 + lo) % y)
    (lz : ∀ w, Calls Try.prog 70 #[.int .u64 y] w fun e w' => e = .returned (.int .i64 (s : Int)) ∧ w' = w) :
    Calls Try.prog 55 #[.int .u64 hi, .int .u64 lo, .int .u64 y] w fun e w' =>
      e = .returned (.tuple #[.int .u64 (((hi * 18446744073709551616 + lo) / y : Nat) : Int), .int .u64 (((hi * 18446744073709551616 + lo) % y : Nat) : Int)]) ∧ w = w' := by
  have n1g : 2147483648 ≤ n1 := by omega
  have n1l : n1 < 4294967296 := by omega
  have v1l : v1 < 4294967296 := by omega
  have a3 := and_low (n1 * 4294967296 + n0) hgl
  have a8 := and_low (v1 * 4294967296 + v0) hl1
  rw [show (n1 * 4294967296 + n0) % 4294967296 = n0 by clear a3 a8; omega] at a3
  rw [show (v1 * 4294967296 + v0) % 4294967296 = v0 by clear a3 a8; omega] at a8
  have e1 : IntKind.u64.wrap ((y : Int) * 2 ^ s) = ((n1 * 4294967296 + n0 : Nat) : Int) := c1.symm ▸ wrap_lt hgl
  have d2 : ((n1 * 4294967296 + n0 : Nat) : Int) / 4294967296 = (n1 : Int) := div32 n1 n0 n0l
  have d7 : ((v1 * 4294967296 + v0 : Nat) : Int) / 4294967296 = (v1 : Int) := div32 v1 v0 v0l
  obtain ⟨Q, U2, Q2, hU2, hQ, hU, hQ2, j1, j2⟩ := long_facts n1 n0 u v1 v0 hu
  rw [← j1] at hA
  rw [← j2] at hR
  obtain ⟨p1, p2, p3, p4, p5, p6, p7⟩ := half_all n1 n0 u v1 n1g n1l n0l hu v1l Q hQ
  obtain ⟨q1, q2, q3, q4, q5, q6, q7⟩ := half_all n1 n0 U2 v0 n1g n1l n0l hU2 v0l Q2 hQ2
  have r1 := half_rest u v1 (n1 * 4294967296 + n0) (Nat.lt_of_le_of_lt (Nat.zero_le _) hu) hgl
  have r2 := half_rest U2 v0 (n1 * 4294967296 + n0) (Nat.lt_of_le_of_lt (Nat.zero_le _) hu) hgl
  rw [hQ, hU] at r1
  rw [hQ2] at r2
  have e14 : (Q : Int) * 4294967296 + (Q2 : Int) = (((hi * 18446744073709551616 + lo) / y : Nat) : Int) := by
    rw [← hA, Int.natCast_add, Int.natCast_mul]; rfl
  have e15 : (((U2 * 4294967296 + v0) % (n1 * 4294967296 + n0) : Nat) : Int) / 2 ^ s = (((hi * 18446744073709551616 + lo) % y : Nat) : Int) := by
    rw [← hR, Int.natCast_ediv, Int.natCast_pow]; rfl
  rw [← r2] at e15
  have t1 : ((s : Int)).toNat = s := Int.toNat_natCast s
  obtain ⟨t2, t3⟩ := cast_sub64 hs
  exact div64_walk hi lo y s ((n1 * 4294967296 + n0 : Nat) : Int) n1 n0 ((hi * 2 ^ s : Nat) : Int) u ((v1 * 4294967296 + v0 : Nat) : Int) v1 v0 _ _ Q U2 _ _ Q2 _ _ w
    (cast_ne0 hh) (Int.ofNat_lt.2 hl) (cast_ne0 (Nat.ne_of_gt (Nat.lt_of_le_of_lt (Nat.zero_le _) hl))) (cast_lt64 hy) t3 (Int.natCast_nonneg _) (cast_ne0 (Nat.ne_of_gt (Nat.lt_of_lt_of_le (by decide) n1g)))
    (by rw [t1]; exact e1) d2 a3 (by rw [t1]; exact e4) (by rw [t2]; exact e5) (by rw [t1]; exact e6) d7 a8 p1 p2 r1 q1 q2 e14 (by rw [t1]; exact e15)
    (Int.natCast_nonneg _) (cast_lt32 n0l) (Int.natCast_nonneg _) (cast_lt32 n1l) (Int.natCast_nonneg _) (cast_lt32 v1l) (Int.natCast_nonneg _) (cast_lt32 v0l)
    p3 p4 p5 p6 p7 q3 q4 q5 q6 q7 lz

theorem Div64_long (hi lo y : Nat) (hh : hi ≠ 0) (hl : hi < y) (hlo : lo < 18446744073709551616) (hy : y < 18446744073709551616) (w : World) :
    Calls Try.prog 55 #[.int .u64 hi, .int .u64 lo, .int .u64 y] w fun e w' =>
      e = .returned (.tuple #[.int .u64 (((hi * 18446744073709551616 + lo) / y : Nat) : Int), .int .u64 (((hi * 18446744073709551616 + lo) % y : Nat) : Int)]) ∧ w = w' := by
  have lz := fun w => Try.bits_LeadingZeros64 (y : Int) w (by omega) (by omega)
  rw [Int.toNat_natCast] at lz
  obtain ⟨s, hs, hsv, hg, hgl⟩ := shift_great y (by omega) hy
  rw [← hsv] at lz
  obtain ⟨u, l1, hu, hl1, hK, e4, e5, e6⟩ := words hi lo y s hl hlo hs hgl
  obtain ⟨hA, hR⟩ := moved_div (hi * 18446744073709551616 + lo) y s
  rw [hK] at hA hR
  have c1 : (y : Int) * 2 ^ s = ((y * 2 ^ s : Nat) : Int) := by rw [Int.natCast_mul, Int.natCast_pow]; rfl
  obtain ⟨n1, n0, hY, n0l⟩ : ∃ n1 n0, y * 2 ^ s = n1 * 4294967296 + n0 ∧ n0 < 4294967296 := ⟨y * 2 ^ s / 4294967296, y * 2 ^ s % 4294967296, (Nat.div_add_mod' _ _).symm, Nat.mod_lt _ (by decide)⟩
  obtain ⟨v1, v0, rfl, v0l⟩ : ∃ v1 v0, l1 = v1 * 4294967296 + v0 ∧ v0 < 4294967296 := ⟨l1 / 4294967296, l1 % 4294967296, (Nat.div_add_mod' _ _).symm, Nat.mod_lt _ (by decide)⟩
  rw [hY] at hg hgl hu hA hR c1
  exact long_at hi lo y s n1 n0 u v1 v0 w hh hl hy hs hg hgl n0l hu hl1 v0l c1 e4 e5 e6 hA hR lz

theorem Div64_any (hi lo y : Nat) (hl : hi < y) (hlo : lo < 18446744073709551616) (hy : y < 18446744073709551616) (w : World) :
    Calls Try.prog 55 #[.int .u64 hi, .int .u64 lo, .int .u64 y] w fun e w' =>
      e = .returned (.tuple #[.int .u64 (((hi * 18446744073709551616 + lo) / y : Nat) : Int), .int .u64 (((hi * 18446744073709551616 + lo) % y : Nat) : Int)]) ∧ ∃ n, w' = w.drewN n := by
  by_cases h : hi = 0
  · subst h
    have := Div64_short lo y hlo (by omega) hy w
    rw [Nat.zero_mul, Nat.zero_add]
    exact this
  · exact (Div64_long hi lo y h hl hlo hy w).mono fun e w' ⟨he, hw⟩ => ⟨he, 0, hw.symm⟩
end Go.Proofs.Ytmbgcphiigmdjaa.Ss
/-
  Halves, by the document.
-/
namespace Go.Proofs.Ytmbgcphiigmdjaa.Ss
open Go.RowKit

theorem wrap_same' (n : Int) (h : Fits n) : wrap64 n = n := by unfold Fits at h; unfold wrap64; omega
theorem halves_next (n : Int) (k : Nat) (hk : k < 62) : (halves n k).tdiv 2 = halves n ((k : Int) + 1) := by
  have h := halves_on n k 1 (by omega) (by omega) (by omega)
  rw [← h]
  show (halves n k).tdiv 2 = halves (halves n k) 1
  unfold halves
  rw [if_neg (by decide : ¬ (1 : Int) < 1), if_neg (by decide : ¬ (1 : Int) > 62)]
  rfl
set_option maxHeartbeats 800000 in
theorem rHalves_any (n k : Int) (w : World) (hn : Fits n) :
    Calls Try.prog 53 #[.int .i64 n, .int .i64 k] w fun e w' => e = .returned (.int .i64 (halves n k)) ∧ w = w' := by
  by_cases h1 : k > 62
  · have E := hid (show halves n k = 0 by unfold halves; rw [if_neg (by omega), if_pos h1])
    go_enter Try.func53, Try.ntmps53
    go_wp2
    go_ret
    exact ⟨ret1 E.out.symm, rfl⟩
  · by_cases h0 : k < 1
    · have E := hid (show halves n k = n by unfold halves; rw [if_pos h0])
      have h2 : ¬ (0 : Int) < k := by omega
      clear h0
      go_enter Try.func53, Try.ntmps53
      go_wp2
      refine wp_loop_rounds 1 ?_
      rw [rounds_succ]
      go_wp2
      go_ret
      exact ⟨ret1 E.out.symm, rfl⟩
    · obtain ⟨m, rfl⟩ : ∃ m : Nat, k = m := ⟨k.toNat, by omega⟩
      have hm : m ≤ 62 := by omega
      clear h0
      go_enter Try.func53, Try.ntmps53
      go_wp2
      go_loop [0, 5] (fun v i => ∃ (j : Nat) (x : Int), j ≤ m ∧ i = .int .i64 j ∧ v = .int .i64 x ∧ Fits x ∧ x = halves n j) (fun _ i => m - (intOf i).toNat)
      case atStart => exact ⟨0, n, by omega, rfl, rfl, hn, by unfold halves; rw [if_pos (by decide)]⟩
      case round =>
        obtain ⟨j, x, hj, rfl, rfl, hx, he⟩ := hrel
        by_cases hlt : j < m
        · have h2 : (j : Int) < m := by omega
          have hn2 := halves_next n j (by omega)
          rw [← he] at hn2
          have ht := tdiv_fits x 2 hx
          have hw : wrap64 (x.tdiv 2) = x.tdiv 2 := wrap_same' _ ht
          replace hn2 := hid hn2
          replace ht := hid ht
          clear he hx
          go_wp2
          go_round
          case rel => exact ⟨j + 1, x.tdiv 2, by omega, by go_num, by first | rfl | rw [hw], ht.out, by rw [hn2.out]; rfl⟩
          case measure => simp [intOf]; omega
        · obtain rfl : j = m := by omega
          have h2 : ¬ (j : Int) < j := by omega
          replace he := hid he
          clear hx
          go_wp2
          go_ret
          exact ⟨ret1 he.out, rfl⟩
end Go.Proofs.Ytmbgcphiigmdjaa.Ss
