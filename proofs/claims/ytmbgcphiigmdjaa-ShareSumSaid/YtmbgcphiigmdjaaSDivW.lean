/-
  Div64 at a high word that is not 0: its walk, with a letter for the value of each step.
-/
import Derived.Test.YtmbgcphiigmdjaaSScale
import Derived.Test.YtmbgcphiigmdjaaSHalf
import Derived.BigQuiet
namespace Go.Proofs.Ytmbgcphiigmdjaa.Ss
open Go.RowKit
set_option maxRecDepth 100000 in
set_option maxHeartbeats 4000000 in
theorem div64_walk (hi lo y s Y n1 n0 h1 u l1 v1 v0 q0 r0 Q U2 q2 r2 Q2 A R : Int) (w : World) (hh0 : ¬ hi = 0) (hl : hi < y) (hy0 : ¬ y = 0) (hy : y < 18446744073709551616) (hs : s < 64) (hs0 : 0 ≤ s) (hn1 : ¬ n1 = 0)
    (e1 : IntKind.u64.wrap (y * 2 ^ s.toNat) = Y) (e2 : Y / 4294967296 = n1) (e3 : bits .and .u64 Y 4294967295 = n0)
    (e4 : IntKind.u64.wrap (hi * 2 ^ s.toNat) = h1) (e5 : bits .or .u64 h1 (lo / 2 ^ (64 - s).toNat) = u)
    (e6 : IntKind.u64.wrap (lo * 2 ^ s.toNat) = l1) (e7 : l1 / 4294967296 = v1) (e8 : bits .and .u64 l1 4294967295 = v0)
    (e9 : IntKind.u64.wrap (u.tdiv n1) = q0) (e10 : IntKind.u64.wrap (u - IntKind.u64.wrap (q0 * n1)) = r0)
    (e11 : IntKind.u64.wrap (IntKind.u64.wrap (IntKind.u64.wrap (u * 4294967296) + v1) - IntKind.u64.wrap (Q * Y)) = U2)
    (e12 : IntKind.u64.wrap (U2.tdiv n1) = q2) (e13 : IntKind.u64.wrap (U2 - IntKind.u64.wrap (q2 * n1)) = r2)
    (e14 : Q * 4294967296 + Q2 = A)
    (e15 : IntKind.u64.wrap (IntKind.u64.wrap (IntKind.u64.wrap (U2 * 4294967296) + v0) - IntKind.u64.wrap (Q2 * Y)) / 2 ^ s.toNat = R)
    (b0 : 0 ≤ n0) (b0' : n0 < 4294967296) (b1 : 0 ≤ n1) (b1' : n1 < 4294967296) (c1 : 0 ≤ v1) (c1' : v1 < 4294967296) (c0 : 0 ≤ v0) (c0' : v0 < 4294967296)
    (st1 : Hid (0 ≤ q0 ∧ q0 ≤ 4294967297 ∧ 0 ≤ r0 ∧ r0 < 4294967296 ∧ q0 * n1 + r0 = u ∧ Q ≤ q0))
    (gt1 : Hid (∀ q r, 0 ≤ q → 0 ≤ r → q * n1 + r = u → 4294967296 * r + v1 < q * n0 → Q < q)) (le1 : Hid (∀ q r, 0 ≤ q → 0 ≤ r → q * n1 + r = u → q * n0 ≤ 4294967296 * r + v1 → q ≤ Q))
    (sp1 : Hid (∀ q r, 0 ≤ q → q ≤ 4294967296 → 4294967296 ≤ r → q * n1 + r = u → q ≤ Q)) (bot1 : Hid (0 ≤ Q ∧ Q < 4294967296))
    (st2 : Hid (0 ≤ q2 ∧ q2 ≤ 4294967297 ∧ 0 ≤ r2 ∧ r2 < 4294967296 ∧ q2 * n1 + r2 = U2 ∧ Q2 ≤ q2))
    (gt2 : Hid (∀ q r, 0 ≤ q → 0 ≤ r → q * n1 + r = U2 → 4294967296 * r + v0 < q * n0 → Q2 < q)) (le2 : Hid (∀ q r, 0 ≤ q → 0 ≤ r → q * n1 + r = U2 → q * n0 ≤ 4294967296 * r + v0 → q ≤ Q2))
    (sp2 : Hid (∀ q r, 0 ≤ q → q ≤ 4294967296 → 4294967296 ≤ r → q * n1 + r = U2 → q ≤ Q2)) (bot2 : Hid (0 ≤ Q2 ∧ Q2 < 4294967296))
    (lz : ∀ w, Calls Try.prog 70 #[.int .u64 y] w fun e w' => e = .returned (.int .i64 s) ∧ w' = w) :
    Calls Try.prog 55 #[.int .u64 hi, .int .u64 lo, .int .u64 y] w fun e w' => e = .returned (.tuple #[.int .u64 A, .int .u64 R]) ∧ w = w' := by
  have hl2 : ¬ y ≤ hi := by omega
  go_enter Try.func55, Try.ntmps55
  go_wp2_with (go_at_call 70; with_reducible refine (lz _).mono ?_; rintro e w' ⟨rfl, rfl⟩)
  clear e1 e2 e3 e4 e5 e6 e7 e8 e9 e10 hl2 hh0 hl hy0 hy lz
  go_loop [15, 16] (fun a b => ∃ q r : Int, a = .int .u64 q ∧ b = .int .u64 r ∧ 0 ≤ q ∧ q ≤ 4294967297 ∧ 0 ≤ r ∧ r < 4294967296 ∧ q * n1 + r = u ∧ Q ≤ q) (fun a _ => (intOf a).toNat)
  case atStart => exact ⟨q0, r0, rfl, rfl, st1.out.1, st1.out.2.1, st1.out.2.2.1, st1.out.2.2.2.1, st1.out.2.2.2.2.1, st1.out.2.2.2.2.2⟩
  case round =>
    obtain ⟨q, r, rfl, rfl, g0, g1, g2, g3, hs, hQ⟩ := hrel
    have B := bot1.out
    by_cases hbig : q ≥ 4294967296
    · have hq : (q - 1) * n1 + (r + n1) = u := by rw [Int.sub_mul, Int.one_mul]; omega
      have hq1 : 1 ≤ q := by omega
      have hm : Q ≤ q - 1 := by omega
      by_cases hst : r + n1 ≥ 4294967296
      · have hlast : q = Q + 1 := by have := sp1.out (q - 1) (r + n1) (by omega) (by omega) hst hq; omega
        subst hlast
        clear hs hq hQ
        go_wp2
        go_loop [16, 18] (fun a b => ∃ q r : Int, b = .int .u64 q ∧ a = .int .u64 r ∧ 0 ≤ q ∧ q ≤ 4294967297 ∧ 0 ≤ r ∧ r < 4294967296 ∧ q * n1 + r = U2 ∧ Q2 ≤ q) (fun _ b => (intOf b).toNat)
        case atStart => exact ⟨q2, r2, rfl, rfl, st2.out.1, st2.out.2.1, st2.out.2.2.1, st2.out.2.2.2.1, st2.out.2.2.2.2.1, st2.out.2.2.2.2.2⟩
        case round =>
          obtain ⟨q, r, rfl, rfl, g0, g1, g2, g3, hs, hQ⟩ := hrel
          have B := bot2.out
          by_cases hbig : q ≥ 4294967296
          · have hq : (q - 1) * n1 + (r + n1) = U2 := by rw [Int.sub_mul, Int.one_mul]; omega
            have hq1 : 1 ≤ q := by omega
            have hm : Q2 ≤ q - 1 := by omega
            by_cases hst : r + n1 ≥ 4294967296
            · have hlast : q = Q2 + 1 := by have := sp2.out (q - 1) (r + n1) (by omega) (by omega) hst hq; omega
              subst hlast
              clear hs hq hQ
              go_wp2
              go_ret2
              exact ⟨rfl, rfl⟩
            · have hh := hid (show (q - 1) * n1 + (r + n1) = U2 ∧ Q2 ≤ q - 1 from ⟨hq, by omega⟩)
              clear hs hq hQ
              go_wp2
              go_round
              case rel => exact ⟨q - 1, r + n1, by go_num, by go_num, by omega, by omega, by omega, by omega, hh.out.1, hh.out.2⟩
              case measure => simp [intOf]; omega
          · have w1 : IntKind.u64.wrap (q * n0) = q * n0 := by
              have : q * n0 ≤ 4294967295 * 4294967295 := Int.mul_le_mul (by omega) (by omega) b0 (by omega)
              have : 0 ≤ q * n0 := Int.mul_nonneg g0 b0
              generalize q * n0 = x at *
              rw [IntKind.wrap_u64]; omega
            have w2 : IntKind.u64.wrap (4294967296 * r) = 4294967296 * r := by rw [IntKind.wrap_u64]; omega
            have w3 : IntKind.u64.wrap (4294967296 * r + v0) = 4294967296 * r + v0 := by rw [IntKind.wrap_u64]; omega
            by_cases hc : q * n0 > 4294967296 * r + v0
            · have hq : (q - 1) * n1 + (r + n1) = U2 := by rw [Int.sub_mul, Int.one_mul]; omega
              have hm : Q2 ≤ q - 1 := by have := gt2.out q r g0 g2 hs (by omega); omega
              have hq1 : 1 ≤ q := by omega
              by_cases hst : r + n1 ≥ 4294967296
              · have hlast : q = Q2 + 1 := by have := sp2.out (q - 1) (r + n1) (by omega) (by omega) hst hq; omega
                subst hlast
                clear hs hq hQ
                go_wp2
                go_ret2
                exact ⟨rfl, rfl⟩
              · have hh := hid (show (q - 1) * n1 + (r + n1) = U2 ∧ Q2 ≤ q - 1 from ⟨hq, by omega⟩)
                clear hs hq hQ
                go_wp2
                go_round
                case rel => exact ⟨q - 1, r + n1, by go_num, by go_num, by omega, by omega, by omega, by omega, hh.out.1, hh.out.2⟩
                case measure => simp [intOf]; omega
            · have hlast : q = Q2 := by have := le2.out q r g0 g2 hs (by omega); omega
              subst hlast
              clear hs hQ
              go_wp2
              go_ret2
              exact ⟨rfl, rfl⟩
      · have hh := hid (show (q - 1) * n1 + (r + n1) = u ∧ Q ≤ q - 1 from ⟨hq, by omega⟩)
        clear hs hq hQ
        go_wp2
        go_round
        case rel => exact ⟨q - 1, r + n1, by go_num, by go_num, by omega, by omega, by omega, by omega, hh.out.1, hh.out.2⟩
        case measure => simp [intOf]; omega
    · have w1 : IntKind.u64.wrap (q * n0) = q * n0 := by
        have : q * n0 ≤ 4294967295 * 4294967295 := Int.mul_le_mul (by omega) (by omega) b0 (by omega)
        have : 0 ≤ q * n0 := Int.mul_nonneg g0 b0
        generalize q * n0 = x at *
        rw [IntKind.wrap_u64]; omega
      have w2 : IntKind.u64.wrap (4294967296 * r) = 4294967296 * r := by rw [IntKind.wrap_u64]; omega
      have w3 : IntKind.u64.wrap (4294967296 * r + v1) = 4294967296 * r + v1 := by rw [IntKind.wrap_u64]; omega
      by_cases hc : q * n0 > 4294967296 * r + v1
      · have hq : (q - 1) * n1 + (r + n1) = u := by rw [Int.sub_mul, Int.one_mul]; omega
        have hm : Q ≤ q - 1 := by have := gt1.out q r g0 g2 hs (by omega); omega
        have hq1 : 1 ≤ q := by omega
        by_cases hst : r + n1 ≥ 4294967296
        · have hlast : q = Q + 1 := by have := sp1.out (q - 1) (r + n1) (by omega) (by omega) hst hq; omega
          subst hlast
          clear hs hq hQ
          go_wp2
          go_loop [16, 18] (fun a b => ∃ q r : Int, b = .int .u64 q ∧ a = .int .u64 r ∧ 0 ≤ q ∧ q ≤ 4294967297 ∧ 0 ≤ r ∧ r < 4294967296 ∧ q * n1 + r = U2 ∧ Q2 ≤ q) (fun _ b => (intOf b).toNat)
          case atStart => exact ⟨q2, r2, rfl, rfl, st2.out.1, st2.out.2.1, st2.out.2.2.1, st2.out.2.2.2.1, st2.out.2.2.2.2.1, st2.out.2.2.2.2.2⟩
          case round =>
            obtain ⟨q, r, rfl, rfl, g0, g1, g2, g3, hs, hQ⟩ := hrel
            have B := bot2.out
            by_cases hbig : q ≥ 4294967296
            · have hq : (q - 1) * n1 + (r + n1) = U2 := by rw [Int.sub_mul, Int.one_mul]; omega
              have hq1 : 1 ≤ q := by omega
              have hm : Q2 ≤ q - 1 := by omega
              by_cases hst : r + n1 ≥ 4294967296
              · have hlast : q = Q2 + 1 := by have := sp2.out (q - 1) (r + n1) (by omega) (by omega) hst hq; omega
                subst hlast
                clear hs hq hQ
                go_wp2
                go_ret2
                exact ⟨rfl, rfl⟩
              · have hh := hid (show (q - 1) * n1 + (r + n1) = U2 ∧ Q2 ≤ q - 1 from ⟨hq, by omega⟩)
                clear hs hq hQ
                go_wp2
                go_round
                case rel => exact ⟨q - 1, r + n1, by go_num, by go_num, by omega, by omega, by omega, by omega, hh.out.1, hh.out.2⟩
                case measure => simp [intOf]; omega
            · have w1 : IntKind.u64.wrap (q * n0) = q * n0 := by
                have : q * n0 ≤ 4294967295 * 4294967295 := Int.mul_le_mul (by omega) (by omega) b0 (by omega)
                have : 0 ≤ q * n0 := Int.mul_nonneg g0 b0
                generalize q * n0 = x at *
                rw [IntKind.wrap_u64]; omega
              have w2 : IntKind.u64.wrap (4294967296 * r) = 4294967296 * r := by rw [IntKind.wrap_u64]; omega
              have w3 : IntKind.u64.wrap (4294967296 * r + v0) = 4294967296 * r + v0 := by rw [IntKind.wrap_u64]; omega
              by_cases hc : q * n0 > 4294967296 * r + v0
              · have hq : (q - 1) * n1 + (r + n1) = U2 := by rw [Int.sub_mul, Int.one_mul]; omega
                have hm : Q2 ≤ q - 1 := by have := gt2.out q r g0 g2 hs (by omega); omega
                have hq1 : 1 ≤ q := by omega
                by_cases hst : r + n1 ≥ 4294967296
                · have hlast : q = Q2 + 1 := by have := sp2.out (q - 1) (r + n1) (by omega) (by omega) hst hq; omega
                  subst hlast
                  clear hs hq hQ
                  go_wp2
                  go_ret2
                  exact ⟨rfl, rfl⟩
                · have hh := hid (show (q - 1) * n1 + (r + n1) = U2 ∧ Q2 ≤ q - 1 from ⟨hq, by omega⟩)
                  clear hs hq hQ
                  go_wp2
                  go_round
                  case rel => exact ⟨q - 1, r + n1, by go_num, by go_num, by omega, by omega, by omega, by omega, hh.out.1, hh.out.2⟩
                  case measure => simp [intOf]; omega
              · have hlast : q = Q2 := by have := le2.out q r g0 g2 hs (by omega); omega
                subst hlast
                clear hs hQ
                go_wp2
                go_ret2
                exact ⟨rfl, rfl⟩
        · have hh := hid (show (q - 1) * n1 + (r + n1) = u ∧ Q ≤ q - 1 from ⟨hq, by omega⟩)
          clear hs hq hQ
          go_wp2
          go_round
          case rel => exact ⟨q - 1, r + n1, by go_num, by go_num, by omega, by omega, by omega, by omega, hh.out.1, hh.out.2⟩
          case measure => simp [intOf]; omega
      · have hlast : q = Q := by have := le1.out q r g0 g2 hs (by omega); omega
        subst hlast
        clear hs hQ
        go_wp2
        go_loop [16, 18] (fun a b => ∃ q r : Int, b = .int .u64 q ∧ a = .int .u64 r ∧ 0 ≤ q ∧ q ≤ 4294967297 ∧ 0 ≤ r ∧ r < 4294967296 ∧ q * n1 + r = U2 ∧ Q2 ≤ q) (fun _ b => (intOf b).toNat)
        case atStart => exact ⟨q2, r2, rfl, rfl, st2.out.1, st2.out.2.1, st2.out.2.2.1, st2.out.2.2.2.1, st2.out.2.2.2.2.1, st2.out.2.2.2.2.2⟩
        case round =>
          obtain ⟨q, r, rfl, rfl, g0, g1, g2, g3, hs, hQ⟩ := hrel
          have B := bot2.out
          by_cases hbig : q ≥ 4294967296
          · have hq : (q - 1) * n1 + (r + n1) = U2 := by rw [Int.sub_mul, Int.one_mul]; omega
            have hq1 : 1 ≤ q := by omega
            have hm : Q2 ≤ q - 1 := by omega
            by_cases hst : r + n1 ≥ 4294967296
            · have hlast : q = Q2 + 1 := by have := sp2.out (q - 1) (r + n1) (by omega) (by omega) hst hq; omega
              subst hlast
              clear hs hq hQ
              go_wp2
              go_ret2
              exact ⟨rfl, rfl⟩
            · have hh := hid (show (q - 1) * n1 + (r + n1) = U2 ∧ Q2 ≤ q - 1 from ⟨hq, by omega⟩)
              clear hs hq hQ
              go_wp2
              go_round
              case rel => exact ⟨q - 1, r + n1, by go_num, by go_num, by omega, by omega, by omega, by omega, hh.out.1, hh.out.2⟩
              case measure => simp [intOf]; omega
          · have w1 : IntKind.u64.wrap (q * n0) = q * n0 := by
              have : q * n0 ≤ 4294967295 * 4294967295 := Int.mul_le_mul (by omega) (by omega) b0 (by omega)
              have : 0 ≤ q * n0 := Int.mul_nonneg g0 b0
              generalize q * n0 = x at *
              rw [IntKind.wrap_u64]; omega
            have w2 : IntKind.u64.wrap (4294967296 * r) = 4294967296 * r := by rw [IntKind.wrap_u64]; omega
            have w3 : IntKind.u64.wrap (4294967296 * r + v0) = 4294967296 * r + v0 := by rw [IntKind.wrap_u64]; omega
            by_cases hc : q * n0 > 4294967296 * r + v0
            · have hq : (q - 1) * n1 + (r + n1) = U2 := by rw [Int.sub_mul, Int.one_mul]; omega
              have hm : Q2 ≤ q - 1 := by have := gt2.out q r g0 g2 hs (by omega); omega
              have hq1 : 1 ≤ q := by omega
              by_cases hst : r + n1 ≥ 4294967296
              · have hlast : q = Q2 + 1 := by have := sp2.out (q - 1) (r + n1) (by omega) (by omega) hst hq; omega
                subst hlast
                clear hs hq hQ
                go_wp2
                go_ret2
                exact ⟨rfl, rfl⟩
              · have hh := hid (show (q - 1) * n1 + (r + n1) = U2 ∧ Q2 ≤ q - 1 from ⟨hq, by omega⟩)
                clear hs hq hQ
                go_wp2
                go_round
                case rel => exact ⟨q - 1, r + n1, by go_num, by go_num, by omega, by omega, by omega, by omega, hh.out.1, hh.out.2⟩
                case measure => simp [intOf]; omega
            · have hlast : q = Q2 := by have := le2.out q r g0 g2 hs (by omega); omega
              subst hlast
              clear hs hQ
              go_wp2
              go_ret2
              exact ⟨rfl, rfl⟩
end Go.Proofs.Ytmbgcphiigmdjaa.Ss
