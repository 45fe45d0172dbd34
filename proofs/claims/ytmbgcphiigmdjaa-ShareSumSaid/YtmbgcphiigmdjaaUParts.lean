/-
  The parts of 1000 that are used, and those that are not, by the program.
-/
import Derived.Test.YtmbgcphiigmdjaaUTotal
import Derived.Test.YtmbgcphiigmdjaaSDivL
namespace Go.Proofs.Ytmbgcphiigmdjaa
open Go.RowKit Ss Ds

set_option maxRecDepth 100000 in
set_option maxHeartbeats 4000000 in
theorem parts_any (u t : Int) (w : World) (hu : 0 ≤ u) (ht : u ≤ t) (h0 : t ≠ 0) (h1 : u ≤ 1152921504606846976) (h2 : t ≤ 9223372036854775807) :
    Calls Try.prog 33 #[.int .i64 u, .int .i64 t] w fun e w' => e = .returned (.int .i64 (partsP u t)) ∧ Below w.heap.size w w' := by
  obtain ⟨hp0, hp1⟩ := parts_facts hu ht h0
  obtain ⟨a, rfl⟩ : ∃ q : Nat, u = q := ⟨u.toNat, by omega⟩
  obtain ⟨b, rfl⟩ : ∃ q : Nat, t = q := ⟨t.toNat, by omega⟩
  have hb : 0 < b := by omega
  have M : ∀ w, Calls Try.prog 54 #[.int .u64 (a : Int), .int .u64 1000] w fun e w' => e = .returned (.tuple #[.int .u64 ((a * 1000 / 18446744073709551616 : Nat) : Int), .int .u64 ((a * 1000 % 18446744073709551616 : Nat) : Int)]) ∧ w' = w := fun w => Try.bits_Mul64 a 1000 (by omega) (by omega) w
  have hH : a * 1000 / 18446744073709551616 < b := by omega
  have D := fun w => Div64_any (a * 1000 / 18446744073709551616) (a * 1000 % 18446744073709551616) b hH (Nat.mod_lt _ (by omega)) (by omega) w
  have hj : a * 1000 / 18446744073709551616 * 18446744073709551616 + a * 1000 % 18446744073709551616 = a * 1000 := Nat.div_add_mod' _ _
  rw [hj] at D
  have hq : a * 1000 / b ≤ 1000 := Nat.div_le_of_le_mul (by omega)
  have hpp : partsP (a : Int) (b : Int) = ((a * 1000 / b + (if a * 1000 % b = 0 then 0 else 1) : Nat) : Int) := by unfold partsP; rw [Int.toNat_natCast, Int.toNat_natCast]
  rw [hpp] at hp0 hp1 ⊢
  generalize a * 1000 / 18446744073709551616 = H at *
  generalize a * 1000 % 18446744073709551616 = L at *
  generalize a * 1000 / b = q at *
  generalize a * 1000 % b = r at *
  have ea : IntKind.u64.wrap (a : Int) = a := by rw [IntKind.wrap_u64]; omega
  have eb : IntKind.u64.wrap (b : Int) = b := by rw [IntKind.wrap_u64]; omega
  clear hpp hj hu ht hb h0 h1
  by_cases hr : r = 0
  · subst hr
    rw [if_pos rfl] at hp1 ⊢
    rw [Nat.add_zero] at hp1 ⊢
    go_enter Try.func33, Try.ntmps33
    go_wp2_with (first
      | (go_at_call 54; (with_reducible refine (M _).mono ?_); rintro e w' ⟨rfl, rfl⟩)
      | (go_at_call 55; (with_reducible refine (D _).mono ?_); rintro e w' ⟨rfl, n, rfl⟩))
    go_ret
    exact ⟨rfl, below_drewN (Below.refl _ _) n⟩
  · rw [if_neg hr] at hp1 ⊢
    have r0 : (r : Int) > 0 := by omega
    have e1 : IntKind.u64.wrap ((q : Int) + 1) = ((q + 1 : Nat) : Int) := by rw [IntKind.wrap_u64]; omega
    go_enter Try.func33, Try.ntmps33
    go_wp2_with (first
      | (go_at_call 54; (with_reducible refine (M _).mono ?_); rintro e w' ⟨rfl, rfl⟩)
      | (go_at_call 55; (with_reducible refine (D _).mono ?_); rintro e w' ⟨rfl, n, rfl⟩))
    go_ret
    exact ⟨rfl, below_drewN (Below.refl _ _) n⟩
set_option maxRecDepth 100000 in
set_option maxHeartbeats 4000000 in
theorem Factor_any {w : World} {p m : Nat} {h : Int} {M : List Usr} (l : LB w p m h M) (hh : halfB h) (hg : Good M) (s : Str) (now : Int) :
    Calls Try.prog 18 #[.pointer (some ⟨p, 0, none⟩), .string (str s), .int .i64 now] w (IntP w (factorP h M s now)) := by
  have hu := Used_any l hh hg s now
  have hto := fun W (b : Below w.heap.size w W) => Total_any (l.below b) hh hg now
  have hpa := fun (he : (usedP h M s now).2 = 0) (ht : (totalP h M now).1 ≠ 0) W => parts_any (usedP h M s now).1 (totalP h M now).1 W (used_total hh.1 hg he).1 (used_total hh.1 hg he).2.2.2.1 ht (used_total hh.1 hg he).2.1 (used_total hh.1 hg he).2.2.2.2
  have hub := fun (he : (usedP h M s now).2 = 0) (ht : (totalP h M now).1 ≠ 0) => parts_facts (used_total hh.1 hg he).1 (used_total hh.1 hg he).2.2.2.1 ht
  unfold factorP
  unfold IntP at *
  generalize usedP h M s now = u at *
  generalize totalP h M now = t at *
  obtain ⟨u1, ue⟩ := u
  obtain ⟨t1, te⟩ := t
  simp only at *
  replace l := fhid l
  by_cases he : ue = 0
  · subst he
    rw [if_neg (by simp)]
    by_cases ht : t1 = 0
    · subst ht
      rw [if_pos rfl]
      clear hpa hub
      go_enter Try.func18, Try.ntmps18
      go_wp2_with (first
        | (go_at_call 16; (with_reducible refine hu.mono ?_); rintro e w1 ⟨rfl, b1⟩)
        | (go_at_call 20; (with_reducible refine (hto _ b1).mono ?_); rintro e w2 ⟨rfl, b2⟩))
      go_ret2
      exact ⟨rfl, b1.trans (b2.mono b1.size)⟩
    · rw [if_neg ht]
      have hpb := hpa rfl ht
      obtain ⟨k0, k1⟩ := hub rfl ht
      clear hub hpa
      generalize partsP u1 t1 = q at *
      have bt : (t1 == 0) = false := by simpa using ht
      go_enter Try.func18, Try.ntmps18
      go_wp2_with (first
        | (go_at_call 16; (with_reducible refine hu.mono ?_); rintro e w1 ⟨rfl, b1⟩)
        | (go_at_call 20; (with_reducible refine (hto _ b1).mono ?_); rintro e w2 ⟨rfl, b2⟩)
        | (go_at_call 33; (with_reducible refine (hpb _).mono ?_); rintro e w3 ⟨rfl, b3⟩))
      go_ret2
      exact ⟨rfl, (b1.trans (b2.mono b1.size)).trans (b3.mono (Nat.le_trans b1.size b2.size))⟩
  · rw [if_pos he]
    have bt : (ue != 0) = true := by simpa using he
    clear hpa hub hto
    go_enter Try.func18, Try.ntmps18
    go_wp2_with (go_at_call 16; (with_reducible refine hu.mono ?_); rintro e w1 ⟨rfl, b1⟩)
    go_ret2
    exact ⟨rfl, b1⟩
end Go.Proofs.Ytmbgcphiigmdjaa
