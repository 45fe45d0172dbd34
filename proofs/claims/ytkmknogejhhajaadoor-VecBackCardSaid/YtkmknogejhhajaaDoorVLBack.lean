/-
  VecBack, walked.
-/
import Derived.Test.YtkmknogejhhajaaDoorVAlive
namespace Go.Proofs.YtkmknogejhhajaaDoor
open Go.RowKit

set_option maxRecDepth 100000 in
set_option maxHeartbeats 4000000 in
theorem back_walk (a b c : Int) (w : World) (hw : Env w) (ha : I64 a) (hb : I64 b) (hc : I64 c) : Calls Tryd.prog 7 #[vec a b c] w (TP w true) := by
  have hf := fun W (hW : Env W) => Format_any a b c W hW ha hb hc
  have hp := fun W (hW : Env W) => Parse_any (str (fmt (a, b, c))) (by rw [str_size]; have := fmt_le (a, b, c) ha hb hc; omega) W hW
  have hpf := parse_fmt (a, b, c) ha hb hc
  simp only at hpf
  rw [bl_str, hpf] at hp
  have hri := fun W => Right_any a b c W
  have hal := fun W (hW : Env W) => alive_any W hW
  clear hpf ha hb hc
  generalize str (fmt (a, b, c)) = F at *
  replace hw := fhid hw
  cases hq : right a b c with
  | true =>
    rw [hq] at hp hri
    rw [if_pos rfl] at hp
    unfold VP at hp
    simp only [vv] at hp
    clear hq
    have he := fun W => eql_vec a b c a b c W
    rw [decide_eq_true (show a = a ∧ b = b ∧ c = c from ⟨rfl, rfl, rfl⟩)] at he
    go_enter Tryd.func7, Tryd.ntmps7
    go_upto_region 1 with fail
    have v0 := VB.new w a b c _ rfl
    have g0 := fhid ((Grew.refl w).alloc (.cells #[.int .i64 a, .int .i64 b, .int .i64 c] 23))
    generalize w.alloc _ = w0 at *
    obtain ⟨c0, c1, c2, _⟩ := v0.facts
    replace v0 := fhid v0
    go_wp2_with (first
      | (go_at_call 27; (with_reducible refine (hf _ (hw.out.grew g0.out)).mono ?_); clear hf; rintro r w1 ⟨rfl, b1⟩
         have z1 := fhid (g0.out.below.trans (b1.mono g0.out.below.size)))
      | (go_at_call 25; (with_reducible refine (hp _ (hw.out.below z1.out)).mono ?_); clear hp; rintro r w2 ⟨rfl, b2⟩
         have z2 := fhid ((z1.out.trans (b2.mono z1.out.size)).trans (((Grew.refl w2).alloc (.cells #[.int .i64 a, .int .i64 b, .int .i64 c] 23)).below.mono (z1.out.trans (b2.mono z1.out.size)).size))
         have v2 := fhid (((v0.out.on b1).on b2).grew ((Grew.refl w2).alloc (.cells #[.int .i64 a, .int .i64 b, .int .i64 c] 23)))
         have n2 := fhid (VB.new w2 a b c _ rfl)
         clear c0 c1 c2
         obtain ⟨c0, c1, c2, _⟩ := v2.out.facts)
      | (go_at_call 10; (with_reducible refine (hri _).mono ?_); clear hri; rintro r w3 ⟨rfl, g3⟩
         have z3 := fhid (z2.out.trans (g3.below.mono z2.out.size))
         clear c0 c1 c2
         obtain ⟨c0, c1, c2, _⟩ := (v2.out.grew g3).facts
         obtain ⟨e0, e1, e2, _⟩ := (n2.out.grew g3).facts)
      | (go_at_call 18; (with_reducible refine (hal _ (hw.out.below z3.out)).mono ?_); rintro r w4 ⟨rfl, b4⟩))
    go_ret
    exact ⟨rfl, z3.out.trans (b4.mono z3.out.size)⟩
  | false =>
    rw [hq] at hp hri
    rw [if_neg (by decide)] at hp
    unfold VP at hp
    simp only [vv] at hp
    clear hq
    have he := fun W => eql_vec 0 0 0 0 0 0 W
    rw [decide_eq_true (show (0 : Int) = 0 ∧ (0 : Int) = 0 ∧ (0 : Int) = 0 from ⟨rfl, rfl, rfl⟩)] at he
    go_enter Tryd.func7, Tryd.ntmps7
    go_upto_region 1 with fail
    have v0 := VB.new w a b c _ rfl
    have g0 := fhid ((Grew.refl w).alloc (.cells #[.int .i64 a, .int .i64 b, .int .i64 c] 23))
    generalize w.alloc _ = w0 at *
    obtain ⟨c0, c1, c2, _⟩ := v0.facts
    replace v0 := fhid v0
    go_wp2_with (first
      | (go_at_call 27; (with_reducible refine (hf _ (hw.out.grew g0.out)).mono ?_); clear hf; rintro r w1 ⟨rfl, b1⟩
         have z1 := fhid (g0.out.below.trans (b1.mono g0.out.below.size)))
      | (go_at_call 25; (with_reducible refine (hp _ (hw.out.below z1.out)).mono ?_); clear hp; rintro r w2 ⟨rfl, b2⟩
         have z2 := fhid ((z1.out.trans (b2.mono z1.out.size)).trans (((Grew.refl w2).alloc (.cells #[.int .i64 0, .int .i64 0, .int .i64 0] 23)).below.mono (z1.out.trans (b2.mono z1.out.size)).size))
         have v2 := fhid (((v0.out.on b1).on b2).grew ((Grew.refl w2).alloc (.cells #[.int .i64 0, .int .i64 0, .int .i64 0] 23)))
         have n2 := fhid (VB.new w2 0 0 0 _ rfl)
         clear c0 c1 c2
         obtain ⟨c0, c1, c2, _⟩ := v2.out.facts)
      | (go_at_call 10; (with_reducible refine (hri _).mono ?_); clear hri; rintro r w3 ⟨rfl, g3⟩
         have z3 := fhid (z2.out.trans (g3.below.mono z2.out.size))
         clear c0 c1 c2
         obtain ⟨e0, e1, e2, _⟩ := (n2.out.grew g3).facts)
      | (go_at_call 18; (with_reducible refine (hal _ (hw.out.below z3.out)).mono ?_); rintro r w4 ⟨rfl, b4⟩))
    go_ret
    exact ⟨rfl, z3.out.trans (b4.mono z3.out.size)⟩
end Go.Proofs.YtkmknogejhhajaaDoor
