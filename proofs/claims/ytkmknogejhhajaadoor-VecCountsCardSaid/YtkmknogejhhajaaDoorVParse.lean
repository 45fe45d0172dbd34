/-
  Parse; what each statement asks beside: a text's vector, back and forth.
-/
import Derived.Test.YtkmknogejhhajaaDoorVRead
import Derived.Test.YtkmknogejhhajaaDoorVAdd
namespace Go.Proofs.YtkmknogejhhajaaDoor
open Go.RowKit

set_option maxRecDepth 100000 in
set_option maxHeartbeats 4000000 in
theorem Parse_any (s : ByteArray) (hs : s.size ≤ 140737488355328) (w : World) (hw : Env w) : Calls Tryd.prog 25 #[.string s] w (VP w (parseP (bl s))) := by
  obtain ⟨R, hR⟩ : ∃ R, parseP (bl s) = R := ⟨_, rfl⟩
  rw [hR]
  unfold parseP at hR
  have hrd := fun W (hW : Env W) => read_any s hs W hW
  have hrng : ∀ v, readP (bl s) = some v → I64 v.1 ∧ I64 v.2.1 ∧ I64 v.2.2 ∨ True := fun _ _ => .inr trivial
  unfold RP at hrd
  cases ho : readP (bl s) with
  | none =>
    rw [ho] at hR hrd
    simp only [readV] at hR hrd
    replace hR := fhid hR
    clear ho hrng
    replace hw := fhid hw
    go_enter Tryd.func25, Tryd.ntmps25
    go_upto_region 1 with fail
    have b2 := fhid (VB.new w 0 0 0 _ rfl)
    have g0 := (Grew.refl w).alloc (.cells #[.int .i64 0, .int .i64 0, .int .i64 0] 23)
    generalize w.alloc _ = w1 at *
    go_wp2_with (go_at_call 40; (with_reducible refine (hrd _ (hw.out.grew g0)).mono ?_); rintro r w3 ⟨rfl, b3⟩
                 have r5 := fhid ((b2.out.on b3).grew ((Grew.refl w3).alloc (.cells #[.int .i64 0, .int .i64 0, .int .i64 0] 23)))
                 obtain ⟨d0, d1, d2, ⟨u0, u1, u2⟩, yy⟩ := r5.out.facts)
    have zb := g0.below.trans (b3.mono g0.below.size)
    exact bodyPost_ret (v := .tuple #[vec 0 0 0, .int .i64 3]) (by simp [results, Tryd.results25, go_sem, d0, d1, d2]) rfl (VP.ret hR.out (set3 (zb.trans (((Grew.refl w3).alloc (.cells #[.int .i64 0, .int .i64 0, .int .i64 0] 23)).below.mono zb.size)) (by omega) _ _ _))
  | some v =>
    obtain ⟨a, b, c⟩ := v
    rw [ho] at hR hrd
    simp only [readV, vv] at hR hrd
    clear ho hrng
    have hri := fun W => Right_any a b c W
    have hri2 := @right_I64 (a, b, c)
    simp only at hri2
    replace hw := fhid hw
    cases hq : right a b c with
    | false =>
      rw [hq] at hR hri
      rw [if_neg (by simp)] at hR
      clear hq hri2
      replace hR := fhid hR
      go_enter Tryd.func25, Tryd.ntmps25
      go_upto_region 1 with fail
      have b2 := fhid (VB.new w 0 0 0 _ rfl)
      have g0 := (Grew.refl w).alloc (.cells #[.int .i64 0, .int .i64 0, .int .i64 0] 23)
      generalize w.alloc _ = w1 at *
      go_wp2_with (first
        | (go_at_call 40; (with_reducible refine (hrd _ (hw.out.grew g0)).mono ?_); rintro r w3 ⟨rfl, b3⟩
           have zb := fhid (g0.below.trans (b3.mono g0.below.size))
           have r4 := fhid ((b2.out.on b3).grew ((Grew.refl w3).alloc (.cells #[.int .i64 a, .int .i64 b, .int .i64 c] 23))))
        | (go_at_call 10; (with_reducible refine (hri _).mono ?_); rintro r w5 ⟨rfl, g5⟩
           have r5 := fhid (r4.out.grew g5)
           obtain ⟨d0, d1, d2, ⟨u0, u1, u2⟩, yy⟩ := r5.out.facts))
      exact bodyPost_ret (v := .tuple #[vec 0 0 0, .int .i64 3]) (by simp [results, Tryd.results25, go_sem, d0, d1, d2]) rfl (VP.ret hR.out (set3 (zb.out.trans ((((Grew.refl w3).alloc (.cells #[.int .i64 a, .int .i64 b, .int .i64 c] 23)).trans g5).below.mono zb.out.size)) (by omega) _ _ _))
    | true =>
      obtain ⟨i1, i2, i3⟩ := hri2 hq
      have hf := fun W (hW : Env W) => Format_any a b c W hW i1 i2 i3
      have hse := str_eq (str (fmt (a, b, c))) s
      rw [bl_str] at hse
      rw [hq] at hR hri
      clear hq hri2 i1 i2 i3
      by_cases hfs : fmt (a, b, c) = bl s
      · rw [decide_eq_true hfs] at hse
        rw [if_pos ⟨rfl, hfs⟩] at hR
        clear hfs
        generalize str (fmt (a, b, c)) = F at *
        replace hR := fhid hR
        go_enter Tryd.func25, Tryd.ntmps25
        go_upto_region 1 with fail
        have b2 := fhid (VB.new w 0 0 0 _ rfl)
        have g0 := (Grew.refl w).alloc (.cells #[.int .i64 0, .int .i64 0, .int .i64 0] 23)
        generalize w.alloc _ = w1 at *
        go_wp2_with (first
          | (go_at_call 40; (with_reducible refine (hrd _ (hw.out.grew g0)).mono ?_); rintro r w3 ⟨rfl, b3⟩
             have zb := fhid (g0.below.trans (b3.mono g0.below.size))
             have n4 := fhid (VB.new w3 a b c _ rfl)
             have r4 := fhid ((b2.out.on b3).grew ((Grew.refl w3).alloc (.cells #[.int .i64 a, .int .i64 b, .int .i64 c] 23))))
          | (go_at_call 10; (with_reducible refine (hri _).mono ?_); rintro r w5 ⟨rfl, g5⟩
             have z5 := fhid (zb.out.trans ((((Grew.refl w3).alloc (.cells #[.int .i64 a, .int .i64 b, .int .i64 c] 23)).trans g5).below.mono zb.out.size))
             have r5 := fhid (r4.out.grew g5)
             have n5 := fhid (n4.out.grew g5)
             obtain ⟨e0, e1, e2, _⟩ := n5.out.facts)
          | (go_at_call 27; (with_reducible refine (hf _ (hw.out.below z5.out)).mono ?_); rintro r w6 ⟨rfl, b6⟩
             have r6 := fhid (r5.out.on b6)
             clear e0 e1 e2
             obtain ⟨e0, e1, e2, _⟩ := (n5.out.on b6).facts
             obtain ⟨d0, d1, d2, ⟨u0, u1, u2⟩, yy⟩ := r6.out.facts))
        have z6 := z5.out.trans (b6.mono z5.out.size)
        exact bodyPost_ret (v := .tuple #[vec a b c, .int .i64 0]) (by simp [results, Tryd.results25, go_sem, d0, d1, d2]) rfl (VP.ret hR.out (set3 z6 (by omega) _ _ _))
      · rw [decide_eq_false hfs] at hse
        rw [if_neg (fun h => hfs h.2)] at hR
        clear hfs
        generalize str (fmt (a, b, c)) = F at *
        replace hR := fhid hR
        go_enter Tryd.func25, Tryd.ntmps25
        go_upto_region 1 with fail
        have b2 := fhid (VB.new w 0 0 0 _ rfl)
        have g0 := (Grew.refl w).alloc (.cells #[.int .i64 0, .int .i64 0, .int .i64 0] 23)
        generalize w.alloc _ = w1 at *
        go_wp2_with (first
          | (go_at_call 40; (with_reducible refine (hrd _ (hw.out.grew g0)).mono ?_); rintro r w3 ⟨rfl, b3⟩
             have zb := fhid (g0.below.trans (b3.mono g0.below.size))
             have n4 := fhid (VB.new w3 a b c _ rfl)
             have r4 := fhid ((b2.out.on b3).grew ((Grew.refl w3).alloc (.cells #[.int .i64 a, .int .i64 b, .int .i64 c] 23))))
          | (go_at_call 10; (with_reducible refine (hri _).mono ?_); rintro r w5 ⟨rfl, g5⟩
             have z5 := fhid (zb.out.trans ((((Grew.refl w3).alloc (.cells #[.int .i64 a, .int .i64 b, .int .i64 c] 23)).trans g5).below.mono zb.out.size))
             have r5 := fhid (r4.out.grew g5)
             have n5 := fhid (n4.out.grew g5)
             obtain ⟨e0, e1, e2, _⟩ := n5.out.facts)
          | (go_at_call 27; (with_reducible refine (hf _ (hw.out.below z5.out)).mono ?_); rintro r w6 ⟨rfl, b6⟩
             have r6 := fhid (r5.out.on b6)
             obtain ⟨d0, d1, d2, ⟨u0, u1, u2⟩, yy⟩ := r6.out.facts))
        have z6 := z5.out.trans (b6.mono z5.out.size)
        exact bodyPost_ret (v := .tuple #[vec 0 0 0, .int .i64 3]) (by simp [results, Tryd.results25, go_sem, d0, d1, d2]) rfl (VP.ret hR.out (set3 z6 (by omega) _ _ _))
end Go.Proofs.YtkmknogejhhajaaDoor
