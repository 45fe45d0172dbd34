/-
  Add, walked.
-/
import Derived.Test.YtkmknogejhhajaaDoorVSum
namespace Go.Proofs.YtkmknogejhhajaaDoor
open Go.RowKit

set_option maxRecDepth 100000 in
set_option maxHeartbeats 4000000 in
theorem Add_any (A : Option Addr) (l : List V3) (cap : Nat) (w : World) (h : SegV w w.heap.size A l) (hl : l.length ≤ 9223372036854775807) :
    Calls Tryd.prog 19 #[.slice A l.length cap] w (VP w (addV l)) := by
  obtain ⟨R, hR⟩ : ∃ R, addV l = R := ⟨_, rfl⟩
  rw [hR]
  unfold addV at hR
  have hall := fun (W : World) (hW : Below w.heap.size w W) => allRight_any A l cap W ((h.below hW).more hW.size) hl
  replace h := fhid h
  cases hq : allR l with
  | false =>
    rw [hq] at hall hR
    rw [if_neg (by simp)] at hR
    replace hR := fhid hR
    go_enter Tryd.func19, Tryd.ntmps19
    go_upto_region 1 with fail
    have b2 := fhid (VB.new w 0 0 0 _ rfl)
    have g0 := (Grew.refl w).alloc (.cells #[.int .i64 0, .int .i64 0, .int .i64 0] 23)
    generalize w.alloc _ = w1 at *
    go_wp2_with (go_at_call 32; (with_reducible refine (hall _ g0.below).mono ?_); rintro r w3 ⟨rfl, g3⟩
                 have r5 := fhid (b2.out.grew g3)
                 obtain ⟨d0, d1, d2, ⟨u0, u1, u2⟩, yy⟩ := r5.out.facts)
    exact bodyPost_ret (v := .tuple #[vec 0 0 0, .int .i64 1]) (by simp [results, Tryd.results19, go_sem, d0, d1, d2]) rfl (VP.ret hR.out (set3 (g0.trans g3).below (by omega) _ _ _))
  | true =>
    have hget := fhid (allR_get hq)
    rw [hq] at hall hR
    rw [if_pos rfl] at hR
    replace hR := fhid hR
    clear hq
    go_enter Tryd.func19, Tryd.ntmps19
    go_upto_region 1 with fail
    have b2 := fhid (VB.new w 0 0 0 _ rfl)
    have g0 := (Grew.refl w).alloc (.cells #[.int .i64 0, .int .i64 0, .int .i64 0] 23)
    generalize w.alloc _ = w1 at *
    go_upto_region 3 with (go_at_call 32; (with_reducible refine (hall _ g0.below).mono ?_); rintro r w3 ⟨rfl, g3⟩)
    have r4 := b2.out.grew (g3.trans ((Grew.refl _).alloc (.cells #[.int .i64 0, .int .i64 0, .int .i64 0] 23)))
    have s4 := VB.new w3 0 0 0 _ rfl
    have g4 := (g0.trans g3).alloc (.cells #[.int .i64 0, .int .i64 0, .int .i64 0] 23)
    have hne : w.heap.size < w3.heap.size := by have := b2.out.grew g3; exact lt_of_block this
    clear b2 hall g0 g3
    go_upto_region 4 with fail
    generalize hB : w3.heap.size = B at *
    generalize w3.alloc _ = w4 at *
    replace r4 := fhid r4
    replace s4 := fhid s4
    replace hne := fhid hne
    clear hB
    go_wp2
    go_loopw [15] (fun i wr => ∃ k : Nat, k ≤ l.length ∧ i = .int .i64 (k : Int) ∧ ∃ x y z : Int, addGo (x, y, z) (l.drop k) = R ∧ right x y z = true ∧ VB wr w.heap.size 0 0 0 ∧ VB wr B x y z ∧ Below w.heap.size w wr) (fun i _ => l.length - (intOf i).toNat)
    case atStart => exact ⟨0, Nat.zero_le _, rfl, 0, 0, 0, hR.out, by decide, r4.out, s4.out, g4.below⟩
    case round =>
      obtain ⟨k, hk, rfl, x, y, z, hE, hxr, r6, s6, hb⟩ := hrel
      clear r4 s4 g4 w1
      have i2 : (l.length : Int) ≤ 9223372036854775807 := by omega
      replace r6 := fhid r6
      have s7 := fhid s6
      obtain ⟨e0, e1, e2, ⟨t0, t1, t2⟩, yB⟩ := s6.facts
      by_cases hlt : k < l.length
      · have i1 : (k : Int) < l.length := by omega
        obtain ⟨b, o, rfl, hbb, hc⟩ := h.out.below hb (by omega)
        obtain ⟨c0, c1, c2⟩ := hc k hlt
        have hd := addGo_drop (x, y, z) l k hlt
        have hcomb := fun W => combAdd x y z l[k].1 l[k].2.1 l[k].2.2 W hxr (hget.out k hlt)
        simp only at hd
        rw [hE] at hd
        generalize l[k].1 = p at *
        generalize l[k].2.1 = q at *
        generalize l[k].2.2 = r at *
        clear hc hE hxr
        rcases okV_cases (x + p) (y + q) (z + r) with ⟨ho, hr⟩ | ⟨ho, hr⟩
        · rw [ho] at hcomb
          rw [if_pos hr] at hd
          replace hd := fhid hd
          replace hr := fhid hr
          unfold VP at hcomb
          simp only [vv] at hcomb
          clear ho
          go_wp2_with (go_at_call 35; (with_reducible refine (hcomb _).mono ?_); rintro r1 w5 ⟨rfl, b5⟩
                       have a5 := fhid (((Grew.refl wr).alloc (.cells #[.int .i64 p, .int .i64 q, .int .i64 r] 23)).below.trans (b5.mono (by simp)))
                       have r7 := fhid (r6.out.on a5.out)
                       have s8 := fhid (s7.out.on a5.out)
                       clear e0 e1 e2 t0 t1 t2 yB
                       obtain ⟨e0, e1, e2, ⟨t0, t1, t2⟩, yB⟩ := s8.out.facts)
          go_roundw
          case rel =>
            have hne1 := hne.out
            have nw := fun W : World => (Grew.refl W).alloc (.cells #[.int .i64 (x + p), .int .i64 (y + q), .int .i64 (z + r)] 23)
            have bb := set3 (hb.trans (a5.out.mono hb.size)) (b := B) (by omega) (.int .i64 (x + p)) (.int .i64 (y + q)) (.int .i64 (z + r))
            exact ⟨k + 1, hlt, by go_num, x + p, y + q, z + r, hd.out.symm, hr.out, (r7.out.other (by omega) _ _ _).grew (nw _), (s8.out.put _ _ _).grew (nw _), bb.trans ((nw _).below.mono bb.size)⟩
          case measure => simp [intOf]; omega
        · rw [ho] at hcomb
          rw [if_neg (by rw [hr]; decide)] at hd
          replace hd := fhid hd
          unfold VP at hcomb
          simp only [vv] at hcomb
          clear ho hr
          go_wp2_with (go_at_call 35; (with_reducible refine (hcomb _).mono ?_); rintro r1 w5 ⟨rfl, b5⟩
                       have a5 := fhid (((Grew.refl wr).alloc (.cells #[.int .i64 p, .int .i64 q, .int .i64 r] 23)).below.trans (b5.mono (by simp)))
                       have r7 := fhid ((r6.out.on a5.out).grew ((Grew.refl w5).alloc (.cells #[.int .i64 0, .int .i64 0, .int .i64 0] 23)))
                       clear e0 e1 e2 t0 t1 t2 yB
                       obtain ⟨d0, d1, d2, ⟨u0, u1, u2⟩, yy⟩ := r7.out.facts)
          exact bodyPost_ret (v := .tuple #[vec 0 0 0, .int .i64 5]) (by simp [results, Tryd.results19, go_sem, d0, d1, d2]) rfl (VP.ret hd.out.symm (set3 (hb.trans ((a5.out.trans (((Grew.refl w5).alloc (.cells #[.int .i64 0, .int .i64 0, .int .i64 0] 23)).below.mono a5.out.size)).mono hb.size)) (by omega) _ _ _))
      · have i1 : ¬ (k : Int) < l.length := by omega
        obtain rfl : k = l.length := by omega
        rw [List.drop_length] at hE
        have hd := fhid (show ((x, y, z), 0) = R from hE)
        obtain ⟨d0, d1, d2, ⟨u0, u1, u2⟩, yy⟩ := r6.out.facts
        clear hE
        go_wp2
        exact bodyPost_ret (v := .tuple #[vec x y z, .int .i64 0]) (by simp [results, Tryd.results19, go_sem, d0, d1, d2]) rfl (VP.ret hd.out (set3 hb (by omega) _ _ _))
end Go.Proofs.YtkmknogejhhajaaDoor
