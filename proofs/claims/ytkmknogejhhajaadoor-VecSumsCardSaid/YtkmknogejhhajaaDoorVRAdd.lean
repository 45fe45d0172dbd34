/-
  The document's Add.
-/
import Derived.Test.YtkmknogejhhajaaDoorVInto3
namespace Go.Proofs.YtkmknogejhhajaaDoor
open Go.RowKit

set_option maxRecDepth 100000 in
set_option maxHeartbeats 4000000 in
theorem rAdd_any (A : Option Addr) (l : List V3) (cap : Nat) (w : World) (h : SegV w w.heap.size A l) (hl : l.length ≤ 9223372036854775807) :
    Calls Tryd.prog 20 #[.slice A l.length cap] w (VP w (addV l)) := by
  obtain ⟨R, hR⟩ : ∃ R, addV l = R := ⟨_, rfl⟩
  rw [hR]
  unfold addV at hR
  have hE1 := fhid (show (if allR (l.drop 0) = true then addGo (0, 0, 0) l else ((0, 0, 0), 1)) = R by rw [List.drop_zero]; exact hR)
  clear hR
  have i2 : (l.length : Int) ≤ 9223372036854775807 := by omega
  replace h := fhid h
  go_enter Tryd.func20, Tryd.ntmps20
  go_upto_region 1 with fail
  have b2 := fhid (VB.new w 0 0 0 _ rfl)
  have g0 := (Grew.refl w).alloc (.cells #[.int .i64 0, .int .i64 0, .int .i64 0] 23)
  generalize w.alloc _ = w1 at *
  go_wp2
  go_loopw [4] (fun i wr => ∃ k : Nat, k ≤ l.length ∧ i = .int .i64 (k : Int) ∧ (if allR (l.drop k) = true then addGo (0, 0, 0) l else ((0, 0, 0), 1)) = R ∧ (∀ j (hj : j < l.length), j < k → right l[j].1 l[j].2.1 l[j].2.2 = true) ∧ VB wr w.heap.size 0 0 0 ∧ Grew w wr) (fun i _ => l.length - (intOf i).toNat)
  case atStart => exact ⟨0, Nat.zero_le _, rfl, hE1.out, fun j _ hj => absurd hj (Nat.not_lt_zero _), b2.out, g0⟩
  case round =>
    obtain ⟨k, hk, rfl, hE, hall, r6, hg⟩ := hrel
    clear b2 g0 hE1 w1
    replace r6 := fhid r6
    replace hall := fhid hall
    by_cases hlt : k < l.length
    · have i1 : (k : Int) < l.length := by omega
      obtain ⟨b, o, rfl, hbb, hc⟩ := h.out.below hg.below (by omega)
      obtain ⟨c0, c1, c2⟩ := hc k hlt
      have hd := allR_drop l k hlt
      have hr := fun W => rRight_any l[k].1 l[k].2.1 l[k].2.2 W
      have hkr := fhid (show right l[k].1 l[k].2.1 l[k].2.2 = right l[k].1 l[k].2.1 l[k].2.2 from rfl)
      rw [hd] at hE
      have hcons := fhid (show right l[k].1 l[k].2.1 l[k].2.2 = true → ∀ j (hj : j < l.length), j < k + 1 → right l[j].1 l[j].2.1 l[j].2.2 = true from fun h0 j hj hlt => by
        by_cases e : j = k
        · subst e; exact h0
        · exact hall.out j hj (by omega))
      generalize hX : right l[k].1 l[k].2.1 l[k].2.2 = X at hr hE hcons
      clear hX hkr
      generalize l[k].1 = p at *
      generalize l[k].2.1 = q at *
      generalize l[k].2.2 = r at *
      clear hc hd
      cases X with
      | true =>
        rw [Bool.true_and] at hE
        replace hE := fhid hE
        go_wp2_with (go_at_call 11; (with_reducible refine (hr _).mono ?_); rintro e w3 ⟨rfl, g3⟩)
        go_roundw
        case rel => exact ⟨k + 1, hlt, by go_num, hE.out, hcons.out trivial, r6.out.grew g3, hg.trans g3⟩
        case measure => simp [intOf]; omega
      | false =>
        rw [Bool.false_and, if_neg (by decide)] at hE
        replace hE := fhid hE
        go_wp2_with (go_at_call 11; (with_reducible refine (hr _).mono ?_); rintro e w3 ⟨rfl, g3⟩
                     have r7 := fhid (r6.out.grew g3)
                     obtain ⟨d0, d1, d2, ⟨u0, u1, u2⟩, yy⟩ := r7.out.facts)
        exact bodyPost_ret (v := .tuple #[vec 0 0 0, .int .i64 1]) (by simp [results, Tryd.results20, go_sem, d0, d1, d2]) rfl (VP.ret hE.out (set3 (hg.trans g3).below (by omega) _ _ _))
    · have i1 : ¬ (k : Int) < l.length := by omega
      obtain rfl : k = l.length := by omega
      rw [List.drop_length, if_pos (by rfl)] at hE
      replace hE := fhid hE
      have hget := fhid (show allR l = true from List.all_eq_true.2 fun v hv => by
        obtain ⟨j, hj, rfl⟩ := List.getElem_of_mem hv
        exact hall.out j hj hj)
      go_upto_region 7 with fail
      have r8 := fhid (r6.out.grew ((Grew.refl wr).alloc (.cells #[.int .i64 0, .int .i64 0, .int .i64 0] 23)))
      have s8 := fhid (VB.new wr 0 0 0 _ rfl)
      have g8 := hg.alloc (.cells #[.int .i64 0, .int .i64 0, .int .i64 0] 23)
      have hne := fhid (show w.heap.size < wr.heap.size from lt_of_block r6.out)
      clear r6 hg hall
      generalize hB : wr.heap.size = B at *
      generalize wr.alloc _ = w4 at *
      clear hB
      go_wp2
      go_loopw [6] (fun i wr => ∃ k : Nat, k ≤ l.length ∧ i = .int .i64 (k : Int) ∧ ∃ x y z : Int, addGo (x, y, z) (l.drop k) = R ∧ right x y z = true ∧ VB wr w.heap.size 0 0 0 ∧ VB wr B x y z ∧ Below w.heap.size w wr) (fun i _ => l.length - (intOf i).toNat)
      case atStart => exact ⟨0, Nat.zero_le _, rfl, 0, 0, 0, hE.out, by decide, r8.out, s8.out, g8.below⟩
      case round =>
        obtain ⟨k, hk, rfl, x, y, z, hE, hxr, r6, s6, hb⟩ := hrel
        clear r8 s8 g8 w4
        replace r6 := fhid r6
        have s7 := fhid s6
        obtain ⟨e0, e1, e2, ⟨t0, t1, t2⟩, yB⟩ := s6.facts
        by_cases hlt : k < l.length
        · have i1 : (k : Int) < l.length := by omega
          obtain ⟨b, o, rfl, hbb, hc⟩ := h.out.below hb (by omega)
          obtain ⟨c0, c1, c2⟩ := hc k hlt
          have hd := addGo_drop (x, y, z) l k hlt
          obtain ⟨⟨x0, x1⟩, ⟨y0, y1⟩, z0, z1⟩ := right_iff.1 hxr
          obtain ⟨⟨p0, p1⟩, ⟨q0, q1⟩, r0, r1⟩ := right_iff.1 (allR_get hget.out k hlt)
          simp only at hd
          rw [hE] at hd
          generalize l[k].1 = p at *
          generalize l[k].2.1 = q at *
          generalize l[k].2.2 = r at *
          have hr := fun W => rRight_any (x + p) (y + q) (z + r) W
          replace hbb := fhid hbb
          clear hc hE hxr
          have u1 : IntKind.i64.wrap (x + p) = x + p := IntWalk.i64_in _ (by omega)
          have u2 : IntKind.i64.wrap (y + q) = y + q := IntWalk.i64_in _ (by omega)
          have u3 : IntKind.i64.wrap (z + r) = z + r := IntWalk.i64_in _ (by omega)
          go_upto_region 10 with fail
          refine wp_region_still_tail 25 (by kernel_rfl) (by kernel_rfl) ?_
          simp only [List.take_succ_cons, List.take_zero, List.drop_succ_cons, List.drop_zero]
          iterate 25 still_step
          refine wpStill_nil ?_
          change wpList _ _ _ _ _ wr.drew
          replace s7 := fhid (show VB wr.drew B x y z from s7.out)
          replace r6 := fhid (show VB wr.drew w.heap.size 0 0 0 from r6.out)
          replace hb := below_drewN hb 1
          have hb' : Below w.heap.size w wr.drew := hb
          clear hb
          clear c0 c1 c2 e0 e1 e2 t0 t1 t2 yB
          generalize wr.drew = w5 at *
          obtain ⟨e0, e1, e2, ⟨t0, t1, t2⟩, yB⟩ := s7.out.facts
          have hne1 := hne.out
          have st1 := fhid (s7.out.put (x + p) (y + q) (z + r))
          have st2 := fhid (r6.out.other (c := B) (by omega) (.int .i64 (x + p)) (.int .i64 (y + q)) (.int .i64 (z + r)))
          have st3 := fhid (set3 hb' (b := B) (by omega) (.int .i64 (x + p)) (.int .i64 (y + q)) (.int .i64 (z + r)))
          clear hb' x0 x1 y0 y1 z0 z1 p0 p1 q0 q1 r0 r1 u1 u2 u3
          generalize hX : right (x + p) (y + q) (z + r) = X at *
          replace hX := fhid hX
          go_upto_region 11 with fail
          generalize ((World.setCell _ _ _).setCell _ _).setCell _ _ = w6 at *
          clear e0 e1 e2 t0 t1 t2 yB
          obtain ⟨e0, e1, e2, ⟨t0, t1, t2⟩, yB⟩ := st1.out.facts
          cases X with
          | true =>
            rw [if_pos (by rfl)] at hd
            replace hd := fhid hd
            go_wp2_with (go_at_call 11; (with_reducible refine (hr _).mono ?_); rintro e w7 ⟨rfl, g7⟩)
            go_roundw
            case rel => exact ⟨k + 1, hlt, by go_num, x + p, y + q, z + r, hd.out.symm, hX.out, st2.out.grew g7, st1.out.grew g7, st3.out.trans (g7.below.mono st3.out.size)⟩
            case measure => simp [intOf]; omega
          | false =>
            rw [if_neg (by decide)] at hd
            replace hd := fhid hd
            go_wp2_with (go_at_call 11; (with_reducible refine (hr _).mono ?_); rintro e w7 ⟨rfl, g7⟩
                         have r7 := fhid (st2.out.grew g7)
                         obtain ⟨d0, d1, d2, ⟨u0, u1, u2⟩, yy⟩ := r7.out.facts)
            exact bodyPost_ret (v := .tuple #[vec 0 0 0, .int .i64 5]) (by simp [results, Tryd.results20, go_sem, d0, d1, d2]) rfl (VP.ret hd.out.symm (set3 (st3.out.trans (g7.below.mono st3.out.size)) (by omega) _ _ _))
        · have i1 : ¬ (k : Int) < l.length := by omega
          obtain rfl : k = l.length := by omega
          rw [List.drop_length] at hE
          have hd := fhid (show ((x, y, z), 0) = R from hE)
          obtain ⟨d0, d1, d2, ⟨u0, u1, u2⟩, yy⟩ := r6.out.facts
          clear hE
          go_wp2
          exact bodyPost_ret (v := .tuple #[vec x y z, .int .i64 0]) (by simp [results, Tryd.results20, go_sem, d0, d1, d2]) rfl (VP.ret hd.out (set3 hb (by omega) _ _ _))
end Go.Proofs.YtkmknogejhhajaaDoor
