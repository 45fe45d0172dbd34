/-
  Parts: KRDPart.
-/
import Derived.Test.YtmnmcikbbfcjcaaGreatDoorD4
set_option linter.unusedSimpArgs false
set_option linter.unusedVariables false
/-
  The document's reader of a line that tells a partition.
-/
namespace Go.Proofs.YtmnmcikbbfcjcaaGreatDoor
open Go.RowKit Go.Shelf Vs

def keysP3 : List Str := [kMax, kTime, kPrio]
theorem opts_p (os : List Str) : optsP partS os [] (untold partS) = (ro keysP3 os (negs 3)).map (orV partS) := opts_same partS (by decide) os
theorem orV_p (x y z : Int) : orV partS [x, y, z] = [orI x 256, orI y 1000000, orI z 0] := rfl
theorem partWrong_name {n : Str} {p : Nat → Bool} (h : isNameP n = true) (hp : hasOne p = true) (x y z : Int) : partWrong ⟨n, p, x, y, z⟩ = !rightV partS [x, y, z] := by
  unfold partWrong
  rw [h, hp]
  rfl
theorem find_there (ps : List PartC) (n : Str) : ∃ k : Nat, nodeV (place (ps.map (·.name)) n) = .tuple #[.int .i64 (k : Int), .bool (decide (n ∈ ps.map (·.name)))] := by
  by_cases h : n ∈ ps.map (·.name)
  · obtain ⟨k, hk⟩ := place_mem9 h
    rw [hk, decide_eq_true h]
    exact ⟨k, rfl⟩
  · rw [place_no (fun x hx e => h (by rw [← e]; exact hx)), decide_eq_false h]
    exact ⟨0, rfl⟩
theorem partP_none {c : Cfg} {n l : Str} {os : List Str} {r : List Int} (h1 : isNameP n = true) (h : optsP partS os [] (untold partS) = some r) (he : (Hs.expand l).2.1 ≠ 0) : partP c (n :: l :: os) = .error 3 := by
  have hs : (setOf c l).2 = 3 := by unfold setOf; rw [if_pos he]
  rw [partP_ok h1 h, hs]
  rfl
/-- Behind a call that answers a set and an error: where the set lies. -/
def SetAt (w : World) (x0 x1 x2 x3 : Int) (x s9 s10 : Value) (W : World) : Prop := NodesAt w x0 x1 x2 x3 s9 W ∧ s10 = x
theorem sa_new {w w1 : World} {x0 x1 x2 x3 : Int} {x : Value} (b1 : Below w.heap.size w w1) : SetAt w x0 x1 x2 x3 x (.pointer (some ⟨w1.heap.size, 0, none⟩)) x (w1.alloc (.cells #[.int .u64 x0, .int .u64 x1, .int .u64 x2, .int .u64 x3] TNodes)) := ⟨na_new b1, rfl⟩
theorem sa_set {w w1 : World} {x0 x1 x2 x3 : Int} {x : Value} (b1 : Below (w.alloc (.cells #[.int .u64 0, .int .u64 0, .int .u64 0, .int .u64 0] TNodes)).heap.size (w.alloc (.cells #[.int .u64 0, .int .u64 0, .int .u64 0, .int .u64 0] TNodes)) w1) :
    SetAt w x0 x1 x2 x3 x (.pointer (some ⟨w.heap.size, 0, none⟩)) x ((((w1.setCell ⟨w.heap.size, 0, none⟩ (.int .u64 x0)).setCell ⟨w.heap.size, 1, none⟩ (.int .u64 x1)).setCell ⟨w.heap.size, 2, none⟩ (.int .u64 x2)).setCell ⟨w.heap.size, 3, none⟩ (.int .u64 x3)) := ⟨na_set b1, rfl⟩
set_option maxRecDepth 100000 in
set_option maxHeartbeats 32000000 in
theorem rpart_any (B b : Nat) (c : Cfg) (vN vV vP vQ : Value) (A : Option Addr) (cap : Nat) (k0 : Str) (os : List Str) (w : World) (h : Doc B w b c vN vV vP vQ) (hg : GD c) (hA : Strs w w.heap.size A (k0 :: os)) (hL : ∀ x ∈ os, x.length ≤ 65536) (hne : ∀ x ∈ os, x ≠ []) (hws : os.length ≤ 1000000) (hcap : (k0 :: os).length ≤ cap) (hcm : cap ≤ 9223372036854775807) :
    Calls Tryz.prog 91 #[.pointer (some ⟨b, 0, none⟩), .slice A (k0 :: os).length cap] w (LineD B b (partP c os) w) := by
  have hBw : B ≤ w.heap.size := Nat.le_trans h.bb (Nat.le_of_lt h.lt)
  have hbad := fhid (fun k (W : World) (hs : partP c os = .error k) (hb : Below B w W) => lined_bad (b := b) hs hb)
  have hokk := fhid (fun c' (W : World) (hs : partP c os = .ok c') (hb : Below B w W) vN' vV' vP' vQ' (hr : Doc B W b c' vN' vV' vP' vQ') => lined_ok (b := b) hs hb hr)
  by_cases h2 : os.length < 2
  · have hE := fhid (partP_few (c := c) h2)
    have i1 : ((k0 :: os).length : Int) < 3 := by simp; omega
    generalize (k0 :: os).length = N at *
    generalize partP c os = R at *
    generalize LineD B b R w = P at *
    replace h := fhid h
    replace hg := fhid hg
    replace hne := fhid hne
    go_enter Tryz.func91, Tryz.ntmps91
    go_wp2_with fail
    exact hbad.out 3 _ hE.out (Below.refl _ _)
  · obtain ⟨n, l, os, rfl⟩ : ∃ n l os', os = n :: l :: os' := by
      match os, h2 with
      | [], h => simp at h
      | [_], h => simp at h
      | n :: l :: os, _ => exact ⟨_, _, _, rfl⟩
    obtain ⟨bb, oo, rfl, hbb, d1⟩ := Strs.at_ hA (k := 1) (by simp)
    obtain ⟨bb', oo', he, _, d2⟩ := Strs.at_ hA (k := 2) (by simp)
    injection he with he
    injection he with he1 he2
    subst he1
    subst he2
    simp only [List.getElem_cons_succ, List.getElem_cons_zero] at d1 d2
    have hnl := hL n (by simp)
    have hll := hL l (by simp)
    have hlne := hne l (by simp)
    have hos : ∀ x ∈ os, x.length ≤ 1000000 := fun x hx => Nat.le_trans (hL x (by simp [hx])) (by decide)
    have hdr0 := strs_drop hA (k := 3) (by simp) hcap
    rw [show (k0 :: n :: l :: os).drop 3 = os from rfl] at hdr0
    have hnm := fun W => rName_any (str n) W (wsz n hnl)
    simp only [bl_str] at hnm
    have hqn := @partP_name c n l os
    have hqo := @partP_opts c n l os
    have hqk := fun r => @partP_ok c n l os r
    have hqe := fun r => @partP_none c n l os r
    have hlen1 : (k0 :: n :: l :: os).length = os.length + 3 := rfl
    rw [hlen1] at hcap ⊢
    obtain ⟨AN, cN, AV, cV, AP, cP, AQ, cQ, a0, a1, a2, a3, a4, a5, a6, a7, rfl, rfl, rfl, rfl, ev, hbx, hcr⟩ := doc_cr h
    generalize partP c (n :: l :: os) = R at *
    generalize LineD B b R w = P at *
    have i0 : ¬ ((os.length : Int) + 3 < 3) := by omega
    have i00 : (0 : Int) < (os.length : Int) + 3 := by omega
    have i01 : (1 : Int) < (os.length : Int) + 3 := by omega
    have i02 : (2 : Int) < (os.length : Int) + 3 := by omega
    have i1 : (3 : Int) ≤ (os.length : Int) + 3 := by omega
    have i2 : ((os.length : Int) + 3) ≤ cap := by omega
    have i3 : (cap : Int) ≤ 9223372036854775807 := by omega
    have hbl := h.lt
    replace h := fhid h
    replace hg := fhid hg
    replace hA := fhid hA
    replace hL := fhid hL
    replace hne := fhid hne
    cases hn : isNameP n with
    | false =>
      have hE := fhid (hqn hn)
      rw [hn] at hnm
      generalize str n = NS at *
      replace hbx := fhid hbx
      replace hcr := fhid hcr
      clear hqn hqo hqk hqe hdr0 ev hlne
      go_enter Tryz.func91, Tryz.ntmps91
      go_wp2_with (go_at_call 100; (with_reducible refine (hnm _).mono ?_); rintro e w1 ⟨rfl, rfl⟩)
      exact hbad.out 3 _ hE.out (Below.refl _ _)
    | true =>
      rw [hn] at hnm
      have hqk2 := fun r => hqk r hn
      have hqe2 := fun r => hqe r hn
      have hqw := fun p hp => @partWrong_name n p hn hp
      clear hqn hqk hqe
      replace hn := fhid hn
      have hK := fun W => rd_new W [.string ⟨#[109, 97, 120]⟩, .string ⟨#[116, 105, 109, 101]⟩, .string ⟨#[112, 114, 105, 111]⟩] 3 rfl (by decide)
      obtain ⟨AD, cD, hAD, hrd⟩ : ∃ AD cD, ((cap = 3 ∧ os.length = 0 ∧ AD = some ⟨bb, oo, none⟩ ∧ cD = 0) ∨ (¬ cap = 3 ∧ AD = some ⟨bb, oo + 3, none⟩ ∧ cD = cap - 3)) ∧ RdS w AD os.length cD (SV os) := by
        unfold dropA at hdr0
        by_cases hc2 : cap = 3
        · rw [if_pos hc2] at hdr0
          exact ⟨_, _, .inl ⟨hc2, by omega, rfl, rfl⟩, by omega, by unfold maxLen; omega, hdr0⟩
        · rw [if_neg hc2] at hdr0
          exact ⟨_, _, .inr ⟨hc2, rfl, rfl⟩, by omega, by unfold maxLen; omega, hdr0⟩
      clear hdr0
      have hoq := opts_p os
      have hex := fun W => Hs.rexpand_ex (str l) W (by rw [str_size]; omega)
      rw [show Hs.bl (str l) = l from bl_str l] at hex
      unfold Hs.EPostX at hex
      have hexw : ∀ W, Calls Tryz.prog 117 #[.string (str l)] W fun e w' => ∃ (v : Value) (x y : Int), e = .returned (.tuple #[v, .agg #[.int .i64 x, .int .i64 y]]) ∧ ((Hs.expand l).2.1 = 0 → x = 0) ∧ ((Hs.expand l).2.1 ≠ 0 → x ≠ 0) ∧ Below W.heap.size W w' := fun W => (hex W).mono fun e w' h => by
        rcases h with ⟨h0, v, h1, h2, h3⟩ | ⟨h0, x, y, h1, h2, h3⟩
        · exact ⟨v, 0, 0, h1, fun _ => rfl, fun hh => absurd h0 hh, h3⟩
        · exact ⟨_, x, y, h2, fun hh => absurd hh h0, fun _ => h1, h3⟩
      clear hex
      cases hro : ro keysP3 os (negs 3) with
      | none =>
        rw [hro] at hoq
        have hE := fhid (hqo hoq)
        have hop := fun AK cK (W : World) (hb : Below w.heap.size w W) (hk : RdS W AK 3 cK (SV keysP3)) => options_no (ks := keysP3) (hrd.below hb) hk hos (by decide) hro
        rw [show keysP3.length = 3 from rfl] at hop
        clear hqo hqk2 hqe2 hqw hoq hro ev
        generalize (Hs.expand l).2.1 = f1 at *
        generalize str n = NS at *
        generalize str l = LS at *
        replace hbx := fhid hbx
        replace hcr := fhid hcr
        replace hrd := fhid hrd
        generalize hm : os.length = m at *
        replace hm := fhid hm
        rcases hAD with ⟨rfl, rfl, rfl, rfl⟩ | ⟨hc2, rfl, rfl⟩
        all_goals
          go_enter Tryz.func91, Tryz.ntmps91
          go_wp2_with (first
            | (go_at_call 100; (with_reducible refine (hnm _).mono ?_); rintro e w1 ⟨rfl, rfl⟩)
            | (go_at_call 119; (with_reducible refine (hop _ _ _ ((Below.refl _ _).alloc (Nat.le_refl _) _) (hK _)).mono ?_); rintro e w2 ⟨rfl, b2⟩
               have B2 := ((Below.refl w.heap.size w).alloc (Nat.le_refl _) _).trans (b2.mono (by simp))
               have e2 := (B2.cell (p := ⟨bb, oo + 2, none⟩) hbb).trans d2
               have hbb2 := Nat.lt_of_lt_of_le hbb B2.size)
            | (go_at_call 117; (with_reducible refine (hexw _).mono ?_); rintro e w3 ⟨v3, x3, y3, rfl, _, _, b3⟩))
          exact hbad.out 3 _ hE.out ((B2.trans ((b3.alloc b3.size _).mono B2.size)).mono hBw)
      | some vs =>
        rw [hro] at hoq
        have hR1 := fhid (hqk2 _ hoq)
        have hRe := fhid (hqe2 _ hoq)
        have hvl := ro_len _ _ _ _ hro
        obtain ⟨x, y, z, rfl⟩ : ∃ x y z, vs = [x, y, z] := by
          match vs, hvl with
          | [x, y, z], _ => exact ⟨x, y, z, rfl⟩
        have hop := fun AK cK (W : World) (hb : Below w.heap.size w W) (hk : RdS W AK 3 cK (SV keysP3)) => options_yes (ks := keysP3) (hrd.below hb) hk hos (by decide) (by decide) hro
        rw [show keysP3.length = 3 from rfl] at hop
        have hset := fun (W : World) (hb : Below w.heap.size w W) => rSet_any _ c (str l) W (hcr.below hb) hg.out.nl (by rw [str_size]; omega)
        rw [bl_str] at hset
        have hsf := @setOf_facts c l hlne
        obtain ⟨fk, hfk⟩ := find_there c.parts n
        have hfi := fun (W : World) (hb : Below w.heap.size w W) => rFind_any _ c n W (hcr.below hb)
        rw [hfk] at hfi
        have hor := fun (n o : Int) (W : World) => or_any n o W
        have hpl := hg.out.pl
        have hplI : (c.parts.length : Int) ≤ 16 := by omega
        rw [orV_p] at hR1
        generalize hSO : setOf c l = SO at *
        obtain ⟨sp, sk⟩ := SO
        simp only at hR1 hsf
        rw [show partOf n sp [orI x 256, orI y 1000000, orI z 0] = ⟨n, sp, orI x 256, orI y 1000000, orI z 0⟩ from rfl] at hR1
        have hpr := fun W => partRight_any ⟨n, sp, orI x 256, orI y 1000000, orI z 0⟩ W
        unfold partV at hpr
        simp only [PartC.vals] at hpr
        unfold setV at hset
        simp only [Bs.nodes] at hset
        have hqw2 := hqw sp
        generalize hTH : decide (n ∈ c.parts.map (·.name)) = TH at *
        generalize hRV : rightV partS [orI x 256, orI y 1000000, orI z 0] = RV at *
        have hor1 := fun W => hor x 256 W
        have hor2 := fun W => hor y 1000000 W
        have hor3 := fun W => hor z 0 W
        generalize hf1 : (Hs.expand l).2.1 = f1 at *
        generalize hox : orI x 256 = ox at *
        generalize hoy : orI y 1000000 = oy at *
        generalize hoz : orI z 0 = oz at *
        generalize hx0 : (Bs.word sp 0 : Int) = x0 at *
        generalize hx1 : (Bs.word sp 1 : Int) = x1 at *
        generalize hx2 : (Bs.word sp 2 : Int) = x2 at *
        generalize hx3 : (Bs.word sp 3 : Int) = x3 at *
        generalize hNS : str n = NS at *
        generalize str l = LS at *
        replace hNS := fhid hNS
        replace hTH := fhid hTH
        replace hRV := fhid hRV
        replace hox := fhid hox
        replace hoy := fhid hoy
        replace hoz := fhid hoz
        replace hx0 := fhid hx0
        replace hx1 := fhid hx1
        replace hx2 := fhid hx2
        replace hx3 := fhid hx3
        replace hf1 := fhid hf1
        replace hSO := fhid hSO
        replace hbx := fhid hbx
        replace hcr := fhid hcr
        replace hrd := fhid hrd
        replace ev := fhid ev
        replace hfk := fhid hfk
        replace hro := fhid hro
        replace hoq := fhid hoq
        replace hR1 := fhid hR1.out
        replace hsf := fhid hsf
        replace hqw2 := fhid hqw2
        generalize hm : os.length = m at *
        replace hm := fhid hm
        clear hqo hqk2 hqe2 hqw hor hvl
        go_enter Tryz.func91, Tryz.ntmps91
        go_upto_region 3 with (go_at_call 100; (with_reducible refine (hnm _).mono ?_); rintro e w1 ⟨rfl, rfl⟩)
        go_cut [5, 6] (fun s5 s6 wx => OptAt w 3 [x, y, z] s5 s6 wx)
        case first =>
          clear hset hpr hor1 hor2 hor3 hnm hfi hexw
          rcases hAD with ⟨rfl, rfl, rfl, rfl⟩ | ⟨hc2, rfl, rfl⟩
          all_goals
            go_wp2_with (go_at_call 119; (with_reducible refine (hop _ _ _ ((Below.refl _ _).alloc (Nat.le_refl _) _) (hK _)).mono ?_); rintro e w2 ⟨g, cg, rfl, hgl, hcs, b2⟩)
            go_meet
            exact ⟨g, cg, rfl, rfl, hgl, hcs, ((Below.refl w.heap.size w).alloc (Nat.le_refl _) _).trans (b2.mono (by simp))⟩
        case rest =>
          clear hop hK hAD hnm
          obtain ⟨g2, cg, rfl, rfl, hgl, hcs, B2⟩ := hcut
          obtain ⟨w2, rfl⟩ : ∃ w2 : World, w2 = wc := ⟨_, rfl⟩
          have e2 := (B2.cell (p := ⟨bb, oo + 2, none⟩) hbb).trans d2
          have hbb2 := Nat.lt_of_lt_of_le hbb B2.size
          by_cases hf : f1 = 0
          · have hexz : ∀ W, Calls Tryz.prog 117 #[.string LS] W fun e w' => ∃ (v : Value) (y : Int), e = .returned (.tuple #[v, .agg #[.int .i64 0, .int .i64 y]]) ∧ Below W.heap.size W w' := fun W => (hexw W).mono fun e w' h => by
              obtain ⟨v, x, y, h1, h2, _, h3⟩ := h
              have := h2 hf
              subst this
              exact ⟨v, y, h1, h3⟩
            clear hexw hRe
            replace hf := fhid hf
            go_upto_region 5 with (go_at_call 117; (with_reducible refine (hexz _).mono ?_); rintro e w3 ⟨v3, y3, rfl, b3⟩)
            have F4 := Box.new w3 77 [.int .i64 0, .int .i64 y3]
            have bF := (Below.refl w3.heap.size w3).alloc (Nat.le_refl _) (.cells #[.int .i64 0, .int .i64 y3] 77)
            have b24 := b3.trans (bF.mono b3.size)
            generalize w3.heap.size = gf at *
            generalize w3.alloc _ = w4 at *
            have f4 : w4.cell? ⟨gf, 0, none⟩ = some (.int .i64 0) := Box.cell F4 0
            have fl4 := Box.lt F4
            have B4 := B2.trans (b24.mono B2.size)
            have hb4 := Box.below hbx.out B4 hbl
            obtain ⟨c0, c1, c2, c3, c4, c5, c6, c7, c8, c9, c10, c11⟩ := Box.twelve hb4
            have bl4 := Box.lt hb4
            have e24 := (b24.cell (p := ⟨bb, oo + 2, none⟩) hbb2).trans e2
            have e14 := (B4.cell (p := ⟨bb, oo + 1, none⟩) hbb).trans d1
            have hbb4 := Nat.lt_of_lt_of_le hbb B4.size
            have g0 := (b24.cell (p := ⟨g2, 0, none⟩) hgl).trans (hcs 0 (by simp))
            have g1 := (b24.cell (p := ⟨g2, 1, none⟩) hgl).trans (hcs 1 (by simp))
            have g2' := (b24.cell (p := ⟨g2, 2, none⟩) hgl).trans (hcs 2 (by simp))
            simp only [List.getElem_cons_zero, List.getElem_cons_succ] at g0 g1 g2'
            have hgl4 := Nat.lt_of_lt_of_le hgl b24.size
            have hset4 := fun (W : World) (hb : Below w4.heap.size w4 W) => hset W (B4.trans (hb.mono B4.size))
            clear hset hcs d1 d2 e2 hbb2 hgl F4 bF b3 hexz
            replace hb4 := fhid hb4
            replace b24 := fhid b24
            replace B2 := fhid B2
            have B4h := fhid B4
            go_upto_region 7 with fail
            go_cut [9, 10] (fun s9 s10 wx => SetAt w4 x0 x1 x2 x3 (.int .i64 (sk : Int)) s9 s10 wx)
            case first =>
              clear B4
              go_region_law (go_simp; go_at_call 120; (with_reducible refine (hset4 _ (by first | exact (Below.refl _ _).drew | exact ((Below.refl _ _).alloc (Nat.le_refl _) _).drew | exact (Below.refl _ _).drew.alloc (Nat.le_refl _) _)).mono ?_); rintro e w5 ⟨rfl, b5⟩
                             (first
                               | (have bs : Below (w4.alloc (.cells #[.int .u64 0, .int .u64 0, .int .u64 0, .int .u64 0] TNodes)).heap.size (w4.alloc (.cells #[.int .u64 0, .int .u64 0, .int .u64 0, .int .u64 0] TNodes)) w5 := ⟨b5.os, b5.tape, b5.output, b5.size, b5.block⟩
                                  have kz : Box w5 w4.heap.size TNodes [.int .u64 0, .int .u64 0, .int .u64 0, .int .u64 0] := Box.below (Box.new w4 TNodes [.int .u64 0, .int .u64 0, .int .u64 0, .int .u64 0]) bs (by simp)
                                  obtain ⟨⟨y0, y1, y2, y3⟩, q0, q1, q2, q3⟩ := Box.four kz
                                  have kl := Box.lt kz)
                               | (have bn : Below w4.heap.size w4 w5 := ⟨b5.os, b5.tape, b5.output, b5.size, b5.block⟩)))
              all_goals
                go_wp2_with fail
                go_meet
                first
                  | (with_reducible exact sa_new bn)
                  | (with_reducible exact sa_set bs)
            case rest =>
              clear hset4 c0 c1 c2 c3 c4 c5 c6 c7 c8 c9 c10 c11 f4 fl4
              obtain ⟨⟨bn, rfl, N5, hbn, B5⟩, rfl⟩ := hcut
              obtain ⟨w5, rfl⟩ : ∃ w5 : World, w5 = wc := ⟨_, rfl⟩
              have BB5 := B4h.out.trans (B5.mono B4h.out.size)
              have hb5 := Box.below hb4.out B5 bl4
              obtain ⟨c0, c1, c2, c3, c4, c5, c6, c7, c8, c9, c10, c11⟩ := Box.twelve hb5
              have bl5 := Box.lt hb5
              have e15 := (B5.cell (p := ⟨bb, oo + 1, none⟩) hbb4).trans e14
              have hbb5 := Nat.lt_of_lt_of_le hbb4 B5.size
              have g05 := (B5.cell (p := ⟨g2, 0, none⟩) hgl4).trans g0
              have g15 := (B5.cell (p := ⟨g2, 1, none⟩) hgl4).trans g1
              have g25 := (B5.cell (p := ⟨g2, 2, none⟩) hgl4).trans g2'
              have hgl5 := Nat.lt_of_lt_of_le hgl4 B5.size
              have hfi5 := fun (W : World) (hb : Below w5.heap.size w5 W) => hfi W (BB5.trans (hb.mono BB5.size))
              clear hfi e24 e14 g0 g1 g2' hgl4 hbb4 B4 bl4
              replace hb5 := fhid hb5
              replace N5 := fhid N5
              replace B5 := fhid B5
              replace BB5 := fhid BB5
              by_cases hsk : sk = 0
              · have hR2 := fhid (hR1.out.trans (if_neg (by rw [hsk]; simp)))
                obtain ⟨hone, _⟩ := hsf.out hsk
                have hqw3 := fhid (hqw2.out hone ox oy oz)
                subst hsk
                replace hone := fhid hone
                go_upto_region 10 with fail
                go_cut [12] (fun s12 wx => Told w5 (.bool TH) s12 wx)
                case first =>
                  go_region_law (go_simp; go_at_call 99; (with_reducible refine (hfi5 _ (by exact (Below.refl _ _).drew)).mono ?_); rintro e w6 ⟨rfl, b6⟩; have bn6 : Below w5.heap.size w5 w6 := ⟨b6.os, b6.tape, b6.output, b6.size, b6.block⟩)
                  all_goals
                    go_wp2_with fail
                    go_meet
                    exact ⟨rfl, bn6⟩
                case rest =>
                  clear hfi5 c0 c1 c2 c3 c4 c5 c6 c7 c8 c9 c10 c11
                  obtain ⟨rfl, B6⟩ := hcut
                  obtain ⟨w6, rfl⟩ : ∃ w6 : World, w6 = wc := ⟨_, rfl⟩
                  have BB6 := fhid (BB5.out.trans (B6.mono BB5.out.size))
                  have hb6 := Box.below hb5.out B6 bl5
                  have c26 : w6.cell? ⟨b, 2, none⟩ = some (.slice AP c.parts.length cP) := Box.cell hb6 2
                  have bl6 := Box.lt hb6
                  have e16 := (B6.cell (p := ⟨bb, oo + 1, none⟩) hbb5).trans e15
                  have hbb6 := Nat.lt_of_lt_of_le hbb5 B6.size
                  have g06 := (B6.cell (p := ⟨g2, 0, none⟩) hgl5).trans g05
                  have g16 := (B6.cell (p := ⟨g2, 1, none⟩) hgl5).trans g15
                  have g26 := (B6.cell (p := ⟨g2, 2, none⟩) hgl5).trans g25
                  have hgl6 := Nat.lt_of_lt_of_le hgl5 B6.size
                  have N6 := Box.below N5.out B6 (Box.lt N5.out)
                  obtain ⟨⟨n0, n1, n2, n3⟩, -, -, -, -⟩ := Box.four N6
                  have nl6 := Box.lt N6
                  have D6 := fhid (h.out.below BB6.out)
                  clear e15 g05 g15 g25 hgl5 hbb5 bl5
                  replace hb6 := fhid hb6
                  replace N6 := fhid N6
                  replace B6 := fhid B6
                  cases TH with
                  | true =>
                    have hE := fhid (hR2.out.trans (if_pos (by simpa using hTH.out)))
                    clear hor1 hor2 hor3 hpr
                    go_wp2_with fail
                    exact hbad.out 7 _ hE.out (BB6.out.mono hBw)
                  | false =>
                    have hR3 := fhid (hR2.out.trans (if_neg (by simpa using hTH.out)))
                    by_cases h16 : 16 < c.parts.length + 1
                    · have hE := fhid (hR3.out.trans (if_pos h16))
                      have j1 : (c.parts.length : Int) ≥ 16 := by omega
                      clear hor1 hor2 hor3 hpr
                      go_wp2_with fail
                      exact hbad.out 5 _ hE.out (BB6.out.mono hBw)
                    · have hR4 := fhid (hR3.out.trans (if_neg h16))
                      have j1 : ¬ (c.parts.length : Int) ≥ 16 := by omega
                      have j2 : ¬ (16 : Int) ≤ (c.parts.length : Int) := by omega
                      go_upto_region 15 with fail
                      go_cut [13] (fun s13 wx => RecAt TDPart w6 [.string NS, .int .u64 x0, .int .u64 x1, .int .u64 x2, .int .u64 x3, .int .i64 ox, .int .i64 oy, .int .i64 oz] s13 wx)
                      case first =>
                        have zS : ∀ W, Below w6.heap.size w6 W → (W.cell? ⟨bb, oo + 1, none⟩ = some (.string NS) ∧ W.cell? ⟨g2, 0, none⟩ = some (.int .i64 x) ∧ W.cell? ⟨g2, 1, none⟩ = some (.int .i64 y) ∧ W.cell? ⟨g2, 2, none⟩ = some (.int .i64 z) ∧ W.cell? ⟨bn, 0, none⟩ = some (.int .u64 x0) ∧ W.cell? ⟨bn, 1, none⟩ = some (.int .u64 x1) ∧ W.cell? ⟨bn, 2, none⟩ = some (.int .u64 x2) ∧ W.cell? ⟨bn, 3, none⟩ = some (.int .u64 x3)) := fun W bo =>
                          ⟨(bo.cell (p := ⟨bb, oo + 1, none⟩) hbb6).trans e16, (bo.cell (p := ⟨g2, 0, none⟩) hgl6).trans g06, (bo.cell (p := ⟨g2, 1, none⟩) hgl6).trans g16, (bo.cell (p := ⟨g2, 2, none⟩) hgl6).trans g26, (bo.cell (p := ⟨bn, 0, none⟩) nl6).trans n0, (bo.cell (p := ⟨bn, 1, none⟩) nl6).trans n1, (bo.cell (p := ⟨bn, 2, none⟩) nl6).trans n2, (bo.cell (p := ⟨bn, 3, none⟩) nl6).trans n3⟩
                        have zD := zS w6.drew (Below.refl _ _).drew
                        have zA : ∀ o : Obj, _ := fun o => zS (w6.alloc o) ((Below.refl _ _).alloc (Nat.le_refl _) o)
                        clear zS hpr
                        go_region_held3 (fun w' => w'.cell? ⟨bb, oo + 1, none⟩ = some (.string NS) ∧ w'.cell? ⟨g2, 0, none⟩ = some (.int .i64 x) ∧ w'.cell? ⟨g2, 1, none⟩ = some (.int .i64 y) ∧ w'.cell? ⟨g2, 2, none⟩ = some (.int .i64 z) ∧ w'.cell? ⟨bn, 0, none⟩ = some (.int .u64 x0) ∧ w'.cell? ⟨bn, 1, none⟩ = some (.int .u64 x1) ∧ w'.cell? ⟨bn, 2, none⟩ = some (.int .u64 x2) ∧ w'.cell? ⟨bn, 3, none⟩ = some (.int .u64 x3)) (first | exact zD | exact zA _ | fail)
                          (first
                          | (go_at_call 121; (with_reducible refine (hor1 _).mono ?_); rintro e w7 ⟨rfl, rfl⟩)
                          | (go_at_call 121; (with_reducible refine (hor2 _).mono ?_); rintro e w7 ⟨rfl, rfl⟩)
                          | (go_at_call 121; (with_reducible refine (hor3 _).mono ?_); rintro e w7 ⟨rfl, rfl⟩))
                        all_goals
                          go_wp2_with fail
                          go_meet
                          exact ⟨w6.heap.size, rfl, Box.new w6 TDPart [.string NS, .int .u64 x0, .int .u64 x1, .int .u64 x2, .int .u64 x3, .int .i64 ox, .int .i64 oy, .int .i64 oz], Nat.le_refl _, ((Below.refl _ _).alloc (Nat.le_refl _) _).drew⟩
                      case rest =>
                        clear hor1 hor2 hor3 e16 g06 g16 g26 hgl6 hbb6 c26 bl6 n0 n1 n2 n3 nl6
                        obtain ⟨bq, rfl, Q7, hbq, B7⟩ := hcut
                        obtain ⟨w7, rfl⟩ : ∃ w7 : World, w7 = wc := ⟨_, rfl⟩
                        have BB7 := fhid (BB6.out.trans (B7.mono BB6.out.size))
                        have D7 := fhid (D6.out.below B7)
                        have hbB : B ≤ b := D7.out.bb
                        obtain ⟨⟨s0, -⟩, ⟨s1, -⟩, ⟨s2, -⟩, ⟨s3, -⟩, ⟨s4, -⟩, ⟨s5, -⟩, ⟨s6, -⟩, ⟨s7, -⟩, ql⟩ := Box.eight Q7
                        replace Q7 := fhid Q7
                        replace B7 := fhid B7
                        cases RV with
                        | false =>
                          have hE := fhid (hR4.out.trans (if_pos (by rw [hqw3.out, hRV.out]; rfl)))
                          go_wp2_with (go_at_call 101; (with_reducible refine (hpr _).mono ?_); rintro e w8 ⟨rfl, b8⟩)
                          exact hbad.out 12 _ hE.out ((BB7.out.trans (b8.mono BB7.out.size)).mono hBw)
                        | true =>
                          have hE := fhid (hR4.out.trans (if_neg (by rw [hqw3.out, hRV.out]; decide)))
                          go_upto_region 18 with (go_at_call 101; (with_reducible refine (hpr _).mono ?_); rintro e w8 ⟨rfl, b8⟩)
                          have D8 := D7.out.below b8
                          have x8 := Box.below Q7.out b8 ql
                          have BB8 := BB7.out.trans (b8.mono BB7.out.size)
                          have hB8 : B ≤ w8.heap.size := Nat.le_trans hBw BB8.size
                          clear s0 s1 s2 s3 s4 s5 s6 s7
                          obtain ⟨⟨s0, -⟩, ⟨s1, -⟩, ⟨s2, -⟩, ⟨s3, -⟩, ⟨s4, -⟩, ⟨s5, -⟩, ⟨s6, -⟩, ⟨s7, -⟩, ql8⟩ := Box.eight x8
                          have z3 : w8.cell? ⟨b, 2, none⟩ = some (.slice AP c.parts.length cP) := D8.fields.1.2.2.1
                          have bl8 := D8.lt
                          obtain ⟨AP', cP', w9, hap, hO9, hg9⟩ := app_rpart (W := (w8.alloc (.cells #[.string NS, .int .u64 x0, .int .u64 x1, .int .u64 x2, .int .u64 x3, .int .i64 ox, .int .i64 oy, .int .i64 oz] TDPart)).drew) (q := ⟨n, sp, ox, oy, oz⟩) (D8.pt.alloc _) (by omega) (Nat.le_trans hB8 (by simp)) w8.heap.size (by
                            unfold partV
                            rw [hNS.out, hx0.out, hx1.out, hx2.out, hx3.out]
                            exact Box.new w8 TDPart [.string NS, .int .u64 x0, .int .u64 x1, .int .u64 x2, .int .u64 x3, .int .i64 ox, .int .i64 oy, .int .i64 oz]) TDParts
                          have D9 : DG B ((w8.alloc (.cells #[.string NS, .int .u64 x0, .int .u64 x1, .int .u64 x2, .int .u64 x3, .int .i64 ox, .int .i64 oy, .int .i64 oz] TDPart)).drew) b c.names c.vecs c.parts c.qos c.vals (.slice AN c.names.length cN) (.slice AV c.vecs.length cV) (.slice AP c.parts.length cP) (.slice AQ c.qos.length cQ) := D8.below ((Below.refl _ _).alloc (Nat.le_refl _) _).drew
                          have x9 := Box.grown D9.box hg9 (own_tag D9.pt D9.box (by decide))
                          have z9 : w9.cell? ⟨b, 2, none⟩ = some (.slice AP c.parts.length cP) := Box.cell x9 2
                          have y9 : w9.frozen? ⟨b, 2, none⟩ = false := Box.free x9 2
                          have bl9' := Box.lt x9
                          have D10 := fhid (D9.rowP hg9 hO9)
                          have hs9 : B ≤ ((w8.alloc (.cells #[.string NS, .int .u64 x0, .int .u64 x1, .int .u64 x2, .int .u64 x3, .int .i64 ox, .int .i64 oy, .int .i64 oz] TDPart)).drew).heap.size := Nat.le_trans hB8 (by simp)
                          have B9 : Below B w w9 := ((BB8.mono hBw).trans ((Below.refl B w8).alloc hB8 (.cells #[.string NS, .int .u64 x0, .int .u64 x1, .int .u64 x2, .int .u64 x3, .int .i64 ox, .int .i64 oy, .int .i64 oz] TDPart)).drew).grown hg9 hs9 (fun k hk => ownsRow_ge D9.pt k hk)
                          clear hg9 hO9
                          replace B9 := fhid B9
                          replace D9 := fhid D9
                          replace D8 := fhid D8
                          replace x9 := fhid x9
                          replace x8 := fhid x8
                          replace hap := fhid hap
                          go_region_law (refine step_app TDParts rfl (.tmp 99) (.tmp 101) rfl (.slice AP c.parts.length cP) (.slice (some ⟨w8.heap.size, 0, none⟩) 1 1) (by simp [Act.eval]) (by simp [Act.eval]) (.slice AP' (c.parts.length + 1) cP') w9 hap.out ?_)
                          all_goals
                            go_wp2_with fail
                            exact hokk.out _ _ hE.out (B9.out.setCell (p := ⟨b, 2, none⟩) hbB _) _ _ _ _ D10.out
              · have hE := fhid (hR1.out.trans (if_pos hsk))
                have j1 : ((sk : Int) != 0) = true := by simp; omega
                have j2 : ¬ (sk : Int) = 0 := by omega
                clear hfi5 hor1 hor2 hor3 hpr hR1
                go_wp2_with fail
                exact hbad.out sk _ hE.out (BB5.out.mono hBw)
          · have hE := fhid (hRe.out hf)
            have hexn : ∀ W, Calls Tryz.prog 117 #[.string LS] W fun e w' => ∃ (v : Value) (x y : Int), x ≠ 0 ∧ e = .returned (.tuple #[v, .agg #[.int .i64 x, .int .i64 y]]) ∧ Below W.heap.size W w' := fun W => (hexw W).mono fun e w' h => by
              obtain ⟨v, x, y, h1, _, h2, h3⟩ := h
              exact ⟨v, x, y, h2 hf, h1, h3⟩
            clear hexw hset hpr hor1 hor2 hor3 hfi hcs
            replace hf := fhid hf
            go_upto_region 5 with (go_at_call 117; (with_reducible refine (hexn _).mono ?_); rintro e w3 ⟨v3, x3', y3, hx3n, rfl, b3⟩)
            have F4 := Box.new w3 77 [.int .i64 x3', .int .i64 y3]
            have bF := (Below.refl w3.heap.size w3).alloc (Nat.le_refl _) (.cells #[.int .i64 x3', .int .i64 y3] 77)
            have b24 := b3.trans (bF.mono b3.size)
            generalize w3.heap.size = gf at *
            generalize w3.alloc _ = w4 at *
            have f4 : w4.cell? ⟨gf, 0, none⟩ = some (.int .i64 x3') := Box.cell F4 0
            have fl4 := Box.lt F4
            have B4 := B2.trans (b24.mono B2.size)
            have j1 : (x3' != 0) = true := by simpa using hx3n
            have j2 : ¬ x3' = 0 := hx3n
            clear F4 bF b3 b24 hx3n
            go_wp2_with fail
            exact hbad.out 3 _ hE.out (B4.mono hBw)
end Go.Proofs.YtmnmcikbbfcjcaaGreatDoor
