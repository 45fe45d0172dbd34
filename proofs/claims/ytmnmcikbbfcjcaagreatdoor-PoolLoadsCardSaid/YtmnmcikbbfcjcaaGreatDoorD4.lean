/-
  Parts: KRDQos.
-/
import Derived.Test.YtmnmcikbbfcjcaaGreatDoorD2
set_option linter.unusedSimpArgs false
set_option linter.unusedVariables false
/-
  The document's reader of a line that tells a quality.
-/
namespace Go.Proofs.YtmnmcikbbfcjcaaGreatDoor
open Go.RowKit Go.Shelf Vs

theorem ro_len (ks : List Str) : ∀ (l : List Str) (vs r : List Int), ro ks l vs = some r → r.length = vs.length
  | [], vs, r, h => by rw [ro_nil] at h; injection h with h; rw [h]
  | x :: l, vs, r, h => by
    cases hs : roStep ks vs x with
    | none => rw [ro_none hs] at h; cases h
    | some v2 =>
      rw [ro_some hs] at h
      rw [ro_len ks l v2 r h]
      unfold roStep at hs
      split at hs
      · split at hs
        · injection hs with hs; rw [← hs, List.length_set]
        · cases hs
      · cases hs
theorem options_no {AL : Option Addr} {cL : Nat} {l : List Str} {AK : Option Addr} {cK : Nat} {ks : List Str} {w : World} (hl : RdS w AL l.length cL (SV l)) (hk : RdS w AK ks.length cK (SV ks)) (hL : ∀ x ∈ l, x.length ≤ 1000000) (hks : ks.length ≤ 100) (hR : ro ks l (negs ks.length) = none) :
    Calls Tryz.prog 119 #[.slice AL l.length cL, .slice AK ks.length cK] w fun e w' => e = .returned (.tuple #[.slice none 0 0, .bool false]) ∧ Below w.heap.size w w' := by
  refine (options_any AL cL l AK cK ks w hl hk hL hks).mono fun e w' h => ?_
  rw [hR] at h
  rcases h with ⟨_, h1, h2⟩ | ⟨_, _, h1, _⟩
  · exact ⟨h1, h2⟩
  · cases h1
theorem options_yes {AL : Option Addr} {cL : Nat} {l : List Str} {AK : Option Addr} {cK : Nat} {ks : List Str} {w : World} {vs : List Int} (hl : RdS w AL l.length cL (SV l)) (hk : RdS w AK ks.length cK (SV ks)) (hL : ∀ x ∈ l, x.length ≤ 1000000) (hks : ks.length ≤ 100) (h0 : 0 < ks.length) (hR : ro ks l (negs ks.length) = some vs) :
    Calls Tryz.prog 119 #[.slice AL l.length cL, .slice AK ks.length cK] w fun e w' => ∃ g c, e = .returned (.tuple #[.slice (some ⟨g, 0, none⟩) ks.length c, .bool true]) ∧ g < w'.heap.size ∧ (∀ i (h : i < vs.length), w'.cell? ⟨g, i, none⟩ = some (.int .i64 vs[i])) ∧ Below w.heap.size w w' := by
  refine (options_any AL cL l AK cK ks w hl hk hL hks).mono fun e w' h => ?_
  have hlen := ro_len _ _ _ _ hR
  rw [show (negs ks.length).length = ks.length by simp [negs]] at hlen
  rw [hR] at h
  rcases h with ⟨h1, _⟩ | ⟨vs', v, h1, rfl, ho, hb⟩
  · cases h1
  · injection h1 with h1
    subst h1
    unfold OwnZ at ho
    obtain ⟨A, c, rfl, _⟩ := ownsRow_shape ho
    obtain ⟨g, rfl⟩ : ∃ g, A = some ⟨g, 0, none⟩ := by
      rcases ho.2 with ⟨_, e⟩ | ⟨g', cap', cur, h', _⟩
      · omega
      · injection h' with h1 _ _
        exact ⟨g', h1⟩
    refine ⟨g, c, by rw [hlen], (ho.lt g rfl).2, fun i hi => ?_, hb⟩
    rw [ho.cellAt i (by omega)]
    simp [iv, hi]
def keysQ : List Str := [kPrio, kMax]
theorem opts_q (os : List Str) : optsP qosS os [] (untold qosS) = (ro keysQ os (negs 2)).map (orV qosS) := opts_same qosS (by decide) os
theorem rd_new (W : World) (cs : List Value) (n : Nat) (h : cs.length = n) (hn : n ≤ 1000000) : RdS (W.alloc (.cells cs.toArray 9)) (some ⟨W.heap.size, 0, none⟩) n n cs :=
  ⟨Nat.le_refl _, by unfold maxLen; omega, fun _ => ⟨W.heap.size, 0, rfl, by simp, fun j hj => by rw [Nat.zero_add, Box.cell (Box.new W 9 cs)]; exact List.getElem?_eq_getElem hj⟩⟩
/-- Behind a call that answers something and a bool: the bool. -/
def Told (w : World) (x : Value) (s : Value) (W : World) : Prop := s = x ∧ Below w.heap.size w W
theorem told_new {w w1 : World} {x : Value} {o : Obj} (b1 : Below w.heap.size w w1) : Told w x x (w1.alloc o) := ⟨rfl, b1.alloc b1.size _⟩
theorem told_set3 {w w1 : World} {x v0 v1 v2 : Value} {o : Obj} (b1 : Below (w.alloc o).heap.size (w.alloc o) w1) : Told w x x (((w1.setCell ⟨w.heap.size, 0, none⟩ v0).setCell ⟨w.heap.size, 1, none⟩ v1).setCell ⟨w.heap.size, 2, none⟩ v2) :=
  ⟨rfl, below3 (((Below.refl w.heap.size w).alloc (Nat.le_refl _) o).trans (b1.mono (by simp))) (Nat.le_refl _)⟩
theorem qual_there {qs : List QosC} {n : Str} (hn : n ≠ []) : ∃ q, qualP qs n = (q, decide (n ∈ qs.map (·.name))) := by
  unfold qualP
  rw [if_neg hn]
  by_cases h : n ∈ qs.map (·.name)
  · obtain ⟨k, hk⟩ := place_mem9 h
    rw [hk, decide_eq_true h]
    exact ⟨_, rfl⟩
  · rw [place_no (fun x hx e => h (by rw [← e]; exact hx)), decide_eq_false h]
    exact ⟨_, rfl⟩
theorem name_ne {n : Str} (h : isNameP n = true) : n ≠ [] := by
  intro e
  subst e
  cases h
theorem qosWrong_name {n : Str} (h : isNameP n = true) (x y : Int) : qosWrong ⟨n, x, y⟩ = !rightV qosS [x, y] := by
  unfold qosWrong
  rw [h]
  rfl
/-- Behind the options' reader: where their numbers lie. -/
def OptAt (w : World) (n : Nat) (vs : List Int) (s5 s6 : Value) (W : World) : Prop := ∃ g c, s5 = .slice (some ⟨g, 0, none⟩) n c ∧ s6 = .bool true ∧ g < W.heap.size ∧ (∀ i (h : i < vs.length), W.cell? ⟨g, i, none⟩ = some (.int .i64 vs[i])) ∧ Below w.heap.size w W
/-- Where a new record lies. -/
def RecAt (T : TypeId) (w : World) (cs : List Value) (s : Value) (W : World) : Prop := ∃ bp, s = .pointer (some ⟨bp, 0, none⟩) ∧ Box W bp T cs ∧ w.heap.size ≤ bp ∧ Below w.heap.size w W
theorem rec_new {T : TypeId} {w w1 : World} {cs : List Value} (b1 : Below w.heap.size w w1) : RecAt T w cs (.pointer (some ⟨w1.heap.size, 0, none⟩)) (w1.alloc (.cells cs.toArray T)) :=
  ⟨_, rfl, Box.new w1 T cs, b1.size, b1.alloc b1.size _⟩
theorem rec_set3 {T : TypeId} {w w0 w1 : World} {z0 z1 z2 s y0 y1 : Value} (h0 : Below w.heap.size w w0) (b1 : Below (w0.alloc (.cells #[z0, z1, z2] T)).heap.size (w0.alloc (.cells #[z0, z1, z2] T)) w1) :
    RecAt T w [s, y0, y1] (.pointer (some ⟨w0.heap.size, 0, none⟩)) (((w1.setCell ⟨w0.heap.size, 0, none⟩ s).setCell ⟨w0.heap.size, 1, none⟩ y0).setCell ⟨w0.heap.size, 2, none⟩ y1) := by
  have kz : Box w1 w0.heap.size T [z0, z1, z2] := Box.below (Box.new w0 T [z0, z1, z2]) b1 (by simp)
  have hb : Below w.heap.size w w1 := (h0.alloc h0.size _).trans (b1.mono (by have := h0.size; simp; omega))
  exact ⟨_, rfl, ((kz.set 0 _).set 1 _).set 2 _, h0.size, below3 hb h0.size⟩
theorem orV_q (x y : Int) : orV qosS [x, y] = [orI x 0, orI y 1024] := rfl
set_option maxRecDepth 100000 in
set_option maxHeartbeats 16000000 in
theorem rqos_any (B b : Nat) (c : Cfg) (vN vV vP vQ : Value) (A : Option Addr) (cap : Nat) (k0 : Str) (os : List Str) (w : World) (h : Doc B w b c vN vV vP vQ) (hg : GD c) (hA : Strs w w.heap.size A (k0 :: os)) (hL : ∀ x ∈ os, x.length ≤ 65536) (hws : os.length ≤ 1000000) (hcap : (k0 :: os).length ≤ cap) (hcm : cap ≤ 9223372036854775807) :
    Calls Tryz.prog 92 #[.pointer (some ⟨b, 0, none⟩), .slice A (k0 :: os).length cap] w (LineD B b (qosP c os) w) := by
  have hBw : B ≤ w.heap.size := Nat.le_trans h.bb (Nat.le_of_lt h.lt)
  have hbad := fhid (fun k (W : World) (hs : qosP c os = .error k) (hb : Below B w W) => lined_bad (b := b) hs hb)
  have hokk := fhid (fun c' (W : World) (hs : qosP c os = .ok c') (hb : Below B w W) vN' vV' vP' vQ' (hr : Doc B W b c' vN' vV' vP' vQ') => lined_ok (b := b) hs hb hr)
  cases os with
  | nil =>
    have hE := fhid (qosP_nil (c := c))
    generalize qosP c [] = R at *
    generalize LineD B b R w = P at *
    replace h := fhid h
    replace hg := fhid hg
    rw [show ([k0] : List Str).length = 1 from rfl] at *
    go_enter Tryz.func92, Tryz.ntmps92
    go_wp2_with fail
    exact hbad.out 3 _ hE.out (Below.refl _ _)
  | cons n os =>
    obtain ⟨bb, oo, rfl, hbb, d1⟩ := Strs.at_ hA (k := 1) (by simp)
    simp only [List.getElem_cons_succ, List.getElem_cons_zero] at d1
    have hnl := hL n (by simp)
    have hos : ∀ x ∈ os, x.length ≤ 1000000 := fun x hx => Nat.le_trans (hL x (by simp [hx])) (by decide)
    have hdr0 := strs_drop hA (k := 2) (by simp) hcap
    rw [show (k0 :: n :: os).drop 2 = os from rfl] at hdr0
    have hnm := fun W => rName_any (str n) W (wsz n hnl)
    simp only [bl_str] at hnm
    have hqn := @qosP_name c n os
    have hqo := @qosP_opts c n os
    have hqk := fun r => @qosP_ok c n os r
    have hlen1 : (k0 :: n :: os).length = os.length + 2 := rfl
    rw [hlen1] at hcap ⊢
    obtain ⟨AN, cN, AV, cV, AP, cP, AQ, cQ, a0, a1, a2, a3, a4, a5, a6, a7, rfl, rfl, rfl, rfl, ev, hbx, hcr⟩ := doc_cr h
    generalize qosP c (n :: os) = R at *
    generalize LineD B b R w = P at *
    have i0 : ¬ ((os.length : Int) + 2 < 2) := by omega
    have i00 : (0 : Int) < (os.length : Int) + 2 := by omega
    have i01 : (1 : Int) < (os.length : Int) + 2 := by omega
    have i1 : (2 : Int) ≤ (os.length : Int) + 2 := by omega
    have i2 : ((os.length : Int) + 2) ≤ cap := by omega
    have i3 : (cap : Int) ≤ 9223372036854775807 := by omega
    have hbl := h.lt
    replace h := fhid h
    replace hg := fhid hg
    replace hA := fhid hA
    replace hL := fhid hL
    cases hn : isNameP n with
    | false =>
      have hE := fhid (hqn hn)
      rw [hn] at hnm
      generalize str n = NS at *
      replace hbx := fhid hbx
      replace hcr := fhid hcr
      clear hqn hqo hqk hdr0 ev
      go_enter Tryz.func92, Tryz.ntmps92
      go_wp2_with (go_at_call 100; (with_reducible refine (hnm _).mono ?_); rintro e w1 ⟨rfl, rfl⟩)
      exact hbad.out 3 _ hE.out (Below.refl _ _)
    | true =>
      rw [hn] at hnm
      have hqk2 := fun r => hqk r hn
      have hqw := qosWrong_name hn
      have hne := name_ne hn
      clear hqn hqk
      replace hn := fhid hn
      have hK := fun W => rd_new W [.string ⟨#[112, 114, 105, 111]⟩, .string ⟨#[109, 97, 120]⟩] 2 rfl (by decide)
      obtain ⟨AD, cD, hAD, hrd⟩ : ∃ AD cD, ((cap = 2 ∧ os.length = 0 ∧ AD = some ⟨bb, oo, none⟩ ∧ cD = 0) ∨ (¬ cap = 2 ∧ AD = some ⟨bb, oo + 2, none⟩ ∧ cD = cap - 2)) ∧ RdS w AD os.length cD (SV os) := by
        unfold dropA at hdr0
        by_cases hc2 : cap = 2
        · rw [if_pos hc2] at hdr0
          exact ⟨_, _, .inl ⟨hc2, by omega, rfl, rfl⟩, by omega, by unfold maxLen; omega, hdr0⟩
        · rw [if_neg hc2] at hdr0
          exact ⟨_, _, .inr ⟨hc2, rfl, rfl⟩, by omega, by unfold maxLen; omega, hdr0⟩
      clear hdr0
      have hoq := opts_q os
      cases hro : ro keysQ os (negs 2) with
      | none =>
        rw [hro] at hoq
        have hE := fhid (hqo hoq)
        have hop := fun AK cK (W : World) (hb : Below w.heap.size w W) (hk : RdS W AK 2 cK (SV keysQ)) => options_no (ks := keysQ) (hrd.below hb) hk hos (by decide) hro
        rw [show keysQ.length = 2 from rfl] at hop
        clear hqo hqk2 hqw hoq hro ev hne
        generalize str n = NS at *
        replace hbx := fhid hbx
        replace hcr := fhid hcr
        replace hrd := fhid hrd
        generalize hm : os.length = m at *
        replace hm := fhid hm
        rcases hAD with ⟨rfl, rfl, rfl, rfl⟩ | ⟨hc2, rfl, rfl⟩
        all_goals
          go_enter Tryz.func92, Tryz.ntmps92
          go_wp2_with (first
            | (go_at_call 100; (with_reducible refine (hnm _).mono ?_); rintro e w1 ⟨rfl, rfl⟩)
            | (go_at_call 119; (with_reducible refine (hop _ _ _ ((Below.refl _ _).alloc (Nat.le_refl _) _) (hK _)).mono ?_); rintro e w2 ⟨rfl, b2⟩))
          exact hbad.out 3 _ hE.out ((((Below.refl w.heap.size w).alloc (Nat.le_refl _) _).trans (b2.mono (by simp))).mono hBw)
      | some vs =>
        rw [hro] at hoq
        have hR1 := fhid (hqk2 _ hoq)
        have hvl := ro_len _ _ _ _ hro
        obtain ⟨x, y, rfl⟩ : ∃ x y, vs = [x, y] := by
          match vs, hvl with
          | [x, y], _ => exact ⟨x, y, rfl⟩
        have hop := fun AK cK (W : World) (hb : Below w.heap.size w W) (hk : RdS W AK 2 cK (SV keysQ)) => options_yes (ks := keysQ) (hrd.below hb) hk hos (by decide) (by decide) hro
        rw [show keysQ.length = 2 from rfl] at hop
        obtain ⟨q, hq⟩ := qual_there (qs := c.qos) hne
        have hqu := fun (W : World) (hb : Below w.heap.size w W) => rQuality_any _ c n W (hcr.below hb)
        rw [hq] at hqu
        unfold qualV qosV at hqu
        simp only at hqu
        rw [orV_q, show qosOf n [orI x 0, orI y 1024] = ⟨n, orI x 0, orI y 1024⟩ from rfl, hqw] at hR1
        have hor := fun (n o : Int) (W : World) => or_any n o W
        have hqr := fun W => qosRight_any ⟨n, orI x 0, orI y 1024⟩ W
        unfold qosV at hqr
        simp only [QosC.vals] at hqr
        have hql := hg.out.ql
        have hqlI : (c.qos.length : Int) ≤ 16 := by omega
        generalize hTH : decide (n ∈ c.qos.map (·.name)) = TH at *
        generalize hRV : rightV qosS [orI x 0, orI y 1024] = RV at *
        generalize hox : orI x 0 = ox at *
        generalize hoy : orI y 1024 = oy at *
        have hor1 := fun W => hor x 0 W
        have hor2 := fun W => hor y 1024 W
        rw [hox] at hor1
        rw [hoy] at hor2
        generalize str q.name = qn0 at *
        generalize q.prio = qp0 at *
        generalize q.max = qm0 at *
        generalize hNS : str n = NS at *
        replace hNS := fhid hNS
        replace hTH := fhid hTH
        replace hRV := fhid hRV
        replace hox := fhid hox
        replace hoy := fhid hoy
        replace hbx := fhid hbx
        replace hcr := fhid hcr
        replace hrd := fhid hrd
        replace ev := fhid ev
        replace hq := fhid hq
        replace hne := fhid hne
        replace hro := fhid hro
        replace hoq := fhid hoq
        generalize hm : os.length = m at *
        replace hm := fhid hm
        clear hqo hqk2 hqw hor hvl
        go_enter Tryz.func92, Tryz.ntmps92
        go_upto_region 3 with (go_at_call 100; (with_reducible refine (hnm _).mono ?_); rintro e w1 ⟨rfl, rfl⟩)
        go_cut [5, 6] (fun s5 s6 wx => OptAt w 2 [x, y] s5 s6 wx)
        case first =>
          clear hqu hqr hor1 hor2 hnm
          rcases hAD with ⟨rfl, rfl, rfl, rfl⟩ | ⟨hc2, rfl, rfl⟩
          all_goals
            go_wp2_with (go_at_call 119; (with_reducible refine (hop _ _ _ ((Below.refl _ _).alloc (Nat.le_refl _) _) (hK _)).mono ?_); rintro e w2 ⟨g, cg, rfl, hgl, hcs, b2⟩)
            go_meet
            exact ⟨g, cg, rfl, rfl, hgl, hcs, ((Below.refl w.heap.size w).alloc (Nat.le_refl _) _).trans (b2.mono (by simp))⟩
        case rest =>
          clear hop hK hAD hnm
          obtain ⟨g2, cg, rfl, rfl, hgl, hcs, B2⟩ := hcut
          obtain ⟨w2, rfl⟩ : ∃ w2 : World, w2 = wc := ⟨_, rfl⟩
          have D2 := fhid (h.out.below B2)
          have hb2 := Box.below hbx.out B2 hbl
          obtain ⟨c0, c1, c2, c3, c4, c5, c6, c7, c8, c9, c10, c11⟩ := Box.twelve hb2
          have bl2 := Box.lt hb2
          have e1 := (B2.cell (p := ⟨bb, oo + 1, none⟩) hbb).trans d1
          have hbb2 := Nat.lt_of_lt_of_le hbb B2.size
          have g0 := hcs 0 (by simp)
          have g1 := hcs 1 (by simp)
          simp only [List.getElem_cons_zero, List.getElem_cons_succ] at g0 g1
          have hqu2 := fun (W : World) (hb : Below w2.heap.size w2 W) => hqu W (B2.trans (hb.mono B2.size))
          clear hqu hcs d1
          replace hb2 := fhid hb2
          replace B2 := fhid B2
          go_upto_region 6 with fail
          go_cut [8] (fun s8 wx => Told w2 (.bool TH) s8 wx)
          case first =>
            go_region_law (go_simp; go_at_call 103; (with_reducible refine (hqu2 _ (by first | exact (Below.refl _ _).drew | exact ((Below.refl _ _).alloc (Nat.le_refl _) _).drew | exact (Below.refl _ _).drew.alloc (Nat.le_refl _) _)).mono ?_); rintro e w3 ⟨rfl, b3⟩
                           (first
                             | (have bs : Below (w2.alloc (.cells #[.string ⟨#[]⟩, .int .i64 0, .int .i64 0] TDQos)).heap.size (w2.alloc (.cells #[.string ⟨#[]⟩, .int .i64 0, .int .i64 0] TDQos)) w3 := ⟨b3.os, b3.tape, b3.output, b3.size, b3.block⟩
                                have kz : Box w3 w2.heap.size TDQos [.string ⟨#[]⟩, .int .i64 0, .int .i64 0] := Box.below (Box.new w2 TDQos [.string ⟨#[]⟩, .int .i64 0, .int .i64 0]) bs (by simp)
                                have kl := Box.lt kz
                                obtain ⟨y0, y1, y2⟩ : w3.cell? ⟨w2.heap.size, 0, none⟩ = some (.string ⟨#[]⟩) ∧ w3.cell? ⟨w2.heap.size, 1, none⟩ = some (.int .i64 0) ∧ w3.cell? ⟨w2.heap.size, 2, none⟩ = some (.int .i64 0) := ⟨Box.cell kz 0, Box.cell kz 1, Box.cell kz 2⟩
                                have kf := Box.free kz)
                             | (have bn : Below w2.heap.size w2 w3 := ⟨b3.os, b3.tape, b3.output, b3.size, b3.block⟩)))
            all_goals
              go_wp2_with fail
              go_meet
              first
                | (with_reducible exact told_new bn)
                | (with_reducible exact told_set3 bs)
          case rest =>
            clear hqu2 c0 c1 c2 c3 c4 c5 c6 c7 c8 c9 c10 c11
            obtain ⟨rfl, B3⟩ := hcut
            obtain ⟨w3, rfl⟩ : ∃ w3 : World, w3 = wc := ⟨_, rfl⟩
            have BB3 := fhid (B2.out.trans (B3.mono B2.out.size))
            have hb3 := Box.below hb2.out B3 bl2
            have c3 : w3.cell? ⟨b, 3, none⟩ = some (.slice AQ c.qos.length cQ) := Box.cell hb3 3
            have bl3 := Box.lt hb3
            have e1' := (B3.cell (p := ⟨bb, oo + 1, none⟩) hbb2).trans e1
            have hbb3 := Nat.lt_of_lt_of_le hbb2 B3.size
            have g0' := (B3.cell (p := ⟨g2, 0, none⟩) hgl).trans g0
            have g1' := (B3.cell (p := ⟨g2, 1, none⟩) hgl).trans g1
            have hgl3 := Nat.lt_of_lt_of_le hgl B3.size
            have D3 := fhid (D2.out.below B3)
            clear e1 g0 g1 hgl hbb2 D2 bl2
            replace hb3 := fhid hb3
            replace B3 := fhid B3
            cases TH with
            | true =>
              have hE := fhid (hR1.out.trans (if_pos (by simpa using hTH.out)))
              clear hor1 hor2 hqr
              go_wp2_with fail
              exact hbad.out 7 _ hE.out (BB3.out.mono hBw)
            | false =>
              have hR2 := fhid (hR1.out.trans (if_neg (by simpa using hTH.out)))
              by_cases h16 : 16 < c.qos.length + 1
              · have hE := fhid (hR2.out.trans (if_pos h16))
                have j1 : (c.qos.length : Int) ≥ 16 := by omega
                clear hor1 hor2 hqr
                go_wp2_with fail
                exact hbad.out 5 _ hE.out (BB3.out.mono hBw)
              · have hR3 := fhid (hR2.out.trans (if_neg h16))
                have j1 : ¬ (c.qos.length : Int) ≥ 16 := by omega
                have j2 : ¬ (16 : Int) ≤ (c.qos.length : Int) := by omega
                go_upto_region 11 with fail
                go_cut [9] (fun s9 wx => RecAt TDQos w3 [.string NS, .int .i64 ox, .int .i64 oy] s9 wx)
                case first =>
                  have z : w3.drew.cell? ⟨bb, oo + 1, none⟩ = some (.string NS) ∧ w3.drew.cell? ⟨g2, 0, none⟩ = some (.int .i64 x) ∧ w3.drew.cell? ⟨g2, 1, none⟩ = some (.int .i64 y) := ⟨e1', g0', g1'⟩
                  have zA : ∀ o : Obj, (w3.alloc o).cell? ⟨bb, oo + 1, none⟩ = some (.string NS) ∧ (w3.alloc o).cell? ⟨g2, 0, none⟩ = some (.int .i64 x) ∧ (w3.alloc o).cell? ⟨g2, 1, none⟩ = some (.int .i64 y) := fun o => by
                    have bo : Below w3.heap.size w3 (w3.alloc o) := (Below.refl _ _).alloc (Nat.le_refl _) o
                    exact ⟨(bo.cell (p := ⟨bb, oo + 1, none⟩) hbb3).trans e1', (bo.cell (p := ⟨g2, 0, none⟩) hgl3).trans g0', (bo.cell (p := ⟨g2, 1, none⟩) hgl3).trans g1'⟩
                  go_region_held3 (fun w' => w'.cell? ⟨bb, oo + 1, none⟩ = some (.string NS) ∧ w'.cell? ⟨g2, 0, none⟩ = some (.int .i64 x) ∧ w'.cell? ⟨g2, 1, none⟩ = some (.int .i64 y)) (first | exact z | exact zA _ | fail)
                    (first
                    | (go_at_call 121; (with_reducible refine (hor1 _).mono ?_); rintro e w4 ⟨rfl, rfl⟩)
                    | (go_at_call 121; (with_reducible refine (hor2 _).mono ?_); rintro e w4 ⟨rfl, rfl⟩))
                  all_goals
                    go_wp2_with fail
                    go_meet
                    exact ⟨w3.heap.size, rfl, Box.new w3 TDQos [.string NS, .int .i64 ox, .int .i64 oy], Nat.le_refl _, ((Below.refl _ _).alloc (Nat.le_refl _) _).drew⟩
                case rest =>
                  clear hor1 hor2 e1' g0' g1' hgl3 hbb3 c3 bl3
                  obtain ⟨bq, rfl, Q4, hbq, B4⟩ := hcut
                  obtain ⟨w4, rfl⟩ : ∃ w4 : World, w4 = wc := ⟨_, rfl⟩
                  have BB4 := fhid (BB3.out.trans (B4.mono BB3.out.size))
                  have D4 := fhid (D3.out.below B4)
                  have hbB : B ≤ b := D4.out.bb
                  obtain ⟨k0', k1, k2⟩ : w4.cell? ⟨bq, 0, none⟩ = some (.string NS) ∧ w4.cell? ⟨bq, 1, none⟩ = some (.int .i64 ox) ∧ w4.cell? ⟨bq, 2, none⟩ = some (.int .i64 oy) := ⟨Box.cell Q4 0, Box.cell Q4 1, Box.cell Q4 2⟩
                  have ql := Box.lt Q4
                  replace Q4 := fhid Q4
                  replace B4 := fhid B4
                  cases RV with
                  | false =>
                    have hE := fhid (hR3.out.trans (if_pos rfl))
                    go_wp2_with (go_at_call 104; (with_reducible refine (hqr _).mono ?_); rintro e w5 ⟨rfl, b5⟩)
                    exact hbad.out 12 _ hE.out ((BB4.out.trans (b5.mono BB4.out.size)).mono hBw)
                  | true =>
                    have hE := fhid (hR3.out.trans (if_neg (by decide)))
                    go_upto_region 14 with (go_at_call 104; (with_reducible refine (hqr _).mono ?_); rintro e w5 ⟨rfl, b5⟩)
                    have D5 := D4.out.below b5
                    have x5 := Box.below Q4.out b5 ql
                    have BB5 := BB4.out.trans (b5.mono BB4.out.size)
                    have hB5 : B ≤ w5.heap.size := Nat.le_trans hBw BB5.size
                    clear k0' k1 k2
                    obtain ⟨k0', k1, k2⟩ : w5.cell? ⟨bq, 0, none⟩ = some (.string NS) ∧ w5.cell? ⟨bq, 1, none⟩ = some (.int .i64 ox) ∧ w5.cell? ⟨bq, 2, none⟩ = some (.int .i64 oy) := ⟨Box.cell x5 0, Box.cell x5 1, Box.cell x5 2⟩
                    have z3 : w5.cell? ⟨b, 3, none⟩ = some (.slice AQ c.qos.length cQ) := D5.fields.1.2.2.2
                    have bl5 := D5.lt
                    have ql5 := Box.lt x5
                    obtain ⟨AQ', cQ', w6, hap, hO6, hg6⟩ := app_rqos (W := (w5.alloc (.cells #[.string NS, .int .i64 ox, .int .i64 oy] TDQos)).drew) (q := ⟨n, ox, oy⟩) (D5.qs.alloc _) (by omega) (Nat.le_trans hB5 (by simp)) w5.heap.size (by
                      unfold qosV
                      rw [hNS.out]
                      exact Box.new w5 TDQos [.string NS, .int .i64 ox, .int .i64 oy]) TDQoss
                    have D6 : DG B ((w5.alloc (.cells #[.string NS, .int .i64 ox, .int .i64 oy] TDQos)).drew) b c.names c.vecs c.parts c.qos c.vals (.slice AN c.names.length cN) (.slice AV c.vecs.length cV) (.slice AP c.parts.length cP) (.slice AQ c.qos.length cQ) := D5.below ((Below.refl _ _).alloc (Nat.le_refl _) _).drew
                    have x6 := Box.grown D6.box hg6 (own_tag D6.qs D6.box (by decide))
                    have z6 : w6.cell? ⟨b, 3, none⟩ = some (.slice AQ c.qos.length cQ) := Box.cell x6 3
                    have y6 : w6.frozen? ⟨b, 3, none⟩ = false := Box.free x6 3
                    have bl6 := Box.lt x6
                    have D7 := fhid (D6.rowQ hg6 hO6)
                    have hs6 : B ≤ ((w5.alloc (.cells #[.string NS, .int .i64 ox, .int .i64 oy] TDQos)).drew).heap.size := Nat.le_trans hB5 (by simp)
                    have B6 : Below B w w6 := ((BB5.mono hBw).trans ((Below.refl B w5).alloc hB5 (.cells #[.string NS, .int .i64 ox, .int .i64 oy] TDQos)).drew).grown hg6 hs6 (fun k hk => ownsRow_ge D6.qs k hk)
                    clear hg6 hO6
                    replace B6 := fhid B6
                    replace D6 := fhid D6
                    replace D5 := fhid D5
                    replace x6 := fhid x6
                    replace x5 := fhid x5
                    replace hap := fhid hap
                    go_region_law (refine step_app TDQoss rfl (.tmp 65) (.tmp 67) rfl (.slice AQ c.qos.length cQ) (.slice (some ⟨w5.heap.size, 0, none⟩) 1 1) (by simp [Act.eval]) (by simp [Act.eval]) (.slice AQ' (c.qos.length + 1) cQ') w6 hap.out ?_)
                    all_goals
                      go_wp2_with fail
                      exact hokk.out _ _ hE.out (B6.out.setCell (p := ⟨b, 3, none⟩) hbB _) _ _ _ _ D7.out
end Go.Proofs.YtmnmcikbbfcjcaaGreatDoor
