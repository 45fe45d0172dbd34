/-
  PROVED: PoolRefused: what is refused turns nothing, for every config, script and call.
  Conditions: the library's tables read as the program's text lays them (the card ties them); nothing else.
-/
import Derived.Test.YtbelmljphnponaaGreatDoorZ2
import Derived.Test.YtbelmljphnponaaGreatDoorZ3
import Derived.Test.YtbelmljphnponaaGreatDoorC2
set_option linter.unusedSimpArgs false
set_option linter.unusedVariables false
/-
  PoolRefused, walked.
-/
namespace Go.Proofs.YtbelmljphnponaaGreatDoor.Ps
open Go.RowKit Go.Shelf Vs Ns

/-- Below the law's start nothing turns while its pool does. -/
theorem below_fx {w W W' : World} {p : Nat} (hp : w.heap.size ≤ p) (hb : Below w.heap.size w W) (hf : FX (At3 p) W W') : Below w.heap.size w W' := hb.trans (hf.below (B := w.heap.size) (fun j hj => by have hj : j = p := hj; rw [hj]; exact hp) hb.size)
/-- One call of a script, the pool being the call's own. -/
theorem script_step {w W : World} {p : Nat} {P0 : Pl} {L : List ActC} (hw : Env12 w) (hp : w.heap.size ≤ p) (hG : Good P0) (ok : ∀ a ∈ L, okA a) (k : Nat) (hk : k < L.length) (hb : Below w.heap.size w W) (hP : PB W p (playP P0 (L.take k))) :
    Calls Tryz.prog 13 #[.pointer (some ⟨p, 0, none⟩), .agg (actV L[k]).toArray] W fun e w' => (∃ s er, e = .returned (.tuple #[Bs.nodes s, .int .i64 er])) ∧ PB w' p (playP P0 (L.take (k + 1))) ∧ FX (At3 p) W w' ∧ Below w.heap.size w w' := by
  have hg := (play_good hG (L.take k)).1
  have hE := hw.below hb
  refine (Does_any p _ L[k] W hP hg hE.tab hE.bit (ok _ (List.getElem_mem hk))).mono ?_
  rintro e w' ⟨he, h1, h2⟩
  exact ⟨⟨_, _, he⟩, by rw [play_snoc P0 L k hk]; exact h1, h2, below_fx hp hb h2⟩
/-- The script's row, as far as it is played. -/
theorem short_rds {w : World} {A : Option Addr} {l : List ActC} {cp : Nat} (h : RdS w A l.length cp (AVs l)) : RdS w A (shortL l).length cp (AVs (shortL l)) := by
  obtain ⟨h1, h2, h3⟩ := h
  have hl : (shortL l).length = min l.length 200 := by unfold shortL; rw [List.length_take]; omega
  refine ⟨by omega, h2, fun h0 => ?_⟩
  have e : AVs l = AVs (shortL l) ++ AVs (l.drop 200) := by unfold AVs shortL; rw [← List.flatMap_append, List.take_append_drop]
  have hle : (AVs (shortL l)).length ≤ (AVs l).length := by rw [e, List.length_append]; omega
  obtain ⟨b, o, ea, hb, hc⟩ := h3 (by omega)
  refine ⟨b, o, ea, hb, fun j hj => ?_⟩
  rw [hc j (by omega)]
  congr 1
  simp only [e]
  exact List.getElem_append_left hj
set_option maxRecDepth 100000 in
set_option maxHeartbeats 16000000 in
theorem refused_walk (v : Value) (c : Cfg) (A : Option Addr) (l : List ActC) (cp : Nat) (a : ActC) (w : World) (hw : Env12 w) (hc : CR w v c) (hr : RdS w A l.length cp (AVs l)) (ok : ∀ a ∈ l, okA a) (oka : okA a) :
    Calls Tryz.prog 4 #[v, .slice A l.length cp, .agg (actV a).toArray] w (BoolP w true) := by
  have hal := fun W (hb : Below w.heap.size w W) => alive_any W (hw.below hb)
  have hfar := fun W (hb : Below w.heap.size w W) => far_any v c W (hc.below hb)
  have hth := fun (hp : c.parts.length ≤ 60) (hq : c.qos.length ≤ 60) W (hb : Below w.heap.size w W) => theirs_any v c W (hc.below hb) hp hq
  have hno := fun v W (hb : Below w.heap.size w W) h hr => New_no v c W h (hw.below hb).env hr
  have hyes := fun v W (hb : Below w.heap.size w W) h hr => New_yes v c W h (hw.below hb).env hr
  have hsh := fun W (hb : Below w.heap.size w W) => short_any A l cp W (hr.below hb)
  have hgd := good_of hc
  have ok' : ∀ x ∈ shortL l, okA x := fun x hx => ok x (List.mem_of_mem_take hx)
  have hl200 : (shortL l).length ≤ 200 := by unfold shortL; rw [List.length_take]; omega
  unfold BoolP at hal hfar ⊢
  unfold ConfP at hth
  have hds := fun p W (hb : Below w.heap.size w W) P (hP : PB W p P) (hg : Good P) => Does_any p P a W hP hg (hw.below hb).tab (hw.below hb).bit oka
  have hsv := fun p W P (hP : PB W p P) (hg : Good P) => Save_any p P W hP hg
  obtain ⟨AN, cN, AV, cV, AP, cP, AQ, cQ, a0, a1, a2, a3, a4, a5, a6, a7, rfl, ev, -, -, -, -⟩ := hc
  clear ev
  unfold actV at hds ⊢
  obtain ⟨q0, q1, bA, hz⟩ := two_boxes w TRConf TAct [.slice AN c.names.length cN, .slice AV c.vecs.length cV, .slice AP c.parts.length cP, .slice AQ c.qos.length cQ, .int .i64 a0, .int .i64 a1, .int .i64 a2, .int .i64 a3, .int .i64 a4, .int .i64 a5, .int .i64 a6, .int .i64 a7] [.int .u8 a.1, .int .i64 a.2.1, .int .i64 a.2.2.1, .int .u64 (Bs.word a.2.2.2 0), .int .u64 (Bs.word a.2.2.2 1), .int .u64 (Bs.word a.2.2.2 2), .int .u64 (Bs.word a.2.2.2 3)]
  generalize a.1 = y0 at *
  generalize a.2.1 = y1 at *
  generalize a.2.2.1 = y2 at *
  generalize (Bs.word a.2.2.2 0 : Int) = y3 at *
  generalize (Bs.word a.2.2.2 1 : Int) = y4 at *
  generalize (Bs.word a.2.2.2 2 : Int) = y5 at *
  generalize (Bs.word a.2.2.2 3 : Int) = y6 at *
  have hw0 := fhid hw
  have hSR := short_rds hr
  clear hr
  cases hF : farP c with
  | true =>
    rw [hF] at hfar
    clear hth hno hyes hsh hds hsv hgd hF
    go_enter Tryz.func4, Tryz.ntmps4
    go_upto_region 1 with fail
    generalize (w.alloc _).alloc _ = w1 at *
    obtain ⟨c0, c1, c2, c3, c4, c5, c6, c7, c8, c9, c10, c11⟩ := Box.twelve q0
    have xl := Box.lt q0
    replace q0 := fhid q0
    replace q1 := fhid q1
    go_wp2_with (first
      | (go_at_call 8; (with_reducible refine (hfar _ bA).mono ?_); rintro e w2 ⟨rfl, b2⟩; have B2 := bA.trans (b2.mono bA.size))
      | (go_at_call 9; (with_reducible refine (hal _ B2).mono ?_); rintro e w3 ⟨rfl, b3⟩))
    go_ret
    exact ⟨rfl, B2.trans (b3.mono B2.size)⟩
  | false =>
    rw [hF] at hfar
    obtain ⟨_, _, hp60, hq60⟩ := far_small hF
    have hth := hth hp60 hq60
    clear hp60 hq60 hF
    cases hR : rightC c with
    | false =>
      have hno := fun v W hb h => hno v W hb h hR
      clear hyes hsh hds hsv hgd hR
      go_enter Tryz.func4, Tryz.ntmps4
      go_upto_region 1 with fail
      generalize (w.alloc _).alloc _ = w1 at *
      obtain ⟨c0, c1, c2, c3, c4, c5, c6, c7, c8, c9, c10, c11⟩ := Box.twelve q0
      have xl := Box.lt q0
      replace q0 := fhid q0
      replace q1 := fhid q1
      go_wp2_with (first
        | (go_at_call 8; (with_reducible refine (hfar _ bA).mono ?_); rintro e w2 ⟨rfl, b2⟩; have B2 := bA.trans (b2.mono bA.size)
           clear c0 c1 c2 c3 c4 c5 c6 c7 c8 c9 c10 c11
           obtain ⟨c0, c1, c2, c3, c4, c5, c6, c7, c8, c9, c10, c11⟩ := Box.twelve (Box.below q0.out b2 xl)
           have xl := Nat.lt_of_lt_of_le xl b2.size)
        | (go_at_call 11; (with_reducible refine (hth _ B2).mono ?_); rintro e w3 ⟨v3, rfl, hcr3, b3⟩; have B3 := B2.trans (b3.mono B2.size))
        | (go_at_call 10; (with_reducible refine (hno _ _ B3 hcr3).mono ?_); rintro e w4 ⟨rfl, b4⟩; have B4 := B3.trans (b4.mono B3.size))
        | (go_at_call 9; (with_reducible refine (hal _ B4).mono ?_); rintro e w5 ⟨rfl, b5⟩))
      go_ret
      exact ⟨rfl, B4.trans (b5.mono B4.size)⟩
    | true =>
      have hyes := fun v W hb h => hyes v W hb h hR
      have hG := hgd hR
      clear hno hgd hR
      go_enter Tryz.func4, Tryz.ntmps4
      go_upto_region 1 with fail
      generalize (w.alloc _).alloc _ = w1 at *
      obtain ⟨c0, c1, c2, c3, c4, c5, c6, c7, c8, c9, c10, c11⟩ := Box.twelve q0
      have xl := Box.lt q0
      replace q0 := fhid q0
      replace q1 := fhid q1
      go_upto_region 6 with (first
        | (go_at_call 8; (with_reducible refine (hfar _ bA).mono ?_); rintro e w2 ⟨rfl, b2⟩; have B2 := bA.trans (b2.mono bA.size)
           clear c0 c1 c2 c3 c4 c5 c6 c7 c8 c9 c10 c11
           obtain ⟨c0, c1, c2, c3, c4, c5, c6, c7, c8, c9, c10, c11⟩ := Box.twelve (Box.below q0.out b2 xl)
           have xl := Nat.lt_of_lt_of_le xl b2.size)
        | (go_at_call 11; (with_reducible refine (hth _ B2).mono ?_); rintro e w3 ⟨v3, rfl, hcr3, b3⟩; have B3 := B2.trans (b3.mono B2.size))
        | (go_at_call 10; (with_reducible refine (hyes _ _ B3 hcr3).mono ?_); rintro e w4 ⟨p, rfl, hp4, b4⟩; have B4 := B3.trans (b4.mono B3.size)))
      have hwp := Nat.le_trans B3.size hp4.1
      have P4 := hp4.pb
      have hne : ¬ At3 p (w.heap.size + 1) := fun hj => by
        have hj : w.heap.size + 1 = p := hj
        have := hp4.1; have := b2.size; have := b3.size; omega
      have T1 := (b2.trans (b3.mono b2.size)).trans (b4.mono (Nat.le_trans b2.size b3.size))
      have X4 := Box.below q1.out T1 (Box.lt q1.out)
      clear c0 c1 c2 c3 c4 c5 c6 c7 c8 c9 c10 c11 hfar hth hyes hp4 hcr3 xl
      replace P4 := fhid P4
      replace X4 := fhid X4
      go_wp2_with (go_at_call 12; (with_reducible refine (hsh _ B4).mono ?_); rintro e w5 ⟨c5, rfl, r5, rfl⟩)
      have hstep := fun W k hk hb hP => script_step (p := p) (P0 := newP c) (L := shortL l) (W := W) hw hwp hG ok' k hk hb hP
      have hG2 := (play_good hG (shortL l)).1
      clear r5 hsh b2 b3 b4 T1 B2 B3
      generalize shortL l = L at *
      replace hstep := fhid hstep
      replace hSR := fhid hSR
      go_loopw [33] (fun i wr => ∃ k : Nat, k ≤ L.length ∧ i = .int .i64 (k : Nat) ∧ PB wr p (playP (newP c) (L.take k)) ∧ Below w.heap.size w wr ∧ Box wr (w.heap.size + 1) TAct [.int .u8 y0, .int .i64 y1, .int .i64 y2, .int .u64 y3, .int .u64 y4, .int .u64 y5, .int .u64 y6]) (fun i _ => L.length - (intOf i).toNat)
      case atStart => exact ⟨0, Nat.zero_le _, rfl, P4.out, B4, X4.out⟩
      case round =>
        obtain ⟨k, hk, rfl, hPk, hB, hX⟩ := hrel
        have k0 : (0 : Int) ≤ k := by omega
        by_cases hlt : k < L.length
        · have k1 : (k : Int) < L.length := by omega
          obtain ⟨b, o, rfl, hb, d0, d1, d2, d3, d4, d5, d6⟩ := RdS.act (hSR.out.below hB) hlt
          obtain ⟨c0, c1, c2, c3, c4, c5', c6, xl⟩ := seven hX
          have hst := fun W hb hP => hstep.out W k hlt hb hP
          unfold actV at hst
          generalize hak : L[k] = ak at *
          obtain ⟨z0, z1, z2, zq⟩ := ak
          simp only at d0 d1 d2 d3 d4 d5 d6 hst
          generalize (Bs.word zq 0 : Int) = u0 at *
          generalize (Bs.word zq 1 : Int) = u1 at *
          generalize (Bs.word zq 2 : Int) = u2 at *
          generalize (Bs.word zq 3 : Int) = u3 at *
          clear hak
          replace hst := fhid hst
          go_upto_region 9 with fail
          have m1 := (Below.refl wr.heap.size wr).alloc (Nat.le_refl _) (.cells #[.int .u8 z0, .int .i64 z1, .int .i64 z2, .int .u64 u0, .int .u64 u1, .int .u64 u2, .int .u64 u3] TAct)
          have Y1 := Box.new wr TAct [.int .u8 z0, .int .i64 z1, .int .i64 z2, .int .u64 u0, .int .u64 u1, .int .u64 u2, .int .u64 u3]
          have P1 := hPk.below m1
          have X1 := Box.below hX m1 (Box.lt hX)
          have B1 := hB.trans (m1.mono hB.size)
          clear d0 d1 d2 d3 d4 d5 d6 c0 c1 c2 c3 c4 c5' c6 xl hPk hX m1 hb
          generalize wr.alloc _ = W1 at *
          generalize wr.heap.size = bb at *
          obtain ⟨d0, d1, d2, d3, d4, d5, d6, xl⟩ := seven Y1
          clear Y1
          replace P1 := fhid P1
          replace X1 := fhid X1
          go_wp2_with (go_at_call 13; (with_reducible refine (hst.out _ B1 P1.out).mono ?_); rintro e w6 ⟨⟨s, er, rfl⟩, P6, f6, B6⟩)
          go_roundw
          case rel => exact ⟨k + 1, by omega, by go_num, P6, B6, f6.box X1.out hne⟩
          case measure => simp [intOf]; omega
        · have k2 : k = L.length := by omega
          subst k2
          rw [List.take_length] at hPk
          have k1 : ¬ (L.length : Int) < L.length := by omega
          clear hstep hSR hlt hk
          generalize playP (newP c) L = P1 at *
          have hfa := (act_facts hG2 a).2.2.2.2.2
          have hd2 := fun W hb hP => hds p W hb P1 hP hG2
          have hs1 := hsv p wr P1 hPk hG2
          have hs2 := fun W hP => hsv p W P1 hP hG2
          obtain ⟨⟨Q, q, er⟩, hR⟩ : ∃ x, actP P1 a = x := ⟨_, rfl⟩
          rw [hR] at hd2 hfa
          clear hds hsv hR
          unfold TickPost at hd2
          unfold SavePost at hs1 hs2
          simp only [Bs.nodes] at hd2 hfa
          generalize (Bs.word q 0 : Int) = v0 at *
          generalize (Bs.word q 1 : Int) = v1 at *
          generalize (Bs.word q 2 : Int) = v2 at *
          generalize (Bs.word q 3 : Int) = v3 at *
          generalize saveP P1 = SB at *
          go_upto_region 12 with (go_at_call 20; (with_reducible refine hs1.mono ?_); rintro e w6 ⟨v6, rfl, o6, b6⟩)
          obtain ⟨A6, k6, rfl, _, _, -⟩ := o6.shape
          have B6 := hB.trans (b6.mono hB.size)
          have P6 := hPk.below b6
          have X6 := Box.below hX b6 (Box.lt hX)
          obtain ⟨c0, c1, c2, c3, c4, c5', c6, xl⟩ := seven X6
          clear hX X6 hPk hs1 hB b6
          replace o6 := fhid o6
          replace P6 := fhid P6
          go_upto_region 13 with (go_at_call 13; (with_reducible refine (hd2 _ B6 P6.out).mono ?_); rintro e w7 ⟨rfl, P7, f7⟩)
          have m8 := (Below.refl w7.heap.size w7).alloc (Nat.le_refl _) (.cells #[.int .u64 v0, .int .u64 v1, .int .u64 v2, .int .u64 v3] TNodes)
          have o7 := own_fx o6.out f7 (fun j hj hx => by
            obtain rfl : j = p := hx
            obtain ⟨cs, hbx⟩ := P6.out.box
            exact own_tag o6.out hbx (by decide) hj.symm)
          have B7 := below_fx hwp B6 f7
          have o8 := ownsRow_below o7 m8
          have B8 := B7.trans (m8.mono B7.size)
          have P8 := P7.below m8
          clear o6 P6 o7 P7 B6 B7 f7 c0 c1 c2 c3 c4 c5' c6 xl m8 hd2
          generalize w7.alloc _ = W8 at *
          by_cases he : er = 0
          · subst he
            clear hfa hs2
            replace o8 := fhid o8
            replace P8 := fhid P8
            go_wp2_with (go_at_call 9; (with_reducible refine (hal _ B8).mono ?_); rintro e w9 ⟨rfl, b9⟩)
            go_ret
            exact ⟨rfl, B8.trans (b9.mono B8.size)⟩
          · have be : (er == 0) = false := by simpa using he
            have e1 := hfa he
            subst e1
            obtain ⟨A8, k8, e8, _, _, s8⟩ := Cs.Own.shape o8
            injection e8 with e8 _ e9
            subst e8 e9
            have tt : Below W8.heap.size W8 W8.drew := (Below.refl _ _).drew
            have hcv := fhid (fun w9 B A9 k9 s9 => Cs.conv_seg w9 B A9 SB k9 s9)
            have zP := fhid (fun W (h : Below W8.heap.size W8 W) => Cs.conv_seg W _ A6 SB k6 (s8.below h))
            have z := zP.out _ tt
            have hq : ((Cs.str SB).toList == (Cs.str SB).toList) = true := by simp
            generalize Cs.str SB = ST at *
            clear hfa o8
            replace s8 := fhid s8
            replace P8 := fhid P8
            go_upto_region 15 with fail
            go_region_with (first
                | (go_at_call 20; (with_reducible refine (hs2 _ (P8.out.below tt)).mono ?_); rintro e w9 ⟨v9, rfl, o9, b9⟩; obtain ⟨A9, k9, rfl, _, _, s9⟩ := o9.shape; have tt := tt.trans (b9.mono tt.size); have z := zP.out _ tt; have r9 := hcv.out w9 _ A9 k9 s9)
                | (go_at_call 9; (with_reducible refine (hal _ (B8.trans (tt.mono B8.size))).mono ?_); rintro e w9 ⟨rfl, b9⟩; have tt := tt.trans (b9.mono tt.size); have z := zP.out _ tt)
                | fail)
            all_goals
              go_wp2_with fail
              go_ret
              exact ⟨rfl, B8.trans (tt.mono B8.size)⟩
end Go.Proofs.YtbelmljphnponaaGreatDoor.Ps
/-
  PROVED: PoolRefused: what is refused turns nothing, for every config, script and call.
  Conditions: the library's tables read as the program's text lays them (the card ties them); nothing else.
-/
namespace Go.Proofs.YtbelmljphnponaaGreatDoor.Ps
open Go.ChangeShapes Go.WideShapes Go.ChangeAt Go.WideMaps Go.WideElems Go.RowKit
set_option maxRecDepth 100000 in
theorem poolrefused_lifted (os : Os) (started : os.Started) (H : Type) (enc : TypeId × Value → H) :
    ReturnsInHanded {} Tryz.checked os 4 .any (fun w args => (Rows.poolRefusedSpec.pre enc Tryz.prog Tryz.f4 [] false w args ∧ laidMetH Tryz.prog laidList w) ∧ sizedMet enc Tryz.prog Tryz.f4 (OpenSpec.ofChange Rows.poolRefusedSpec) false w args)
      (Rows.poolRefusedSpec.post enc Tryz.prog Tryz.f4 false true false false) := by
  refine returnsInHanded_of_change_and (C := Tryz.checked) (X := fun w _ => laidMetH Tryz.prog laidList w) (fun _ _ _ hh h => h.of_heap hh) own started (by kernel_rfl) Tryz.func4
    (ChangeSpec.witness_shaped (enc := enc) (C := Tryz.checked) (os := os) (X := fun w _ => laidMetH Tryz.prog laidList w) false (World.laidAll Tryz.prog os laidList) #[.agg #[.slice none 0 0, .slice none 0 0, .slice none 0 0, .slice none 0 0, .int .i64 0, .int .i64 0, .int .i64 0, .int .i64 0, .int .i64 0, .int .i64 0, .int .i64 0, .int .i64 0], .slice none 0 0, .agg #[.int .u8 0, .int .i64 0, .int .i64 0, .int .u64 0, .int .u64 0, .int .u64 0, .int .u64 0]] 8 (World.laidAll_os _ _ _) (World.shaped_of_ZipB (by kernel_rfl) (by kernel_rfl)) (by kernel_rfl) (by kernel_rfl) (by kernel_rfl) (lay_met os _)) ?_
  intro W base args ds gs before hval0 hW _ _ hL _
  have hval : ∀ (j : Nat) t v, Tryz.f4.params[j]? = some t → args[j]? = some v → Value.okWide Tryz.prog W .any base t v := hval0
  have hW' := hW
  obtain ⟨p, q, hA0, hV, rfl, hfz, hnd⟩ := hW
  have hA : DataW.TrodAll enc Tryz.prog W 0 (fun _ => true) true Tryz.f4.params.toList args.toList ds p := hA0
  rw [Tryz.params4] at hA hval
  obtain ⟨v0, v1, v2, d0, d1, d2, p0, p1, p2, rfl, rfl, rfl, h0, h1, h2⟩ := trodAll_three hA
  obtain ⟨rfl, rfl⟩ := trodVars_none hV
  have hT := tab_of hL
  obtain ⟨c0, cr0⟩ := open_conf (hval 0 28 v0 rfl rfl) h0
  obtain ⟨A1, l1, cp1, rfl, rd1, ok1⟩ := open_acts (hval 1 29 v1 rfl rfl) h1
  obtain ⟨a2, rfl, ok2⟩ := open_act (hval 2 46 v2 rfl rfl) h2
  have hlt : ∀ z ∈ p0 ++ (p1 ++ p2), z.block < W.heap.size := fun z hz => hW'.lt z (by simp [hz])
  clear hA0 hval0
  simp only [List.append_nil, List.append_assoc] at hW'
  refine (refused_walk v0 c0 A1 l1 cp1 a2 W hT cr0 rd1 ok1 ok2).mono fun e W' ⟨he, hb⟩ => ?_
  subst he
  refine ⟨_, rfl, ⟨_, _, _, [], p0 ++ (p1 ++ p2), [], hW', trodAll_mk1 (shut_bool Tryz.underlying4 _), ?_, rfl, hb.frame _, fun h => by cases h⟩⟩
  exact trodAll_mk3 (Below.trod laidOut (by kernel_rfl) (of_decide_eq_true (by kernel_rfl)) h0 hb (fun z hz => hlt z (by simp [hz]))) (Below.trod laidOut (by kernel_rfl) (of_decide_eq_true (by kernel_rfl)) h1 hb (fun z hz => hlt z (by simp [hz]))) (Below.trod laidOut (by kernel_rfl) (of_decide_eq_true (by kernel_rfl)) h2 hb (fun z hz => hlt z (by simp [hz])))

theorem poolrefused_holds : Rows.PoolRefusedSaid :=
  OpenClaim.holds_of_wide 4 Tryz.f4 rfl rfl rfl rfl rfl rfl rfl ⟨rfl, rfl, rfl, rfl, rfl⟩ rfl rfl rfl rfl rfl (by kernel_rfl) Tryz.func4 (by kernel_rfl)
    (of_decide_eq_true (by kernel_rfl)) (by unfold Func.isWrapper; rw [if_neg (of_decide_eq_false (by kernel_rfl))]; exact ⟨rfl, rfl⟩)
    (fun os started H enc _ => poolrefused_lifted os started H enc)
theorem poolrefused_card : Rows.PoolRefusedCardSaid :=
  Claim7.holds_tied_plain_at .later [] [.data, .data, .data, .data, .data, .pinned] true Rows.poolRefusedCard.stood.harness false
    poolrefused_holds (fun _ h => by cases h) (by kernel_rfl) (fun _ h => by cases h) poolRefused_row_tie rfl ⟨rfl, rfl⟩ (by kernel_rfl) rfl
    (fun f fn hf hfn => by
      obtain rfl : f = 4 := Option.some.inj ((show Tryz.prog.funcNamed "marlinspike/marlinspikelaw12.PoolRefused" = some 4 by kernel_rfl).symm.trans hf) |>.symm
      obtain rfl : fn = Tryz.f4 := (Option.some.inj (Tryz.func4.symm.trans hfn)).symm
      exact ⟨by kernel_rfl, fun j t ht => by
        rw [Tryz.params4] at ht
        have hm : t ∈ [28, 29, 46] := by simpa using Array.mem_of_getElem? ht
        have hall : ([28, 29, 46].all fun u => !Tryz.prog.wantsStandIn u) = true := by kernel_rfl
        exact (show Tryz.prog.wantsStandIn t = false by simpa using List.all_eq_true.1 hall t hm)⟩)
    (by kernel_rfl)
end Go.Proofs.YtbelmljphnponaaGreatDoor.Ps
namespace Go.Proofs.YtbelmljphnponaaGreatDoor
open Go.RowKit
theorem pool_refused_card : Rows.PoolRefusedCardSaid := Ps.poolrefused_card
end Go.Proofs.YtbelmljphnponaaGreatDoor
