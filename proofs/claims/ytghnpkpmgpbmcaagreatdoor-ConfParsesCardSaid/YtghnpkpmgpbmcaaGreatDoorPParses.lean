/-
  PROVED: ConfParses: the config of any text, or its fault, is the document's (texts of 5001 to 65536 bytes are left to the probe by the statement itself).
  Conditions: the library's tables and its two errors read as the program's text lays them (the card ties them); nothing else.
-/
import Derived.Test.YtghnpkpmgpbmcaaGreatDoorD9
import Derived.Test.YtghnpkpmgpbmcaaGreatDoorDA
import Derived.Test.YtghnpkpmgpbmcaaGreatDoorK5
import Derived.Test.YtghnpkpmgpbmcaaGreatDoorK7
import Derived.Test.YtghnpkpmgpbmcaaGreatDoorW2
import Derived.Test.YtghnpkpmgpbmcaaGreatDoorK8
import Derived.SizedLaws
set_option linter.unusedSimpArgs false
set_option linter.unusedVariables false
/-
  ConfParses, walked.
-/
namespace Go.Proofs.YtghnpkpmgpbmcaaGreatDoor
open Go.RowKit Go.Shelf Vs

/-- What a text gives is small. -/
theorem parseC_small (s : Str) : ∃ c e k, parseC s = (c, e, k) ∧ c.names.length ≤ 1000 ∧ c.vecs.length ≤ 1000 ∧ c.parts.length ≤ 60 ∧ c.qos.length ≤ 60 := by
  rcases parseC_cases s with ⟨e, k, _, h⟩ | ⟨c, hg, _, h⟩
  · exact ⟨noCfg, e, k, h, by decide, by decide, by decide, by decide⟩
  · obtain ⟨⟨_, i2, i3, i4, i5⟩, _⟩ := hg
    exact ⟨c, 0, 0, h, by omega, by omega, by omega, by omega⟩
set_option maxRecDepth 100000 in
set_option maxHeartbeats 16000000 in
theorem parses_walk (s : ByteArray) (w : World) (hw : Env w) (hs : s.size ≤ 140737488355328) : Calls Tryz.prog 3 #[.string s] w (BoolP w true) := by
  have hal := fun W (h : Below w.heap.size w W) => alive_any W (hw.below h)
  unfold BoolP at hal ⊢
  by_cases hmid : 5000 < s.size ∧ s.size ≤ 65536
  · have i1 : (5000 : Int) < s.size := by omega
    have i2 : (s.size : Int) ≤ 65536 := by omega
    replace hw := fhid hw
    go_enter Tryz.func3, Tryz.ntmps3
    go_wp2_with (go_at_call 8; (with_reducible refine (hal _ (Below.refl _ _)).mono ?_); rintro e w4 ⟨rfl, b4⟩)
    go_ret
    exact ⟨rfl, b4⟩
  · have hpa := Parse_any9 s w hw hs
    have hpr := fun W => rParse_any9 s W hs
    unfold ParseP at hpa hpr
    obtain ⟨c, e0, k0, hE, n1, n2, n3, n4⟩ := parseC_small (bl s)
    rw [hE] at hpa hpr
    simp only at hpa hpr
    clear hE
    have heq := eql_fault (e0 : Int) (k0 : Int) (e0 : Int) (k0 : Int)
    rw [show ((e0 : Int) == (e0 : Int) && (k0 : Int) == (k0 : Int)) = true by simp] at heq
    have hou := fun v W (h : CR W v c) => ours_any v c W h n3 n4
    unfold ConfP at hou
    have hsm := fun va vb W (ha : CR W va c) (hb : CR W vb c) => rSame_true va vb c W ha hb n1 n2 (by omega) (by omega)
    unfold BoolP at hsm
    replace hw := fhid hw
    have hcase : (s.size : Int) ≤ 5000 ∨ ((5000 : Int) < s.size ∧ (65536 : Int) < s.size) := by omega
    clear hmid
    rcases hcase with j1 | ⟨j1, j2⟩
    all_goals
      go_enter Tryz.func3, Tryz.ntmps3
      go_upto_region 4 with (go_at_call 9; (with_reducible refine hpa.mono ?_); rintro e w1 ⟨v, rfl, hcr, b1⟩
                             have hcr0 := fhid hcr
                             obtain ⟨AN, cN, AV, cV, AP, cP, AQ, cQ, a0, a1, a2, a3, a4, a5, a6, a7, rfl, -, -, -, -, -⟩ := hcr)
      obtain ⟨q0, q1, bA, hz⟩ := two_boxes w1 TConf TFault [.slice AN c.names.length cN, .slice AV c.vecs.length cV, .slice AP c.parts.length cP, .slice AQ c.qos.length cQ, .int .i64 a0, .int .i64 a1, .int .i64 a2, .int .i64 a3, .int .i64 a4, .int .i64 a5, .int .i64 a6, .int .i64 a7] [.int .i64 (e0 : Int), .int .i64 (k0 : Int)]
      generalize (w1.alloc _).alloc _ = w2 at *
      have C2 := fhid (hcr0.out.below bA)
      have g2 := b1.trans (bA.mono b1.size)
      replace q0 := fhid q0
      replace q1 := fhid q1
      replace hz := fhid hz
      clear hpa
      go_upto_region 5 with (go_at_call 10; (with_reducible refine (hpr _).mono ?_); rintro e w3 ⟨v3, rfl, hcr3, b3⟩
                             have hcr3h := fhid hcr3
                             obtain ⟨DN, dN, DV, dV, DP, dP, DQ, dQ, d0, d1, d2, d3, d4, d5, d6, d7, rfl, -, -, -, -, -⟩ := hcr3)
      obtain ⟨r0, r1, bB, hz2⟩ := two_boxes w3 TRConf9 TFault [.slice DN c.names.length dN, .slice DV c.vecs.length dV, .slice DP c.parts.length dP, .slice DQ c.qos.length dQ, .int .i64 d0, .int .i64 d1, .int .i64 d2, .int .i64 d3, .int .i64 d4, .int .i64 d5, .int .i64 d6, .int .i64 d7] [.int .i64 (e0 : Int), .int .i64 (k0 : Int)]
      have b34 := b3.trans (bB.mono b3.size)
      have Q0 := Box.below q0.out b34 (Box.lt q0.out)
      have Q1 := Box.below q1.out b34 (Box.lt q1.out)
      generalize (w3.alloc _).alloc _ = w4 at *
      have C4 := C2.out.below b34
      have E4 := hcr3h.out.below bB
      have g4 := g2.trans (b34.mono g2.size)
      have hba := Box.lt Q0
      generalize w1.heap.size = ba at *
      generalize w3.heap.size = bb at *
      have zS : ∀ W, Below w4.heap.size w4 W → (W.cell? ⟨ba, 0, none⟩ = some (.slice AN c.names.length cN) ∧ W.cell? ⟨ba, 1, none⟩ = some (.slice AV c.vecs.length cV) ∧ W.cell? ⟨ba, 2, none⟩ = some (.slice AP c.parts.length cP) ∧ W.cell? ⟨ba, 3, none⟩ = some (.slice AQ c.qos.length cQ) ∧ W.cell? ⟨ba, 4, none⟩ = some (.int .i64 a0) ∧ W.cell? ⟨ba, 5, none⟩ = some (.int .i64 a1) ∧ W.cell? ⟨ba, 6, none⟩ = some (.int .i64 a2) ∧ W.cell? ⟨ba, 7, none⟩ = some (.int .i64 a3) ∧ W.cell? ⟨ba, 8, none⟩ = some (.int .i64 a4) ∧ W.cell? ⟨ba, 9, none⟩ = some (.int .i64 a5) ∧ W.cell? ⟨ba, 10, none⟩ = some (.int .i64 a6) ∧ W.cell? ⟨ba, 11, none⟩ = some (.int .i64 a7) ∧ W.cell? ⟨ba + 1, 0, none⟩ = some (.int .i64 (e0 : Int)) ∧ W.cell? ⟨ba + 1, 1, none⟩ = some (.int .i64 (k0 : Int)) ∧ W.cell? ⟨bb, 0, none⟩ = some (.slice DN c.names.length dN) ∧ W.cell? ⟨bb, 1, none⟩ = some (.slice DV c.vecs.length dV) ∧ W.cell? ⟨bb, 2, none⟩ = some (.slice DP c.parts.length dP) ∧ W.cell? ⟨bb, 3, none⟩ = some (.slice DQ c.qos.length dQ) ∧ W.cell? ⟨bb, 4, none⟩ = some (.int .i64 d0) ∧ W.cell? ⟨bb, 5, none⟩ = some (.int .i64 d1) ∧ W.cell? ⟨bb, 6, none⟩ = some (.int .i64 d2) ∧ W.cell? ⟨bb, 7, none⟩ = some (.int .i64 d3) ∧ W.cell? ⟨bb, 8, none⟩ = some (.int .i64 d4) ∧ W.cell? ⟨bb, 9, none⟩ = some (.int .i64 d5) ∧ W.cell? ⟨bb, 10, none⟩ = some (.int .i64 d6) ∧ W.cell? ⟨bb, 11, none⟩ = some (.int .i64 d7) ∧ W.cell? ⟨bb + 1, 0, none⟩ = some (.int .i64 (e0 : Int)) ∧ W.cell? ⟨bb + 1, 1, none⟩ = some (.int .i64 (k0 : Int))) := fun W bo => ⟨Box.cell (Box.below Q0 bo (Box.lt Q0)) 0, Box.cell (Box.below Q0 bo (Box.lt Q0)) 1, Box.cell (Box.below Q0 bo (Box.lt Q0)) 2, Box.cell (Box.below Q0 bo (Box.lt Q0)) 3, Box.cell (Box.below Q0 bo (Box.lt Q0)) 4, Box.cell (Box.below Q0 bo (Box.lt Q0)) 5, Box.cell (Box.below Q0 bo (Box.lt Q0)) 6, Box.cell (Box.below Q0 bo (Box.lt Q0)) 7, Box.cell (Box.below Q0 bo (Box.lt Q0)) 8, Box.cell (Box.below Q0 bo (Box.lt Q0)) 9, Box.cell (Box.below Q0 bo (Box.lt Q0)) 10, Box.cell (Box.below Q0 bo (Box.lt Q0)) 11, Box.cell (Box.below Q1 bo (Box.lt Q1)) 0, Box.cell (Box.below Q1 bo (Box.lt Q1)) 1, Box.cell (Box.below r0 bo (Box.lt r0)) 0, Box.cell (Box.below r0 bo (Box.lt r0)) 1, Box.cell (Box.below r0 bo (Box.lt r0)) 2, Box.cell (Box.below r0 bo (Box.lt r0)) 3, Box.cell (Box.below r0 bo (Box.lt r0)) 4, Box.cell (Box.below r0 bo (Box.lt r0)) 5, Box.cell (Box.below r0 bo (Box.lt r0)) 6, Box.cell (Box.below r0 bo (Box.lt r0)) 7, Box.cell (Box.below r0 bo (Box.lt r0)) 8, Box.cell (Box.below r0 bo (Box.lt r0)) 9, Box.cell (Box.below r0 bo (Box.lt r0)) 10, Box.cell (Box.below r0 bo (Box.lt r0)) 11, Box.cell (Box.below r1 bo (Box.lt r1)) 0, Box.cell (Box.below r1 bo (Box.lt r1)) 1⟩
      have hd : ∀ {W : World}, Below w4.drew.heap.size w4.drew W → Below w4.heap.size w4 W := fun b => ⟨b.os, b.tape, b.output, b.size, b.block⟩
      have C4d := fhid (C4.below (show Below w4.heap.size w4 w4.drew from (Below.refl _ _).drew))
      have E4h := fhid E4
      have z := zS w4.drew (Below.refl _ _).drew
      have l0 := Box.lt Q0
      have l1 := Box.lt Q1
      have l2 := Box.lt r0
      have l3 := Box.lt r1
      clear hz2 b34 bB b3 hpr C4 E4 hba
      replace Q0 := fhid Q0
      replace Q1 := fhid Q1
      replace r0 := fhid r0
      replace r1 := fhid r1
      replace g2 := fhid g2
      replace g4 := fhid g4
      go_region_held3 (fun w' => w'.cell? ⟨ba, 0, none⟩ = some (.slice AN c.names.length cN) ∧ w'.cell? ⟨ba, 1, none⟩ = some (.slice AV c.vecs.length cV) ∧ w'.cell? ⟨ba, 2, none⟩ = some (.slice AP c.parts.length cP) ∧ w'.cell? ⟨ba, 3, none⟩ = some (.slice AQ c.qos.length cQ) ∧ w'.cell? ⟨ba, 4, none⟩ = some (.int .i64 a0) ∧ w'.cell? ⟨ba, 5, none⟩ = some (.int .i64 a1) ∧ w'.cell? ⟨ba, 6, none⟩ = some (.int .i64 a2) ∧ w'.cell? ⟨ba, 7, none⟩ = some (.int .i64 a3) ∧ w'.cell? ⟨ba, 8, none⟩ = some (.int .i64 a4) ∧ w'.cell? ⟨ba, 9, none⟩ = some (.int .i64 a5) ∧ w'.cell? ⟨ba, 10, none⟩ = some (.int .i64 a6) ∧ w'.cell? ⟨ba, 11, none⟩ = some (.int .i64 a7) ∧ w'.cell? ⟨ba + 1, 0, none⟩ = some (.int .i64 (e0 : Int)) ∧ w'.cell? ⟨ba + 1, 1, none⟩ = some (.int .i64 (k0 : Int)) ∧ w'.cell? ⟨bb, 0, none⟩ = some (.slice DN c.names.length dN) ∧ w'.cell? ⟨bb, 1, none⟩ = some (.slice DV c.vecs.length dV) ∧ w'.cell? ⟨bb, 2, none⟩ = some (.slice DP c.parts.length dP) ∧ w'.cell? ⟨bb, 3, none⟩ = some (.slice DQ c.qos.length dQ) ∧ w'.cell? ⟨bb, 4, none⟩ = some (.int .i64 d0) ∧ w'.cell? ⟨bb, 5, none⟩ = some (.int .i64 d1) ∧ w'.cell? ⟨bb, 6, none⟩ = some (.int .i64 d2) ∧ w'.cell? ⟨bb, 7, none⟩ = some (.int .i64 d3) ∧ w'.cell? ⟨bb, 8, none⟩ = some (.int .i64 d4) ∧ w'.cell? ⟨bb, 9, none⟩ = some (.int .i64 d5) ∧ w'.cell? ⟨bb, 10, none⟩ = some (.int .i64 d6) ∧ w'.cell? ⟨bb, 11, none⟩ = some (.int .i64 d7) ∧ w'.cell? ⟨bb + 1, 0, none⟩ = some (.int .i64 (e0 : Int)) ∧ w'.cell? ⟨bb + 1, 1, none⟩ = some (.int .i64 (k0 : Int))) (first | exact z | fail)
        (first
          | (go_at_call 12
             (with_reducible refine (hou _ _ C4d.out).mono ?_)
             rintro e w5 ⟨v5, rfl, hcr5, b5'⟩
             have b5 := hd b5'
             have z := zS w5 b5
             have E5 := E4h.out.below b5)
          | (go_at_call 11
             (with_reducible refine (hsm _ _ _ hcr5 E5).mono ?_)
             rintro e w6 ⟨rfl, b6'⟩
             have b6 := b5.trans (b6'.mono b5.size)
             have z := zS w6 b6)
          | (go_at_call 8
             (with_reducible refine (hal _ (g4.out.trans (b6.mono g4.out.size))).mono ?_)
             rintro e w7 ⟨rfl, b7'⟩
             have b7 := b6.trans (b7'.mono b6.size)
             have z := zS w7 b7))
      all_goals
        go_wp2_with fail
        go_ret
        exact ⟨rfl, g4.out.trans (b7.mono g4.out.size)⟩
end Go.Proofs.YtghnpkpmgpbmcaaGreatDoor
namespace Go.Proofs.YtghnpkpmgpbmcaaGreatDoor
open Go.ChangeShapes Go.WideShapes Go.ChangeAt Go.WideMaps Go.WideElems Go.RowKit Vs
set_option maxRecDepth 100000 in
theorem parses_lifted (os : Os) (started : os.Started) (H : Type) (enc : TypeId × Value → H) :
    ReturnsInHanded {} Tryz.checked os 3 .any (fun w args => (Rows.confParsesSpec.pre enc Tryz.prog Tryz.f3 [] false w args ∧ laidMetH Tryz.prog laidList w) ∧ sizedMet enc Tryz.prog Tryz.f3 (OpenSpec.ofChange Rows.confParsesSpec) false w args)
      (Rows.confParsesSpec.post enc Tryz.prog Tryz.f3 false true false false) := by
  refine returnsInHanded_of_change_and (C := Tryz.checked) (X := fun w _ => laidMetH Tryz.prog laidList w) (fun _ _ _ hh h => h.of_heap hh) own started (by kernel_rfl) Tryz.func3
    (ChangeSpec.witness_shaped (enc := enc) (C := Tryz.checked) (os := os) (X := fun w _ => laidMetH Tryz.prog laidList w) false (World.laidAll Tryz.prog os laidList) #[.string ⟨#[]⟩] 8 (World.laidAll_os _ _ _) (World.shaped_of_ZipB (by kernel_rfl) (by kernel_rfl)) (by kernel_rfl) (by kernel_rfl) (by kernel_rfl) (lay_met os _)) ?_
  intro W base args ds gs before hval0 hW _ hsz0 hL _
  have hval : ∀ (j : Nat) t v, Tryz.f3.params[j]? = some t → args[j]? = some v → Value.okWide Tryz.prog W .any base t v := hval0
  have hsz : (DataW.weightsEach Tryz.prog (Tryz.f3.params.toList ++ Rows.confParsesSpec.plain.varTypes Tryz.prog) (ds ++ gs)).all (· ≤ reachBytes) = true := hsz0
  have hW' := hW
  obtain ⟨p, q, hA0, hV, rfl, hfz, hnd⟩ := hW
  have hA : DataW.TrodAll enc Tryz.prog W 0 (fun _ => true) true Tryz.f3.params.toList args.toList ds p := hA0
  rw [Tryz.params3] at hA hval hsz
  obtain ⟨v0, d0, rfl, rfl, h0⟩ := trodAll_one hA
  obtain ⟨rfl, rfl⟩ := trodVars_none hV
  have hT := env_of hL
  obtain ⟨s, rfl, hd, rfl, _⟩ := ChangeMaps.open_string Tryz.underlying9 (hval 0 9 v0 rfl rfl) h0
  have hs : s.size ≤ 140737488355328 := by
    subst hd
    have := sized_string hsz (j := 0) (t := 9) rfl rfl
    simp only [reachBytes] at this
    rw [show s.size = s.data.toList.length from (bl_len s).symm]
    omega
  simp only [List.append_nil] at hW'
  clear hA0 hval0 hsz0
  refine (parses_walk s W hT hs).mono fun e W' ⟨he, hb⟩ => ?_
  subst he
  refine ⟨_, rfl, ⟨_, _, _, [], [], [], hW', trodAll_mk1 (shut_bool Tryz.underlying4 _), ?_, rfl, hb.frame _, fun h => by cases h⟩⟩
  exact trodAll_mk1 (Below.trod laidOut (by kernel_rfl) (of_decide_eq_true (by kernel_rfl)) h0 hb (fun z hz => by simp at hz))

theorem parses_holds : Rows.ConfParsesSaid :=
  OpenClaim.holds_of_wide 3 Tryz.f3 rfl rfl rfl rfl rfl rfl rfl ⟨rfl, rfl, rfl, rfl, rfl⟩ rfl rfl rfl rfl rfl (by kernel_rfl) Tryz.func3 (by kernel_rfl)
    (of_decide_eq_true (by kernel_rfl)) (by unfold Func.isWrapper; rw [if_neg (of_decide_eq_false (by kernel_rfl))]; exact ⟨rfl, rfl⟩)
    (fun os started H enc _ => parses_lifted os started H enc)
theorem parses_card : Rows.ConfParsesCardSaid :=
  Claim7.holds_tied_plain_at .later [] [.data, .data, .data, .data, .sentinel, .sentinel, .pinned] true Rows.confParsesCard.stood.harness true
    parses_holds (fun _ h => by cases h) (by kernel_rfl) (fun _ h => by cases h) confParses_row_tie rfl ⟨rfl, rfl⟩ (by kernel_rfl) rfl
    (fun f fn hf hfn => by
      obtain rfl : f = 3 := Option.some.inj ((show Tryz.prog.funcNamed "marlinspike/marlinspikelaw09.ConfParses" = some 3 by kernel_rfl).symm.trans hf) |>.symm
      obtain rfl : fn = Tryz.f3 := (Option.some.inj (Tryz.func3.symm.trans hfn)).symm
      exact ⟨by kernel_rfl, fun j t ht => by
        rw [Tryz.params3] at ht
        have hm : t ∈ [9] := by simpa using Array.mem_of_getElem? ht
        have hall : ([9].all fun u => !Tryz.prog.wantsStandIn u) = true := by kernel_rfl
        exact (show Tryz.prog.wantsStandIn t = false by simpa using List.all_eq_true.1 hall t hm)⟩)
    (by kernel_rfl)
end Go.Proofs.YtghnpkpmgpbmcaaGreatDoor
