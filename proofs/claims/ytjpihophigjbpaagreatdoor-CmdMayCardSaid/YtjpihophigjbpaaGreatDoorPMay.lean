/-
  PROVED: CmdMay: what is parsed may be, and is parsed again as it was, if its text is not too long, for every text.
  Conditions: the library's tables and its two errors read as the program's text lays them (the card ties them); nothing else.
-/
import Derived.Test.YtjpihophigjbpaaGreatDoorQC
import Derived.SizedLaws
set_option linter.unusedSimpArgs false
set_option linter.unusedVariables false
/-
  CmdMay, walked.
-/
namespace Go.Proofs.YtjpihophigjbpaaGreatDoor
open Go.RowKit Go.Shelf Vs

theorem cmdP_err {l : Str} {c : CmdC} {n : Int} (h : cmdP l = (c, n)) (hn : n ≠ 0) : c = noCmd := by
  unfold cmdP at h
  split at h
  · injection h with h1 h2; exact h1.symm
  · cases hws : words l with
    | nil => rw [hws] at h; injection h with h1 h2; exact h1.symm
    | cons k ws =>
      rw [hws, wordsQ_cons] at h
      cases hr : readC (kindQ k) ws with
      | none => rw [hr] at h; injection h with h1 h2; exact h1.symm
      | some c' => rw [hr] at h; injection h with h1 h2; exact absurd h2.symm hn
theorem right_parse {c : CmdC} (h : rightQ c = true) : cmdP (textQ c) = (c, 0) := by
  unfold rightQ at h
  rw [Bool.and_eq_true, decide_eq_true_eq] at h
  have := (sameQ_iff _ _).1 h.2
  exact Prod.ext this h.1
theorem inv_zero (W : World) : InvC noCmd [.int .i64 0, .string ⟨#[]⟩, .string ⟨#[]⟩, .string ⟨#[]⟩, .string ⟨#[]⟩, .int .i64 0, .int .i64 0, .int .i64 0, .int .i64 0, .int .i64 0, .int .i64 0, .bool false, .slice none 0 0, .slice none 0 0, .int .i64 0, .int .i64 0, .string ⟨#[]⟩] W := ⟨none, 0, none, 0, rfl, HasI.nil, HasA.nil⟩
section
attribute [local go_sem ↓] exec_ld_cmd exec_st_cmd exec_ld_rcmd exec_st_rcmd
set_option maxRecDepth 100000 in
set_option maxHeartbeats 2000000 in
theorem may_err (s : ByteArray) (c : CmdC) (n : Int) (w : World) (hw : Env w) (hcp : cmdP (bl s) = (c, n)) (hn : n ≠ 0) : Calls Tryz.prog 4 #[.string s] w (BoolP w true) := by
  obtain rfl := cmdP_err hcp hn
  have hfew := few_parse hcp
  have hpa := fun W (hW : Below w.heap.size w W) => let_parse (bl s) W (hw.below hW)
  rw [str_bl, hcp] at hpa
  have hal := fun W (hW : Below w.heap.size w W) => alive_any W (hw.below hW)
  unfold AnsP at hpa
  unfold BoolP at hal ⊢
  simp only at hpa
  have hou : ∀ (V : Array Value) W, InvC noCmd V.toList W → _ := fun V W h => let_ours (c := noCmd) (W := W) (by decide) h
  have hrs : ∀ (V : Array Value) W, InvC noCmd V.toList W → Calls Tryz.prog 11 #[.agg V, .agg #[.int .i64 0, .string ⟨#[]⟩, .string ⟨#[]⟩, .string ⟨#[]⟩, .string ⟨#[]⟩, .int .i64 0, .int .i64 0, .int .i64 0, .int .i64 0, .int .i64 0, .int .i64 0, .bool false, .slice none 0 0, .slice none 0 0, .int .i64 0, .int .i64 0, .string ⟨#[]⟩]] W (BoolP W true) := fun V W h => let_rsame (by decide) h (inv_zero W)
  unfold BoolP at hrs
  have e0 : (n != 0) = true := by simpa using hn
  clear hcp hn hfew
  go_enter Tryz.func4, Tryz.ntmps4
  go_upto_region 2 with (go_at_call 10; (with_reducible refine (hpa _ (Below.refl _ _)).mono ?_); rintro e w1 ⟨b1, U, hu, hu1, rfl, hi⟩; obtain ⟨w2, h2, q1, bA, zA⟩ := st_new (w := w1) hu hu1 #[.int .i64 0, .string ⟨#[]⟩, .string ⟨#[]⟩, .string ⟨#[]⟩, .string ⟨#[]⟩, .int .i64 0, .int .i64 0, .int .i64 0, .int .i64 0, .int .i64 0, .int .i64 0, .bool false, .slice none 0 0, .slice none 0 0, .int .i64 0, .int .i64 0, .string ⟨#[]⟩] rfl)
  have i2 := hi.below bA
  have g2 := b1.trans (bA.mono b1.size)
  clear hi b1 bA zA h2 hu1
  generalize w1.heap.size = c1 at *
  have l1 := ld_cmd q1 hu
  have zk := Box.lt q1
  replace q1 := fhid q1
  replace i2 := fhid i2
  replace hu := fhid hu
  go_wp2_with (first
    | (go_at_call 12; (with_reducible refine (hou _ _ i2.out).mono ?_); rintro e w3 ⟨b3, V, rfl, hj⟩; have g3 := g2.trans (b3.mono g2.size); replace hj := fhid hj)
    | (go_at_call 11; (with_reducible refine (hrs _ _ hj.out).mono ?_); rintro e w4 ⟨rfl, b4⟩; have g4 := g3.trans (b4.mono g3.size))
    | (go_at_call 9; (with_reducible refine (hal _ g4).mono ?_); rintro e w5 ⟨rfl, b5⟩))
  go_ret
  exact ⟨rfl, g4.trans (b5.mono g4.size)⟩
set_option maxRecDepth 100000 in
set_option maxHeartbeats 2000000 in
theorem may_no (s : ByteArray) (c : CmdC)  (w : World) (hw : Env w) (hcp : cmdP (bl s) = (c, 0)) (hR : rightQ c = false) : Calls Tryz.prog 4 #[.string s] w (BoolP w true) := by
  have hlen : 2000 < s.size := by
    by_cases h : 2000 < s.size
    · exact h
    · have := may_right hcp (by rw [bl_len]; omega)
      rw [hR] at this; cases this
  have hfew := few_parse hcp
  have hpa := fun W (hW : Below w.heap.size w W) => let_parse (bl s) W (hw.below hW)
  rw [str_bl, hcp] at hpa
  have hal := fun W (hW : Below w.heap.size w W) => alive_any W (hw.below hW)
  unfold AnsP at hpa
  unfold BoolP at hal ⊢
  simp only at hpa
  have hfo : ∀ (V : Array Value) W, Below w.heap.size w W → InvC c V.toList W → _ := fun V W hW h => let_format hfew (hw.below hW) h
  have hri : ∀ (V : Array Value) W, Below w.heap.size w W → InvC c V.toList W → _ := fun V W hW h => let_right hfew (hw.below hW) h
  have hff : fmtQ c = ([], 3) := by unfold fmtQ; rw [hR]; rfl
  unfold FmP at hfo
  unfold BoolP at hri
  rw [hff] at hfo
  rw [hR] at hri
  simp only at hfo
  have i0 : (s.size : Int) > 2000 := by omega
  clear hcp hfew hff hR hlen
  go_enter Tryz.func4, Tryz.ntmps4
  go_upto_region 2 with (go_at_call 10; (with_reducible refine (hpa _ (Below.refl _ _)).mono ?_); rintro e w1 ⟨b1, U, hu, hu1, rfl, hi⟩; obtain ⟨w2, h2, q1, bA, zA⟩ := st_new (w := w1) hu hu1 #[.int .i64 0, .string ⟨#[]⟩, .string ⟨#[]⟩, .string ⟨#[]⟩, .string ⟨#[]⟩, .int .i64 0, .int .i64 0, .int .i64 0, .int .i64 0, .int .i64 0, .int .i64 0, .bool false, .slice none 0 0, .slice none 0 0, .int .i64 0, .int .i64 0, .string ⟨#[]⟩] rfl)
  have i2 := hi.below bA
  have g2 := b1.trans (bA.mono b1.size)
  clear hi b1 bA zA h2 hu1
  generalize w1.heap.size = c1 at *
  have l1 := ld_cmd q1 hu
  have zk := Box.lt q1
  replace q1 := fhid q1
  replace i2 := fhid i2
  replace hu := fhid hu
  go_upto_region 5 with (go_at_call 7; (with_reducible refine (hfo _ _ g2 i2.out).mono ?_); rintro e w3 ⟨rfl, b3⟩)
  have g3 := g2.trans (b3.mono g2.size)
  have q3 := Box.below q1.out b3 zk
  have i3 := fhid (i2.out.below b3)
  have l3 := ld_cmd q3 hu.out
  replace q3 := fhid q3
  clear l1 zk hfo hpa
  go_wp2_with (first
    | (go_at_call 13; (with_reducible refine (hri _ _ g3 i3.out).mono ?_); rintro e w4 ⟨rfl, b4⟩; have g4 := g3.trans (b4.mono g3.size))
    | (go_at_call 9; (with_reducible refine (hal _ g4).mono ?_); rintro e w5 ⟨rfl, b5⟩))
  go_ret
  exact ⟨rfl, g4.trans (b5.mono g4.size)⟩
set_option maxRecDepth 100000 in
set_option maxHeartbeats 2000000 in
theorem may_yes (s : ByteArray) (c : CmdC)  (w : World) (hw : Env w) (hcp : cmdP (bl s) = (c, 0)) (hR : rightQ c = true) : Calls Tryz.prog 4 #[.string s] w (BoolP w true) := by
  have hfew := few_parse hcp
  have hpa := fun W (hW : Below w.heap.size w W) => let_parse (bl s) W (hw.below hW)
  rw [str_bl, hcp] at hpa
  have hal := fun W (hW : Below w.heap.size w W) => alive_any W (hw.below hW)
  unfold AnsP at hpa
  unfold BoolP at hal ⊢
  simp only at hpa
  have hfo : ∀ (V : Array Value) W, Below w.heap.size w W → InvC c V.toList W → _ := fun V W hW h => let_format hfew (hw.below hW) h
  have hri : ∀ (V : Array Value) W, Below w.heap.size w W → InvC c V.toList W → _ := fun V W hW h => let_right hfew (hw.below hW) h
  have hsa : ∀ (U V : Array Value) W, InvC c U.toList W → InvC c V.toList W → _ := fun U V W h1 h2 => let_same (c := c) (d := c) (W := W) h1 h2
  have hff : fmtQ c = (textQ c, 0) := by unfold fmtQ; rw [hR]; rfl
  have hpb := fun W (hW : Below w.heap.size w W) => let_parse (textQ c) W (hw.below hW)
  rw [right_parse hR] at hpb
  unfold AnsP at hpb
  unfold FmP at hfo
  unfold BoolP at hri hsa
  rw [hff] at hfo
  rw [hR] at hri
  rw [(sameQ_iff c c).2 rfl] at hsa
  simp only at hfo hpb
  generalize str (textQ c) = TX at *
  clear hcp hfew hff hR
  go_enter Tryz.func4, Tryz.ntmps4
  go_upto_region 2 with (go_at_call 10; (with_reducible refine (hpa _ (Below.refl _ _)).mono ?_); rintro e w1 ⟨b1, U, hu, hu1, rfl, hi⟩; obtain ⟨w2, h2, q1, bA, zA⟩ := st_new (w := w1) hu hu1 #[.int .i64 0, .string ⟨#[]⟩, .string ⟨#[]⟩, .string ⟨#[]⟩, .string ⟨#[]⟩, .int .i64 0, .int .i64 0, .int .i64 0, .int .i64 0, .int .i64 0, .int .i64 0, .bool false, .slice none 0 0, .slice none 0 0, .int .i64 0, .int .i64 0, .string ⟨#[]⟩] rfl)
  have i2 := hi.below bA
  have g2 := b1.trans (bA.mono b1.size)
  clear hi b1 bA zA h2 hu1
  generalize w1.heap.size = c1 at *
  have l1 := ld_cmd q1 hu
  have zk := Box.lt q1
  replace q1 := fhid q1
  replace i2 := fhid i2
  replace hu := fhid hu
  go_upto_region 5 with (go_at_call 7; (with_reducible refine (hfo _ _ g2 i2.out).mono ?_); rintro e w3 ⟨rfl, b3⟩)
  have g3 := g2.trans (b3.mono g2.size)
  have q3 := Box.below q1.out b3 zk
  have z3 := Box.lt q3
  have i3 := fhid (i2.out.below b3)
  replace q3 := fhid q3
  clear l1 zk hfo hpa
  go_upto_region 8 with (go_at_call 10; (with_reducible refine (hpb _ g3).mono ?_); rintro e w4 ⟨b4, X, hx, hx1, rfl, hj⟩; obtain ⟨w5, h5, q4, bA, z4⟩ := st_new (w := w4) hx hx1 #[.int .i64 0, .string ⟨#[]⟩, .string ⟨#[]⟩, .string ⟨#[]⟩, .string ⟨#[]⟩, .int .i64 0, .int .i64 0, .int .i64 0, .int .i64 0, .int .i64 0, .int .i64 0, .bool false, .slice none 0 0, .slice none 0 0, .int .i64 0, .int .i64 0, .string ⟨#[]⟩] rfl)
  have b5 := b4.trans (bA.mono b4.size)
  have q5 := Box.below q3.out b5 z3
  have i5 := i3.out.below b5
  have j5 := hj.below bA
  have g5 := g3.trans (b5.mono g3.size)
  clear hj b4 bA b5 hpb q1 q3 i2 i3 h5 hx1 z3 z4
  generalize w4.heap.size = c4 at *
  have l5 := ld_cmd q5 hu.out
  have l4 := ld_cmd q4 hx
  have zk := Box.lt q5
  replace q4 := fhid q4
  replace q5 := fhid q5
  replace hx := fhid hx
  replace i5 := fhid i5
  replace j5 := fhid j5
  go_wp2_with (first
    | (go_at_call 14; (with_reducible refine (hsa _ _ _ j5.out i5.out).mono ?_); rintro e w6 ⟨rfl, b6⟩; have g6 := g5.trans (b6.mono g5.size); have q6 := Box.below q5.out b6 zk; have i6 := fhid (i5.out.below b6); have l6 := ld_cmd q6 hu.out; replace q6 := fhid q6)
    | (go_at_call 13; (with_reducible refine (hri _ _ g6 i6.out).mono ?_); rintro e w7 ⟨rfl, b7⟩; have g7 := g6.trans (b7.mono g6.size))
    | (go_at_call 9; (with_reducible refine (hal _ g7).mono ?_); rintro e w8 ⟨rfl, b8⟩))
  go_ret
  exact ⟨rfl, g7.trans (b8.mono g7.size)⟩
end
theorem may_walk (s : ByteArray) (w : World) (hw : Env w) : Calls Tryz.prog 4 #[.string s] w (BoolP w true) := by
  obtain ⟨c, n, hcp⟩ : ∃ c n, cmdP (bl s) = (c, n) := ⟨_, _, rfl⟩
  by_cases hn : n = 0
  · subst hn
    cases hR : rightQ c with
    | false => exact may_no s c w hw hcp hR
    | true => exact may_yes s c w hw hcp hR
  · exact may_err s c n w hw hcp hn
end Go.Proofs.YtjpihophigjbpaaGreatDoor
namespace Go.Proofs.YtjpihophigjbpaaGreatDoor
open Go.ChangeShapes Go.WideShapes Go.ChangeAt Go.WideMaps Go.WideElems Go.RowKit Vs
set_option maxRecDepth 100000 in
theorem cmay_lifted (os : Os) (started : os.Started) (H : Type) (enc : TypeId × Value → H) :
    ReturnsInHanded {} Tryz.checked os 4 .any (fun w args => (Rows.cmdMaySpec.pre enc Tryz.prog Tryz.f4 [] false w args ∧ laidMetH Tryz.prog laidList w) ∧ sizedMet enc Tryz.prog Tryz.f4 (OpenSpec.ofChange Rows.cmdMaySpec) false w args)
      (Rows.cmdMaySpec.post enc Tryz.prog Tryz.f4 false true false false) := by
  refine returnsInHanded_of_change_and (C := Tryz.checked) (X := fun w _ => laidMetH Tryz.prog laidList w) (fun _ _ _ hh h => h.of_heap hh) own started (by kernel_rfl) Tryz.func4
    (ChangeSpec.witness_shaped (enc := enc) (C := Tryz.checked) (os := os) (X := fun w _ => laidMetH Tryz.prog laidList w) false (World.laidAll Tryz.prog os laidList) #[.string ⟨#[]⟩] 8 (World.laidAll_os _ _ _) (World.shaped_of_ZipB (by kernel_rfl) (by kernel_rfl)) (by kernel_rfl) (by kernel_rfl) (by kernel_rfl) (lay_met os _)) ?_
  intro W base args ds gs before hval0 hW _ hsz0 hL _
  have hval : ∀ (j : Nat) t v, Tryz.f4.params[j]? = some t → args[j]? = some v → Value.okWide Tryz.prog W .any base t v := hval0
  have hsz : (DataW.weightsEach Tryz.prog (Tryz.f4.params.toList ++ Rows.cmdMaySpec.plain.varTypes Tryz.prog) (ds ++ gs)).all (· ≤ reachBytes) = true := hsz0
  have hW' := hW
  obtain ⟨p, q, hA0, hV, rfl, hfz, hnd⟩ := hW
  have hA : DataW.TrodAll enc Tryz.prog W 0 (fun _ => true) true Tryz.f4.params.toList args.toList ds p := hA0
  rw [Tryz.params4] at hA hval hsz
  obtain ⟨v0, d0, rfl, rfl, h0⟩ := trodAll_one hA
  obtain ⟨rfl, rfl⟩ := trodVars_none hV
  have hT := env_of hL
  obtain ⟨s, rfl, hd, rfl, _⟩ := ChangeMaps.open_string Tryz.underlying9 (hval 0 9 v0 rfl rfl) h0
  simp only [List.append_nil] at hW'
  clear hA0 hval0 hsz0
  refine (may_walk s W hT).mono fun e W' ⟨he, hb⟩ => ?_
  subst he
  refine ⟨_, rfl, ⟨_, _, _, [], [], [], hW', trodAll_mk1 (shut_bool Tryz.underlying4 _), ?_, rfl, hb.frame _, fun h => by cases h⟩⟩
  exact trodAll_mk1 (Below.trod laidOut (by kernel_rfl) (of_decide_eq_true (by kernel_rfl)) h0 hb (fun z hz => by simp at hz))

theorem cmay_holds : Rows.CmdMaySaid :=
  OpenClaim.holds_of_wide 4 Tryz.f4 rfl rfl rfl rfl rfl rfl rfl ⟨rfl, rfl, rfl, rfl, rfl⟩ rfl rfl rfl rfl rfl (by kernel_rfl) Tryz.func4 (by kernel_rfl)
    (of_decide_eq_true (by kernel_rfl)) (by unfold Func.isWrapper; rw [if_neg (of_decide_eq_false (by kernel_rfl))]; exact ⟨rfl, rfl⟩)
    (fun os started H enc _ => cmay_lifted os started H enc)
theorem cmay_card : Rows.CmdMayCardSaid :=
  Claim7.holds_tied_plain_at .later [] [.data, .data, .data, .data, .sentinel, .sentinel, .pinned] true Rows.cmdMayCard.stood.harness true
    cmay_holds (fun _ h => by cases h) (by kernel_rfl) (fun _ h => by cases h) cmdMay_row_tie rfl ⟨rfl, rfl⟩ (by kernel_rfl) rfl
    (fun f fn hf hfn => by
      obtain rfl : f = 4 := Option.some.inj ((show Tryz.prog.funcNamed "marlinspike/marlinspikelaw10.CmdMay" = some 4 by kernel_rfl).symm.trans hf) |>.symm
      obtain rfl : fn = Tryz.f4 := (Option.some.inj (Tryz.func4.symm.trans hfn)).symm
      exact ⟨by kernel_rfl, fun j t ht => by
        rw [Tryz.params4] at ht
        have hm : t ∈ [9] := by simpa using Array.mem_of_getElem? ht
        have hall : ([9].all fun u => !Tryz.prog.wantsStandIn u) = true := by kernel_rfl
        exact (show Tryz.prog.wantsStandIn t = false by simpa using List.all_eq_true.1 hall t hm)⟩)
    (by kernel_rfl)
end Go.Proofs.YtjpihophigjbpaaGreatDoor
