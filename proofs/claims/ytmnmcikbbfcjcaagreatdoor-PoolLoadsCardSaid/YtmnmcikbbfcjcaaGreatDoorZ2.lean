/-
  Parts: ZAliveM ZAlive.
-/
import Derived.Test.YtmnmcikbbfcjcaaGreatDoorK7
import Derived.Test.YtmnmcikbbfcjcaaGreatDoorZ1
import Derived.Test.YtmnmcikbbfcjcaaGreatDoorD9
import Derived.Test.YtmnmcikbbfcjcaaGreatDoorW3
set_option linter.unusedSimpArgs false
set_option linter.unusedVariables false
/-
  The probe's config and pool, reckoned.
-/
namespace Go.Proofs.YtmnmcikbbfcjcaaGreatDoor.Ps
open Go.RowKit Ns

def smL2 : Str := [112, 97, 114, 116, 32, 112, 32, 110, 91, 48, 45, 51, 93]
def smText : Str := prL1 ++ 10 :: (smL2 ++ [10])
def smPart : PartC := ⟨[112], memL [0, 1, 2, 3], 256, 1000000, 0⟩
def smC : Cfg := ⟨prNames, prVecs, [smPart], [], [100, 10, 5, 1000, 0, 256, 16, 3]⟩
theorem sm_words2 : words (Vs.upTo 35 smL2) = [kPart, [112], prList] := by decide +kernel
theorem sm_line2 : lineP prC1 smL2 = .ok smC := by
  have h1 : isNameP [112] = true := by decide +kernel
  have h2 : optsP partS [] [] (untold partS) = some [256, 1000000, 0] := by decide +kernel
  have h3 : partWrong (partOf [112] (memL [0, 1, 2, 3]) [256, 1000000, 0]) = false := by decide +kernel
  unfold lineP
  rw [sm_words2]
  show partP prC1 [[112], prList] = _
  unfold partP
  simp only
  rw [h1, h2]
  simp only
  rw [pr_set]
  simp only
  rw [if_neg (by decide), if_neg (by decide), if_neg (by decide), h3, if_neg (by decide)]
  rfl
theorem sm_line3 : lineP smC [] = .ok smC := by
  unfold lineP
  rw [pr_words4]
  rfl
theorem sm_right : rightC smC = true := by decide +kernel
theorem sm_lines : lines smText = [prL1, smL2, []] := by decide +kernel
theorem sm_parse : parseC smText = (smC, 0, 0) := by
  unfold parseC
  rw [if_neg (by decide), sm_lines]
  simp only [linesP, pr_line1, sm_line2, sm_line3]
  rw [if_pos sm_right]
/-- The pools that the probe comes to. -/
def smP0 : Pl := ⟨[(0, 0, 0), (0, 0, 0), (0, 0, 0), (0, 0, 0)], 0, 10, 5, 3⟩
def smP1 : Pl := ⟨[(1, 0, 0), (0, 0, 0), (0, 0, 0), (0, 0, 0)], 0, 10, 5, 3⟩
def smP2 : Pl := ⟨[(0, 21, 1), (0, 0, 0), (0, 0, 0), (0, 0, 0)], 21, 10, 5, 3⟩
theorem sm_new : newP smC = smP0 := by kernel_rfl
theorem sm_do : doP smP0 0 1 = (smP1, 0) := by kernel_rfl
theorem sm_pow : Bs.cnt (whichP powN smP1.L) 256 = 1 := by decide +kernel
theorem sm_tick : (tickP smP1 21).1 = smP2 := by kernel_rfl
theorem sm_tick2 : (tickP smP1 21).2.2 = 0 := by kernel_rfl
theorem sm_set : Bs.nodes (tickP smP1 21).2.1 = .agg #[.int .u64 1, .int .u64 0, .int .u64 0, .int .u64 0] := by
  have h0 : Bs.word (tickP smP1 21).2.1 0 = 1 := by decide +kernel
  have h1 : Bs.word (tickP smP1 21).2.1 1 = 0 := by decide +kernel
  have h2 : Bs.word (tickP smP1 21).2.1 2 = 0 := by decide +kernel
  have h3 : Bs.word (tickP smP1 21).2.1 3 = 0 := by decide +kernel
  unfold Bs.nodes
  rw [h0, h1, h2, h3]
  rfl
end Go.Proofs.YtmnmcikbbfcjcaaGreatDoor.Ps
/-
  What each statement asks beside: a node that does not boot is off again.
-/
namespace Go.Proofs.YtmnmcikbbfcjcaaGreatDoor.Ps
open Go.RowKit Go.Shelf Vs Ns

/-- The tables that the statements read. -/
structure Env12 (w : World) : Prop where
  env : Env w
  tab : TabW w
  bit : Bs.Tab w
theorem Env12.below {w w' : World} (h : Env12 w) (hb : Below w.heap.size w w') : Env12 w' := ⟨h.env.below hb, h.tab.below hb, Bs.tab_below h.bit hb⟩
/-- A row that does not lie in a block stays while the block turns. -/
theorem rds_fx {w w' : World} {b n cap : Nat} {A : Option Addr} {xs : List Value} (h : RdS w A n cap xs) (hf : FX (At3 b) w w') (hx : ∀ o, A = some ⟨b, o, none⟩ → 0 < xs.length → False) : RdS w' A n cap xs := by
  refine ⟨h.1, h.2.1, fun h0 => ?_⟩
  obtain ⟨b', o, e, hb, hc⟩ := h.2.2 h0
  refine ⟨b', o, e, Nat.lt_of_lt_of_le hb hf.size, fun j hj => ?_⟩
  have hne : ¬ At3 b b' := fun hq => by
    obtain rfl : b' = b := hq
    exact hx o e h0
  exact (World.cell?_of_block (hf.block b' hb hne)).trans (hc j hj)
theorem zeros_mem {o : Nat} {x : Value} (h : zeros12[o]? = some x) : (x = .slice none 0 0 ∧ o < 4) ∨ (x = .int .i64 0 ∧ 4 ≤ o ∧ o < 12) := by
  unfold zeros12 at h
  match o, h with
  | 0, h | 1, h | 2, h | 3, h => simp at h; exact .inl ⟨h.symm, by omega⟩
  | 4, h | 5, h | 6, h | 7, h | 8, h | 9, h | 10, h | 11, h => simp at h; exact .inr ⟨h.symm, by omega⟩
  | o + 12, h => simp at h
/-- The probe's config stays while a block of a config that is nothing turns. -/
theorem cr_fx {w w' : World} {b : Nat} {T : TypeId} {v : Value} (h : CR w v smC) (hb : Box w b T zeros12) (hf : FX (At3 b) w w') : CR w' v smC := by
  obtain ⟨AN, cN, AV, cV, AP, cP, AQ, cQ, a0, a1, a2, a3, a4, a5, a6, a7, e, ev, r1, r2, r3, r4⟩ := h
  refine ⟨AN, cN, AV, cV, AP, cP, AQ, cQ, a0, a1, a2, a3, a4, a5, a6, a7, e, ev, rds_fx r1 hf ?_, rds_fx r2 hf ?_, rds_fx r3 hf ?_, rds_fx r4 hf ?_⟩
  · intro o e h0
    obtain ⟨b', o', e2, _, hc⟩ := r1.2.2 h0
    rw [e] at e2
    injection e2 with e2
    injection e2 with e3 e4
    subst e3 e4
    have h1 := (hc 0 h0).symm.trans (Box.cell hb (o + 0))
    rcases zeros_mem h1.symm with ⟨h2, _⟩ | ⟨h2, _⟩
    · exact absurd h2 (by simp [SV, smC, prNames])
    · exact absurd h2 (by simp [SV, smC, prNames])
  · intro o e h0
    obtain ⟨b', o', e2, _, hc⟩ := r2.2.2 h0
    rw [e] at e2
    injection e2 with e2
    injection e2 with e3 e4
    subst e3 e4
    have hl : (VVs smC.vecs).length = 12 := rfl
    have h1 := (hc 0 h0).symm.trans (Box.cell hb (o + 0))
    have h3 := (hc 11 (by omega)).symm.trans (Box.cell hb (o + 11))
    rcases zeros_mem h3.symm with ⟨_, h4⟩ | ⟨_, h4, h5⟩
    · omega
    · rcases zeros_mem h1.symm with ⟨h2, _⟩ | ⟨_, h6, _⟩
      · exact absurd h2 (by simp [VVs, smC, prVecs])
      · omega
  · intro o e h0
    obtain ⟨b', o', e2, _, hc⟩ := r3.2.2 h0
    rw [e] at e2
    injection e2 with e2
    injection e2 with e3 e4
    subst e3 e4
    have h1 := (hc 0 h0).symm.trans (Box.cell hb (o + 0))
    rcases zeros_mem h1.symm with ⟨h2, _⟩ | ⟨h2, _⟩
    · exact absurd h2 (by simp [PVs, smC, partV, smPart])
    · exact absurd h2 (by simp [PVs, smC, partV, smPart])
  · intro o e h0
    exact absurd h0 (by decide)
theorem sm_text : bl ⟨#[110, 111, 100, 101, 32, 110, 91, 48, 45, 51, 93, 32, 99, 112, 117, 61, 52, 10, 112, 97, 114, 116, 32, 112, 32, 110, 91, 48, 45, 51, 93, 10]⟩ = smText := by kernel_rfl
set_option maxRecDepth 100000 in
set_option maxHeartbeats 4000000 in
theorem small_any (w : World) : Calls Tryz.prog 14 #[] w fun e w' => ∃ v, e = .returned v ∧ CR w' v smC ∧ Below w.heap.size w w' := by
  have hpa := fun W => rParse_any9 ⟨#[110, 111, 100, 101, 32, 110, 91, 48, 45, 51, 93, 32, 99, 112, 117, 61, 52, 10, 112, 97, 114, 116, 32, 112, 32, 110, 91, 48, 45, 51, 93, 10]⟩ W (by decide)
  rw [sm_text, sm_parse] at hpa
  unfold ParseP at hpa
  simp only at hpa
  have X0 := Box.new w TRConf9 zeros12
  have B0 : Below w.heap.size w (w.alloc (.cells zeros12.toArray TRConf9)) := (Below.refl _ _).alloc (Nat.le_refl _) _
  unfold zeros12 at X0 B0
  go_enter Tryz.func14, Tryz.ntmps14
  go_upto_region 1 with fail
  generalize w.alloc _ = w1 at *
  go_upto_region 2 with (go_at_call 27; (with_reducible refine (hpa _).mono ?_); rintro e w2 ⟨v, rfl, hcr, b2⟩
                         have hcr0 := fhid hcr
                         obtain ⟨AN, cN, AV, cV, AP, cP, AQ, cQ, a0, a1, a2, a3, a4, a5, a6, a7, rfl, -, -, -, -, -⟩ := hcr)
  rw [show smC.names.length = 4 from rfl, show smC.vecs.length = 4 from rfl, show smC.parts.length = 1 from rfl, show smC.qos.length = 0 from rfl] at hcr0 ⊢
  obtain ⟨q0, q1, bA, hz⟩ := two_boxes w2 TRConf9 TFault [.slice AN 4 cN, .slice AV 4 cV, .slice AP 1 cP, .slice AQ 0 cQ, .int .i64 a0, .int .i64 a1, .int .i64 a2, .int .i64 a3, .int .i64 a4, .int .i64 a5, .int .i64 a6, .int .i64 a7] [.int .i64 0, .int .i64 0]
  have B2 := (B0.trans (b2.mono B0.size))
  have B3 := B2.trans (bA.mono B2.size)
  have X2 := Box.below (Box.below X0 b2 (Box.lt X0)) bA (Nat.lt_of_lt_of_le (Box.lt X0) b2.size)
  have hcr3 := fhid ((hcr0.out.below bA))
  have hne : w.heap.size ≠ w2.heap.size := by have := Nat.lt_of_lt_of_le (Box.lt X0) b2.size; omega
  have hne' : w2.heap.size ≠ w.heap.size := hne.symm
  generalize (w2.alloc _).alloc _ = W3 at *
  obtain ⟨c0, c1, c2, c3, c4, c5, c6, c7, c8, c9, c10, c11⟩ := Box.twelve q0
  obtain ⟨d0, d1, d2, d3, d4, d5, d6, d7, d8, d9, d10, d11⟩ := Box.twelve X2
  have fr := Box.free X2
  have rl := Box.lt X2
  have zl := Box.lt q0
  have XQ := fhid (fill_box X2 (.slice AN 4 cN) (.slice AV 4 cV) (.slice AP 1 cP) (.slice AQ 0 cQ) (.int .i64 a0) (.int .i64 a1) (.int .i64 a2) (.int .i64 a3) (.int .i64 a4) (.int .i64 a5) (.int .i64 a6) (.int .i64 a7))
  have FQ := fhid (fill_fx (FX.of (X := At3 w.heap.size) (Below.refl W3.heap.size W3)) rfl (.slice AN 4 cN) (.slice AV 4 cV) (.slice AP 1 cP) (.slice AQ 0 cQ) (.int .i64 a0) (.int .i64 a1) (.int .i64 a2) (.int .i64 a3) (.int .i64 a4) (.int .i64 a5) (.int .i64 a6) (.int .i64 a7))
  have hX2 : Box W3 w.heap.size TRConf9 zeros12 := X2
  replace hX2 := fhid hX2
  replace X2 := fhid X2
  replace q0 := fhid q0
  replace q1 := fhid q1
  go_wp2
  generalize World.setCell (World.setCell (World.setCell (World.setCell (World.setCell (World.setCell (World.setCell (World.setCell (World.setCell (World.setCell (World.setCell (World.setCell _ _ _) _ _) _ _) _ _) _ _) _ _) _ _) _ _) _ _) _ _) _ _) _ _ = W6 at *
  obtain ⟨u0, u1, u2, u3, u4, u5, u6, u7, u8, u9, u10, u11⟩ := Box.twelve XQ.out
  refine bodyPost_ret (v := .agg #[.slice AN 4 cN, .slice AV 4 cV, .slice AP 1 cP, .slice AQ 0 cQ, .int .i64 a0, .int .i64 a1, .int .i64 a2, .int .i64 a3, .int .i64 a4, .int .i64 a5, .int .i64 a6, .int .i64 a7]) (by simp [results, Tryz.results14, go_sem, u0, u1, u2, u3, u4, u5, u6, u7, u8, u9, u10, u11]) rfl ⟨_, rfl, cr_fx hcr3.out hX2.out FQ.out, B3.trans (FQ.out.below (B := w.heap.size) (fun j hj => by unfold At3 at hj; omega) B3.size)⟩
set_option maxRecDepth 100000 in
set_option maxHeartbeats 8000000 in
theorem alive_any (w : World) (hw : Env12 w) : Calls Tryz.prog 5 #[] w (BoolP w true) := by
  have hsm := small_any w
  have hth := fun v W h => theirs_any v smC W h (by decide) (by decide)
  unfold ConfP at hth
  have hnw := fun v W h (hb : Below w.heap.size w W) => New_yes v smC W h (hw.below hb).env sm_right
  rw [sm_new] at hnw
  have hG0 : Good smP0 := by
    have := (good_new (c := smC) sm_right rfl).1
    rwa [sm_new] at this
  have hG1 : Good smP1 := by
    have := (act_facts hG0 (0, 0, 1, fun _ => false)).1
    rw [show actP smP0 (0, 0, 1, fun _ => false) = ((doP smP0 0 1).1, fun _ => false, (doP smP0 0 1).2) from rfl, sm_do] at this
    exact this
  have hG2 : Good smP2 := by
    have := (act_facts hG1 (2, 21, 0, fun _ => false)).1
    rw [show actP smP1 (2, 21, 0, fun _ => false) = tickP smP1 21 from rfl, sm_tick] at this
    exact this
  have hdo := fun p W (h : PB W p smP0) (hE : Env12 W) => Do_any p smP0 0 1 W h hG0 hE.tab hE.bit
  rw [sm_do] at hdo
  have hpw := fun p W (h : PB W p smP1) => Powered_any p smP1 W h hG1.l1 hG1.l2
  rw [sm_pow] at hpw
  have htk := fun p W (h : PB W p smP1) (hE : Env12 W) => Tick_any p smP1 21 W h hG1 hE.tab hE.bit
  unfold TickPost at htk
  rw [sm_tick, sm_tick2, sm_set] at htk
  unfold AllPost at hdo
  have hnd := fun p W (h : PB W p smP2) => Node_any p smP2 0 W h hG2.l1
  rw [show nodeAt smP2 0 = ((0, 21, 1), 0) from by kernel_rfl] at hnd
  unfold nv at hnd
  have hno := fun p W (h : PB W p smP2) => Now_any p smP2 W h hG2.l1
  rw [show smP2.now = 21 from rfl] at hno
  have he := fun w => eq_same 1 0 0 0 w
  simp only at hdo hnd htk
  clear hG0 hG1 hG2
  unfold BoolP
  have hf := fhid (show ∀ (W W' : World) (p : Nat), w.heap.size ≤ p → Below w.heap.size w W → FX (At3 p) W W' → Below w.heap.size w W' from fun W W' p hp hb hf => hb.trans (hf.below (B := w.heap.size) (fun j hj => by have hj : j = p := hj; rw [hj]; exact hp) hb.size))
  have hE := fhid (fun W (hb : Below w.heap.size w W) => hw.below hb)
  replace hw := fhid hw
  go_enter Tryz.func5, Tryz.ntmps5
  go_upto_region 2 with (first
    | (go_at_call 14; (with_reducible refine hsm.mono ?_); rintro e w1 ⟨v1, rfl, hcr1, b1⟩)
    | (go_at_call 7; (with_reducible refine (hth _ _ hcr1).mono ?_); rintro e w2 ⟨v2, rfl, hcr2, b2⟩; have B2 := b1.trans (b2.mono b1.size))
    | (go_at_call 6; (with_reducible refine (hnw _ _ hcr2 B2).mono ?_); rintro e w3 ⟨p, rfl, hp, b3⟩))
  have P3 := hp.pb
  have hwp := Nat.le_trans B2.size hp.1
  have B3 := B2.trans (b3.mono B2.size)
  clear hp hsm hth hnw hcr1 hcr2
  replace P3 := fhid P3
  go_upto_region 4 with (first
    | (go_at_call 15; (with_reducible refine (hdo _ _ P3.out (hE.out _ B3)).mono ?_); rintro e w4 ⟨rfl, P4, f4⟩
       have B4 := hf.out _ _ _ hwp B3 f4
       replace P4 := fhid P4)
    | (go_at_call 16; (with_reducible refine (hpw _ _ P4.out).mono ?_); rintro e w5 ⟨rfl, b5⟩
       have P5 := fhid (P4.out.below b5)
       have B5 := B4.trans (b5.mono B4.size)))
  go_upto_region 5 with (go_at_call 17; (with_reducible refine (htk _ _ P5.out (hE.out _ B5)).mono ?_); rintro e w6 ⟨rfl, P6, f6⟩; have B6 := hf.out _ _ _ hwp B5 f6)
  have m6 := (Below.refl w6.heap.size w6).alloc (Nat.le_refl _) (.cells #[.int .u64 1, .int .u64 0, .int .u64 0, .int .u64 0] TNodes)
  have X6 := Box.new w6 TNodes [.int .u64 1, .int .u64 0, .int .u64 0, .int .u64 0]
  have P7 := fhid (P6.below m6)
  have B7 := B6.trans (m6.mono B6.size)
  generalize w6.alloc _ = w7 at *
  replace P6 := fhid P6
  have xl := Box.lt X6
  replace X6 := fhid X6
  go_upto_region 6 with (go_at_call 13; (with_reducible refine (hnd _ _ P7.out).mono ?_); rintro e w8 ⟨rfl, b8⟩)
  have m8 := (Below.refl w8.heap.size w8).alloc (Nat.le_refl _) (.cells #[.int .i64 0, .int .i64 21, .int .i64 1] TNd)
  have N8 := NB.new w8 TNd (0, 21, 1)
  have t8 := b8.trans (m8.mono b8.size)
  have X8 := Box.below X6.out t8 xl
  have P8 := fhid (P7.out.below t8)
  have B8 := B7.trans (t8.mono B7.size)
  simp only at N8
  generalize w8.alloc _ = w9 at *
  obtain ⟨g0, g1, g2, _, _, _, gl⟩ := N8.facts
  simp only at g0 g1 g2
  obtain ⟨⟨y0, y1, y2, y3⟩, -, -, -, -⟩ := Box.four X8
  have yl := Box.lt X8
  replace X8 := fhid X8
  go_wp2_with (go_at_call 12; (with_reducible refine (hno _ _ P8.out).mono ?_); rintro e w10 ⟨rfl, rfl⟩)
  go_ret
  exact ⟨rfl, B8⟩
end Go.Proofs.YtmnmcikbbfcjcaaGreatDoor.Ps
