/-
  Parts: QText QOptT QTxt QOpq.
-/
import Derived.Test.YtjpihophigjbpaaGreatDoorQ1
import Derived.Test.YtjpihophigjbpaaGreatDoorD2
import Derived.Test.YtjpihophigjbpaaGreatDoorY2
import Derived.Test.YtjpihophigjbpaaGreatDoorQ3
import Derived.Deep.MidRow
import Derived.BigCall
set_option linter.unusedSimpArgs false
set_option linter.unusedVariables false
/-
  Each option's text, whichever it is.
-/
namespace Go.Proofs.YtjpihophigjbpaaGreatDoor
open Go.RowKit Go.Shelf Vs

/-- What a call that gives a text hands back. -/
def TxP (w : World) (l : Str) (e : Ending) (w' : World) : Prop := e = .returned (.string (str l)) ∧ Below w.heap.size w w'
/-- A command's numbers are whole numbers, its lists of no great bulk. -/
def WideC (c : CmdC) : Prop := (I64 c.nodes ∧ I64 c.time ∧ I64 c.run ∧ I64 c.job) ∧ (I64 c.req.1 ∧ I64 c.req.2.1 ∧ I64 c.req.2.2) ∧ c.items.length ≤ 1048576 ∧ (∀ x ∈ c.items, x.2.length ≤ 1048576 ∧ ∀ n ∈ x.2, n < 9223372036854775808)
abbrev NoX : Nat → Prop := fun _ => False
theorem tabD {w : World} (h : Env w) : Ds.Tab w := h.1
theorem tabY {w : World} (h : Env w) : Ys.Tab w := h.1
set_option maxRecDepth 100000 in
set_option maxHeartbeats 1000000 in
theorem textReq_any (b K : Nat) (c : CmdC) (w : World) (hw : Env w) (hK : w.cell? ⟨K, 0, none⟩ = some (.pointer (some ⟨b, 0, none⟩))) (hc : CB NoX w b c) (hn : WideC c) :
    Calls Tryz.prog 45 #[.pointer (some ⟨K, 0, none⟩)] w (TxP w (Vs.fmt c.req)) := by
  obtain ⟨vi, va, hb, _, _⟩ := hc
  obtain ⟨_, ⟨h1, h2, h3⟩, _⟩ := hn
  have hf := Vs.Format_any c.req.1 c.req.2.1 c.req.2.2 w hw h1 h2 h3
  have k8 : w.cell? ⟨b, 8, none⟩ = some (.int .i64 c.req.1) := Box.cell hb 8
  have k9 : w.cell? ⟨b, 9, none⟩ = some (.int .i64 c.req.2.1) := Box.cell hb 9
  have k10 : w.cell? ⟨b, 10, none⟩ = some (.int .i64 c.req.2.2) := Box.cell hb 10
  unfold TxP
  rw [show (c.req.1, c.req.2.1, c.req.2.2) = c.req from rfl] at hf
  generalize str (Vs.fmt c.req) = S at *
  unfold Vs.vec at hf
  clear hb
  go_enter Tryz.func45, Tryz.ntmps45
  go_wp2_with (go_at_call 46; (with_reducible refine hf.mono ?_); rintro e w1 ⟨rfl, g1⟩)
  go_ret
  exact ⟨rfl, g1⟩
set_option maxRecDepth 100000 in
set_option maxHeartbeats 1000000 in
theorem textDep_any (b K : Nat) (c : CmdC) (w : World) (hw : Env w) (hK : w.cell? ⟨K, 0, none⟩ = some (.pointer (some ⟨b, 0, none⟩))) (hc : CB NoX w b c) (hn : WideC c) :
    Calls Tryz.prog 49 #[.pointer (some ⟨K, 0, none⟩)] w (TxP w (Ds.depT c.any c.items)) := by
  obtain ⟨vi, va, hb, hi, _⟩ := hc
  obtain ⟨A, cap, rfl, _, _, hs⟩ := hi.its
  obtain ⟨_, _, h1, h2⟩ := hn
  have hf := Ds.FormatU_any c.any c.items A cap w (tabD hw) hs h1 h2
  have k11 : w.cell? ⟨b, 11, none⟩ = some (.bool c.any) := Box.cell hb 11
  have k12 : w.cell? ⟨b, 12, none⟩ = some (.slice A c.items.length cap) := Box.cell hb 12
  unfold TxP
  unfold Ds.TP Ds.str at hf
  unfold Vs.str
  clear hb hi hs
  generalize (⟨(Ds.depT c.any c.items).toArray⟩ : ByteArray) = S at *
  go_enter Tryz.func49, Tryz.ntmps49
  go_wp2_with (go_at_call 50; (with_reducible refine hf.mono ?_); rintro e w1 ⟨rfl, g1⟩)
  go_ret
  exact ⟨rfl, g1⟩
set_option maxRecDepth 100000 in
set_option maxHeartbeats 1000000 in
theorem textArr_any (b K : Nat) (c : CmdC) (w : World) (hw : Env w) (hK : w.cell? ⟨K, 0, none⟩ = some (.pointer (some ⟨b, 0, none⟩))) (hc : CB NoX w b c) :
    Calls Tryz.prog 53 #[.pointer (some ⟨K, 0, none⟩)] w (TxP w (if Ys.right c.idx c.lim = true then Ys.fmtT c.idx c.lim else [])) := by
  obtain ⟨vi, va, hb, _, ha⟩ := hc
  obtain ⟨A, cap, rfl, hlc, _, hs⟩ := ha.ints
  have hf := Ys.Format_any c.idx A cap c.lim w (tabY hw) hs hlc
  have k13 : w.cell? ⟨b, 13, none⟩ = some (.slice A c.idx.length cap) := Box.cell hb 13
  have k14 : w.cell? ⟨b, 14, none⟩ = some (.int .i64 c.lim) := Box.cell hb 14
  unfold TxP
  unfold Ys.FmtPost Ds.str at hf
  unfold Vs.str
  clear hb ha hs
  generalize c.idx.length = n at *
  cases hr : Ys.right c.idx c.lim with
  | true =>
    rw [hr] at hf
    simp only [if_true] at hf ⊢
    generalize (⟨(Ys.fmtT c.idx c.lim).toArray⟩ : ByteArray) = S at *
    clear hr
    go_enter Tryz.func53, Tryz.ntmps53
    go_wp2_with (go_at_call 54; (with_reducible refine hf.mono ?_); rintro e w1 ⟨rfl, g1⟩)
    go_ret
    exact ⟨rfl, g1⟩
  | false =>
    rw [hr] at hf
    simp only [Bool.false_eq_true, if_false] at hf ⊢
    clear hr
    go_enter Tryz.func53, Tryz.ntmps53
    go_wp2_with (go_at_call 54; (with_reducible refine hf.mono ?_); rintro e w1 ⟨rfl, g1⟩)
    go_ret
    exact ⟨rfl, g1⟩
theorem txF_enters (i : Nat) : ∀ args w, (callFunc (txF i) args).run Tryz.prog w = .ok (.enter (txF i) args) w := by
  rcases i with _ | _ | _ | _ | _ | _ | _ | _ | _ | _ | i
  · exact enters_of Tryz.func63 (by kernel_rfl) rfl
  · exact enters_of Tryz.func63 (by kernel_rfl) rfl
  · exact enters_of Tryz.func65 (by kernel_rfl) rfl
  · exact enters_of Tryz.func65 (by kernel_rfl) rfl
  · exact enters_of Tryz.func45 (by kernel_rfl) rfl
  · exact enters_of Tryz.func63 (by kernel_rfl) rfl
  · exact enters_of Tryz.func63 (by kernel_rfl) rfl
  · exact enters_of Tryz.func49 (by kernel_rfl) rfl
  · exact enters_of Tryz.func53 (by kernel_rfl) rfl
  · exact enters_of Tryz.func65 (by kernel_rfl) rfl
  · exact enters_of Tryz.func65 (by kernel_rfl) rfl
/-- Any option's text. -/
theorem tx_any (i : Nat) (hi : i < 10) (b K : Nat) (c : CmdC) (w : World) (hw : Env w) (hK : w.cell? ⟨K, 0, none⟩ = some (.pointer (some ⟨b, offQ i, none⟩))) (hc : CB NoX w b c) (hn : WideC c) :
    Calls Tryz.prog (txF i) #[.pointer (some ⟨K, 0, none⟩)] w (TxP w (txtQ i c)) := by
  have hc2 := hc
  obtain ⟨vi, va, hb, _, _⟩ := hc2
  obtain ⟨⟨n1, n2, n3, _⟩, _⟩ := id hn
  rcases i with _ | _ | _ | _ | _ | _ | _ | _ | _ | _ | i
  · exact textName_any b 1 K (str c.user) w hK (Box.cell hb 1)
  · exact textName_any b 2 K (str c.part) w hK (Box.cell hb 2)
  · exact textNum_any b 5 K c.nodes w hw hK (Box.cell hb 5) n1
  · exact textNum_any b 6 K c.time w hw hK (Box.cell hb 6) n2
  · exact textReq_any b K c w hw hK hc hn
  · exact textName_any b 3 K (str c.qos) w hK (Box.cell hb 3)
  · exact textName_any b 4 K (str c.name) w hK (Box.cell hb 4)
  · exact textDep_any b K c w hw hK hc hn
  · exact textArr_any b K c w hw hK hc
  · exact textNum_any b 7 K c.run w hw hK (Box.cell hb 7) n3
  · omega
end Go.Proofs.YtjpihophigjbpaaGreatDoor
/-
  The text of a submit's options.
-/
namespace Go.Proofs.YtjpihophigjbpaaGreatDoor
open Go.RowKit Go.Shelf Vs

theorem CB.new {w : World} {c : CmdC} {vi va : Value} (h1 : HasI NoX w vi c.items) (h2 : HasA NoX w va c.idx) : CB NoX (w.alloc (.cells (cellsC c vi va).toArray TCmd)) w.heap.size c :=
  ⟨vi, va, Box.new w TCmd (cellsC c vi va), h1.keep (fun k hk _ => Below.heap_alloc _ _ _ hk) (by rw [World.size_alloc]; omega), h2.keep (fun k hk _ => Below.heap_alloc _ _ _ hk) (by rw [World.size_alloc]; omega)⟩
def prefT (k : Nat) (c : CmdC) : Str := (List.range k).flatMap fun i => optT i c
theorem prefT_succ (k : Nat) (c : CmdC) : prefT (k + 1) c = prefT k c ++ optT k c := by
  unfold prefT
  rw [List.range_succ, List.flatMap_append]
  simp
theorem keys_len : ∀ k < 10, (keysQ.getD k []).length ≤ 10 := by decide
theorem optT_len (c : CmdC) (k : Nat) (hk : k < 10) (h : (txtQ k c).length ≤ 1125899906842624) : (optT k c).length ≤ 1125899906842644 := by
  unfold optT
  split
  · simp
  · have := keys_len k hk
    simp only [List.length_cons, List.length_append]
    omega
theorem prefT_len (c : CmdC) (h : ∀ i, i < 10 → (txtQ i c).length ≤ 1125899906842624) : ∀ k, k ≤ 10 → (prefT k c).length ≤ k * 1125899906842644
  | 0, _ => by simp [prefT]
  | k + 1, hk => by
    have h1 := prefT_len c h k (by omega)
    have h2 := optT_len c k (by omega) (h k (by omega))
    rw [prefT_succ, List.length_append, Nat.add_mul]
    omega
theorem range_at (k : Nat) (h : k < (List.range 10).length) : (List.range 10)[k] = k := by simp
set_option maxRecDepth 100000 in
set_option maxHeartbeats 8000000 in
theorem optionsText_any (c : CmdC) (Ai Aa : Option Addr) (ni na ci ca : Nat) (w : World) (hw : Env w) (h1 : HasI NoX w (.slice Ai ni ci) c.items) (h2 : HasA NoX w (.slice Aa na ca) c.idx) (hn : WideC c) (hb : WideC bareC) (hTL : ∀ i, i < 10 → (txtQ i c).length ≤ 1125899906842624) :
    Calls Tryz.prog 25 #[.agg #[.int .i64 c.kind, .string (str c.user), .string (str c.part), .string (str c.qos), .string (str c.name), .int .i64 c.nodes, .int .i64 c.time, .int .i64 c.run, .int .i64 c.req.1, .int .i64 c.req.2.1, .int .i64 c.req.2.2, .bool c.any, .slice Ai ni ci, .slice Aa na ca, .int .i64 c.lim, .int .i64 c.job, .string (str c.host)]] w (TxP w (optsT c)) := by
  have hbare : ∀ W : World, Calls Tryz.prog 32 #[] W fun e w' => e = .returned (.agg #[.int .i64 1, .string ⟨#[]⟩, .string ⟨#[]⟩, .string ⟨#[]⟩, .string ⟨#[]⟩, .int .i64 1, .int .i64 0, .int .i64 0, .int .i64 0, .int .i64 0, .int .i64 0, .bool false, .slice none 0 0, .slice none 0 0, .int .i64 0, .int .i64 0, .string ⟨#[]⟩]) ∧ Below W.heap.size W w' := fun W => bareSubmit_any W
  have hop := fun b W => options_any b W
  unfold MadeOs at hop
  have q0 : CB NoX (w.alloc (.cells #[.int .i64 c.kind, .string (str c.user), .string (str c.part), .string (str c.qos), .string (str c.name), .int .i64 c.nodes, .int .i64 c.time, .int .i64 c.run, .int .i64 c.req.1, .int .i64 c.req.2.1, .int .i64 c.req.2.2, .bool c.any, .slice Ai ni ci, .slice Aa na ca, .int .i64 c.lim, .int .i64 c.job, .string (str c.host)] TCmd)) w.heap.size c := CB.new (vi := .slice Ai ni ci) (va := .slice Aa na ca) h1 h2
  have g0 : Below w.heap.size w (w.alloc (.cells #[.int .i64 c.kind, .string (str c.user), .string (str c.part), .string (str c.qos), .string (str c.name), .int .i64 c.nodes, .int .i64 c.time, .int .i64 c.run, .int .i64 c.req.1, .int .i64 c.req.2.1, .int .i64 c.req.2.2, .bool c.any, .slice Ai ni ci, .slice Aa na ca, .int .i64 c.lim, .int .i64 c.job, .string (str c.host)] TCmd)) := (Below.refl _ _).alloc (Nat.le_refl _) _
  have htx := fun (i : Nat) hi K W hW hK (hc : CB NoX W w.heap.size c) => tx_any i hi w.heap.size K c W hW hK hc hn
  have hbx := fun (i : Nat) hi b K W hW hK (hc : CB NoX W b bareC) => tx_any i hi b K bareC W hW hK hc hb
  have htot := fhid (show optsT c = prefT 10 c from rfl)
  have hsuc := fhid (fun k => prefT_succ k c)
  have hple := fhid (fun k hk => prefT_len c hTL k hk)
  replace hTL := fhid hTL
  have hpre0 := fhid (show prefT 0 c = [] from rfl)
  unfold TxP at htx hbx ⊢
  rw [htot.out]
  generalize hTT : prefT 10 c = TT at *
  replace hTT := fhid hTT
  clear h1 h2 hn hb
  replace hw := fhid hw
  go_enter Tryz.func25, Tryz.ntmps25
  go_upto_region 1 with fail
  generalize w.alloc _ = w0 at *
  have z0 := q0.lt
  replace q0 := fhid q0
  go_upto_region 2 with (go_at_call 32; (with_reducible refine (hbare _).mono ?_); rintro e w1 ⟨rfl, b1⟩)
  have b2 : Below w1.heap.size w1 (w1.alloc (.cells #[.int .i64 1, .string ⟨#[]⟩, .string ⟨#[]⟩, .string ⟨#[]⟩, .string ⟨#[]⟩, .int .i64 1, .int .i64 0, .int .i64 0, .int .i64 0, .int .i64 0, .int .i64 0, .bool false, .slice none 0 0, .slice none 0 0, .int .i64 0, .int .i64 0, .string ⟨#[]⟩] TCmd)) := (Below.refl _ _).alloc (Nat.le_refl _) _
  have q2 : CB NoX (w1.alloc (.cells #[.int .i64 1, .string ⟨#[]⟩, .string ⟨#[]⟩, .string ⟨#[]⟩, .string ⟨#[]⟩, .int .i64 1, .int .i64 0, .int .i64 0, .int .i64 0, .int .i64 0, .int .i64 0, .bool false, .slice none 0 0, .slice none 0 0, .int .i64 0, .int .i64 0, .string ⟨#[]⟩] TCmd)) w1.heap.size bareC := CB.new (c := bareC) (vi := .slice none 0 0) (va := .slice none 0 0) HasI.nil HasA.nil
  have q1 := (q0.out.on b1).on b2
  have g2 := g0.trans ((b1.trans (b2.mono b1.size)).mono g0.size)
  clear b1 b2 g0 q0 hbare z0
  generalize w1.alloc _ = w2 at *
  generalize w1.heap.size = b at *
  replace q1 := fhid q1
  replace q2 := fhid q2
  go_upto_region 3 with (go_at_call 33; (with_reducible refine (hop _ _).mono ?_); rintro e w3 ⟨g, B, rfl, hg, hrow, hBs, b3⟩)
  have q1b := q1.out.on b3
  have q2b := q2.out.on b3
  have g3 := g2.trans (b3.mono g2.size)
  clear g2 q1 q2
  have hgl := hrow.lt
  replace q1b := fhid q1b
  replace q2b := fhid q2b
  replace g3 := fhid g3
  replace hrow := fhid hrow
  replace hBs := fhid hBs
  clear hg b3
  go_upto_region 5 with (go_at_call 33; (with_reducible refine (hop _ _).mono ?_); rintro e w4 ⟨g', B', rfl, hg', hrow', hBs', b4⟩)
  have q1c := fhid (q1b.out.on b4)
  have q2c := fhid (q2b.out.on b4)
  have rwc := fhid (hrow.out.keep (b4.block g hgl))
  have rwc' := fhid hrow'
  have Bc := fhid (show ∀ i, i < 10 → w4.cell? ⟨B i, 0, none⟩ = some (.pointer (some ⟨b, offQ i, none⟩)) from fun i hi => (b4.cell (p := ⟨B i, 0, none⟩) (cell_lt (hBs.out i hi).2.2)).trans (hBs.out i hi).2.2)
  have Bc' := fhid (show ∀ i, i < 10 → w4.cell? ⟨B' i, 0, none⟩ = some (.pointer (some ⟨w.heap.size, offQ i, none⟩)) from fun i hi => (hBs' i hi).2.2)
  have g4 := fhid (g3.out.trans (b4.mono g3.out.size))
  have hgl4 : g < w4.heap.size := Nat.lt_of_lt_of_le hgl b4.size
  have hgl4' : g' < w4.heap.size := rwc'.out.lt
  clear hrow' hBs' hrow hBs q1b q2b g3 b4 hg' hop hgl
  go_loopw [5, 13] (fun s i wr => ∃ k : Nat, k ≤ 10 ∧ i = .int .i64 (k : Int) ∧ s = .string (str (prefT k c)) ∧ Below w4.heap.size w4 wr) (fun _ i _ => (10 - intOf i).toNat)
  case atStart => exact ⟨0, by omega, rfl, by rw [hpre0.out]; rfl, Below.refl _ _⟩
  case round =>
    obtain ⟨k, hk, rfl, rfl, hB⟩ := hrel
    by_cases hlt : k < 10
    · have i1 : (k : Int) < 10 := by omega
      have i0 : (0 : Int) ≤ k := by omega
      obtain ⟨m0, m1, m2⟩ := (rwc'.out.keep (hB.block g' hgl4')).facts (i := k) (by simp; omega)
      rw [range_at] at m0 m1 m2
      have eg := txF_enters k
      have hso := hsuc.out k
      have ho : optT k c = if txtQ k c = txtQ k bareC then [] else 32 :: (keysQ.getD k [] ++ 61 :: txtQ k c) := rfl
      have hgr := g4.out.trans (hB.mono g4.out.size)
      have hx1 : ∀ W, Below w4.heap.size w4 W → Calls Tryz.prog (txF k) #[.pointer (some ⟨B' k, 0, none⟩)] W fun e w' => e = .returned (.string (str (txtQ k c))) ∧ Below W.heap.size W w' := fun W hW =>
        htx k hlt (B' k) W (hw.out.below (g4.out.trans (hW.mono g4.out.size))) ((hW.cell (p := ⟨B' k, 0, none⟩) (cell_lt (Bc'.out k hlt))).trans (Bc'.out k hlt)) (q1c.out.on hW)
      have hx2 : ∀ W, Below w4.heap.size w4 W → Calls Tryz.prog (txF k) #[.pointer (some ⟨B k, 0, none⟩)] W fun e w' => e = .returned (.string (str (txtQ k bareC))) ∧ Below W.heap.size W w' := fun W hW =>
        hbx k hlt b (B k) W (hw.out.below (g4.out.trans (hW.mono g4.out.size))) ((hW.cell (p := ⟨B k, 0, none⟩) (cell_lt (Bc.out k hlt))).trans (Bc.out k hlt)) (q2c.out.on hW)
      have hm2 : ∀ W, Below w4.heap.size w4 W → W.cell? ⟨g, k * 3 + 2, none⟩ = some (.func (.func (txF k)) #[] #[.pointer (some ⟨B k, 0, none⟩)]) := fun W hW => by
        have := ((rwc.out.keep (hW.block g hgl4)).facts (i := k) (by simp; omega)).2.2
        rwa [range_at] at this
      have hz1 : (str (txtQ k c)).size ≤ 1125899906842624 := by rw [str_size]; exact hTL.out k hlt
      have hz2 : (str (prefT k c)).size ≤ 11258999068426440 := by rw [str_size]; have := hple.out k hk; omega
      have hz3 : (str (keysQ.getD k [])).size ≤ 10 := by rw [str_size]; exact keys_len k hlt
      have e1 : ((str (txtQ k c)).toList == (str (txtQ k bareC)).toList) = decide (txtQ k c = txtQ k bareC) := by rw [str_eq, bl_str, bl_str]
      generalize txF k = fn at *
      generalize rdF k = fr at *
      generalize B k = K2 at *
      generalize B' k = K1 at *
      rw [ho] at hso
      generalize prefT k c = PT at *
      generalize txtQ k c = T1 at *
      generalize txtQ k bareC = T2 at *
      generalize keysQ.getD k [] = KY at *
      clear ho
      replace hso := fhid hso
      replace hB := fhid hB
      go_upto_region 7 with fail
      have n5 : (wr.alloc (.cells #[.string (str KY), .func (.func fr) #[] #[.pointer (some ⟨K1, 0, none⟩)], .func (.func fn) #[] #[.pointer (some ⟨K1, 0, none⟩)]] TOpt)).heap[wr.heap.size]? = some (.cells #[.string (str KY), .func (.func fr) #[] #[.pointer (some ⟨K1, 0, none⟩)], .func (.func fn) #[] #[.pointer (some ⟨K1, 0, none⟩)]] TOpt (0, 0)) := heap_alloc_new wr _
      have hB5 : Below w4.heap.size w4 (wr.alloc (.cells #[.string (str KY), .func (.func fr) #[] #[.pointer (some ⟨K1, 0, none⟩)], .func (.func fn) #[] #[.pointer (some ⟨K1, 0, none⟩)]] TOpt)) := hB.out.alloc hB.out.size _
      clear m0 m1 m2
      generalize wr.alloc _ = w5 at *
      generalize wr.heap.size = c5 at *
      have j0 : w5.cell? ⟨c5, 0, none⟩ = some (.string (str KY)) := by simp [World.cell?, n5]
      have j2 : w5.cell? ⟨c5, 2, none⟩ = some (.func (.func fn) #[] #[.pointer (some ⟨K1, 0, none⟩)]) := by simp [World.cell?, n5]
      have hl5 := lt_of_block n5
      generalize hS1 : str T1 = S1 at *
      generalize hS2 : str T2 = S2 at *
      generalize hSK : str KY = SK at *
      generalize hSP : str PT = SP at *
      replace hS1 := fhid hS1
      replace hS2 := fhid hS2
      replace hSK := fhid hSK
      replace hSP := fhid hSP
      replace hB5 := fhid hB5
      clear n5
      go_upto_region 8 with (go_at_fn fn; (with_reducible refine (hx1 _ hB5.out).mono ?_); rintro e w6 ⟨rfl, b6⟩)
      have hB6 := fhid (hB5.out.trans (b6.mono hB5.out.size))
      have j0' := (b6.cell (p := ⟨c5, 0, none⟩) hl5).trans j0
      have hl6 := Nat.lt_of_lt_of_le hl5 b6.size
      have m2 := hm2 _ hB6.out
      clear j0 j2 hl5 hx1 hm2 b6 hB5
      by_cases hT : T1 = T2
      · rw [decide_eq_true hT] at e1
        have e2 : (S1.toList != S2.toList) = false := by rw [bne, e1]; rfl
        have hso := fhid (hso.out.trans (by rw [if_pos hT]))
        go_wp2_with (go_at_fn fn; (with_reducible refine (hx2 _ hB6.out).mono ?_); rintro e w7 ⟨rfl, b7⟩)
        go_roundw
        case rel => exact ⟨k + 1, by omega, by go_num, by rw [hso.out, List.append_nil, hSP.out], hB6.out.trans (b7.mono hB6.out.size)⟩
        case measure => simp [intOf]; omega
      · rw [decide_eq_false hT] at e1
        have e2 : (S1.toList != S2.toList) = true := by rw [bne, e1]; rfl
        have e3 : ¬ S1.toList = S2.toList := by simpa using e1
        have r1 : ¬ 9223372036854775807 < 1 + SK.size := by omega
        have r2 : ¬ 9223372036854775807 < 1 + SK.size + 1 := by omega
        have r3 : ¬ 9223372036854775807 < 1 + SK.size + 1 + S1.size := by omega
        have r4 : ¬ 9223372036854775807 < SP.size + (1 + SK.size + 1 + S1.size) := by omega
        have hso := fhid (hso.out.trans (by rw [if_neg hT]))
        go_wp2_with (go_at_fn fn; (with_reducible refine (hx2 _ hB6.out).mono ?_); rintro e w7 ⟨rfl, b7⟩; have j1 := (b7.cell (p := ⟨c5, 0, none⟩) hl6).trans j0')
        go_roundw
        case rel => exact ⟨k + 1, by omega, by go_num, by
          rw [hso.out, ← hSP.out, ← hSK.out, ← hS1.out, show (⟨#[32]⟩ : ByteArray) = str [32] from rfl, show (⟨#[61]⟩ : ByteArray) = str [61] from rfl, str_app, str_app, str_app, str_app]
          simp, hB6.out.trans (b7.mono hB6.out.size)⟩
        case measure => simp [intOf]; omega
    · obtain rfl : k = 10 := by omega
      have i1 : ¬ (10 : Int) < 10 := by omega
      rw [hTT.out]
      go_wp2_with fail
      go_ret
      exact ⟨rfl, g4.out.trans (hB.mono g4.out.size)⟩
end Go.Proofs.YtjpihophigjbpaaGreatDoor
/-
  A command's text.
-/
namespace Go.Proofs.YtjpihophigjbpaaGreatDoor
open Go.RowKit Go.Shelf Vs

theorem first_len (k : Int) : (firstQ k).length ≤ 10 := by
  unfold firstQ
  repeat' split
  all_goals decide
theorem wide_bare : WideC bareC := by
  refine ⟨⟨?_, ?_, ?_, ?_⟩, ⟨?_, ?_, ?_⟩, by decide, fun x hx => by cases hx⟩ <;> (unfold I64; decide)
set_option maxRecDepth 100000 in
set_option maxHeartbeats 8000000 in
theorem text_any (c : CmdC) (Ai Aa : Option Addr) (ni na ci ca : Nat) (w : World) (hw : Env w) (h1 : HasI NoX w (.slice Ai ni ci) c.items) (h2 : HasA NoX w (.slice Aa na ca) c.idx) (hn : WideC c) (hTL : ∀ i, i < 10 → (txtQ i c).length ≤ 1125899906842624) (hHL : c.host.length ≤ 1125899906842624) :
    Calls Tryz.prog 15 #[.agg #[.int .i64 c.kind, .string (str c.user), .string (str c.part), .string (str c.qos), .string (str c.name), .int .i64 c.nodes, .int .i64 c.time, .int .i64 c.run, .int .i64 c.req.1, .int .i64 c.req.2.1, .int .i64 c.req.2.2, .bool c.any, .slice Ai ni ci, .slice Aa na ca, .int .i64 c.lim, .int .i64 c.job, .string (str c.host)]] w (TxP w (textQ c)) := by
  have q0 : Box (w.alloc (.cells #[.int .i64 c.kind, .string (str c.user), .string (str c.part), .string (str c.qos), .string (str c.name), .int .i64 c.nodes, .int .i64 c.time, .int .i64 c.run, .int .i64 c.req.1, .int .i64 c.req.2.1, .int .i64 c.req.2.2, .bool c.any, .slice Ai ni ci, .slice Aa na ca, .int .i64 c.lim, .int .i64 c.job, .string (str c.host)] TCmd)) w.heap.size TCmd [.int .i64 c.kind, .string (str c.user), .string (str c.part), .string (str c.qos), .string (str c.name), .int .i64 c.nodes, .int .i64 c.time, .int .i64 c.run, .int .i64 c.req.1, .int .i64 c.req.2.1, .int .i64 c.req.2.2, .bool c.any, .slice Ai ni ci, .slice Aa na ca, .int .i64 c.lim, .int .i64 c.job, .string (str c.host)] := Box.new w TCmd [.int .i64 c.kind, .string (str c.user), .string (str c.part), .string (str c.qos), .string (str c.name), .int .i64 c.nodes, .int .i64 c.time, .int .i64 c.run, .int .i64 c.req.1, .int .i64 c.req.2.1, .int .i64 c.req.2.2, .bool c.any, .slice Ai ni ci, .slice Aa na ca, .int .i64 c.lim, .int .i64 c.job, .string (str c.host)]
  have g0 : Below w.heap.size w (w.alloc (.cells #[.int .i64 c.kind, .string (str c.user), .string (str c.part), .string (str c.qos), .string (str c.name), .int .i64 c.nodes, .int .i64 c.time, .int .i64 c.run, .int .i64 c.req.1, .int .i64 c.req.2.1, .int .i64 c.req.2.2, .bool c.any, .slice Ai ni ci, .slice Aa na ca, .int .i64 c.lim, .int .i64 c.job, .string (str c.host)] TCmd)) := (Below.refl _ _).alloc (Nat.le_refl _) _
  have hop := fun W (hW : Below w.heap.size w W) => optionsText_any c Ai Aa ni na ci ca W (hw.below hW) (h1.keep (fun k hk _ => hW.block k hk) hW.size) (h2.keep (fun k hk _ => hW.block k hk) hW.size) hn wide_bare hTL
  have hfi := fun W => firstWord_any c.kind W
  have hit := fun W (hW : Below w.heap.size w W) => itoa_any c.job W (hw.below hW) hn.1.2.2.2
  have hzF : (str (firstQ c.kind)).size ≤ 10 := by rw [str_size]; exact first_len _
  have hzO : (str (optsT c)).size ≤ 11258999068426440 := by rw [str_size]; have := prefT_len c hTL 10 (Nat.le_refl _); show (prefT 10 c).length ≤ _; omega
  have hzJ : (str (Vs.num c.job)).size ≤ 100 := by rw [str_size]; have := Vs.num_len c.job hn.1.2.2.2; omega
  have hzH : (str c.host).size ≤ 1125899906842624 := by rw [str_size]; exact hHL
  have htx : textQ c = if c.kind = 1 then wSubmit ++ optsT c else if c.kind = 2 ∨ c.kind = 3 ∨ c.kind = 4 ∨ c.kind = 5 then firstQ c.kind ++ 32 :: Vs.num c.job else if c.kind = 6 ∨ c.kind = 7 then firstQ c.kind ++ 32 :: c.host else firstQ c.kind := rfl
  have hF1 : c.kind = 1 → firstQ c.kind = wSubmit := fun h => by rw [h]; rfl
  unfold TxP at *
  clear h1 h2 hn hTL hHL hw
  obtain ⟨⟨k0, k1, k2, k3, k4, k5, k6, k7, k8, k9, k10, k11, k12, k13, k14, k15, k16⟩, ⟨f0, f1, f2, f3, f4, f5, f6, f7, f8, f9, f10, f11, f12, f13, f14, f15, f16⟩, z0⟩ := Box.seventeen q0
  replace q0 := fhid q0
  replace g0 := fhid g0
  generalize hkk : c.kind = kk at *
  generalize hFQ : firstQ kk = FQ at *
  generalize hSF : str FQ = SF at *
  replace hkk := fhid hkk
  replace hFQ := fhid hFQ
  replace hSF := fhid hSF
  by_cases c1 : kk = 1
  · rw [if_pos c1, ← hF1 c1] at htx
    rw [htx]
    clear htx hF1
    subst c1
    generalize hSO : str (optsT c) = SO at *
    replace hSO := fhid hSO
    have r1 : ¬ 9223372036854775807 < SF.size + SO.size := by omega
    go_enter Tryz.func15, Tryz.ntmps15
    go_upto_region 1 with fail
    generalize w.alloc _ = w0 at *
    go_wp2_with (first
      | (go_at_call 24; (with_reducible refine (hfi _).mono ?_); rintro e w3 ⟨rfl, rfl⟩)
      | (go_at_call 25; (with_reducible refine (hop _ g0.out).mono ?_); rintro e w4 ⟨rfl, b4⟩)
      | fail)
    go_ret
    exact ⟨Ds.frets (show SF ++ SO = _ by rw [← hSF.out, ← hSO.out, str_app]), g0.out.trans (b4.mono g0.out.size)⟩
  · rw [if_neg c1] at htx
    have e1 : (kk == 1) = false := by simpa using c1
    clear hF1 hop
    by_cases c2 : kk = 2 ∨ kk = 3 ∨ kk = 4 ∨ kk = 5
    · rw [if_pos c2] at htx
      rw [htx]
      clear htx c1 e1
      generalize hSO : str (Vs.num c.job) = SO at *
      replace hSO := fhid hSO
      have r1 : ¬ 9223372036854775807 < SF.size + 1 := by omega
      have r2 : ¬ 9223372036854775807 < SF.size + 1 + SO.size := by omega
      rcases c2 with rfl | rfl | rfl | rfl
      all_goals
        go_enter Tryz.func15, Tryz.ntmps15
        go_upto_region 1 with fail
        generalize w.alloc _ = w0 at *
        go_wp2_with (first
          | (go_at_call 24; (with_reducible refine (hfi _).mono ?_); rintro e w3 ⟨rfl, rfl⟩)
          | (go_at_call 26; (with_reducible refine (hit _ g0.out).mono ?_); rintro e w4 ⟨rfl, b4⟩)
          | fail)
        go_ret
        exact ⟨Ds.frets (show SF ++ ⟨#[32]⟩ ++ SO = _ by rw [← hSF.out, ← hSO.out, show (⟨#[32]⟩ : ByteArray) = str [32] from rfl, str_app, str_app]; simp), g0.out.trans (b4.below.mono g0.out.size)⟩
    · rw [if_neg c2] at htx
      have e2 : (kk == 2) = false := by simpa using (show ¬ kk = 2 by omega)
      have e3 : (kk == 3) = false := by simpa using (show ¬ kk = 3 by omega)
      have e4 : (kk == 4) = false := by simpa using (show ¬ kk = 4 by omega)
      have e5 : (kk == 5) = false := by simpa using (show ¬ kk = 5 by omega)
      clear hit
      by_cases c3 : kk = 6 ∨ kk = 7
      · rw [if_pos c3] at htx
        rw [htx]
        clear htx c1 c2 e1 e2 e3 e4 e5
        generalize hSO : str c.host = SO at *
        replace hSO := fhid hSO
        have r1 : ¬ 9223372036854775807 < SF.size + 1 := by omega
        have r2 : ¬ 9223372036854775807 < SF.size + 1 + SO.size := by omega
        rcases c3 with rfl | rfl
        all_goals
          go_enter Tryz.func15, Tryz.ntmps15
          go_upto_region 1 with fail
          generalize w.alloc _ = w0 at *
          go_wp2_with (go_at_call 24; (with_reducible refine (hfi _).mono ?_); rintro e w3 ⟨rfl, rfl⟩)
          go_ret
          exact ⟨Ds.frets (show SF ++ ⟨#[32]⟩ ++ SO = _ by rw [← hSF.out, ← hSO.out, show (⟨#[32]⟩ : ByteArray) = str [32] from rfl, str_app, str_app]; simp), g0.out⟩
      · rw [if_neg c3] at htx
        rw [htx]
        have e6 : (kk == 6) = false := by simpa using (show ¬ kk = 6 by omega)
        have e7 : (kk == 7) = false := by simpa using (show ¬ kk = 7 by omega)
        clear htx
        go_enter Tryz.func15, Tryz.ntmps15
        go_upto_region 1 with fail
        generalize w.alloc _ = w0 at *
        go_wp2_with (go_at_call 24; (with_reducible refine (hfi _).mono ?_); rintro e w3 ⟨rfl, rfl⟩)
        go_ret
        exact ⟨Ds.frets hSF.out.symm, g0.out⟩
end Go.Proofs.YtjpihophigjbpaaGreatDoor
/-
  Records of many cells loaded and stored whole: the walk sees one letter.
-/
namespace Go.Proofs.YtjpihophigjbpaaGreatDoor
open Go.RowKit Go.Shelf Vs

/-- A load, and a store, that the walk does not open. -/
def ldS (T : TypeId) (p : Value) : Sem Value := Instr.loadAt T p
def stS (T : TypeId) (p v : Value) : Sem Unit := Instr.storeAt T p v
theorem range_box {w : World} {b : Nat} {T : TypeId} {cs : List Value} (h : Box w b T cs) : w.rangeAt b 0 cs := fun j v hv => by
  rw [Nat.zero_add, Box.cell h, hv]
theorem there_box {w : World} {b : Nat} {T : TypeId} {cs : List Value} (h : Box w b T cs) : w.there b 0 cs.length := fun j hj => by
  rw [Nat.zero_add, Box.cell h, List.getElem?_eq_getElem hj]
  exact ⟨rfl, Box.free h j⟩
theorem over_all (cs vs : List Value) (h : cs.length = vs.length) : overL cs 0 vs = vs := by
  rw [overL_eq vs cs 0 (by omega), List.take_zero, List.nil_append, Nat.zero_add, ← h, List.drop_length, List.append_nil]
theorem ld_run {w : World} {b : Nat} {T B : TypeId} {A : Array Value} {d : TypeDesc} (h : Box w b B A.toList) (hu : Tryz.prog.underlying T = some d) (hd : d.isRow = true) (hi : (Tryz.prog.info? T).map (·.size) = some A.size) :
    (ldS T (.pointer (some ⟨b, 0, none⟩))).run Tryz.prog w = .ok (.agg A) w := by
  have := run_loadAt_mid (P := Tryz.prog) w b 0 T A.toList d (range_box h) hu hd (by rw [hi]; simp)
  unfold ldS
  simpa using this
theorem st_run {w : World} {b : Nat} {T B : TypeId} {A : Array Value} {cs : List Value} (h : Box w b B cs) (hl : cs.length = A.size) (hi : (Tryz.prog.info? T).map (·.size) = some A.size) (h1 : A.all (·.oneCell') = true) :
    ∃ w', (stS T (.pointer (some ⟨b, 0, none⟩)) (.agg A)).run Tryz.prog w = .ok () w' ∧ Box w' b B A.toList ∧ Aft b w w' := by
  refine ⟨_, run_storeAt_mid (P := Tryz.prog) w b 0 T A (by have := there_box h; rw [hl] at this; exact this) hi h1, ?_, Aft.setCells _ _ (Aft.of (Below.refl _ _))⟩
  have := Box.setCells A.toList 0 h
  rwa [over_all _ _ (by rw [hl]; simp)] at this
/-- The operations on a command. -/
theorem exec_ld_cmd (a : Act) (dst : Option Tmp) (x : Operand) (ty : TypeId) (pos : String) (after : Array Edge) (guard : Option (Nat × Bool)) :
    execOp a.eval { dst, op := .load TCmd x, type := ty, pos, after, guard } = (do pure (.value (← ldS TCmd (a.eval x)))) := rfl
theorem exec_st_cmd (a : Act) (dst : Option Tmp) (x y : Operand) (ty : TypeId) (pos : String) (after : Array Edge) (guard : Option (Nat × Bool)) :
    execOp a.eval { dst, op := .store TCmd x y, type := ty, pos, after, guard } = (do stS TCmd (a.eval x) (a.eval y); pure .skip) := rfl
theorem infoCmd : (Tryz.prog.info? TCmd).map (·.size) = some 17 := by kernel_rfl
theorem ld_cmd {w : World} {b : Nat} {A : Array Value} (h : Box w b TCmd A.toList) (hs : A.size = 17) : (ldS TCmd (.pointer (some ⟨b, 0, none⟩))).run Tryz.prog w = .ok (.agg A) w :=
  ld_run h Tryz.underlying40 rfl (by rw [infoCmd, hs])
theorem st_cmd {w : World} {b : Nat} {A : Array Value} {cs : List Value} (h : Box w b TCmd cs) (hl : cs.length = 17) (hs : A.size = 17) (h1 : A.all (·.oneCell') = true) :
    ∃ w', (stS TCmd (.pointer (some ⟨b, 0, none⟩)) (.agg A)).run Tryz.prog w = .ok () w' ∧ Box w' b TCmd A.toList ∧ Aft b w w' :=
  st_run h (by rw [hl, hs]) (by rw [infoCmd, hs]) h1
/-- Where a record was put that was just made. -/
theorem st_new {w : World} {A : Array Value} (hs : A.size = 17) (h1 : A.all (·.oneCell') = true) (Z : Array Value) (hz : Z.size = 17) :
    ∃ w', (stS TCmd (.pointer (some ⟨w.heap.size, 0, none⟩)) (.agg A)).run Tryz.prog (w.alloc (.cells Z TCmd)) = .ok () w' ∧ Box w' w.heap.size TCmd A.toList ∧ Below w.heap.size w w' ∧ w.heap.size < w'.heap.size := by
  have hb : Box (w.alloc (.cells Z TCmd)) w.heap.size TCmd Z.toList := by
    have := Box.new w TCmd Z.toList
    simpa using this
  obtain ⟨w', h2, h3, h4⟩ := st_cmd hb (by simpa using hz) hs h1
  exact ⟨w', h2, h3, ((Below.refl _ _).alloc (Nat.le_refl _) _).trans (h4.below (Nat.le_refl _) (by rw [World.size_alloc]; omega)), Box.lt h3⟩
theorem zero_all : (#[.int .i64 0, .string ⟨#[]⟩, .string ⟨#[]⟩, .string ⟨#[]⟩, .string ⟨#[]⟩, .int .i64 0, .int .i64 0, .int .i64 0, .int .i64 0, .int .i64 0, .int .i64 0, .bool false, .slice none 0 0, .slice none 0 0, .int .i64 0, .int .i64 0, .string ⟨#[]⟩] : Array Value).all (·.oneCell') = true := by
  simp only [List.all_toArray, List.all_cons, List.all_nil, Bool.and_true]
  rfl
theorem box_new (w : World) (T : TypeId) (A : Array Value) : Box (w.alloc (.cells A T)) w.heap.size T A.toList := by
  have := Box.new w T A.toList
  simpa using this
/-- The same of the other type. -/
abbrev TRCmd : TypeId := 31
theorem exec_ld_rcmd (a : Act) (dst : Option Tmp) (x : Operand) (ty : TypeId) (pos : String) (after : Array Edge) (guard : Option (Nat × Bool)) :
    execOp a.eval { dst, op := .load TRCmd x, type := ty, pos, after, guard } = (do pure (.value (← ldS TRCmd (a.eval x)))) := rfl
theorem exec_st_rcmd (a : Act) (dst : Option Tmp) (x y : Operand) (ty : TypeId) (pos : String) (after : Array Edge) (guard : Option (Nat × Bool)) :
    execOp a.eval { dst, op := .store TRCmd x y, type := ty, pos, after, guard } = (do stS TRCmd (a.eval x) (a.eval y); pure .skip) := rfl
theorem infoRCmd : (Tryz.prog.info? TRCmd).map (·.size) = some 17 := by kernel_rfl
theorem ld_rcmd {w : World} {b : Nat} {A : Array Value} (h : Box w b TRCmd A.toList) (hs : A.size = 17) : (ldS TRCmd (.pointer (some ⟨b, 0, none⟩))).run Tryz.prog w = .ok (.agg A) w :=
  ld_run h Tryz.underlying31 rfl (by rw [infoRCmd, hs])
theorem st_rcmd {w : World} {b : Nat} {A : Array Value} {cs : List Value} (h : Box w b TRCmd cs) (hl : cs.length = 17) (hs : A.size = 17) (h1 : A.all (·.oneCell') = true) :
    ∃ w', (stS TRCmd (.pointer (some ⟨b, 0, none⟩)) (.agg A)).run Tryz.prog w = .ok () w' ∧ Box w' b TRCmd A.toList ∧ Aft b w w' :=
  st_run h (by rw [hl, hs]) (by rw [infoRCmd, hs]) h1
/-- What a function answers of such a record. -/
theorem lv_cmd {w : World} {b : Nat} {A : Array Value} (h : Box w b TCmd A.toList) (hs : A.size = 17) : (loadVar TCmd ⟨b, 0, none⟩).run Tryz.prog w = .ok (.agg A) w := by
  have := run_loadVar_mid (P := Tryz.prog) w b 0 TCmd A.toList _ (range_box h) Tryz.underlying40 rfl (by rw [infoCmd]; simp [hs])
  simpa using this
theorem lv_rcmd {w : World} {b : Nat} {A : Array Value} (h : Box w b TRCmd A.toList) (hs : A.size = 17) : (loadVar TRCmd ⟨b, 0, none⟩).run Tryz.prog w = .ok (.agg A) w := by
  have := run_loadVar_mid (P := Tryz.prog) w b 0 TRCmd A.toList _ (range_box h) Tryz.underlying31 rfl (by rw [infoRCmd]; simp [hs])
  simpa using this
theorem results_cell {P : Program} {fn : Func} {tmps : Array Value} {a : Nat} {t : TypeId} {p : Addr} {v : Value} {w : World} (h : fn.results = #[.cell a t]) (hp : tmps[a]? = some (.pointer (some p))) (hv : (loadVar t p).run P w = .ok v w) : (results fn tmps).run P w = .ok v w := by
  simp [results, h, hp, hv, asAddr, Sem.run_bind, Sem.run_pure, Result.andThen_ok]
theorem results_cell_tmp {P : Program} {fn : Func} {tmps : Array Value} {a b : Nat} {t : TypeId} {p : Addr} {v u : Value} {w : World} (h : fn.results = #[.cell a t, .tmp b]) (hp : tmps[a]? = some (.pointer (some p))) (hu : tmps[b]? = some u) (hv : (loadVar t p).run P w = .ok v w) : (results fn tmps).run P w = .ok (.tuple #[v, u]) w := by
  simp [results, h, hp, hv, hu, asAddr, Sem.run_bind, Sem.run_pure, Result.andThen_ok]
theorem ret_err {W : World} {P : Ending → World → Prop} {a : Act} {r : Nat} {U : Array Value} {n : Int} (hd : a.defers = []) (h2 : a.tmps[2]? = some (.pointer (some ⟨r, 0, none⟩))) (h3 : a.tmps[3]? = some (.int .i64 n)) (hb : Box W r TCmd U.toList) (hs : U.size = 17)
    (hp : P (.returned (.tuple #[.agg U, .int .i64 n])) W) : bodyPost Tryz.prog Tryz.f10 P .ret a W :=
  bodyPost_ret (v := .tuple #[.agg U, .int .i64 n]) (results_cell_tmp Tryz.results10 h2 h3 (lv_cmd hb hs)) hd hp
theorem ret_ours {W : World} {P : Ending → World → Prop} {a : Act} {r : Nat} {U : Array Value} (hd : a.defers = []) (h2 : a.tmps[2]? = some (.pointer (some ⟨r, 0, none⟩))) (hb : Box W r TRCmd U.toList) (hs : U.size = 17)
    (hp : P (.returned (.agg U)) W) : bodyPost Tryz.prog Tryz.f12 P .ret a W :=
  bodyPost_ret (v := .agg U) (results_cell Tryz.results12 h2 (lv_rcmd hb hs)) hd hp
theorem ret_theirs {W : World} {P : Ending → World → Prop} {a : Act} {r : Nat} {U : Array Value} (hd : a.defers = []) (h2 : a.tmps[2]? = some (.pointer (some ⟨r, 0, none⟩))) (hb : Box W r TCmd U.toList) (hs : U.size = 17)
    (hp : P (.returned (.agg U)) W) : bodyPost Tryz.prog Tryz.f8 P .ret a W :=
  bodyPost_ret (v := .agg U) (results_cell Tryz.results8 h2 (lv_cmd hb hs)) hd hp
end Go.Proofs.YtjpihophigjbpaaGreatDoor
