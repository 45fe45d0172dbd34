/-
  Parts: QSub.
-/
import Derived.Test.YtjpihophigjbpaaGreatDoorQ1
import Derived.Test.YtjpihophigjbpaaGreatDoorK1
import Derived.Test.YtjpihophigjbpaaGreatDoorQ2
set_option linter.unusedSimpArgs false
set_option linter.unusedVariables false
/-
  A submit's options, read one behind the other.
-/
namespace Go.Proofs.YtjpihophigjbpaaGreatDoor
open Go.RowKit Go.Shelf Vs

/-- What a call that reads a command's further words comes to. -/
def ReadP (X0 : Nat → Prop) (r : Option CmdC) (w : World) (e : Ending) (w' : World) : Prop :=
  Below w.heap.size w w' ∧ ∃ c vi va, e = .returned (.tuple #[.agg (cellsC c vi va).toArray, .bool r.isSome]) ∧ HasI X0 w' vi c.items ∧ HasA X0 w' va c.idx ∧ ∀ c', r = some c' → c = c'
/-- Where the loop over the words is. -/
def SI (X0 : Nat → Prop) (b g r : Nat) (B : Nat → Nat) (ws : List Str) (w1 : World) (s5 : Value) (k : Nat) (wr : World) : Prop :=
  ∃ left c, s5 = .slice (some ⟨g, 0, none⟩) left.length 10 ∧ left.length ≤ 10 ∧ (∀ i ∈ left, i < 10) ∧ ORow wr g B left ∧ CB (fun n => n = b ∨ n = g ∨ n = r ∨ X0 n) wr b c ∧ ChX (fun n => n = b ∨ n = g) w1 wr ∧ subQ (List.range 10) ws bareC = subQ left (ws.drop k) c
set_option maxRecDepth 100000 in
/-- What a call hands back whose result lies in a block. -/
theorem ret_sub {W : World} {P : Ending → World → Prop} {a : Act} {r : Nat} {c : CmdC} {vi va : Value} {ok : Bool} (hd : a.defers = []) (h2 : a.tmps[2]? = some (.pointer (some ⟨r, 0, none⟩))) (h3 : a.tmps[3]? = some (.bool ok)) (hb : Box W r TCmd (cellsC c vi va))
    (hp : P (.returned (.tuple #[.agg (cellsC c vi va).toArray, .bool ok])) W) : bodyPost Tryz.prog Tryz.f29 P .ret a W := by
  obtain ⟨⟨k0, k1, k2, k3, k4, k5, k6, k7, k8, k9, k10, k11, k12, k13, k14, k15, k16⟩, _, hl⟩ := Box.seventeen hb
  exact bodyPost_ret (v := .tuple #[.agg (cellsC c vi va).toArray, .bool ok]) (by simp [results, Tryz.results29, go_sem, h2, h3, k0, k1, k2, k3, k4, k5, k6, k7, k8, k9, k10, k11, k12, k13, k14, k15, k16, hl, cellsC]) hd hp
theorem XOk.below {X : Nat → Prop} {w w' : World} (h : XOk X w) (hb : Below w.heap.size w w') : XOk X w' := fun k hk => by
  obtain ⟨cs, T, fr, e, hT⟩ := h k hk
  exact ⟨cs, T, fr, (hb.block k (lt_of_block e)).trans e, hT⟩
theorem xok {w : World} {b g r : Nat} {B : Nat → Nat} {l : List Nat} {c : CmdC} {X X0 : Nat → Prop} {cs : List Value} (h1 : CB X w b c) (h2 : ORow w g B l) (h3 : Box w r TCmd cs) (h4 : XOk X0 w) : XOk (fun n => n = b ∨ n = g ∨ n = r ∨ X0 n) w := fun k hk => by
  obtain ⟨vi, va, h, _⟩ := h1
  obtain ⟨Z, h2⟩ := h2
  rcases hk with rfl | rfl | rfl | hk
  · exact ⟨_, TCmd, (0, 0), h, by decide⟩
  · exact ⟨_, TOpt, (0, 0), h2, by decide⟩
  · exact ⟨_, TCmd, (0, 0), h3, by decide⟩
  · exact h4 k hk
theorem read_none {X0 : Nat → Prop} {w w' : World} (c : CmdC) {vi va : Value} (hb : Below w.heap.size w w') (h2 : HasI X0 w' vi c.items) (h3 : HasA X0 w' va c.idx) : ReadP X0 none w (.returned (.tuple #[.agg (cellsC c vi va).toArray, .bool false])) w' :=
  ⟨hb, c, vi, va, rfl, h2, h3, fun c' h => by cases h⟩
set_option maxRecDepth 100000 in
set_option maxHeartbeats 8000000 in
theorem readSubmit_any (X0 : Nat → Prop) (A : Option Addr) (cap : Nat) (ws : List Str) (w : World) (hw : Env w) (hA : Strs w w.heap.size A ws) (hL : ∀ x ∈ ws, x.length ≤ 65536) (hws : ws.length ≤ 65536) (hX0 : XOk X0 w) :
    Calls Tryz.prog 29 #[.slice A ws.length cap] w (ReadP X0 (submitQ ws) w) := by
  have hcut := fun (k : Nat) (hk : k < ws.length) (W : World) => cut_any (str ws[k]) (by rw [str_size]; have := hL ws[k] (List.getElem_mem hk); omega) W
  have hbare : ∀ W : World, Calls Tryz.prog 32 #[] W fun e w' => e = .returned (.agg #[.int .i64 1, .string ⟨#[]⟩, .string ⟨#[]⟩, .string ⟨#[]⟩, .string ⟨#[]⟩, .int .i64 1, .int .i64 0, .int .i64 0, .int .i64 0, .int .i64 0, .int .i64 0, .bool false, .slice none 0 0, .slice none 0 0, .int .i64 0, .int .i64 0, .string ⟨#[]⟩]) ∧ Below W.heap.size W w' := fun W => bareSubmit_any W
  have hop := fun b W => options_any b W
  unfold MadeOs at hop
  have hsub := fhid (show submitQ ws = match subQ (List.range 10) ws bareC with | none => none | some c => if fullQ c = true then some c else none from rfl)
  replace hw := fhid hw
  replace hX0 := fhid hX0
  replace hA := fhid hA
  replace hL := fhid hL
  have q0 : Box (w.alloc (.cells #[.int .i64 0, .string ⟨#[]⟩, .string ⟨#[]⟩, .string ⟨#[]⟩, .string ⟨#[]⟩, .int .i64 0, .int .i64 0, .int .i64 0, .int .i64 0, .int .i64 0, .int .i64 0, .bool false, .slice none 0 0, .slice none 0 0, .int .i64 0, .int .i64 0, .string ⟨#[]⟩] TCmd)) w.heap.size TCmd (cellsC noCmd (.slice none 0 0) (.slice none 0 0)) := Box.new w TCmd (cellsC noCmd (.slice none 0 0) (.slice none 0 0))
  have g0 : Below w.heap.size w (w.alloc (.cells #[.int .i64 0, .string ⟨#[]⟩, .string ⟨#[]⟩, .string ⟨#[]⟩, .string ⟨#[]⟩, .int .i64 0, .int .i64 0, .int .i64 0, .int .i64 0, .int .i64 0, .int .i64 0, .bool false, .slice none 0 0, .slice none 0 0, .int .i64 0, .int .i64 0, .string ⟨#[]⟩] TCmd)) := (Below.refl _ _).alloc (Nat.le_refl _) _
  go_enter Tryz.func29, Tryz.ntmps29
  go_upto_region 1 with fail
  generalize w.alloc _ = w0 at *
  have z0 := Box.lt q0
  replace q0 := fhid q0
  go_upto_region 2 with (go_at_call 32; (with_reducible refine (hbare _).mono ?_); rintro e w1 ⟨rfl, b1⟩)
  have b2 : Below w1.heap.size w1 (w1.alloc (.cells #[.int .i64 1, .string ⟨#[]⟩, .string ⟨#[]⟩, .string ⟨#[]⟩, .string ⟨#[]⟩, .int .i64 1, .int .i64 0, .int .i64 0, .int .i64 0, .int .i64 0, .int .i64 0, .bool false, .slice none 0 0, .slice none 0 0, .int .i64 0, .int .i64 0, .string ⟨#[]⟩] TCmd)) := (Below.refl _ _).alloc (Nat.le_refl _) _
  have q2 : Box (w1.alloc (.cells #[.int .i64 1, .string ⟨#[]⟩, .string ⟨#[]⟩, .string ⟨#[]⟩, .string ⟨#[]⟩, .int .i64 1, .int .i64 0, .int .i64 0, .int .i64 0, .int .i64 0, .int .i64 0, .bool false, .slice none 0 0, .slice none 0 0, .int .i64 0, .int .i64 0, .string ⟨#[]⟩] TCmd)) w1.heap.size TCmd (cellsC bareC (.slice none 0 0) (.slice none 0 0)) := Box.new w1 TCmd (cellsC bareC (.slice none 0 0) (.slice none 0 0))
  have hz1 : w0.heap.size ≤ w1.heap.size := b1.size
  have hb : w.heap.size < w1.heap.size := Nat.lt_of_lt_of_le z0 hz1
  have q1 := fhid (Box.below (Box.below q0.out b1 z0) b2 hb)
  have gg1 : Below w.heap.size w w1 := g0.trans (b1.mono g0.size)
  generalize w1.alloc _ = w2 at *
  generalize w1.heap.size = b at *
  have z2 := Box.lt q2
  have g2 : Below w.heap.size w w2 := gg1.trans (b2.mono (Nat.le_of_lt hb))
  clear b2 hz1 g0 b1 gg1
  replace q2 := fhid q2
  go_upto_region 3 with (go_at_call 33; (with_reducible refine (hop _ _).mono ?_); rintro e w3 ⟨g, B, rfl, hg, hrow, hBs, b3⟩)
  have g3 : Below w.heap.size w w3 := g2.trans (b3.mono g2.size)
  have hbg : b ≠ g := by omega
  have q3 := fhid (Box.below q1.out b3 (by omega))
  have hcb : CB (fun n => n = b ∨ n = g ∨ n = w.heap.size ∨ X0 n) w3 b bareC := ⟨_, _, Box.below q2.out b3 z2, HasI.nil, HasA.nil⟩
  have hstart := fhid (show SI X0 b g w.heap.size B ws w3 (.slice (some ⟨g, 0, none⟩) 10 10) 0 w3 from ⟨List.range 10, bareC, rfl, by decide, fun i hi => List.mem_range.1 hi, hrow, hcb, ChX.refl, rfl⟩)
  have hBs2 := fhid (show ∀ i, i < 10 → B i ≠ b ∧ B i ≠ g ∧ B i < w3.heap.size ∧ w3.cell? ⟨B i, 0, none⟩ = some (.pointer (some ⟨b, offQ i, none⟩)) from fun i hi => by
    obtain ⟨a1, a2, a3⟩ := hBs i hi
    exact ⟨by omega, by omega, cell_lt a3, a3⟩)
  have hgl := hrow.lt
  have hXw : ∀ k : Nat, k = b ∨ k = g → w.heap.size ≤ k := fun k hk => by have := g2.size; omega
  replace hXw := fhid hXw
  have hz3 := b3.size
  clear hrow hBs hcb q1 q2 b3 hop hbare
  replace g3 := fhid g3
  go_wp2_with fail
  go_loopw [5, 16] (fun s5 i wr => ∃ k : Nat, k ≤ ws.length ∧ i = .int .i64 k ∧ SI X0 b g w.heap.size B ws w3 s5 k wr) (fun _ i _ => ws.length - (intOf i).toNat)
  case atStart => exact ⟨0, Nat.zero_le _, rfl, hstart.out⟩
  case round =>
    obtain ⟨k, hk, rfl, left, c, rfl, hl10, hl, hO, hC, hX, he⟩ := hrel
    have gB := fhid (g3.out.trans (hX.below hXw.out g3.out.size))
    have i0 : (0 : Int) ≤ k := by omega
    by_cases hlt : k < ws.length
    · obtain ⟨bb, oo, rfl, hbb, hc⟩ := hA.out.at_ hlt
      have hcell := (gB.out.cell (p := ⟨bb, oo + k, none⟩) hbb).trans hc
      have hx := hL.out ws[k] (List.getElem_mem hlt)
      have hcu := hcut k hlt
      rw [bl_str] at hcu
      unfold cutV at hcu
      rw [List.drop_eq_getElem_cons hlt] at he
      have hl1 := Vs.behind_le 61 ws[k]
      generalize ws[k] = Xs at *
      have hno := fhid (fun h => he.trans (@subQ_no left Xs (ws.drop (k + 1)) c h))
      have hnn := fhid (fun h h2 => he.trans (@subQ_none left Xs (ws.drop (k + 1)) c h h2))
      have hso := fhid (fun j h h1 h2 => he.trans (@subQ_some left Xs (ws.drop (k + 1)) c j h h1 h2))
      have hDD := fhid (show (61 : UInt8) ∈ Xs ↔ decide ((61 : UInt8) ∈ Xs) = true by simp)
      generalize decide ((61 : UInt8) ∈ Xs) = D at *
      generalize Vs.upTo 61 Xs = U at *
      generalize Vs.behind 61 Xs = Y at *
      have i1 : (k : Int) < ws.length := by omega
      have i2 : (ws.length : Int) ≤ 65536 := by omega
      have hOl := hO.lt
      have hCl := hC.lt
      have hYl : Y.length ≤ 65536 := by omega
      clear hcut hc he hx
      replace hO := fhid hO
      replace hC := fhid hC
      replace hX := fhid hX
      replace hl := fhid hl
      generalize hUS : str U = US at *
      replace hUS := fhid hUS
      generalize hYS : str Y = YS at *
      replace hYS := fhid hYS
      go_upto_region 7 with (go_at_call 35; (with_reducible refine (hcu _).mono ?_); rintro e w4 ⟨rfl, g4⟩)
      have b5 : Below wr.heap.size wr (w4.alloc (.cells #[.string US] 9)) := g4.below.alloc g4.below.size _
      have c5 : (w4.alloc (.cells #[.string US] 9)).cell? ⟨w4.heap.size, 0, none⟩ = some (.string US) := by simp [go_sem]
      generalize w4.alloc _ = w5 at *
      generalize w4.heap.size = KB at *
      have hKl := cell_lt c5
      have hO5 := hO.out.keep (b5.block g hOl)
      obtain ⟨q, hq⟩ : ∃ q : Nat → Bool, ∀ i (hi : i < left.length), q i = decide (keysQ.getD left[i] [] = U) := ⟨fun i => decide (keysQ.getD (left.getD i 10) [] = U), fun i hi => by simp [hi]⟩
      have hix := idxOpt_any 37 #[.pointer (some ⟨KB, 0, none⟩)] (enters_of Tryz.func37 (by kernel_rfl) rfl) g B left 10 q w5 hO5 (by omega) (fun i hi W hW => by
        rw [hq i hi]
        exact keyQ_any B left[i] KB U W (by rw [hUS.out]; exact (hW.cell (p := ⟨KB, 0, none⟩) hKl).trans c5) (Nat.lt_of_lt_of_le hKl hW.size))
      unfold IdxP at hix
      have hat := fhid (show ∀ j (hj : j < left.length), q j = true → (∀ i, i < j → q i = false) → place (left.map fun i => keysQ.getD i []) U = some j from fun j hj h1 h2 =>
        place_some _ _ j (by simpa using hj) (by rw [hq j hj] at h1; simpa using of_decide_eq_true h1) (fun i hi => by have := h2 i hi; rw [hq i (by omega)] at this; simpa using of_decide_eq_false this))
      have hnot := fhid (show (∀ j, j < left.length → q j = false) → place (left.map fun i => keysQ.getD i []) U = none from fun h =>
        place_none _ _ (fun i hi => by have hi' : i < left.length := by simpa using hi
                                       have := h i hi'; rw [hq i hi'] at this; simpa using of_decide_eq_false this))
      replace hO5 := fhid hO5
      clear hq hcu hO
      go_wp2_with fail
      refine hix.mono ?_
      rintro e w6 ⟨hcase, b6⟩
      have B6 : Below wr.heap.size wr w6 := b5.trans (b6.mono b5.size)
      have qr := fhid (show Box w6 w.heap.size TCmd (cellsC noCmd (.slice none 0 0) (.slice none 0 0)) from (B6.block _ (by have := gB.out.size; have := Box.lt q3.out; have := hX.out.size; omega)).trans ((hX.out.block _ (Box.lt q3.out) (fun h => by rcases h with h | h <;> omega)).trans q3.out))
      have gB6 := fhid (gB.out.trans (B6.mono gB.out.size))
      obtain ⟨⟨k0, k1, k2, k3, k4, k5, k6, k7, k8, k9, k10, k11, k12, k13, k14, k15, k16⟩, ⟨f0, f1, f2, f3, f4, f5, f6, f7, f8, f9, f10, f11, f12, f13, f14, f15, f16⟩, hrl⟩ := Box.seventeen qr.out
      clear hix
      rcases hcase with ⟨j, hj, hqj, hbef, rfl⟩ | ⟨hall, rfl⟩
      · have hpl := hat.out j hj hqj hbef
        clear hat hnot
        replace hbef := fhid hbef
        replace hqj := fhid hqj
        have i3 : (0 : Int) ≤ j := by omega
        have i4 : (j : Int) < left.length := by omega
        have i5 : (left.length : Int) ≤ 10 := by omega
        have i6 : ¬ (j : Int) < 0 := by omega
        cases D with
        | false =>
          have hE : Hid (submitQ ws = none) := fhid (by rw [hsub.out, hno.out (fun h => by have := hDD.out.1 h; simp at this)])
          go_wp2_with fail
          refine ret_sub (c := noCmd) (vi := .slice none 0 0) (va := .slice none 0 0) (ok := false) rfl rfl rfl (Box.over17 qr.out _ _ _ _ _ _ _ _ _ _ _ _ _ _ _ _ _) ?_
          rw [hE.out]
          exact read_none noCmd (below17 gB6.out (Nat.le_refl _) _ _ _ _ _ _ _ _ _ _ _ _ _ _ _ _ _) HasI.nil HasA.nil
        | true =>
          have h61 : (61 : UInt8) ∈ Xs := hDD.out.2 (by simp)
          have hgo := fhid (hso.out j h61 hj hpl)
          have hO6 := hO5.out.keep (b6.block g (Nat.lt_of_lt_of_le hOl b5.size))
          have hC6 := hC.out.on B6
          obtain ⟨m0, m1, m2⟩ := hO6.facts hj
          have hli := hl.out left[j] (List.getElem_mem hj)
          obtain ⟨a1, a2, a3, a4⟩ := hBs2.out left[j] hli
          have hKc : w6.cell? ⟨B left[j], 0, none⟩ = some (.pointer (some ⟨b, offQ left[j], none⟩)) := (B6.cell (p := ⟨B left[j], 0, none⟩) (Nat.lt_of_lt_of_le a3 hX.out.size)).trans ((hX.out.cell (p := ⟨B left[j], 0, none⟩) a3 (fun h => by rcases h with h | h; exact a1 h; exact a2 h)).trans a4)
          have hrd := rd_any left[j] hli Y (hw.out.below gB6.out) (xok hC6 hO6 qr.out (hX0.out.below gB6.out)) (X := fun n => n = b ∨ n = g ∨ n = w.heap.size ∨ X0 n) (.inl rfl) hKc a1 hC6 hYl
          have eg := rdF_enters left[j]
          rw [hYS.out] at hrd
          unfold RdP at hrd
          have hdel := fun W h => Delete_any g B left j 10 W h hj hl10 (by decide)
          have hel : (left.eraseIdx j).length = left.length - 1 := by rw [List.length_eraseIdx_of_lt hj]
          have hli2 := fhid (show ∀ i ∈ left.eraseIdx j, i < 10 from fun i hi => hl.out i (List.mem_of_mem_eraseIdx hi))
          clear hKc a1 a2 a3 a4 hli m0 m2 hpl
          generalize left.eraseIdx j = left2 at *
          generalize left[j] = li at *
          generalize rdF li = fn at *
          generalize B li = KK at *
          generalize txF li = fn2 at *
          replace hC6 := fhid hC6
          replace hO6 := fhid hO6
          have hb6l : b < w6.heap.size := hC6.out.lt
          have hg6l := hO6.out.lt
          have hr7 := fhid (show ∀ W, Aft b w6 W → Box W w.heap.size TCmd (cellsC noCmd (.slice none 0 0) (.slice none 0 0)) ∧ Below w.heap.size w W from fun W a7 =>
            ⟨(a7.block _ (Box.lt qr.out) (fun e => by injection e with e; omega)).trans qr.out, gB6.out.trans (a7.below (B := w.heap.size) (by omega) gB6.out.size)⟩)
          cases ho : okQ li Y with
          | false =>
            rw [ho] at hrd hgo
            have hE : Hid (submitQ ws = none) := fhid (by rw [hsub.out, hgo.out]; rfl)
            clear ho k0 k1 k2 k3 k4 k5 k6 k7 k8 k9 k10 k11 k12 k13 k14 k15 k16 f0 f1 f2 f3 f4 f5 f6 f7 f8 f9 f10 f11 f12 f13 f14 f15 f16
            go_wp2_with (go_at_fn fn; (with_reducible refine hrd.mono ?_); rintro e w7 ⟨rfl, a7, _⟩
                         obtain ⟨qr7, gB7⟩ := hr7.out _ a7
                         replace qr7 := fhid qr7
                         replace gB7 := fhid gB7
                         obtain ⟨⟨k0, k1, k2, k3, k4, k5, k6, k7, k8, k9, k10, k11, k12, k13, k14, k15, k16⟩, ⟨f0, f1, f2, f3, f4, f5, f6, f7, f8, f9, f10, f11, f12, f13, f14, f15, f16⟩, hrl7⟩ := Box.seventeen qr7.out)
            refine ret_sub (c := noCmd) (vi := .slice none 0 0) (va := .slice none 0 0) (ok := false) rfl rfl rfl (Box.over17 qr7.out _ _ _ _ _ _ _ _ _ _ _ _ _ _ _ _ _) ?_
            rw [hE.out]
            exact read_none noCmd (below17 gB7.out (Nat.le_refl _) _ _ _ _ _ _ _ _ _ _ _ _ _ _ _ _ _) HasI.nil HasA.nil
          | true =>
            rw [ho] at hrd hgo
            simp only [if_true] at hgo
            clear ho k0 k1 k2 k3 k4 k5 k6 k7 k8 k9 k10 k11 k12 k13 k14 k15 k16 f0 f1 f2 f3 f4 f5 f6 f7 f8 f9 f10 f11 f12 f13 f14 f15 f16
            go_wp2_with (first
              | (go_at_fn fn; (with_reducible refine hrd.mono ?_); rintro e w7 ⟨rfl, a7, hc7⟩
                 replace hc7 := fhid hc7
                 have hO7 := fhid (hO6.out.keep (a7.block _ hg6l (fun e => by injection e with e; omega))))
              | (go_at_call 38; (with_reducible refine (hdel _ hO7.out).mono ?_); rintro e w8 ⟨rfl, hO8, a8⟩))
            go_roundw
            case rel => exact ⟨k + 1, by omega, by go_num, left2, setQ li Y c, by rw [hel], by omega, hli2.out, hO8, (hc7.out (by simp)).aft a8 hbg (.inr (.inl rfl)), ((hX.out.on B6).aft a7 (.inl (.inl rfl))).aft a8 (.inl (.inr rfl)), hgo.out⟩
            case measure => simp [intOf]; omega
      · have hE : Hid (submitQ ws = none) := fhid (by
          have h : subQ (List.range 10) ws bareC = none := by
            by_cases h61 : (61 : UInt8) ∈ Xs
            · exact hnn.out h61 (hnot.out hall)
            · exact hno.out h61
          rw [hsub.out, h])
        replace hall := fhid hall
        clear hat hnot
        cases D with
        | true =>
          go_wp2_with fail
          refine ret_sub (c := noCmd) (vi := .slice none 0 0) (va := .slice none 0 0) (ok := false) rfl rfl rfl (Box.over17 qr.out _ _ _ _ _ _ _ _ _ _ _ _ _ _ _ _ _) ?_
          rw [hE.out]
          exact read_none noCmd (below17 gB6.out (Nat.le_refl _) _ _ _ _ _ _ _ _ _ _ _ _ _ _ _ _ _) HasI.nil HasA.nil
        | false =>
          go_wp2_with fail
          refine ret_sub (c := noCmd) (vi := .slice none 0 0) (va := .slice none 0 0) (ok := false) rfl rfl rfl (Box.over17 qr.out _ _ _ _ _ _ _ _ _ _ _ _ _ _ _ _ _) ?_
          rw [hE.out]
          exact read_none noCmd (below17 gB6.out (Nat.le_refl _) _ _ _ _ _ _ _ _ _ _ _ _ _ _ _ _ _) HasI.nil HasA.nil
    · obtain rfl : k = ws.length := by omega
      rw [List.drop_of_length_le (Nat.le_refl _), show subQ left [] c = some c by unfold subQ; rfl] at he
      have hE := fhid (show submitQ ws = if fullQ c = true then some c else none by rw [hsub.out, he])
      have qr := fhid (show Box wr w.heap.size TCmd (cellsC noCmd (.slice none 0 0) (.slice none 0 0)) from (hX.block _ (Box.lt q3.out) (fun h => by rcases h with h | h <;> omega)).trans q3.out)
      obtain ⟨vi, va, hbx, hii, haa⟩ := hC
      obtain ⟨Ai, ci, rfl, _⟩ := id hii
      obtain ⟨Aa, ca, rfl, _⟩ := id haa
      obtain ⟨⟨k0, k1, k2, k3, k4, k5, k6, k7, k8, k9, k10, k11, k12, k13, k14, k15, k16⟩, ⟨f0, f1, f2, f3, f4, f5, f6, f7, f8, f9, f10, f11, f12, f13, f14, f15, f16⟩, hrl⟩ := Box.seventeen qr.out
      obtain ⟨⟨m0, m1, m2, m3, m4, m5, m6, m7, m8, m9, m10, m11, m12, m13, m14, m15, m16⟩, ⟨n0, n1, n2, n3, n4, n5, n6, n7, n8, n9, n10, n11, n12, n13, n14, n15, n16⟩, hbl⟩ := Box.seventeen hbx
      have hfin := fhid (show ∀ W, Aft w.heap.size wr W → Box W w.heap.size TCmd (cellsC c (.slice Ai c.items.length ci) (.slice Aa c.idx.length ca)) → ∀ ok : Bool, ok = (submitQ ws).isSome → ReadP X0 (submitQ ws) w (.returned (.tuple #[.agg (cellsC c (.slice Ai c.items.length ci) (.slice Aa c.idx.length ca)).toArray, .bool ok])) W from fun W a1 _ ok hok => by
        have hk : ∀ k, k < wr.heap.size → ¬ (k = b ∨ k = g ∨ k = w.heap.size ∨ X0 k) → W.heap[k]? = wr.heap[k]? := fun k h1 h2 => a1.block k h1 (fun e => by injection e with e; exact h2 (.inr (.inr (.inl e))))
        refine ⟨gB.out.trans (a1.below (B := w.heap.size) (Nat.le_refl _) gB.out.size), c, _, _, by rw [hok], (hii.keep hk a1.size).imp (fun _ _ h => .inr (.inr (.inr h))), (haa.keep hk a1.size).imp (fun _ _ h => .inr (.inr (.inr h))), fun c' h => ?_⟩
        rw [hE.out] at h
        split at h
        · injection h
        · cases h)
      have hts : ∀ l : Str, (str l).toList = l := fun l => by rw [ByteArray.toList_eq]; exact bl_str l
      have hu := hts c.user
      have hp := hts c.part
      replace hii := fhid hii
      replace haa := fhid haa
      replace hbx := fhid hbx
      clear hcut hts he hO hX
      have hfu := fhid (show (submitQ ws).isSome = fullQ c by rw [hE.out]; split <;> simp_all)
      have hful : fullQ c = (!c.user.isEmpty && !c.part.isEmpty && decide (1 ≤ c.nodes) && decide (c.nodes ≤ 256)) := rfl
      rw [hful] at hfu
      have hrb : b ≠ w.heap.size := by omega
      clear k0 k1 k2 k3 k4 k5 k6 k7 k8 k9 k10 k11 k12 k13 k14 k15 k16 f0 f1 f2 f3 f4 f5 f6 f7 f8 f9 f10 f11 f12 f13 f14 f15 f16 m0 m1 m2 m3 m4 m5 m6 m7 m8 m9 m10 m11 m12 m13 m14 m15 m16 n0 n1 n2 n3 n4 n5 n6 n7 n8 n9 n10 n11 n12 n13 n14 n15 n16 hrl hbl hful
      by_cases u0 : c.user = []
      · have u1 : (str c.user).toList = [] := by rw [hu, u0]
        have u2 : (str c.user).toList.isEmpty = true := by rw [u1]; rfl
        have hok := fhid (show false = (submitQ ws).isSome by rw [hfu.out, u0]; rfl)
        clear hfu
        go_upto_region 12 with fail
        refine sub_end_u hrb qr.out hbx.out u1 u2 (fun W _ _ _ _ _ _ _ _ _ _ _ _ _ _ _ _ _ _ _ a1 hb1 => ?_)
        go_wp2_with fail
        exact ret_sub rfl rfl rfl hb1 (hfin.out W a1 hb1 false hok.out)
      · have u1 : ¬ (str c.user).toList = [] := by rw [hu]; exact u0
        have u2 : (str c.user).toList.isEmpty = false := by rw [hu]; cases hq : c.user with | nil => exact absurd hq u0 | cons _ _ => rfl
        have u3 : c.user.isEmpty = false := by cases hq : c.user with | nil => exact absurd hq u0 | cons _ _ => rfl
        by_cases p0 : c.part = []
        · have p1 : (str c.part).toList = [] := by rw [hp, p0]
          have p2 : (str c.part).toList.isEmpty = true := by rw [p1]; rfl
          have hok := fhid (show false = (submitQ ws).isSome by rw [hfu.out, u3, p0]; rfl)
          clear hfu
          go_upto_region 12 with fail
          refine sub_end_p hrb qr.out hbx.out u1 u2 p1 p2 (fun W _ _ _ _ _ _ _ _ _ _ _ _ _ _ _ _ _ _ _ a1 hb1 => ?_)
          go_wp2_with fail
          exact ret_sub rfl rfl rfl hb1 (hfin.out W a1 hb1 false hok.out)
        · have p1 : ¬ (str c.part).toList = [] := by rw [hp]; exact p0
          have p2 : (str c.part).toList.isEmpty = false := by rw [hp]; cases hq : c.part with | nil => exact absurd hq p0 | cons _ _ => rfl
          have p3 : c.part.isEmpty = false := by cases hq : c.part with | nil => exact absurd hq p0 | cons _ _ => rfl
          by_cases n1 : 1 ≤ c.nodes
          · by_cases n2 : c.nodes ≤ 256
            · have q1 := decide_eq_true n1
              have q2 := decide_eq_true n2
              have hok := fhid (show true = (submitQ ws).isSome by rw [hfu.out, u3, p3, q1, q2]; rfl)
              clear hfu
              go_upto_region 12 with fail
              refine sub_end_a hrb qr.out hbx.out u1 u2 p1 p2 n1 n2 (fun W _ _ _ _ _ _ _ _ _ _ _ _ _ _ _ _ _ _ _ a1 hb1 => ?_)
              go_wp2_with fail
              exact ret_sub rfl rfl rfl hb1 (hfin.out W a1 hb1 true hok.out)
            · have q1 := decide_eq_true n1
              have q2 := decide_eq_false n2
              have hok := fhid (show false = (submitQ ws).isSome by rw [hfu.out, u3, p3, q1, q2]; rfl)
              clear hfu
              go_upto_region 12 with fail
              refine sub_end_m hrb qr.out hbx.out u1 u2 p1 p2 n1 n2 (fun W _ _ _ _ _ _ _ _ _ _ _ _ _ _ _ _ _ _ _ a1 hb1 => ?_)
              go_wp2_with fail
              exact ret_sub rfl rfl rfl hb1 (hfin.out W a1 hb1 false hok.out)
          · have q1 := decide_eq_false n1
            have hok := fhid (show false = (submitQ ws).isSome by rw [hfu.out, u3, p3, q1]; rfl)
            clear hfu
            go_upto_region 12 with fail
            refine sub_end_n hrb qr.out hbx.out u1 u2 p1 p2 n1 (fun W _ _ _ _ _ _ _ _ _ _ _ _ _ _ _ _ _ _ _ a1 hb1 => ?_)
            go_wp2_with fail
            exact ret_sub rfl rfl rfl hb1 (hfin.out W a1 hb1 false hok.out)
end Go.Proofs.YtjpihophigjbpaaGreatDoor
