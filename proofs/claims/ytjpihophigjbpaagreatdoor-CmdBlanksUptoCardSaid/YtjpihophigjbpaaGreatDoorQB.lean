/-
  Parts: QParW QFmt QBack QBack2 QWide QAliveM QAlive.
-/
import Derived.Test.YtjpihophigjbpaaGreatDoorQ6
import Derived.Test.YtjpihophigjbpaaGreatDoorQ7
import Derived.Deep.RegionHeld3
import Derived.Test.YtjpihophigjbpaaGreatDoorQA
import Derived.Test.YtjpihophigjbpaaGreatDoorQ1
import Derived.Test.YtjpihophigjbpaaGreatDoorV1
import Derived.Test.YtjpihophigjbpaaGreatDoorK1
set_option linter.unusedSimpArgs false
set_option linter.unusedVariables false
/-
  Parse of a text that has words.
-/
namespace Go.Proofs.YtjpihophigjbpaaGreatDoor
open Go.RowKit Go.Shelf Vs

/-- What is left of words behind the first one. -/
theorem strs_rest10 {w : World} {B bb oo cap : Nat} {n : Str} {os : List Str} (h : Strs w B (some ⟨bb, oo, none⟩) (n :: os)) (hc : (n :: os).length ≤ cap) : ∃ oq, Strs w B (some ⟨bb, oq, none⟩) os ∧ ((cap = 1 ∧ oq = oo) ∨ (¬ cap = 1 ∧ oq = oo + 1)) := by
  have := SegC.drop (k := 1) (cap := cap) h (by rw [SV_len]; simp) (by rw [SV_len]; exact hc)
  by_cases e : cap = 1
  · rw [if_pos e] at this
    exact ⟨oo, this, .inl ⟨e, rfl⟩⟩
  · rw [if_neg e] at this
    have ha : (⟨bb, oo, none⟩ : Addr).add 1 = ⟨bb, oo + 1, none⟩ := rfl
    exact ⟨oo + 1, by rw [Option.map_some, ha] at this; exact this, .inr ⟨e, rfl⟩⟩
def parR (R : Option CmdC) : CmdC × Int := match R with
  | none => (noCmd, 3)
  | some c => (c, 0)
/-- The cells of a command that was read, and its lists. -/
def LJ (X0 : Nat → Prop) (R : Option CmdC) (l : List Value) (W : World) : Prop := ∃ c Ai ci Aa ca, l = cellsC c (.slice Ai c.items.length ci) (.slice Aa c.idx.length ca) ∧ HasI X0 W (.slice Ai c.items.length ci) c.items ∧ HasA X0 W (.slice Aa c.idx.length ca) c.idx ∧ ∀ c', R = some c' → c = c'
theorem LJ.keep {X0 X1 : Nat → Prop} {R : Option CmdC} {l : List Value} {W W' : World} (h : LJ X0 R l W) (hk : ∀ k, k < W.heap.size → ¬ X0 k → W'.heap[k]? = W.heap[k]?) (hs : W.heap.size ≤ W'.heap.size) (hX : ∀ k, X1 k → X0 k) : LJ X1 R l W' := by
  obtain ⟨c, Ai, ci, Aa, ca, e, h1, h2, h3⟩ := h
  exact ⟨c, Ai, ci, Aa, ca, e, (h1.keep hk hs).imp fun k _ h => hX k h, (h2.keep hk hs).imp fun k _ h => hX k h, h3⟩
theorem cells17 (p : CmdC) (vi va : Value) (hi : vi.oneCell' = true) (ha : va.oneCell' = true) : (cellsC p vi va).toArray.size = 17 ∧ (cellsC p vi va).toArray.all (·.oneCell') = true := by
  unfold cellsC
  refine ⟨rfl, ?_⟩
  simp only [List.all_toArray, List.all_cons, List.all_nil, Bool.and_true, hi, ha]
  rfl
def RdL (X0 : Nat → Prop) (R : Option CmdC) (B : Bool) (w : World) (e : Ending) (w' : World) : Prop := Below w.heap.size w w' ∧ ∃ U : Array Value, U.size = 17 ∧ U.all (·.oneCell') = true ∧ e = .returned (.tuple #[.agg U, .bool B]) ∧ LJ X0 R U.toList w'
theorem ReadP.toL {X0 : Nat → Prop} {R : Option CmdC} {w w' : World} {e : Ending} (h : ReadP X0 R w e w') : RdL X0 R R.isSome w e w' := by
  obtain ⟨hb, c, vi, va, he, hi, ha, hc⟩ := h
  obtain ⟨Ai, ci, rfl, _⟩ := id hi
  obtain ⟨Aa, ca, rfl, _⟩ := id ha
  obtain ⟨h1, h2⟩ := cells17 c (.slice Ai c.items.length ci) (.slice Aa c.idx.length ca) rfl rfl
  exact ⟨hb, _, h1, h2, he, c, Ai, ci, Aa, ca, by simp, hi, ha, hc⟩
/-- Behind the reader: where the command lies. -/
def ParAt (X1 : Nat → Prop) (R : Option CmdC) (B : Bool) (w3 : World) (s5 s6 : Value) (wx : World) : Prop := ∃ (b : Nat) (U : Array Value), s5 = .pointer (some ⟨b, 0, none⟩) ∧ s6 = .bool B ∧ Box wx b TCmd U.toList ∧ U.size = 17 ∧ U.all (·.oneCell') = true ∧ LJ X1 R U.toList wx ∧ Below w3.heap.size w3 wx ∧ w3.heap.size ≤ b
theorem parAt_set {X1 : Nat → Prop} {R : Option CmdC} {B : Bool} {w3 w4 w5 : World} {b : Nat} {U : Array Value} (hb : Below w3.heap.size w3 w4) (h3 : w3.heap.size ≤ b) (hx : Box w5 b TCmd U.toList) (ha : Aft b w4 w5) (hj : LJ (fun n => n = b ∨ X1 n) R U.toList w4) (hs : U.size = 17) (h1 : U.all (·.oneCell') = true) : ParAt X1 R B w3 (.pointer (some ⟨b, 0, none⟩)) (.bool B) w5 :=
  ⟨b, U, rfl, rfl, hx, hs, h1, hj.keep (fun k h1 h2 => ha.block k h1 (fun e => by injection e with e; exact h2 (.inl e))) ha.size (fun _ h => .inr h), hb.trans (ha.below h3 hb.size), h3⟩
theorem parAt_new {X1 : Nat → Prop} {R : Option CmdC} {B : Bool} {w3 w4 w5 : World} {U : Array Value} (hb : Below w3.heap.size w3 w4) (hx : Box w5 w4.heap.size TCmd U.toList) (ha : Below w4.heap.size w4 w5) (hj : LJ X1 R U.toList w4) (hs : U.size = 17) (h1 : U.all (·.oneCell') = true) : ParAt X1 R B w3 (.pointer (some ⟨w4.heap.size, 0, none⟩)) (.bool B) w5 :=
  ⟨w4.heap.size, U, rfl, rfl, hx, hs, h1, hj.keep (fun k hk _ => ha.block k hk) ha.size (fun _ h => h), hb.trans (ha.mono hb.size), hb.size⟩
section
attribute [local go_sem ↓] exec_ld_cmd exec_st_cmd
set_option maxRecDepth 100000 in
set_option maxHeartbeats 8000000 in
theorem parse_words (X0 : Nat → Prop) (l k0 : Str) (rest : List Str) (R : Option CmdC) (w : World) (hw : Env w) (hX0 : XOk X0 w) (hl : l.length ≤ 4096) (hws : words l = k0 :: rest) (hR : readC (kindQ k0) rest = R) : Calls Tryz.prog 10 #[.string (str l)] w (ParP X0 (parR R) w) := by
  obtain ⟨q0, g0⟩ := start_cmd w
  have z0 := Box.lt q0
  have hsz : (str l).size = l.length := str_size l
  have i1 : ¬ ((str l).size : Int) > 4096 := by omega
  have hf := fun W => fields_any l W (by omega)
  rw [hws] at hf
  have hL : ∀ x ∈ rest, x.length ≤ 65536 := fun x hx => by have := words_len l x (by rw [hws]; simp [hx]); omega
  have hn : rest.length ≤ 65536 := by have := words_count l; rw [hws, List.length_cons] at this; omega
  have hkd := fun W => kindOf_any k0 W
  have hrd := fun X A' c' W hW hA hX => (read_any X (kindQ k0) A' c' rest W hW hA hL hn hX).mono fun _ _ h => h.toL
  rw [hR] at hrd
  obtain ⟨B, hB⟩ : ∃ B, R.isSome = B := ⟨_, rfl⟩
  rw [hB] at hrd
  replace hB := fhid hB
  obtain ⟨N, hN⟩ : ∃ N, (k0 :: rest).length = N := ⟨_, rfl⟩
  have hN1 : rest.length = N - 1 := by rw [← hN]; rfl
  have hN0 : 1 ≤ N := by rw [← hN]; simp
  rw [hN] at hf
  rw [hN1] at hrd hn
  replace hsz := fhid hsz
  generalize str l = D at *
  clear hR hL
  generalize kindQ k0 = KK at *
  replace q0 := fhid q0
  replace g0 := fhid g0
  replace hX0 := fhid hX0
  clear hl hws
  have i2 : ((N : Int) == 0) = false := by simp; omega
  have i3 : ¬ (N : Int) = 0 := by omega
  have i4 : (0 : Int) < (N : Int) := by omega
  have i7 : 0 < N := hN0
  have i5 : (1 : Int) ≤ (N : Int) := by omega
  have i6 : (N : Int) ≤ 9223372036854775807 := by omega
  go_enter Tryz.func10, Tryz.ntmps10
  go_upto_region 1 with fail
  generalize w.alloc _ = w0 at *
  go_upto_region 4 with (go_at_call 16; (with_reducible refine (hf _).mono ?_); rintro e w3 ⟨A, rfl, hA, own, b3⟩)
  have q3 := Box.below q0.out b3 z0
  have g3 := g0.out.trans (b3.mono g0.out.size)
  have hA3 := hw.below g3
  have x3 := xok_add hX0.out g3 q3
  have z3 := Box.lt q3
  obtain ⟨A2, cap2, e2, _, _, hseg⟩ := ownsRow_shape own
  injection e2 with e2 el ec
  clear el ec
  subst e2
  obtain ⟨oq, hrs, hor⟩ := strs_rest10 (n := k0) (os := rest) (cap := N) hseg (by rw [hN]; exact Nat.le_refl _)
  obtain ⟨bb, oo, ebb, hbb, hc0⟩ := Strs.at_ hseg (k := 0) (by rw [hN]; omega)
  injection ebb with ebb
  injection ebb with ebb1 ebb2
  subst ebb1 ebb2
  simp only [List.getElem_cons_zero, Nat.add_zero] at hc0
  clear own hseg z0
  replace hN := fhid hN
  replace hN1 := fhid hN1
  generalize str k0 = KS at *
  have hrW := fun X W (hb : Below w3.heap.size w3 W) hX => hrd X (some ⟨A, oq, none⟩) (N - 1) W (hA3.below hb) ((SegC.below hrs hb).more hb.size) hX
  replace hrs := fhid hrs
  clear hrd
  generalize hPP : parR R = PP at *
  replace hPP := fhid hPP

  go_upto_region 6 with fail
  go_cut [5, 6] (ParAt (fun n => n = w.heap.size ∨ X0 n) R B w3)
  case first =>
    as_aux_lemma =>
      rcases hor with ⟨rfl, rfl⟩ | ⟨hm0, rfl⟩
      all_goals
        have bd : Below w3.heap.size w3 w3.drew := (Below.refl _ _).drew
        have bA : ∀ o, Below w3.heap.size w3 (w3.alloc o) := fun o => (Below.refl _ _).alloc (Nat.le_refl _) o
        have z : w3.drew.cell? ⟨A, 0, none⟩ = some (.string KS) := hc0
        have zW := fhid (show ∀ W, Below w3.heap.size w3 W → W.cell? ⟨A, 0, none⟩ = some (.string KS) from fun W hb => (hb.cell (p := ⟨A, 0, none⟩) hbb).trans hc0)
        have zA := fun o => zW.out (w3.alloc o) (bA o)
        have hk1 : ∀ W, Below w3.heap.size w3 W → Calls Tryz.prog 18 #[.string KS] W (fun e w' => e = .returned (.int .i64 KK) ∧ Below w3.heap.size w3 w' ∧ ∀ b T cs, Box W b T cs → Box w' b T cs) := fun W hW => (hkd W).mono fun e w' h => by
          obtain ⟨h1, q, rfl⟩ := h
          exact ⟨h1, Vs.below_drewN hW q, fun b T cs h => h⟩
        have hxa := fhid (show ∀ W, Below w3.heap.size w3 W → Box W w3.heap.size TCmd (cellsC noCmd (.slice none 0 0) (.slice none 0 0)) → XOk (fun n => n = w3.heap.size ∨ (n = w.heap.size ∨ X0 n)) W from fun W hb hx => xok_add x3 hb hx)
        have hxb := fhid (show ∀ W, Below w3.heap.size w3 W → XOk (fun n => n = W.heap.size ∨ (n = w.heap.size ∨ X0 n)) (W.alloc (.cells #[.int .i64 0, .string ⟨#[]⟩, .string ⟨#[]⟩, .string ⟨#[]⟩, .string ⟨#[]⟩, .int .i64 0, .int .i64 0, .int .i64 0, .int .i64 0, .int .i64 0, .int .i64 0, .bool false, .slice none 0 0, .slice none 0 0, .int .i64 0, .int .i64 0, .string ⟨#[]⟩] TCmd)) from fun W hb => xok_add (x3.below hb) ((Below.refl _ _).alloc (Nat.le_refl _) _) (Box.new W TCmd _))
        have hxc := fhid (show ∀ W, Below w3.heap.size w3 W → XOk (fun n => n = w.heap.size ∨ X0 n) W from fun W hb => x3.below hb)
        have nA : ∀ o, (w3.alloc o).drew.heap.size = w3.heap.size + 1 := fun o => World.size_alloc w3 o
        have n0 := fhid (show Box (w3.alloc (.cells (cellsC noCmd (.slice none 0 0) (.slice none 0 0)).toArray TCmd)).drew w3.heap.size TCmd (cellsC noCmd (.slice none 0 0) (.slice none 0 0)) from Box.new w3 TCmd _)
        try simp only [Nat.reduceSub, Nat.zero_add] at hrW
        replace hrW := fhid hrW
        clear hc0 hkd x3
        go_region_held3 (fun W => W.cell? ⟨A, 0, none⟩ = some (.string KS)) (first | exact z | exact y9 | exact zA _ | exact zW.out _ (Below.alloc tt (Below.size tt) _) | fail)
          (first
            | (go_at_call 18
               first
               | ((with_reducible refine (hk1 _ bd).mono ?_)
                  rintro e w5 ⟨rfl, tt, _⟩
                  have z := zW.out _ tt)
               | ((with_reducible refine (hk1 _ (Below.drew (bA _))).mono ?_)
                  rintro e w5 ⟨rfl, tt, y5⟩
                  have z := zW.out _ tt
                  have nb := fhid (y5 _ _ _ n0.out)
                  clear y5))
            | (go_at_call 17
               first
               | ((with_reducible refine (hrW.out _ _ tt (hxa.out _ tt nb.out)).mono ?_)
                  rintro e w7 ⟨b7, U, hu, hu1, rfl, hj⟩
                  have n7 := Box.below nb.out b7 (Box.lt nb.out)
                  have tt := tt.trans (b7.mono tt.size)
                  have z := zW.out _ tt
                  have h3 : w3.heap.size ≤ w3.heap.size := Nat.le_refl _
                  obtain ⟨w9, h9, x9, a9⟩ := st_cmd n7 rfl hu hu1
                  have y9 := zW.out _ (tt.trans (a9.below h3 tt.size))
                  clear n7
                  replace x9 := fhid x9
                  replace hu := fhid hu
                  replace hu1 := fhid hu1)
               | ((with_reducible refine (hrW.out _ _ (Below.alloc tt (Below.size tt) _) (hxb.out _ tt)).mono ?_)
                  rintro e w7 ⟨b7, U, hu, hu1, rfl, hj⟩
                  have n7 := Box.below (Box.new w5 TCmd (cellsC noCmd (.slice none 0 0) (.slice none 0 0))) b7 (by simp)
                  have h3 : w3.heap.size ≤ w5.heap.size := tt.size
                  have tt := (Below.alloc tt (Below.size tt) _).trans (b7.mono (Below.alloc tt (Below.size tt) _).size)
                  have z := zW.out _ tt
                  obtain ⟨w9, h9, x9, a9⟩ := st_cmd n7 rfl hu hu1
                  have y9 := zW.out _ (tt.trans (a9.below h3 tt.size))
                  clear n7
                  replace x9 := fhid x9
                  replace hu := fhid hu
                  replace hu1 := fhid hu1)
               | ((with_reducible refine (hrW.out _ _ tt (hxc.out _ tt)).mono ?_)
                  rintro e w7 ⟨b7, U, hu, hu1, rfl, hj⟩
                  have tt := tt.trans (b7.mono tt.size)
                  have z := zW.out _ tt
                  obtain ⟨w9, h9, x9, a9, hq⟩ := st_new (w := w7) hu hu1 #[.int .i64 0, .string ⟨#[]⟩, .string ⟨#[]⟩, .string ⟨#[]⟩, .string ⟨#[]⟩, .int .i64 0, .int .i64 0, .int .i64 0, .int .i64 0, .int .i64 0, .int .i64 0, .bool false, .slice none 0 0, .slice none 0 0, .int .i64 0, .int .i64 0, .string ⟨#[]⟩] rfl
                  replace x9 := fhid x9
                  replace hu := fhid hu
                  replace hu1 := fhid hu1
                  have y9 := zW.out _ (tt.trans (a9.mono tt.size))
                  clear hq)))
        all_goals
          go_wp2_with fail
          go_meet
          first
            | exact parAt_set tt h3 x9.out a9 hj hu.out hu1.out
            | exact parAt_new tt x9.out a9 hj hu.out hu1.out
  case rest =>
    as_aux_lemma =>
      obtain ⟨b, U, rfl, rfl, hbx, hu, hu1, hj, hb4, hb3⟩ := hcut
      obtain ⟨w4, rfl⟩ : ∃ w4 : World, w4 = wc := ⟨_, rfl⟩
      have g4 := g3.trans (hb4.mono g3.size)
      have q4 := Box.below q3 hb4 z3
      clear q3 g3 x3 hA3 hb4 hb3 hc0 hkd hrW hbb z3 b3
      have z4 := Box.lt q4
      cases R with
      | none =>
        obtain rfl : false = B := hB.out
        have hE : Hid (PP = (noCmd, 3)) := fhid hPP.out.symm
        clear hbx hj hPP hB
        obtain ⟨w9, h9, x9, a9⟩ := st_cmd (A := #[.int .i64 0, .string ⟨#[]⟩, .string ⟨#[]⟩, .string ⟨#[]⟩, .string ⟨#[]⟩, .int .i64 0, .int .i64 0, .int .i64 0, .int .i64 0, .int .i64 0, .int .i64 0, .bool false, .slice none 0 0, .slice none 0 0, .int .i64 0, .int .i64 0, .string ⟨#[]⟩]) q4 rfl rfl zero_all
        replace q4 := fhid q4
        replace g4 := fhid g4
        replace x9 := fhid x9
        go_wp2_with fail
        refine ret_err rfl rfl rfl x9.out rfl ?_
        rw [hE.out]
        exact ⟨g4.out.trans (a9.below (Nat.le_refl _) g4.out.size), _, _, rfl, HasI.nil, HasA.nil⟩
      | some c =>
        obtain rfl : true = B := hB.out
        have hE : Hid (PP = (c, 0)) := fhid hPP.out.symm
        obtain ⟨c', Ai, ci, Aa, ca, e, h1, h2, h3⟩ := hj
        obtain rfl : c' = c := h3 c rfl
        have l9 := ld_cmd hbx hu
        obtain ⟨w9, h9, x9, a9⟩ := st_cmd q4 rfl hu hu1
        replace hbx := fhid hbx
        replace hu := fhid hu
        replace hu1 := fhid hu1
        replace h1 := fhid h1
        replace h2 := fhid h2
        replace e := fhid e
        replace q4 := fhid q4
        replace g4 := fhid g4
        replace x9 := fhid x9
        clear hPP hB h3
        go_wp2_with fail
        refine ret_err rfl rfl rfl x9.out hu.out ?_
        rw [hE.out]
        refine ⟨g4.out.trans (a9.below (Nat.le_refl _) g4.out.size), _, _, ?_, keepI h1.out a9, keepA h2.out a9⟩
        rw [← e.out]
end
theorem parse_all (X0 : Nat → Prop) (l : Str) (w : World) (hw : Env w) (hX0 : XOk X0 w) : Calls Tryz.prog 10 #[.string (str l)] w (ParP X0 (cmdP l) w) := by
  unfold cmdP
  by_cases hl : 4096 < l.length
  · rw [if_pos hl]
    exact parse_long X0 l w hl
  · rw [if_neg hl]
    cases hws : words l with
    | nil => exact parse_empty X0 l w (by omega) hws
    | cons k0 rest =>
      rw [wordsQ_cons]
      exact parse_words X0 l k0 rest _ w hw hX0 (by omega) hws rfl
end Go.Proofs.YtjpihophigjbpaaGreatDoor
/-
  Format and Right, given what Parse comes to.
-/
namespace Go.Proofs.YtjpihophigjbpaaGreatDoor
open Go.RowKit Go.Shelf Vs

/-- What Parse comes to, whatever the text. -/
def ParseAll : Prop := ∀ (X0 : Nat → Prop) (l : Str) (W : World), Env W → XOk X0 W → Calls Tryz.prog 10 #[.string (str l)] W (ParP X0 (cmdP l) W)
def FmP (w : World) (R : Str × Int) (e : Ending) (w' : World) : Prop := e = .returned (.tuple #[.string (str R.1), .int .i64 R.2]) ∧ Below w.heap.size w w'
/-- What a call answers that gives a command and an error. -/
def AnsP (n : Int) (I : Array Value → World → Prop) (w : World) (e : Ending) (w' : World) : Prop := Below w.heap.size w w' ∧ ∃ U : Array Value, U.size = 17 ∧ U.all (·.oneCell') = true ∧ e = .returned (.tuple #[.agg U, .int .i64 n]) ∧ I U w'
section
attribute [local go_sem ↓] exec_ld_cmd exec_st_cmd
set_option maxRecDepth 100000 in
set_option maxHeartbeats 1000000 in
theorem fmt_yes {I : Array Value → World → Prop} (hI : ∀ l W W', I l W → Below W.heap.size W W' → I l W') (V : Array Value) (hV : V.size = 17) (T : ByteArray) (n : Int) (S : Bool) (w : World)
    (hte : ∀ W, Below w.heap.size w W → Calls Tryz.prog 15 #[.agg V] W fun e w' => e = .returned (.string T) ∧ Below W.heap.size W w')
    (hpo : ∀ W, Below w.heap.size w W → Calls Tryz.prog 10 #[.string T] W (AnsP n I W))
    (hsm : ∀ U W, U.size = 17 → Below w.heap.size w W → I U W → Calls Tryz.prog 14 #[.agg U, .agg V] W fun e w' => e = .returned (.bool S) ∧ Below W.heap.size W w') (hn : n = 0) (hS : S = true) :
    Calls Tryz.prog 7 #[.agg V] w fun e w' => e = .returned (.tuple #[.string T, .int .i64 0]) ∧ Below w.heap.size w w' := by
  have q0 := box_new w TCmd V
  have g0 : Below w.heap.size w (w.alloc (.cells V TCmd)) := (Below.refl _ _).alloc (Nat.le_refl _) _
  have z0 := Box.lt q0
  unfold AnsP at hpo
  replace q0 := fhid q0
  replace g0 := fhid g0
  replace z0 := fhid z0
  replace hI := fhid hI
  replace hV := fhid hV
  go_enter Tryz.func7, Tryz.ntmps7
  go_upto_region 1 with fail
  have q1 := q0.out
  have g1 := g0.out
  have z1 := z0.out
  clear q0 g0 z0
  generalize w.alloc _ = w0 at *
  have l1 := ld_cmd q1 hV.out
  replace q1 := fhid q1
  go_upto_region 2 with (go_at_call 15; (with_reducible refine (hte _ g1).mono ?_); rintro e w3 ⟨rfl, b3⟩)
  have g3 := g1.trans (b3.mono g1.size)
  go_upto_region 3 with (go_at_call 10; (with_reducible refine (hpo _ g3).mono ?_); rintro e w5 ⟨b5, U, hu, hu1, rfl, hi5⟩; obtain ⟨w7, h7, q6, b7, z7⟩ := st_new (w := w5) hu hu1 #[.int .i64 0, .string ⟨#[]⟩, .string ⟨#[]⟩, .string ⟨#[]⟩, .string ⟨#[]⟩, .int .i64 0, .int .i64 0, .int .i64 0, .int .i64 0, .int .i64 0, .int .i64 0, .bool false, .slice none 0 0, .slice none 0 0, .int .i64 0, .int .i64 0, .string ⟨#[]⟩] rfl)
  have g5 := g3.trans (b5.mono g3.size)
  have q5 := Box.below (Box.below q1.out b3 z1) b5 (Nat.lt_of_lt_of_le z1 b3.size)
  have q7 := Box.below q5 b7 (Box.lt q5)
  have g7 := g5.trans (b7.mono g5.size)
  have i7 := hI.out _ _ _ hi5 b7
  clear b3 b5 b7 q5 hi5 g1 g3 g5 hte hpo z1 h7 l1
  generalize w5.heap.size = c7 at *
  have l7 := ld_cmd q7 hV.out
  have l6 := ld_cmd q6 hu
  replace q6 := fhid q6
  replace q7 := fhid q7
  replace i7 := fhid i7
  replace hu := fhid hu
  clear q1 hu1
  subst hn hS
  go_wp2_with (go_at_call 14; (with_reducible refine (hsm _ _ hu.out g7 i7.out).mono ?_); rintro e w8 ⟨rfl, b8⟩)
  go_ret2
  exact ⟨rfl, g7.trans (b8.mono g7.size)⟩
set_option maxRecDepth 100000 in
set_option maxHeartbeats 1000000 in
theorem fmt_no {I : Array Value → World → Prop} (hI : ∀ l W W', I l W → Below W.heap.size W W' → I l W') (V : Array Value) (hV : V.size = 17) (T : ByteArray) (n : Int) (S : Bool) (w : World)
    (hte : ∀ W, Below w.heap.size w W → Calls Tryz.prog 15 #[.agg V] W fun e w' => e = .returned (.string T) ∧ Below W.heap.size W w')
    (hpo : ∀ W, Below w.heap.size w W → Calls Tryz.prog 10 #[.string T] W (AnsP n I W))
    (hsm : ∀ U W, U.size = 17 → Below w.heap.size w W → I U W → Calls Tryz.prog 14 #[.agg U, .agg V] W fun e w' => e = .returned (.bool S) ∧ Below W.heap.size W w') (hn : n = 0) (hS : S = false) :
    Calls Tryz.prog 7 #[.agg V] w fun e w' => e = .returned (.tuple #[.string (str []), .int .i64 3]) ∧ Below w.heap.size w w' := by
  have q0 := box_new w TCmd V
  have g0 : Below w.heap.size w (w.alloc (.cells V TCmd)) := (Below.refl _ _).alloc (Nat.le_refl _) _
  have z0 := Box.lt q0
  unfold AnsP at hpo
  replace q0 := fhid q0
  replace g0 := fhid g0
  replace z0 := fhid z0
  replace hI := fhid hI
  replace hV := fhid hV
  go_enter Tryz.func7, Tryz.ntmps7
  go_upto_region 1 with fail
  have q1 := q0.out
  have g1 := g0.out
  have z1 := z0.out
  clear q0 g0 z0
  generalize w.alloc _ = w0 at *
  have l1 := ld_cmd q1 hV.out
  replace q1 := fhid q1
  go_upto_region 2 with (go_at_call 15; (with_reducible refine (hte _ g1).mono ?_); rintro e w3 ⟨rfl, b3⟩)
  have g3 := g1.trans (b3.mono g1.size)
  go_upto_region 3 with (go_at_call 10; (with_reducible refine (hpo _ g3).mono ?_); rintro e w5 ⟨b5, U, hu, hu1, rfl, hi5⟩; obtain ⟨w7, h7, q6, b7, z7⟩ := st_new (w := w5) hu hu1 #[.int .i64 0, .string ⟨#[]⟩, .string ⟨#[]⟩, .string ⟨#[]⟩, .string ⟨#[]⟩, .int .i64 0, .int .i64 0, .int .i64 0, .int .i64 0, .int .i64 0, .int .i64 0, .bool false, .slice none 0 0, .slice none 0 0, .int .i64 0, .int .i64 0, .string ⟨#[]⟩] rfl)
  have g5 := g3.trans (b5.mono g3.size)
  have q5 := Box.below (Box.below q1.out b3 z1) b5 (Nat.lt_of_lt_of_le z1 b3.size)
  have q7 := Box.below q5 b7 (Box.lt q5)
  have g7 := g5.trans (b7.mono g5.size)
  have i7 := hI.out _ _ _ hi5 b7
  clear b3 b5 b7 q5 hi5 g1 g3 g5 hte hpo z1 h7 l1
  generalize w5.heap.size = c7 at *
  have l7 := ld_cmd q7 hV.out
  have l6 := ld_cmd q6 hu
  replace q6 := fhid q6
  replace q7 := fhid q7
  replace i7 := fhid i7
  replace hu := fhid hu
  clear q1 hu1
  subst hn hS
  go_wp2_with (go_at_call 14; (with_reducible refine (hsm _ _ hu.out g7 i7.out).mono ?_); rintro e w8 ⟨rfl, b8⟩)
  go_ret2
  exact ⟨rfl, g7.trans (b8.mono g7.size)⟩
set_option maxRecDepth 100000 in
set_option maxHeartbeats 1000000 in
theorem fmt_bad {I : Array Value → World → Prop} (hI : ∀ l W W', I l W → Below W.heap.size W W' → I l W') (V : Array Value) (hV : V.size = 17) (T : ByteArray) (n : Int) (S : Bool) (w : World)
    (hte : ∀ W, Below w.heap.size w W → Calls Tryz.prog 15 #[.agg V] W fun e w' => e = .returned (.string T) ∧ Below W.heap.size W w')
    (hpo : ∀ W, Below w.heap.size w W → Calls Tryz.prog 10 #[.string T] W (AnsP n I W))
    (hsm : ∀ U W, U.size = 17 → Below w.heap.size w W → I U W → Calls Tryz.prog 14 #[.agg U, .agg V] W fun e w' => e = .returned (.bool S) ∧ Below W.heap.size W w') (hn : (n != 0) = true) :
    Calls Tryz.prog 7 #[.agg V] w fun e w' => e = .returned (.tuple #[.string (str []), .int .i64 3]) ∧ Below w.heap.size w w' := by
  have q0 := box_new w TCmd V
  have g0 : Below w.heap.size w (w.alloc (.cells V TCmd)) := (Below.refl _ _).alloc (Nat.le_refl _) _
  have z0 := Box.lt q0
  unfold AnsP at hpo
  replace q0 := fhid q0
  replace g0 := fhid g0
  replace z0 := fhid z0
  replace hI := fhid hI
  replace hV := fhid hV
  go_enter Tryz.func7, Tryz.ntmps7
  go_upto_region 1 with fail
  have q1 := q0.out
  have g1 := g0.out
  have z1 := z0.out
  clear q0 g0 z0
  generalize w.alloc _ = w0 at *
  have l1 := ld_cmd q1 hV.out
  replace q1 := fhid q1
  go_upto_region 2 with (go_at_call 15; (with_reducible refine (hte _ g1).mono ?_); rintro e w3 ⟨rfl, b3⟩)
  have g3 := g1.trans (b3.mono g1.size)
  go_upto_region 3 with (go_at_call 10; (with_reducible refine (hpo _ g3).mono ?_); rintro e w5 ⟨b5, U, hu, hu1, rfl, hi5⟩; obtain ⟨w7, h7, q6, b7, z7⟩ := st_new (w := w5) hu hu1 #[.int .i64 0, .string ⟨#[]⟩, .string ⟨#[]⟩, .string ⟨#[]⟩, .string ⟨#[]⟩, .int .i64 0, .int .i64 0, .int .i64 0, .int .i64 0, .int .i64 0, .int .i64 0, .bool false, .slice none 0 0, .slice none 0 0, .int .i64 0, .int .i64 0, .string ⟨#[]⟩] rfl)
  have g5 := g3.trans (b5.mono g3.size)
  have q5 := Box.below (Box.below q1.out b3 z1) b5 (Nat.lt_of_lt_of_le z1 b3.size)
  have q7 := Box.below q5 b7 (Box.lt q5)
  have g7 := g5.trans (b7.mono g5.size)
  have i7 := hI.out _ _ _ hi5 b7
  clear b3 b5 b7 q5 hi5 g1 g3 g5 hte hpo z1 h7 l1
  generalize w5.heap.size = c7 at *
  have l7 := ld_cmd q7 hV.out
  have l6 := ld_cmd q6 hu
  replace q6 := fhid q6
  replace q7 := fhid q7
  replace i7 := fhid i7
  replace hu := fhid hu
  clear q1 hu1
  go_wp2_with fail
  go_ret2
  exact ⟨rfl, g7⟩
end
/-- The lists of a command of seventeen cells. -/
def InvC (p : CmdC) (l : List Value) (W : World) : Prop := ∃ Ai ci Aa ca, l = cellsC p (.slice Ai p.items.length ci) (.slice Aa p.idx.length ca) ∧ HasI NoX W (.slice Ai p.items.length ci) p.items ∧ HasA NoX W (.slice Aa p.idx.length ca) p.idx
theorem InvC.below {p : CmdC} {l : List Value} {W W' : World} (h : InvC p l W) (hb : Below W.heap.size W W') : InvC p l W' := by
  obtain ⟨Ai, ci, Aa, ca, e, h1, h2⟩ := h
  exact ⟨Ai, ci, Aa, ca, e, h1.keep (fun k hk _ => hb.block k hk) hb.size, h2.keep (fun k hk _ => hb.block k hk) hb.size⟩
theorem ParP.ans {p : CmdC} {n : Int} {w w' : World} {e : Ending} (h : ParP NoX (p, n) w e w') : AnsP n (fun U W => InvC p U.toList W) w e w' := by
  obtain ⟨hb, vi, va, he, hi, ha⟩ := h
  obtain ⟨Ap, cp, rfl, _⟩ := id hi
  obtain ⟨Aq, cq, rfl, _⟩ := id ha
  obtain ⟨h1, h2⟩ := cells17 p (.slice Ap p.items.length cp) (.slice Aq p.idx.length cq) rfl rfl
  exact ⟨hb, _, h1, h2, he, Ap, cp, Aq, cq, by simp, hi, ha⟩
set_option maxRecDepth 100000 in
set_option maxHeartbeats 1000000 in
theorem format_of (hP : ParseAll) (c : CmdC) (Ai Aa : Option Addr) (ci ca : Nat) (w : World) (hw : Env w) (h1 : HasI NoX w (.slice Ai c.items.length ci) c.items) (h2 : HasA NoX w (.slice Aa c.idx.length ca) c.idx) (hn : WideC c) (hTL : ∀ i, i < 10 → (txtQ i c).length ≤ 1125899906842624) (hHL : c.host.length ≤ 1125899906842624) :
    Calls Tryz.prog 7 #[.agg #[.int .i64 c.kind, .string (str c.user), .string (str c.part), .string (str c.qos), .string (str c.name), .int .i64 c.nodes, .int .i64 c.time, .int .i64 c.run, .int .i64 c.req.1, .int .i64 c.req.2.1, .int .i64 c.req.2.2, .bool c.any, .slice Ai c.items.length ci, .slice Aa c.idx.length ca, .int .i64 c.lim, .int .i64 c.job, .string (str c.host)]] w (FmP w (fmtQ c)) := by
  have hI := fun W (hW : Below w.heap.size w W) => h1.keep (fun k hk _ => hW.block k hk) hW.size
  have hA := fun W (hW : Below w.heap.size w W) => h2.keep (fun k hk _ => hW.block k hk) hW.size
  have hte := fun W (hW : Below w.heap.size w W) => text_any c Ai Aa c.items.length c.idx.length ci ca W (hw.below hW) (hI W hW) (hA W hW) hn hTL hHL
  have hpo : ∀ W, Below w.heap.size w W → Calls Tryz.prog 10 #[.string (str (textQ c))] W (AnsP (cmdP (textQ c)).2 (fun U W => InvC (cmdP (textQ c)).1 U.toList W) W) := fun W hW => (hP NoX (textQ c) W (hw.below hW) (fun k hk => hk.elim)).mono fun _ _ h => h.ans
  have hsm : ∀ (U : Array Value) W, U.size = 17 → Below w.heap.size w W → InvC (cmdP (textQ c)).1 U.toList W → Calls Tryz.prog 14 #[.agg U, .agg #[.int .i64 c.kind, .string (str c.user), .string (str c.part), .string (str c.qos), .string (str c.name), .int .i64 c.nodes, .int .i64 c.time, .int .i64 c.run, .int .i64 c.req.1, .int .i64 c.req.2.1, .int .i64 c.req.2.2, .bool c.any, .slice Ai c.items.length ci, .slice Aa c.idx.length ca, .int .i64 c.lim, .int .i64 c.job, .string (str c.host)]] W (BoolP W (sameQ (cmdP (textQ c)).1 c)) := by
    intro U W _ hW hi
    obtain ⟨Aj, cj, Ab, cb, e, hi1, hi2⟩ := hi
    have e2 : U = (cellsC (cmdP (textQ c)).1 (.slice Aj (cmdP (textQ c)).1.items.length cj) (.slice Ab (cmdP (textQ c)).1.idx.length cb)).toArray := by rw [← e]
    rw [e2]
    exact sameC_any (cmdP (textQ c)).1 c Aj Ai Ab Aa cj ci cb ca W hi1 (hI W hW) hi2 (hA W hW)
  have hfm : fmtQ c = if (decide ((cmdP (textQ c)).2 = 0) && sameQ (cmdP (textQ c)).1 c) = true then (textQ c, 0) else ([], 3) := rfl
  rw [hfm]
  have hin := fun (l : Array Value) (W W' : World) (h : InvC (cmdP (textQ c)).1 l.toList W) (hb : Below W.heap.size W W') => InvC.below h hb
  by_cases hR : (cmdP (textQ c)).2 = 0
  · rw [decide_eq_true hR]
    cases hs : sameQ (cmdP (textQ c)).1 c with
    | true => exact fmt_yes hin _ rfl (str (textQ c)) _ _ w hte hpo hsm hR hs
    | false => exact fmt_no hin _ rfl (str (textQ c)) _ _ w hte hpo hsm hR hs
  · rw [decide_eq_false hR]
    exact fmt_bad hin _ rfl (str (textQ c)) _ _ w hte hpo hsm (by simpa using hR)
section
attribute [local go_sem ↓] exec_ld_cmd exec_st_cmd
set_option maxRecDepth 100000 in
set_option maxHeartbeats 1000000 in
theorem right_abs (V : Array Value) (hV : V.size = 17) (T : ByteArray) (n : Int) (B : Bool) (w : World) (hB : (n == 0) = B) (hf : ∀ W, Below w.heap.size w W → Calls Tryz.prog 7 #[.agg V] W fun e w' => e = .returned (.tuple #[.string T, .int .i64 n]) ∧ Below W.heap.size W w') :
    Calls Tryz.prog 13 #[.agg V] w (BoolP w B) := by
  unfold BoolP
  have q0 := box_new w TCmd V
  have g0 : Below w.heap.size w (w.alloc (.cells V TCmd)) := (Below.refl _ _).alloc (Nat.le_refl _) _
  replace q0 := fhid q0
  replace g0 := fhid g0
  replace hV := fhid hV
  subst hB
  go_enter Tryz.func13, Tryz.ntmps13
  go_upto_region 1 with fail
  have q1 := q0.out
  have g1 := g0.out
  clear q0 g0
  generalize w.alloc _ = w0 at *
  have l1 := ld_cmd q1 hV.out
  replace q1 := fhid q1
  go_wp2_with (go_at_call 7; (with_reducible refine (hf _ g1).mono ?_); rintro e w3 ⟨rfl, b3⟩)
  go_ret
  exact ⟨rfl, g1.trans (b3.mono g1.size)⟩
end
theorem right_of (hP : ParseAll) (c : CmdC) (Ai Aa : Option Addr) (ci ca : Nat) (w : World) (hw : Env w) (h1 : HasI NoX w (.slice Ai c.items.length ci) c.items) (h2 : HasA NoX w (.slice Aa c.idx.length ca) c.idx) (hn : WideC c) (hTL : ∀ i, i < 10 → (txtQ i c).length ≤ 1125899906842624) (hHL : c.host.length ≤ 1125899906842624) :
    Calls Tryz.prog 13 #[.agg #[.int .i64 c.kind, .string (str c.user), .string (str c.part), .string (str c.qos), .string (str c.name), .int .i64 c.nodes, .int .i64 c.time, .int .i64 c.run, .int .i64 c.req.1, .int .i64 c.req.2.1, .int .i64 c.req.2.2, .bool c.any, .slice Ai c.items.length ci, .slice Aa c.idx.length ca, .int .i64 c.lim, .int .i64 c.job, .string (str c.host)]] w (BoolP w (rightQ c)) := by
  have h := fun W (hW : Below w.heap.size w W) => format_of hP c Ai Aa ci ca W (hw.below hW) (h1.keep (fun k hk _ => hW.block k hk) hW.size) (h2.keep (fun k hk _ => hW.block k hk) hW.size) hn hTL hHL
  unfold FmP at h
  refine right_abs _ rfl (str (fmtQ c).1) (fmtQ c).2 (rightQ c) w ?_ h
  unfold fmtQ
  split
  · rename_i hr; rw [hr]; rfl
  · rename_i hr
    have : rightQ c = false := by simpa using hr
    rw [this]; rfl
end Go.Proofs.YtjpihophigjbpaaGreatDoor
/-
  Plain mathematics: what a text tells is told again by the text of it.
-/
namespace Go.Proofs.YtjpihophigjbpaaGreatDoor

/-- No byte that parts words, and at least one. -/
def clean (l : Str) : Prop := ∀ c ∈ l, blankB c = false
theorem clean_app {a b : Str} (ha : clean a) (hb : clean b) : clean (a ++ b) := fun c hc => by
  rcases List.mem_append.1 hc with h | h
  · exact ha c h
  · exact hb c h
theorem clean_cons {x : UInt8} {a : Str} (hx : blankB x = false) (ha : clean a) : clean (x :: a) := fun c hc => by
  rcases List.mem_cons.1 hc with h | h
  · rw [h]; exact hx
  · exact ha c h
theorem clean_nil : clean [] := fun c hc => by simp at hc
theorem dig_clean {c : UInt8} (h : Vs.isDig c = true) : blankB c = false := by
  have := (Vs.isDig_iff c).1 h
  rw [← blank_toNat]; unfold isBlankP; simp; omega
theorem clean_dec (u : Nat) : clean (Vs.dec u) := fun c hc => dig_clean (List.all_eq_true.1 (Vs.dec_facts u).1 c hc)
theorem clean_num (n : Int) : clean (Vs.num n) := by
  by_cases h : 0 ≤ n
  · rw [Vs.num_pos h]; exact clean_dec _
  · rw [Vs.num_neg (by omega)]; exact clean_cons (by decide) (clean_dec _)
theorem clean_joinTail {s : Str} {l : List Str} (hs : clean s) (hl : ∀ x ∈ l, clean x) : clean (Go.Lib.joinTail s l) := by
  unfold Go.Lib.joinTail
  intro c hc
  obtain ⟨y, hy, hcy⟩ := List.mem_flatten.1 hc
  obtain ⟨x, hx, rfl⟩ := List.mem_map.1 hy
  exact clean_app hs (hl x hx) c hcy
theorem clean_join {s : Str} {l : List Str} (hs : clean s) (hl : ∀ x ∈ l, clean x) : clean (Go.Lib.join l s) := by
  cases l with
  | nil => exact clean_nil
  | cons x r =>
    rw [Go.Lib.join_cons]
    exact clean_app (hl x (by simp)) (clean_joinTail hs (fun y hy => hl y (by simp [hy])))
theorem clean_pcs {k : Str} (hk : clean k) (n : Int) : ∀ x ∈ Vs.pcs k n, clean x := by
  intro x hx
  unfold Vs.pcs at hx
  split at hx
  · simp at hx
  · obtain rfl : x = Vs.pc k n := by simpa using hx
    unfold Vs.pc
    exact clean_app (clean_app hk (clean_cons (by decide) clean_nil)) (clean_num n)
theorem clean_lit {l : Str} (h : l.all (fun c => !blankB c) = true) : clean l := fun c hc => by simpa using List.all_eq_true.1 h c hc
theorem clean_fmt (v : Vs.V3) : clean (Vs.fmt v) := by
  unfold Vs.fmt
  split
  · exact clean_lit (by decide)
  · refine clean_join (clean_lit (by decide)) fun x hx => ?_
    unfold Vs.allPcs at hx
    rcases List.mem_append.1 hx with h | h
    · rcases List.mem_append.1 h with h | h
      · exact clean_pcs (clean_lit (by decide)) _ x h
      · exact clean_pcs (clean_lit (by decide)) _ x h
    · exact clean_pcs (clean_lit (by decide)) _ x h
theorem clean_pieceT (l : List Int) (k : Nat) : clean (Ys.pieceT l k) := by
  unfold Ys.pieceT
  refine clean_app (clean_dec _) ?_
  split
  · exact clean_nil
  · refine clean_cons (by decide) (clean_app (clean_dec _) ?_)
    split
    · exact clean_nil
    · exact clean_cons (by decide) (clean_dec _)
theorem clean_pieces : ∀ (f : Nat) (l : List Int), ∀ x ∈ Ys.pieces f l, clean x
  | 0, l, x, hx => by simp [Ys.pieces] at hx
  | f + 1, l, x, hx => by
    by_cases h : l = []
    · subst h; simp [Ys.pieces_none] at hx
    · rw [Ys.pieces_some f h] at hx
      rcases List.mem_cons.1 hx with h1 | h1
      · rw [h1]; exact clean_pieceT _ _
      · exact clean_pieces f _ x h1
theorem clean_fmtT (l : List Int) (lim : Int) : clean (Ys.fmtT l lim) := by
  unfold Ys.fmtT
  refine clean_app (clean_join (clean_lit (by decide)) (clean_pieces _ _)) ?_
  split
  · exact clean_nil
  · exact clean_cons (by decide) (clean_dec _)
/-- How long an array's text is. -/
theorem num6 {n : Int} (h0 : 0 ≤ n) (h1 : n ≤ 999999) : (Ys.num n).length ≤ 6 := (Ys.num_facts h0 h1).2.2.2
theorem pieceT_le {l : List Int} (hne : l ≠ []) (hu : l.Pairwise (· < ·)) (hx : ∀ x ∈ l, 0 ≤ x ∧ x ≤ 999999) : (Ys.pieceT l (Ys.cutN l)).length + 1 ≤ 7 * Ys.cutN l := by
  obtain ⟨c1, c2, c3⟩ := Ys.cutN_le hne
  have hg : ∀ j, j < l.length → 0 ≤ l.getD j 0 ∧ l.getD j 0 ≤ 999999 := fun j hj => by
    rw [Ys.getD_get hj]; exact hx _ (List.getElem_mem hj)
  have hpos : 0 < l.length := by omega
  have n0 := num6 (hg 0 hpos).1 (hg 0 hpos).2
  have n1 := num6 (hg (Ys.cutN l - 1) (by omega)).1 (hg (Ys.cutN l - 1) (by omega)).2
  unfold Ys.pieceT
  by_cases h1 : Ys.cutN l = 1
  · rw [if_pos h1, List.append_nil]; omega
  · rw [if_neg h1]
    by_cases hs : Ys.stepOf l = 1
    · rw [if_pos hs]
      simp only [List.length_append, List.length_cons, List.append_nil]
      omega
    · rw [if_neg hs]
      have hl2 : 2 ≤ l.length := by omega
      have h3 : 3 ≤ Ys.cutN l := by
        unfold Ys.cutN at h1 ⊢
        split
        · rename_i hh; rw [if_pos hh] at h1; omega
        · rename_i hh
          rw [if_neg hh] at h1
          by_cases h2 : Ys.maxRun l = 2
          · exact absurd ⟨h2, hs⟩ hh
          · omega
      have s1 : 0 ≤ Ys.stepOf l ∧ Ys.stepOf l ≤ 999999 := by
        unfold Ys.stepOf
        have a := hg 0 hpos
        have b := hg 1 (by omega)
        have : l.getD 0 0 < l.getD 1 0 := by
          rw [Ys.getD_get hpos, Ys.getD_get (show 1 < l.length by omega)]
          exact List.pairwise_iff_getElem.1 hu 0 1 hpos (by omega) (by omega)
        omega
      have n2 := num6 s1.1 s1.2
      simp only [List.length_append, List.length_cons]
      omega
theorem pieces_le : ∀ (g : Nat) (l : List Int), l.Pairwise (· < ·) → (∀ x ∈ l, 0 ≤ x ∧ x ≤ 999999) → (Go.Lib.joinTail [44] (Ys.pieces g l)).length ≤ 7 * l.length
  | 0, l, _, _ => by simp [Ys.pieces, Go.Lib.joinTail]
  | g + 1, l, hu, hx => by
    by_cases h : l = []
    · subst h; simp [Ys.pieces_none, Go.Lib.joinTail]
    · obtain ⟨c1, c2, _⟩ := Ys.cutN_le h
      have hp := pieceT_le h hu hx
      have ih := pieces_le g (l.drop (Ys.cutN l)) (hu.sublist (List.drop_sublist _ _)) (fun x hx' => hx x (List.mem_of_mem_drop hx'))
      rw [Ys.pieces_some g h]
      have e : Go.Lib.joinTail [44] (Ys.pieceT l (Ys.cutN l) :: Ys.pieces g (l.drop (Ys.cutN l))) = (44 :: Ys.pieceT l (Ys.cutN l)) ++ Go.Lib.joinTail [44] (Ys.pieces g (l.drop (Ys.cutN l))) := by simp [Go.Lib.joinTail]
      rw [e, List.length_append, List.length_cons]
      rw [List.length_drop] at ih
      omega
theorem join_tail_le (l : List Str) : (Go.Lib.join l [44]).length ≤ (Go.Lib.joinTail [44] l).length := by
  cases l with
  | nil => simp [Go.Lib.join]
  | cons x r =>
    rw [Go.Lib.join_cons]
    simp [Go.Lib.joinTail]
theorem fmtT_le {l : List Int} {lim : Int} (h : Ys.RightP l lim) : (Ys.fmtT l lim).length ≤ 1799 := by
  have h1 := join_tail_le (Ys.pieces l.length l)
  have h2 := pieces_le l.length l h.up h.range
  have h3 := h.1.2
  unfold Ys.fmtT
  rw [List.length_append]
  have h4 : (if lim = 0 then [] else 37 :: Ys.num lim : Str).length ≤ 7 := by
    split
    · simp
    · have := num6 h.2.2.1 h.2.2.2
      simp only [List.length_cons]; omega
  omega
/-- An option of a command is as without it, or its text tells it. -/
def FieldOk (i : Nat) (c : CmdC) : Prop := (∀ c0, cpyQ i c c0 = cpyQ i bareC c0) ∨ ((∀ c0, readQ i (txtQ i c) c0 = some (cpyQ i c c0)) ∧ clean (txtQ i c))
theorem setQ_other (i j : Nat) (h : j ≠ i) (v : Str) (c c0 : CmdC) : cpyQ j (setQ i v c) c0 = cpyQ j c c0 ∧ txtQ j (setQ i v c) = txtQ j c := by
  rcases i with _ | _ | _ | _ | _ | _ | _ | _ | _ | _ | i <;> rcases j with _ | _ | _ | _ | _ | _ | _ | _ | _ | _ | j <;> first | exact ⟨rfl, rfl⟩ | exact absurd rfl h
theorem setQ_rest (i : Nat) (v : Str) (c : CmdC) : (setQ i v c).kind = c.kind ∧ (setQ i v c).job = c.job ∧ (setQ i v c).host = c.host := by
  rcases i with _ | _ | _ | _ | _ | _ | _ | _ | _ | _ | i <;> exact ⟨rfl, rfl, rfl⟩
theorem readNum_dec {n : Nat} (h : n < 10000000) : readNumP (Vs.num (n : Int)) = some n := by
  rw [Vs.num_pos (by omega), Int.toNat_natCast]
  have hf := Vs.dec_facts n
  have hl : (Vs.dec n).length ≤ 7 := Ys.dec_len_le 7 n (by omega) (by omega)
  unfold readNumP isOfP
  have h0 : (Vs.dec n).isEmpty = false := by
    cases hd : Vs.dec n with
    | nil => rw [hd] at hf; simp at hf
    | cons a b => rfl
  have ha : (Vs.dec n).all (digCs.contains ·) = true := by
    rw [List.all_eq_true]
    intro c hc
    have h1 := (Vs.isDig_iff c).1 (List.all_eq_true.1 hf.1 c hc)
    have h2 : ∀ k : Fin 10, digCs.contains (UInt8.ofNat (48 + k.val)) = true := by decide
    have h3 := h2 ⟨c.toNat - 48, by omega⟩
    have h4 : UInt8.ofNat (48 + (c.toNat - 48)) = c := by
      rw [← UInt8.toNat_inj]; simp; omega
    simpa [h4] using h3
  rw [h0, decide_eq_true hl, ha]
  simp only [Bool.not_false, Bool.and_self, if_true]
  rw [hf.2.1]
theorem readNum_lt {v : Str} {n : Nat} (h : readNumP v = some n) : n < 10000000 ∧ 1 ≤ v.length ∧ v.length ≤ 7 := by
  unfold readNumP at h
  split at h
  · rename_i hi
    injection h with h
    unfold isOfP at hi
    simp only [Bool.and_eq_true, decide_eq_true_eq, Bool.not_eq_true'] at hi
    obtain ⟨⟨h0, hl⟩, ha⟩ := hi
    have hd : v.all Vs.isDig = true := by
      rw [List.all_eq_true] at ha ⊢
      intro c hc
      have := ha c hc
      have h2 : ∀ d ∈ digCs, Vs.isDig d = true := by decide
      exact h2 c (by simpa using this)
    have h1 := Vs.dval_lt v.length v rfl hd
    have h2 : (10 : Nat) ^ v.length ≤ 10 ^ 7 := Nat.pow_le_pow_right (by decide) hl
    have h3 : v ≠ [] := by simpa using h0
    have h4 : 0 < v.length := List.length_pos_iff.2 h3
    omega
  · cases h
theorem name_clean {v : Str} (h : isNameP v = true) : clean v ∧ 1 ≤ v.length ∧ v.length ≤ 16 := by
  unfold isNameP isOfP at h
  simp only [Bool.and_eq_true, decide_eq_true_eq, Bool.not_eq_true'] at h
  obtain ⟨⟨h0, hl⟩, ha⟩ := h
  have h3 : v ≠ [] := by simpa using h0
  have h4 : 0 < v.length := List.length_pos_iff.2 h3
  refine ⟨fun c hc => ?_, h4, hl⟩
  have h2 : ∀ d ∈ nameCs, blankB d = false := by decide
  exact h2 c (by simpa using List.all_eq_true.1 ha c hc)
theorem parse_right {v : Str} (h : (Vs.parseP v).2 = 0) : Vs.right (Vs.parseP v).1.1 (Vs.parseP v).1.2.1 (Vs.parseP v).1.2.2 = true := by
  unfold Vs.parseP at h ⊢
  cases hr : Vs.readP v with
  | none => rw [hr] at h; simp at h
  | some x =>
    rw [hr] at h
    simp only at h ⊢
    split
    · rename_i hh; exact hh.1
    · rename_i hh; rw [if_neg hh] at h; simp at h
theorem setQ_ok {i : Nat} {v : Str} (h : okQ i v = true) (hv : clean v) (c : CmdC) : (∀ c0, readQ i (txtQ i (setQ i v c)) c0 = some (cpyQ i (setQ i v c) c0)) ∧ clean (txtQ i (setQ i v c)) := by
  have hnum : ∀ n : Nat, readNumP v = some n → readNumP (Vs.num ((n : Nat) : Int)) = some n := fun n hn => readNum_dec (readNum_lt hn).1
  rcases i with _ | _ | _ | _ | _ | _ | _ | _ | _ | _ | i
  · exact ⟨fun c0 => if_pos (show isNameP v = true from h), hv⟩
  · exact ⟨fun c0 => if_pos (show isNameP v = true from h), hv⟩
  · obtain ⟨n, hn⟩ := Option.isSome_iff_exists.1 (show (readNumP v).isSome = true from h)
    refine ⟨fun c0 => ?_, clean_num _⟩
    show (readNumP (Vs.num (((readNumP v).getD 0 : Nat) : Int))).map _ = some { c0 with nodes := (((readNumP v).getD 0 : Nat) : Int) }
    rw [hn, Option.getD_some, hnum n hn]; rfl
  · obtain ⟨n, hn⟩ := Option.isSome_iff_exists.1 (show (readNumP v).isSome = true from h)
    refine ⟨fun c0 => ?_, clean_num _⟩
    show (readNumP (Vs.num (((readNumP v).getD 0 : Nat) : Int))).map _ = some { c0 with time := (((readNumP v).getD 0 : Nat) : Int) }
    rw [hn, Option.getD_some, hnum n hn]; rfl
  · have h0 : (Vs.parseP v).2 = 0 := of_decide_eq_true h
    have hr := parse_right h0
    obtain ⟨a, b, d⟩ := Vs.right_I64 hr
    refine ⟨fun c0 => ?_, clean_fmt _⟩
    show (if (Vs.parseP (Vs.fmt (Vs.parseP v).1)).2 = 0 then some { c0 with req := (Vs.parseP (Vs.fmt (Vs.parseP v).1)).1 } else none) = some { c0 with req := (Vs.parseP v).1 }
    rw [Vs.parse_fmt _ a b d, if_pos hr, if_pos rfl]
  · exact ⟨fun c0 => if_pos (show isNameP v = true from h), hv⟩
  · exact ⟨fun c0 => if_pos (show isNameP v = true from h), hv⟩
  · obtain ⟨⟨a, l⟩, hn⟩ := Option.isSome_iff_exists.1 (show (Ds.pDep v).isSome = true from h)
    have e : txtQ 7 (setQ 7 v c) = v := by
      show Ds.depT ((Ds.pDep v).getD (false, [])).1 ((Ds.pDep v).getD (false, [])).2 = v
      rw [hn]; exact (Ds.pDep_text hn).1
    rw [e]
    refine ⟨fun c0 => ?_, hv⟩
    show (Ds.pDep v).map _ = some { c0 with any := ((Ds.pDep v).getD (false, [])).1, items := ((Ds.pDep v).getD (false, [])).2 }
    rw [hn]; rfl
  · obtain ⟨⟨l, m⟩, hn⟩ := Option.isSome_iff_exists.1 (show (Ys.pArr v).isSome = true from h)
    have hr := Ys.pArr_right hn
    have e : txtQ 8 (setQ 8 v c) = Ys.fmtT l m := by
      show (if Ys.right ((Ys.pArr v).getD ([], 0)).1 ((Ys.pArr v).getD ([], 0)).2 = true then _ else _) = _
      rw [hn, Option.getD_some, if_pos (show Ys.right l m = true from decide_eq_true hr)]
      show Ys.fmtT ((Ys.pArr v).getD ([], 0)).1 ((Ys.pArr v).getD ([], 0)).2 = _
      rw [hn]; rfl
    rw [e]
    refine ⟨fun c0 => ?_, clean_fmtT _ _⟩
    show (Ys.pArr (Ys.fmtT l m)).map _ = some { c0 with idx := ((Ys.pArr v).getD ([], 0)).1, lim := ((Ys.pArr v).getD ([], 0)).2 }
    rw [hn, Ys.pArr_fmt hr]; rfl
  · obtain ⟨n, hn⟩ := Option.isSome_iff_exists.1 (show (readNumP v).isSome = true from h)
    refine ⟨fun c0 => ?_, clean_num _⟩
    show (readNumP (Vs.num (((readNumP v).getD 0 : Nat) : Int))).map _ = some { c0 with run := (((readNumP v).getD 0 : Nat) : Int) }
    rw [hn, Option.getD_some, hnum n hn]; rfl
  · cases h
end Go.Proofs.YtjpihophigjbpaaGreatDoor
/-
  Plain mathematics: what is parsed may be, if its text is not too long.
-/
namespace Go.Proofs.YtjpihophigjbpaaGreatDoor

theorem words_app {a : Str} {l : List Str} (ha : clean a) (h0 : a ≠ []) (hl : ∀ x ∈ l, clean x ∧ x ≠ []) : words (a ++ l.flatMap fun w => 32 :: w) = a :: l := by
  rw [words_wb, wb_in a none _ h0 ha]
  simp only [Option.getD_none, List.nil_append]
  clear ha h0
  induction l generalizing a with
  | nil => simp [wb]
  | cons x r ih =>
    obtain ⟨hx, hx0⟩ := hl x (by simp)
    rw [List.flatMap_cons, List.cons_append, wb, if_pos (show blankB 32 = true by decide), wb_in x none _ hx0 hx]
    simp only [Option.toList, Option.getD_none, List.nil_append, List.cons_append]
    rw [ih (a := x) (fun y hy => hl y (by simp [hy]))]
theorem words_one {a : Str} (ha : clean a) (h0 : a ≠ []) : words a = [a] := by
  have := words_app (l := []) ha h0 (fun x hx => by simp at hx)
  simpa using this
theorem words_two {a b : Str} (ha : clean a) (h0 : a ≠ []) (hb : clean b) (hb0 : b ≠ []) : words (a ++ 32 :: b) = [a, b] := by
  have := words_app (l := [b]) ha h0 (fun x hx => by obtain rfl : x = b := by simpa using hx
                                                     exact ⟨hb, hb0⟩)
  simpa using this
/-- Words of a text hold no blank. -/
theorem wb_clean : ∀ (r : Str) (cur : Option Str), (∀ x, cur = some x → clean x ∧ x ≠ []) → ∀ y ∈ wb cur r, clean y ∧ y ≠ []
  | [], cur, h, y, hy => by
    cases cur with
    | none => simp [wb] at hy
    | some x =>
      obtain rfl : y = x := by simpa [wb] using hy
      exact h y rfl
  | c :: r, cur, h, y, hy => by
    rw [wb] at hy
    cases hb : blankB c with
    | true =>
      rw [if_pos hb] at hy
      rcases List.mem_append.1 hy with h1 | h1
      · cases cur with
        | none => simp at h1
        | some x =>
          obtain rfl : y = x := by simpa using h1
          exact h y rfl
      · exact wb_clean r none (fun x hx => by cases hx) y h1
    | false =>
      rw [if_neg (by rw [hb]; decide)] at hy
      refine wb_clean r _ (fun x hx => ?_) y hy
      injection hx with hx
      subst hx
      refine ⟨?_, by simp⟩
      cases cur with
      | none => exact clean_cons hb clean_nil
      | some z => exact clean_app (h z rfl).1 (clean_cons hb clean_nil)
theorem words_clean (s : Str) : ∀ y ∈ words s, clean y ∧ y ≠ [] := by
  rw [words_wb]
  exact wb_clean s none (fun x hx => by cases hx)
theorem behind_clean {w : Str} (h : clean w) : clean (Vs.behind 61 w) := fun c hc => h c (List.mem_of_mem_drop hc)
/-- What of a command holds that options have told. -/
structure SubOk (N : Nat) (c : CmdC) : Prop where
  field : ∀ i, i < 10 → FieldOk i c
  kind : c.kind = 1
  job : c.job = 0
  host : c.host = []
  dep : (Ds.depT c.any c.items).length ≤ N
theorem fieldOk_set {i : Nat} {v : Str} {c : CmdC} (hc : ∀ j, j < 10 → FieldOk j c) (ho : okQ i v = true) (hv : clean v) : ∀ j, j < 10 → FieldOk j (setQ i v c) := by
  intro j hj
  by_cases h : j = i
  · subst h
    exact .inr (setQ_ok ho hv c)
  · rcases hc j hj with h1 | ⟨h1, h2⟩
    · exact .inl fun c0 => by rw [(setQ_other i j h v c c0).1]; exact h1 c0
    · refine .inr ⟨fun c0 => ?_, ?_⟩
      · rw [(setQ_other i j h v c c0).2, (setQ_other i j h v c c0).1]; exact h1 c0
      · rw [(setQ_other i j h v c c).2]; exact h2
theorem subOk_set {N i : Nat} {v : Str} {c : CmdC} (hc : SubOk N c) (ho : okQ i v = true) (hv : clean v) (hN : v.length ≤ N) : SubOk N (setQ i v c) := by
  obtain ⟨a, b, d⟩ := setQ_rest i v c
  refine ⟨fieldOk_set hc.field ho hv, a.trans hc.kind, b.trans hc.job, d.trans hc.host, ?_⟩
  by_cases h : 7 = i
  · subst h
    obtain ⟨⟨y, l⟩, hn⟩ := Option.isSome_iff_exists.1 (show (Ds.pDep v).isSome = true from ho)
    have e : Ds.depT (setQ 7 v c).any (setQ 7 v c).items = v := by
      show Ds.depT ((Ds.pDep v).getD (false, [])).1 ((Ds.pDep v).getD (false, [])).2 = v
      rw [hn]; exact (Ds.pDep_text hn).1
    rw [e]; exact hN
  · have := (setQ_other i 7 h v c c).2
    have e : Ds.depT (setQ i v c).any (setQ i v c).items = Ds.depT c.any c.items := this
    rw [e]; exact hc.dep
theorem depT_none : Ds.depT false [] = [] := rfl
theorem bare_ok (N : Nat) : SubOk N bareC := ⟨fun _ _ => .inl fun _ => rfl, rfl, rfl, rfl, by show (Ds.depT false []).length ≤ N; rw [depT_none]; simp⟩
theorem subS_ok : ∀ (ws : List Str) (N : Nat) (came : List Nat) (c r : CmdC), SubOk N c → (∀ x ∈ ws, clean x ∧ x.length ≤ N) → subS came ws c = some r → SubOk N r
  | [], _, _, _, _, hc, _, h => by
    unfold subS at h
    injection h with h
    rw [← h]; exact hc
  | w :: ws, N, came, c, r, hc, hw, h => by
    rw [subS_cons] at h
    cases ho : optOf w with
    | none => rw [ho] at h; cases h
    | some x =>
      rw [ho] at h
      simp only at h
      split at h
      · cases h
      · split at h
        · rename_i hok
          have hx : x.2 = Vs.behind 61 w := by
            unfold optOf at ho
            split at ho
            · cases hp : place keysQ (Vs.upTo 61 w) with
              | none => rw [hp] at ho; cases ho
              | some i => rw [hp] at ho; injection ho with ho; rw [← ho]
            · cases ho
          have hcl := hw w (by simp)
          exact subS_ok ws N _ _ r (subOk_set hc hok (by rw [hx]; exact behind_clean hcl.1) (by rw [hx]; have := Vs.behind_le 61 w; omega)) (fun y hy => hw y (by simp [hy])) h
        · cases h
theorem num_one : Vs.num 1 = [49] := by rw [Vs.num_pos (by decide)]; exact Vs.dec_small (by decide)
theorem num_zero : Vs.num 0 = [48] := by rw [Vs.num_pos (by decide)]; exact Vs.dec_small (by decide)
theorem bare_read (i : Nat) (hi : i < 10) : (∀ c0, readQ i (txtQ i bareC) c0 = some (cpyQ i bareC c0)) ∨ (∀ c0, readQ i (txtQ i bareC) c0 = none) := by
  have h0 : isNameP [] = false := by decide
  have hn : ∀ n : Nat, n < 10000000 → readNumP (Vs.num ((n : Nat) : Int)) = some n := fun n hn => readNum_dec hn
  rcases i with _ | _ | _ | _ | _ | _ | _ | _ | _ | _ | i
  · exact .inr fun c0 => by show (if isNameP [] = true then some { c0 with user := ([] : Str) } else none) = none; rw [h0]; rfl
  · exact .inr fun c0 => by show (if isNameP [] = true then some { c0 with part := ([] : Str) } else none) = none; rw [h0]; rfl
  · exact .inl fun c0 => by show (readNumP (Vs.num ((1 : Nat) : Int))).map _ = _; rw [hn 1 (by decide)]; rfl
  · exact .inl fun c0 => by show (readNumP (Vs.num ((0 : Nat) : Int))).map _ = _; rw [hn 0 (by decide)]; rfl
  · refine .inl fun c0 => ?_
    have e := Vs.parse_fmt (0, 0, 0) ⟨by decide, by decide⟩ ⟨by decide, by decide⟩ ⟨by decide, by decide⟩
    rw [if_pos (by decide)] at e
    show (if (Vs.parseP (Vs.fmt (0, 0, 0))).2 = 0 then some { c0 with req := (Vs.parseP (Vs.fmt (0, 0, 0))).1 } else none) = _
    rw [e]; rfl
  · exact .inr fun c0 => by show (if isNameP [] = true then some { c0 with qos := ([] : Str) } else none) = none; rw [h0]; rfl
  · exact .inr fun c0 => by show (if isNameP [] = true then some { c0 with name := ([] : Str) } else none) = none; rw [h0]; rfl
  · exact .inl fun c0 => rfl
  · refine .inr fun c0 => ?_
    have e : txtQ 8 bareC = [] := by
      show (if Ys.right [] 0 = true then Ys.fmtT [] 0 else []) = []
      rw [if_neg (by unfold Ys.right; rw [decide_eq_true_eq]; rintro ⟨h, _⟩; simp at h)]
    rw [e]; rfl
  · exact .inl fun c0 => by show (readNumP (Vs.num ((0 : Nat) : Int))).map _ = _; rw [hn 0 (by decide)]; rfl
  · omega
theorem same_text {i : Nat} {c : CmdC} (h : ∀ c0, cpyQ i c c0 = cpyQ i bareC c0) : txtQ i c = txtQ i bareC := by
  have h := h noCmd
  rcases i with _ | _ | _ | _ | _ | _ | _ | _ | _ | _ | i <;> simp only [cpyQ, CmdC.mk.injEq, true_and, and_true] at h <;> simp only [txtQ] <;> first | rw [h] | (rw [h.1, h.2])
/-- The options that are told, as words. -/
def wordAt (c : CmdC) (i : Nat) : Option Str := if txtQ i c = txtQ i bareC then none else some (keysQ.getD i [] ++ 61 :: txtQ i c)
theorem optsT_words (c : CmdC) : optsT c = ((List.range 10).filterMap (wordAt c)).flatMap fun w => 32 :: w := by
  unfold optsT
  generalize List.range 10 = l
  induction l with
  | nil => rfl
  | cons i r ih =>
    rw [List.flatMap_cons, ih]
    unfold optT
    by_cases h : txtQ i c = txtQ i bareC
    · rw [if_pos h, List.filterMap_cons, show wordAt c i = none from if_pos h]; rfl
    · rw [if_neg h, List.filterMap_cons, show wordAt c i = some _ from if_neg h, List.flatMap_cons]
theorem key_no (i : Nat) (hi : i < 10) : (61 : UInt8) ∉ keysQ.getD i [] ∧ clean (keysQ.getD i []) := by
  have h1 : ∀ a : Fin 10, (61 : UInt8) ∉ keysQ.getD a.val [] := by decide
  have h2 : ∀ a : Fin 10, (keysQ.getD a.val []).all (fun c => !blankB c) = true := by decide
  exact ⟨h1 ⟨i, hi⟩, clean_lit (h2 ⟨i, hi⟩)⟩
theorem place_key (i : Nat) (hi : i < 10) : place keysQ (keysQ.getD i []) = some i := by
  have h : ∀ a : Fin 10, place keysQ (keysQ.getD a.val []) = some a.val := by decide
  exact h ⟨i, hi⟩
theorem optOf_word (i : Nat) (hi : i < 10) (t : Str) : optOf (keysQ.getD i [] ++ 61 :: t) = some (i, t) := by
  unfold optOf
  rw [if_pos (by simp), Vs.upTo_app (key_no i hi).1, Vs.behind_app (key_no i hi).1, place_key i hi]
  rfl
theorem readQ_set {i : Nat} {v : Str} {c r : CmdC} (h : readQ i v c = some r) : okQ i v = true ∧ setQ i v c = r := by
  rw [readQ_eq] at h
  split at h
  · rename_i ho; injection h with h; exact ⟨ho, h⟩
  · cases h
theorem cpy_comm (i j : Nat) (h : i ≠ j) (a b c : CmdC) : cpyQ j a (cpyQ i b c) = cpyQ i b (cpyQ j a c) := by
  rcases i with _ | _ | _ | _ | _ | _ | _ | _ | _ | _ | i <;> rcases j with _ | _ | _ | _ | _ | _ | _ | _ | _ | _ | j <;> first | rfl | exact absurd rfl h
theorem sub_back {c : CmdC} (hc : ∀ i, i < 10 → FieldOk i c) : ∀ (l : List Nat) (came : List Nat) (c0 : CmdC), l.Nodup → (∀ i ∈ l, i < 10 ∧ i ∉ came) → (∀ i ∈ l, cpyQ i bareC c0 = c0) → subS came (l.filterMap (wordAt c)) c0 = some (l.foldl (fun x i => cpyQ i c x) c0)
  | [], _, _, _, _, _ => by simp [subS]
  | i :: l, came, c0, hn, hl, hb => by
    obtain ⟨hi, hnc⟩ := hl i (by simp)
    have hn2 := List.nodup_cons.1 hn
    rw [List.filterMap_cons, List.foldl_cons]
    by_cases h : txtQ i c = txtQ i bareC
    · rw [show wordAt c i = none from if_pos h]
      simp only
      have e : cpyQ i c c0 = c0 := by
        rcases hc i hi with h1 | ⟨h1, _⟩
        · rw [h1 c0]; exact hb i (by simp)
        · rw [h] at h1
          rcases bare_read i hi with h2 | h2
          · have := (h1 c0).symm.trans (h2 c0)
            injection this with this
            rw [this]; exact hb i (by simp)
          · have := (h1 c0).symm.trans (h2 c0)
            cases this
      rw [e]
      exact sub_back hc l came c0 hn2.2 (fun j hj => hl j (by simp [hj])) (fun j hj => hb j (by simp [hj]))
    · rw [show wordAt c i = some _ from if_neg h]
      simp only
      rw [subS_cons, optOf_word i hi]
      simp only
      rw [if_neg hnc]
      rcases hc i hi with h1 | ⟨h1, _⟩
      · exact absurd (same_text h1) h
      · obtain ⟨o1, o2⟩ := readQ_set (h1 c0)
        rw [if_pos o1, o2]
        refine sub_back hc l (i :: came) _ hn2.2 (fun j hj => ⟨(hl j (by simp [hj])).1, ?_⟩) (fun j hj => ?_)
        · intro hm
          rcases List.mem_cons.1 hm with e | e
          · exact hn2.1 (e ▸ hj)
          · exact (hl j (by simp [hj])).2 e
        · have hij : i ≠ j := fun e => hn2.1 (e ▸ hj)
          rw [cpy_comm i j hij, hb j (by simp [hj])]
theorem fold_all {c : CmdC} (h1 : c.kind = 1) (h2 : c.job = 0) (h3 : c.host = []) : (List.range 10).foldl (fun x i => cpyQ i c x) bareC = c := by
  obtain ⟨a1, a2, a3, a4, a5, a6, a7, a8, a9, a10, a11, a12, a13, a14, a15⟩ := c
  simp only at h1 h2 h3
  subst h1 h2 h3
  rfl
theorem submit_back {N : Nat} {c : CmdC} (hc : SubOk N c) (hf : fullQ c = true) : submitQ ((List.range 10).filterMap (wordAt c)) = some c := by
  unfold submitQ
  rw [← leftOf_nil, subQ_subS, leftOf_nil, sub_back hc.field (List.range 10) [] bareC List.nodup_range (fun i hi => ⟨List.mem_range.1 hi, by simp⟩) (fun i hi => by
    have h := List.mem_range.1 hi
    rcases i with _ | _ | _ | _ | _ | _ | _ | _ | _ | _ | i <;> rfl), fold_all hc.kind hc.job hc.host]
  simp only
  rw [if_pos hf]
theorem word_clean {c : CmdC} (hc : ∀ i, i < 10 → FieldOk i c) : ∀ x ∈ (List.range 10).filterMap (wordAt c), clean x ∧ x ≠ [] := by
  intro x hx
  obtain ⟨i, hi, hw⟩ := List.mem_filterMap.1 hx
  have hi := List.mem_range.1 hi
  unfold wordAt at hw
  split at hw
  · cases hw
  · rename_i h
    injection hw with hw
    subst hw
    rcases hc i hi with h1 | ⟨_, h2⟩
    · exact absurd (same_text h1) h
    · exact ⟨clean_app (key_no i hi).2 (clean_cons (by decide) h2), by simp⟩
theorem words_text {c : CmdC} (hk : c.kind = 1) (hc : ∀ i, i < 10 → FieldOk i c) : words (textQ c) = wSubmit :: (List.range 10).filterMap (wordAt c) := by
  unfold textQ
  rw [if_pos hk, optsT_words]
  exact words_app (clean_lit (by decide)) (by decide) (word_clean hc)
/-- How long an option's text is at most. -/
def mostT : Nat → Nat
  | 2 => 7
  | 3 => 7
  | 4 => 100
  | 7 => 2000
  | 8 => 1799
  | 9 => 7
  | _ => 16
theorem txt_le {c : CmdC} {i : Nat} (hi : i < 10) (hd : (Ds.depT c.any c.items).length ≤ 2000) (h1 : ∀ c0, readQ i (txtQ i c) c0 = some (cpyQ i c c0)) : (txtQ i c).length ≤ mostT i := by
  have ho := (readQ_set (h1 noCmd)).1
  have hnum : ∀ v : Str, (readNumP v).isSome = true → v.length ≤ 7 := fun v hv => by
    obtain ⟨n, hn⟩ := Option.isSome_iff_exists.1 hv
    exact (readNum_lt hn).2.2
  rcases i with _ | _ | _ | _ | _ | _ | _ | _ | _ | _ | i
  · exact (name_clean ho).2.2
  · exact (name_clean ho).2.2
  · exact hnum _ ho
  · exact hnum _ ho
  · have h0 : (Vs.parseP (Vs.fmt c.req)).2 = 0 := of_decide_eq_true ho
    have e := h1 noCmd
    have e2 : (Vs.parseP (Vs.fmt c.req)).1 = c.req := by
      have e3 : (if (Vs.parseP (Vs.fmt c.req)).2 = 0 then some { noCmd with req := (Vs.parseP (Vs.fmt c.req)).1 } else none) = some { noCmd with req := c.req } := e
      rw [if_pos h0] at e3
      injection e3 with e3
      injection e3
    have hr := parse_right h0
    rw [e2] at hr
    obtain ⟨a, b, d⟩ := Vs.right_I64 hr
    exact Vs.fmt_le c.req a b d
  · exact (name_clean ho).2.2
  · exact (name_clean ho).2.2
  · exact hd
  · show (if Ys.right c.idx c.lim = true then Ys.fmtT c.idx c.lim else [] : Str).length ≤ 1799
    split
    · rename_i hr
      exact fmtT_le (of_decide_eq_true hr)
    · simp
  · exact hnum _ ho
  · omega
theorem optT_le {c : CmdC} (hc : SubOk 2000 c) {i : Nat} (hi : i < 10) : (optT i c).length ≤ (keysQ.getD i []).length + 2 + mostT i := by
  unfold optT
  split
  · simp
  · rename_i h
    rcases hc.field i hi with h1 | ⟨h1, _⟩
    · exact absurd (same_text h1) h
    · have := txt_le hi hc.dep h1
      simp only [List.length_cons, List.length_append]
      omega
theorem text_le {c : CmdC} (hc : SubOk 2000 c) : (textQ c).length ≤ 4096 := by
  unfold textQ
  rw [if_pos hc.kind]
  have h0 := optT_le hc (i := 0) (by decide)
  have h1 := optT_le hc (i := 1) (by decide)
  have h2 := optT_le hc (i := 2) (by decide)
  have h3 := optT_le hc (i := 3) (by decide)
  have h4 := optT_le hc (i := 4) (by decide)
  have h5 := optT_le hc (i := 5) (by decide)
  have h6 := optT_le hc (i := 6) (by decide)
  have h7 := optT_le hc (i := 7) (by decide)
  have h8 := optT_le hc (i := 8) (by decide)
  have h9 := optT_le hc (i := 9) (by decide)
  have e : optsT c = optT 0 c ++ (optT 1 c ++ (optT 2 c ++ (optT 3 c ++ (optT 4 c ++ (optT 5 c ++ (optT 6 c ++ (optT 7 c ++ (optT 8 c ++ (optT 9 c ++ []))))))))) := by
    unfold optsT
    rw [show List.range 10 = [0, 1, 2, 3, 4, 5, 6, 7, 8, 9] from rfl]
    rfl
  rw [e]
  simp only [List.length_append, List.length_nil]
  have k0 : (keysQ.getD 0 []).length + 2 + mostT 0 = 22 := by decide
  have k1 : (keysQ.getD 1 []).length + 2 + mostT 1 = 22 := by decide
  have k2 : (keysQ.getD 2 []).length + 2 + mostT 2 = 14 := by decide
  have k3 : (keysQ.getD 3 []).length + 2 + mostT 3 = 13 := by decide
  have k4 : (keysQ.getD 4 []).length + 2 + mostT 4 = 105 := by decide
  have k5 : (keysQ.getD 5 []).length + 2 + mostT 5 = 21 := by decide
  have k6 : (keysQ.getD 6 []).length + 2 + mostT 6 = 22 := by decide
  have k7 : (keysQ.getD 7 []).length + 2 + mostT 7 = 2005 := by decide
  have k8 : (keysQ.getD 8 []).length + 2 + mostT 8 = 1806 := by decide
  have k9 : (keysQ.getD 9 []).length + 2 + mostT 9 = 12 := by decide
  have k10 : wSubmit.length = 6 := by decide
  omega
theorem submitQ_ok {N : Nat} {ws : List Str} {c : CmdC} (hw : ∀ x ∈ ws, clean x ∧ x.length ≤ N) (h : submitQ ws = some c) : SubOk N c ∧ fullQ c = true := by
  unfold submitQ at h
  rw [← leftOf_nil, subQ_subS] at h
  cases hs : subS [] ws bareC with
  | none => rw [hs] at h; cases h
  | some r =>
    rw [hs] at h
    simp only at h
    split at h
    · rename_i hf
      injection h with h
      subst h
      exact ⟨subS_ok ws N [] bareC r (bare_ok N) hw hs, hf⟩
    · cases h
theorem firstQ_facts (k : Int) (h : 1 ≤ k) (h2 : k ≤ 10) : kindQ (firstQ k) = k ∧ clean (firstQ k) ∧ firstQ k ≠ [] ∧ (firstQ k).length ≤ 7 := by
  have : k = 1 ∨ k = 2 ∨ k = 3 ∨ k = 4 ∨ k = 5 ∨ k = 6 ∨ k = 7 ∨ k = 8 ∨ k = 9 ∨ k = 10 := by omega
  rcases this with rfl | rfl | rfl | rfl | rfl | rfl | rfl | rfl | rfl | rfl <;> exact ⟨by decide, clean_lit (by decide), by decide, by decide⟩
theorem jobOk_num {d : Str} {n : Nat} (h : jobOkQ d = some n) : jobOkQ (Vs.num (n : Int)) = some n ∧ (Vs.num (n : Int)).length ≤ 7 := by
  unfold jobOkQ at h
  cases hr : readNumP d with
  | none => rw [hr] at h; cases h
  | some m =>
    rw [hr] at h
    simp only at h
    split at h
    · rename_i hh
      injection h with h
      subst h
      have hlt := readNum_lt hr
      have hb := readNum_dec hlt.1
      have h7 := (readNum_lt hb).2
      -- the digits are the number's own, since the first one is not 0
      have hd : d.all Vs.isDig = true ∧ Vs.dval d = m := by
        unfold readNumP at hr
        split at hr
        · rename_i hi
          injection hr with hr
          unfold isOfP at hi
          simp only [Bool.and_eq_true] at hi
          refine ⟨?_, hr⟩
          rw [List.all_eq_true]
          intro c hc
          have h2 : ∀ d ∈ digCs, Vs.isDig d = true := by decide
          exact h2 c (by simpa using List.all_eq_true.1 hi.2 c hc)
        · cases hr
      have e : Vs.num (m : Int) = d := by
        rw [Vs.num_pos (by omega), Int.toNat_natCast, ← hd.2]
        exact Ds.dec_dval d.length d rfl hlt.2.1 hd.1 hh.2
      rw [e]
      refine ⟨?_, hlt.2.2⟩
      unfold jobOkQ
      rw [hr]
      simp only
      rw [if_pos hh]
    · cases h
/-- What is parsed may be, if its text is not too long. -/
theorem cmd_may {s : Str} {c : CmdC} (h : cmdP s = (c, 0)) (hs : s.length ≤ 2000) : cmdP (textQ c) = (c, 0) := by
  have hcl := words_clean s
  have hln := words_len s
  unfold cmdP at h
  rw [if_neg (by omega)] at h
  generalize words s = ws at *
  cases ws with
  | nil => injection h with _ h; cases h
  | cons k os =>
    have hos : ∀ x ∈ os, clean x ∧ x.length ≤ 2000 := fun x hx => ⟨(hcl x (by simp [hx])).1, Nat.le_trans (hln x (by simp [hx])) hs⟩
    have hne : ∀ x ∈ os, x ≠ [] := fun x hx => (hcl x (by simp [hx])).2
    replace h : (match readC (kindQ k) os with | none => (noCmd, (3 : Int)) | some c => (c, 0)) = (c, 0) := h
    generalize kindQ k = K at *
    cases hr : readC K os with
    | none => rw [hr] at h; injection h with _ h; cases h
    | some r =>
      rw [hr] at h
      injection h with h _
      subst h
      -- it is told by words of its text
      have hfin : ∀ (t : List Str), (textQ r).length ≤ 4096 → words (textQ r) = firstQ K :: t → 1 ≤ K → K ≤ 10 → readC K t = some r → cmdP (textQ r) = (r, 0) := fun t h1 h2 h3 h4 h5 => by
        unfold cmdP
        rw [if_neg (by omega), h2]
        rw [wordsQ_cons, (firstQ_facts K h3 h4).1, h5]
      unfold readC at hr
      split at hr
      · rename_i hk
        subst hk
        obtain ⟨a, b⟩ := submitQ_ok hos hr
        exact hfin _ (text_le a) (words_text a.kind a.field) (by decide) (by decide) (submit_back a b)
      · split at hr
        · rename_i hk1 hk
          obtain ⟨f1, f2, f3, f4⟩ := firstQ_facts K (by omega) (by omega)
          cases os with
          | nil => cases hr
          | cons d os =>
            cases os with
            | cons _ _ => cases hr
            | nil =>
              rw [jobQ_one] at hr
              cases hj : jobOkQ d with
              | none => rw [hj] at hr; cases hr
              | some n =>
                rw [hj] at hr
                injection hr with hr
                obtain ⟨j1, j2⟩ := jobOk_num hj
                have e : textQ r = firstQ K ++ 32 :: Vs.num (n : Int) := by
                  rw [← hr]
                  unfold textQ
                  rw [if_neg hk1, if_pos hk]
                refine hfin [Vs.num (n : Int)] (by rw [e]; simp only [List.length_append, List.length_cons]; omega) (by rw [e]; exact words_two f2 f3 (clean_num _) (Vs.num_ne _)) (by omega) (by omega) ?_
                unfold readC
                rw [if_neg hk1, if_pos hk]
                rw [jobQ_one, j1, ← hr]
                rfl
        · split at hr
          · rename_i hk1 hk2 hk
            obtain ⟨f1, f2, f3, f4⟩ := firstQ_facts K (by omega) (by omega)
            cases os with
            | nil => cases hr
            | cons d os =>
              cases os with
              | cons _ _ => cases hr
              | nil =>
                have hd := hos d (by simp)
                have hd0 := hne d (by simp)
                have hr' := hr
                rw [hostQ_one] at hr
                split at hr
                · injection hr with hr
                  have e : textQ r = firstQ K ++ 32 :: d := by
                    rw [← hr]
                    unfold textQ
                    rw [if_neg hk1, if_neg hk2, if_pos hk]
                  refine hfin [d] (by rw [e]; simp only [List.length_append, List.length_cons]; omega) (by rw [e]; exact words_two f2 f3 hd.1 hd0) (by omega) (by omega) ?_
                  unfold readC
                  rw [if_neg hk1, if_neg hk2, if_pos hk]
                  exact hr'
                · cases hr
          · split at hr
            · rename_i hk1 hk2 hk3 hk
              obtain ⟨f1, f2, f3, f4⟩ := firstQ_facts K (by omega) (by omega)
              split at hr
              · rename_i h0
                injection hr with hr
                have e : textQ r = firstQ K := by
                  rw [← hr]
                  unfold textQ
                  rw [if_neg hk1, if_neg hk2, if_neg hk3]
                refine hfin [] (by rw [e]; omega) (by rw [e]; exact words_one f2 f3) (by omega) (by omega) ?_
                unfold readC
                rw [if_neg hk1, if_neg hk2, if_neg hk3, if_pos hk, if_pos rfl, ← hr]
              · cases hr
            · cases hr
theorem may_right {s : Str} {c : CmdC} (h : cmdP s = (c, 0)) (hs : s.length ≤ 2000) : rightQ c = true := by
  unfold rightQ
  rw [cmd_may h hs]
  simp [(sameQ_iff c c).2 rfl]
/-- Blanks put ahead of each, and behind. -/
def wider (t : Str) (s : Str) : Str := s.flatMap fun c => if c = 32 then t ++ [c] else [c]
theorem wb_blank : ∀ (t : Str) (r : Str), t.all blankB = true → wb none (t ++ r) = wb none r
  | [], _, _ => rfl
  | c :: t, r, h => by
    simp only [List.all_cons, Bool.and_eq_true] at h
    rw [List.cons_append, wb, if_pos h.1, wb_blank t r h.2]
    rfl
theorem wb_wider (t : Str) (ht : t.all blankB = true) : ∀ (s : Str) (cur : Option Str), wb cur (wider t s ++ [32]) = wb cur s
  | [], cur => by
    show wb cur [32] = wb cur []
    simp [wb, show blankB 32 = true by decide]
  | c :: s, cur => by
    have e : wider t (c :: s) = (if c = 32 then t ++ [c] else [c]) ++ wider t s := rfl
    rw [e, List.append_assoc]
    by_cases h : c = 32
    · rw [if_pos h]
      subst h
      rw [wb, if_pos (by decide), ← wb_wider t ht s none]
      cases t with
      | nil => rw [List.nil_append, List.cons_append, List.nil_append, wb, if_pos (by decide)]
      | cons x t =>
        simp only [List.all_cons, Bool.and_eq_true] at ht
        rw [List.cons_append, List.cons_append, wb, if_pos ht.1, List.append_assoc, wb_blank t _ ht.2, List.cons_append, List.nil_append, wb, if_pos (by decide)]
        rfl
    · rw [if_neg h, List.cons_append, List.nil_append, wb, wb]
      cases hb : blankB c with
      | true => rw [if_pos rfl, if_pos rfl, wb_wider t ht s none]
      | false => rw [if_neg (by decide), if_neg (by decide), wb_wider t ht s _]
theorem words_wider (t : Str) (ht : t.all blankB = true) (s : Str) : words ([9, 32] ++ wider t s ++ [32]) = words s := by
  rw [words_wb, words_wb, List.append_assoc, wb_blank [9, 32] _ (by decide), wb_wider t ht s none]
theorem wider_len (t : Str) : ∀ s : Str, (wider t s).length ≤ (t.length + 1) * s.length
  | [] => by simp [wider]
  | c :: s => by
    have e : wider t (c :: s) = (if c = 32 then t ++ [c] else [c]) ++ wider t s := rfl
    have := wider_len t s
    rw [e, List.length_append, List.length_cons, Nat.mul_succ]
    split
    · simp only [List.length_append, List.length_cons, List.length_nil]; omega
    · simp only [List.length_cons, List.length_nil]
      have : 0 ≤ t.length := Nat.zero_le _
      omega
/-- Words of a text that is put together. -/
theorem words_opts (l : List Str) (hl : ∀ x ∈ l, clean x) : words (wSubmit ++ l.flatMap fun w => 32 :: w) = wSubmit :: l.filter (fun w => !w.isEmpty) := by
  have h : ∀ (l : List Str), (∀ x ∈ l, clean x) → ∀ cur : Option Str, wb cur (l.flatMap fun w => 32 :: w) = cur.toList ++ l.filter (fun w => !w.isEmpty) := by
    intro l
    induction l with
    | nil => intro _ cur; simp [wb]
    | cons x r ih =>
      intro hl cur
      have hr := ih (fun y hy => hl y (by simp [hy]))
      rw [List.flatMap_cons, List.cons_append, wb, if_pos (by decide)]
      congr 1
      cases x with
      | nil => rw [List.nil_append, hr none]; rfl
      | cons c x =>
        rw [wb_in (c :: x) none _ (by simp) (hl _ (by simp)), hr]
        rfl
  rw [words_wb, wb_in wSubmit none _ (by decide) (clean_lit (by decide)), h l hl]
  rfl
end Go.Proofs.YtjpihophigjbpaaGreatDoor
/-
  How much a command has that was read from a text: plain.
-/
namespace Go.Proofs.YtjpihophigjbpaaGreatDoor
open Go.RowKit Go.Shelf Vs

def SmI (x : Ds.Itm) : Prop := x.2.length ≤ 32 ∧ ∀ n ∈ x.2, Ds.jobOk n
theorem pItem_small {t r : Str} {x : Ds.Itm} (h : Ds.pItem t = some (x, r)) : SmI x := by
  have hl := (Ds.pItem_text h).2.2
  refine ⟨hl, ?_⟩
  unfold Ds.pItem at h
  simp only at h
  split at h
  · injection h with h
    injection h with hx hr
    subst hx
    intro n hn
    cases hn
  · split at h
    · cases h
    · split at h
      · cases h
      · split at h
        · cases h
        · rename_i _ _ js r' hj
          injection h with h
          injection h with hx hr
          subst hx hr
          exact (Ds.pJobs_text _ _ _ _ _ hj (fun n hn => by cases hn)).2.1
theorem pItems_small : ∀ (f : Nat) (any : Bool) (l : List Ds.Itm) (t : Str) (any' : Bool) (l' : List Ds.Itm), Ds.pItems f any l t = some (any', l') → (∀ x ∈ l, SmI x) → ∀ x ∈ l', SmI x
  | 0, _, _, _, _, _, h, _ => by cases h
  | f + 1, any, l, t, any', l', h, hl => by
    unfold Ds.pItems at h
    split at h
    · cases h
    · split at h
      · cases h
      · rename_i _ x r hp
        have hx : ∀ y ∈ l ++ [x], SmI y := fun y hy => by
          rcases List.mem_append.1 hy with hy | hy
          · exact hl y hy
          · rw [List.mem_singleton.1 hy]; exact pItem_small hp
        split at h
        · injection h with h
          injection h with h1 h2
          subst h1 h2
          exact hx
        · split at h
          · cases h
          · exact pItems_small f _ _ _ any' l' h hx
theorem pDep_small {s : Str} {any : Bool} {l : List Ds.Itm} (h : Ds.pDep s = some (any, l)) : l.length ≤ 32 ∧ ∀ x ∈ l, SmI x := by
  refine ⟨(Ds.pDep_text h).2, ?_⟩
  unfold Ds.pDep at h
  split at h
  · injection h with h
    injection h with h1 h2
    subst h1 h2
    intro x hx
    cases hx
  · exact pItems_small _ _ _ _ _ _ h (fun x hx => by cases hx)
/-- How much a command has that may be: few items of few jobs, few indexes, small numbers. -/
structure FewC (c : CmdC) : Prop where
  nodes : 0 ≤ c.nodes ∧ c.nodes < 10000000
  time : 0 ≤ c.time ∧ c.time < 10000000
  run : 0 ≤ c.run ∧ c.run < 10000000
  job : 0 ≤ c.job ∧ c.job < 10000000
  req : right c.req.1 c.req.2.1 c.req.2.2 = true
  items : c.items.length ≤ 32
  jobs : ∀ x ∈ c.items, SmI x
  idx : c.idx.length ≤ 256
  lim : 0 ≤ c.lim ∧ c.lim ≤ 999999
  names : c.user.length ≤ 16 ∧ c.part.length ≤ 16 ∧ c.qos.length ≤ 16 ∧ c.name.length ≤ 16
  host : c.host.length ≤ 4096
theorem FewC.wide {c : CmdC} (h : FewC c) : WideC c := by
  obtain ⟨h1, h2, h3, h4, h5, h6, h7, -, -, -, -⟩ := h
  obtain ⟨q1, q2, q3⟩ := right_I64 (v := c.req) h5
  unfold I64 at *
  refine ⟨⟨⟨by omega, by omega⟩, ⟨by omega, by omega⟩, ⟨by omega, by omega⟩, ⟨by omega, by omega⟩⟩, ⟨q1, q2, q3⟩, by omega, fun x hx => ?_⟩
  obtain ⟨a, b⟩ := h7 x hx
  refine ⟨by omega, fun n hn => ?_⟩
  have := b n hn
  unfold Ds.jobOk at this
  omega
theorem few_none : FewC noCmd := ⟨⟨by decide, by decide⟩, ⟨by decide, by decide⟩, ⟨by decide, by decide⟩, ⟨by decide, by decide⟩, by decide, by decide, (fun x hx => by cases hx), by decide, ⟨by decide, by decide⟩, ⟨by decide, by decide, by decide, by decide⟩, by decide⟩
theorem few_sub {N : Nat} {c : CmdC} (hc : SubOk N c) : FewC c := by
  have f2 := hc.field 2 (by decide)
  have f3 := hc.field 3 (by decide)
  have f9 := hc.field 9 (by decide)
  have numF : ∀ (g : CmdC → Int) (i : Nat) (x : Int), (∀ a c0 : CmdC, g (cpyQ i a c0) = g a) → (∀ v c0, readQ i v c0 = (readNumP v).map fun n : Nat => setQ i v c0) → (∀ v (n : Nat) c0, readNumP v = some n → g (setQ i v c0) = n) → g bareC = x → 0 ≤ x → x < 10000000 → FieldOk i c → 0 ≤ g c ∧ g c < 10000000 := by
    intro g i x h1 h2 h3 h4 h5 h6 h
    rcases h with h | ⟨h, _⟩
    · have := congrArg g (h bareC)
      rw [h1, h1, h4] at this
      omega
    · have := h bareC
      rw [h2] at this
      cases hn : readNumP (txtQ i c) with
      | none => rw [hn] at this; cases this
      | some n =>
        rw [hn] at this
        injection this with this
        have e := congrArg g this
        rw [h1, h3 _ n _ hn] at e
        have := (readNum_lt hn).1
        omega
  have nameF : ∀ (g : CmdC → Str) (i : Nat), (∀ a c0 : CmdC, g (cpyQ i a c0) = g a) → (∀ v c0, readQ i v c0 = if isNameP v = true then some (setQ i v c0) else none) → (∀ v c0, g (setQ i v c0) = v) → g bareC = [] → FieldOk i c → (g c).length ≤ 16 := by
    intro g i h1 h2 h3 h4 h
    rcases h with h | ⟨h, _⟩
    · have := congrArg g (h bareC)
      rw [h1, h1, h4] at this
      rw [this]; decide
    · have := h bareC
      rw [h2] at this
      split at this
      · rename_i hn
        injection this with this
        have e := congrArg g this
        rw [h1, h3] at e
        rw [← e]
        exact (name_clean hn).2.2
      · cases this
  refine ⟨?_, ?_, ?_, ?_, ?_, ?_, ?_, ?_, ?_, ⟨?_, ?_, ?_, ?_⟩, ?_⟩
  · exact numF (·.nodes) 2 1 (fun _ _ => rfl) (fun v c0 => by unfold readQ setQ; cases readNumP v <;> rfl) (fun v n c0 h => by show ((readNumP v).getD 0 : Nat) = (n : Int); rw [h]; rfl) rfl (by decide) (by decide) f2
  · exact numF (·.time) 3 0 (fun _ _ => rfl) (fun v c0 => by unfold readQ setQ; cases readNumP v <;> rfl) (fun v n c0 h => by show ((readNumP v).getD 0 : Nat) = (n : Int); rw [h]; rfl) rfl (by decide) (by decide) f3
  · exact numF (·.run) 9 0 (fun _ _ => rfl) (fun v c0 => by unfold readQ setQ; cases readNumP v <;> rfl) (fun v n c0 h => by show ((readNumP v).getD 0 : Nat) = (n : Int); rw [h]; rfl) rfl (by decide) (by decide) f9
  · rw [hc.job]; decide
  · rcases hc.field 4 (by decide) with h | ⟨h, _⟩
    · have := congrArg CmdC.req (h bareC)
      have e : c.req = bareC.req := this
      rw [e]; decide
    · have := h bareC
      have e : (if (Vs.parseP (txtQ 4 c)).2 = 0 then some { bareC with req := (Vs.parseP (txtQ 4 c)).1 } else none) = some (cpyQ 4 c bareC) := this
      split at e
      · rename_i h0
        injection e with e
        have e2 : (Vs.parseP (txtQ 4 c)).1 = c.req := congrArg CmdC.req e
        have := parse_right h0
        rw [e2] at this
        exact this
      · cases e
  · rcases hc.field 7 (by decide) with h | ⟨h, _⟩
    · have e : c.items = [] := congrArg CmdC.items (h bareC)
      rw [e]; decide
    · have e : ((Ds.pDep (txtQ 7 c)).map fun x => { bareC with any := x.1, items := x.2 }) = some (cpyQ 7 c bareC) := h bareC
      cases hp : Ds.pDep (txtQ 7 c) with
      | none => rw [hp] at e; cases e
      | some x =>
        rw [hp] at e
        injection e with e
        have e2 : x.2 = c.items := congrArg CmdC.items e
        rw [← e2]
        exact (pDep_small (show Ds.pDep (txtQ 7 c) = some (x.1, x.2) from hp)).1
  · rcases hc.field 7 (by decide) with h | ⟨h, _⟩
    · have e : c.items = [] := congrArg CmdC.items (h bareC)
      rw [e]
      intro x hx
      cases hx
    · have e : ((Ds.pDep (txtQ 7 c)).map fun x => { bareC with any := x.1, items := x.2 }) = some (cpyQ 7 c bareC) := h bareC
      cases hp : Ds.pDep (txtQ 7 c) with
      | none => rw [hp] at e; cases e
      | some x =>
        rw [hp] at e
        injection e with e
        have e2 : x.2 = c.items := congrArg CmdC.items e
        rw [← e2]
        exact (pDep_small (show Ds.pDep (txtQ 7 c) = some (x.1, x.2) from hp)).2
  · rcases hc.field 8 (by decide) with h | ⟨h, _⟩
    · have e : c.idx = [] := congrArg CmdC.idx (h bareC)
      rw [e]; decide
    · have e : ((Ys.pArr (txtQ 8 c)).map fun x => { bareC with idx := x.1, lim := x.2 }) = some (cpyQ 8 c bareC) := h bareC
      cases hp : Ys.pArr (txtQ 8 c) with
      | none => rw [hp] at e; cases e
      | some x =>
        rw [hp] at e
        injection e with e
        have e2 : x.1 = c.idx := congrArg CmdC.idx e
        rw [← e2]
        exact (Ys.pArr_right (show Ys.pArr (txtQ 8 c) = some (x.1, x.2) from hp)).1.2
  · rcases hc.field 8 (by decide) with h | ⟨h, _⟩
    · have e : c.lim = 0 := congrArg CmdC.lim (h bareC)
      rw [e]; decide
    · have e : ((Ys.pArr (txtQ 8 c)).map fun x => { bareC with idx := x.1, lim := x.2 }) = some (cpyQ 8 c bareC) := h bareC
      cases hp : Ys.pArr (txtQ 8 c) with
      | none => rw [hp] at e; cases e
      | some x =>
        rw [hp] at e
        injection e with e
        have e2 : x.2 = c.lim := congrArg CmdC.lim e
        rw [← e2]
        have := (Ys.pArr_right (show Ys.pArr (txtQ 8 c) = some (x.1, x.2) from hp)).2.2
        exact this
  · exact nameF (·.user) 0 (fun _ _ => rfl) (fun _ _ => rfl) (fun _ _ => rfl) rfl (hc.field 0 (by decide))
  · exact nameF (·.part) 1 (fun _ _ => rfl) (fun _ _ => rfl) (fun _ _ => rfl) rfl (hc.field 1 (by decide))
  · exact nameF (·.qos) 5 (fun _ _ => rfl) (fun _ _ => rfl) (fun _ _ => rfl) rfl (hc.field 5 (by decide))
  · exact nameF (·.name) 6 (fun _ _ => rfl) (fun _ _ => rfl) (fun _ _ => rfl) rfl (hc.field 6 (by decide))
  · rw [hc.host]; decide
/-- What a text tells has little. -/
theorem few_parse {s : Str} {c : CmdC} {n : Int} (h : cmdP s = (c, n)) : FewC c := by
  by_cases hlen : 4096 < s.length
  · unfold cmdP at h
    rw [if_pos hlen] at h
    injection h with h1 h2
    rw [← h1]; exact few_none
  · have hs : s.length ≤ 4096 := by omega
    have hw : ∀ x ∈ words s, clean x ∧ x ≠ [] := words_clean s
    have hlw := words_len s
    have hc : cmdP s = wordsQ (words s) := by unfold cmdP; rw [if_neg hlen]
    rw [hc] at h
    cases hws : words s with
    | nil =>
      rw [hws] at h
      injection h with h1 h2
      rw [← h1]; exact few_none
    | cons k ws =>
      rw [hws] at h hw hlw
      rw [wordsQ_cons] at h
      cases hr : readC (kindQ k) ws with
      | none =>
        rw [hr] at h
        injection h with h1 h2
        rw [← h1]; exact few_none
      | some c' =>
        rw [hr] at h
        injection h with h1 h2
        subst h1
        unfold readC at hr
        split at hr
        · exact few_sub (submitQ_ok (N := 4096) (fun x hx => ⟨(hw x (by simp [hx])).1, by have := hlw x (by simp [hx]); omega⟩) hr).1
        · split at hr
          · cases ws with
            | nil => cases hr
            | cons d r =>
              cases r with
              | cons _ _ => cases hr
              | nil =>
                rw [jobQ_one] at hr
                cases hj : jobOkQ d with
                | none => rw [hj] at hr; cases hr
                | some m =>
                  rw [hj] at hr
                  injection hr with hr
                  have hm : m < 10000000 := by
                    unfold jobOkQ at hj
                    split at hj
                    · cases hj
                    · rename_i q hq
                      split at hj
                      · injection hj with hj; subst hj; exact (readNum_lt hq).1
                      · cases hj
                  rw [← hr]
                  exact { few_none with job := ⟨by show (0 : Int) ≤ (m : Int); omega, by show (m : Int) < 10000000; omega⟩ }
          · split at hr
            · cases ws with
              | nil => cases hr
              | cons d r =>
                cases r with
                | cons _ _ => cases hr
                | nil =>
                  rw [hostQ_one] at hr
                  split at hr
                  · injection hr with hr
                    rw [← hr]
                    exact { few_none with host := by have := hlw d (by simp); show d.length ≤ 4096; omega }
                  · cases hr
            · split at hr
              · split at hr
                · injection hr with hr
                  rw [← hr]
                  exact { few_none with }
                · cases hr
              · cases hr
theorem depT_len (any : Bool) (l : List Ds.Itm) (hl : l.length ≤ 1048576) (hx : ∀ x ∈ l, x.2.length ≤ 1048576 ∧ ∀ n ∈ x.2, n < 9223372036854775808) : (Ds.depT any l).length ≤ 1125899906842624 := by
  obtain ⟨h1, h2, h3⟩ := Ds.dep_texts any l hl hx
  rw [← h3]
  have := Ds.join_le 33554432 (Ds.sepT any) (l.map Ds.itemT) h2
  have h4 : (33554432 + 1) * (l.map Ds.itemT).length ≤ (33554432 + 1) * 1048576 := Nat.mul_le_mul_left _ h1
  omega
/-- How long an option's text gets. -/
theorem txt_wide {c : CmdC} (hn : WideC c) (h0 : c.user.length ≤ 1125899906842624) (h1 : c.part.length ≤ 1125899906842624) (h5 : c.qos.length ≤ 1125899906842624) (h6 : c.name.length ≤ 1125899906842624) : ∀ i, i < 10 → (txtQ i c).length ≤ 1125899906842624 := by
  intro i hi
  have hnum : ∀ n : Int, I64 n → (Vs.num n).length ≤ 1125899906842624 := fun n h => by have := Vs.num_len n h; omega
  rcases i with _ | _ | _ | _ | _ | _ | _ | _ | _ | _ | i
  · exact h0
  · exact h1
  · exact hnum _ hn.1.1
  · exact hnum _ hn.1.2.1
  · have := Vs.fmt_le c.req hn.2.1.1 hn.2.1.2.1 hn.2.1.2.2
    show (Vs.fmt c.req).length ≤ _
    omega
  · exact h5
  · exact h6
  · exact depT_len c.any c.items hn.2.2.1 hn.2.2.2
  · show (if Ys.right c.idx c.lim = true then Ys.fmtT c.idx c.lim else [] : Str).length ≤ 1125899906842624
    split
    · rename_i hr
      have := fmtT_le (of_decide_eq_true hr)
      omega
    · simp
  · exact hnum _ hn.1.2.2.1
  · omega
theorem FewC.texts {c : CmdC} (h : FewC c) : (∀ i, i < 10 → (txtQ i c).length ≤ 1125899906842624) ∧ c.host.length ≤ 1125899906842624 := by
  obtain ⟨a, b, d, e⟩ := h.names
  exact ⟨txt_wide h.wide (by omega) (by omega) (by omega) (by omega), by have := h.host; omega⟩
end Go.Proofs.YtjpihophigjbpaaGreatDoor
/-
  The probe's command, reckoned.
-/
namespace Go.Proofs.YtjpihophigjbpaaGreatDoor
open Go.RowKit Go.Shelf

instance : DecidableEq CmdC := fun a b => decidable_of_iff _ (sameQ_iff a b)
def qrS : Str := [32, 115, 117, 98, 109, 105, 116, 32, 32, 117, 115, 101, 114, 61, 97, 110, 110, 32, 112, 97, 114, 116, 61, 112, 32, 116, 105, 109, 101, 61, 54, 48, 32, 110, 111, 100, 101, 115, 61, 50, 32]
def qrT : Str := [115, 117, 98, 109, 105, 116, 32, 117, 115, 101, 114, 61, 97, 110, 110, 32, 112, 97, 114, 116, 61, 112, 32, 110, 111, 100, 101, 115, 61, 50, 32, 116, 105, 109, 101, 61, 54, 48]
def qrC : CmdC := { bareC with user := [97, 110, 110], part := [112], nodes := 2, time := 60 }
theorem qr_cmd : cmdP qrS = (qrC, 0) := by decide +kernel
theorem num_two : Vs.num 2 = [50] := by rw [Vs.num_pos (by decide)]; exact Vs.dec_small (by decide)
theorem num_sixty : Vs.num 60 = [54, 48] := by
  rw [Vs.num_pos (by decide)]
  show Vs.dec 60 = _
  rw [Vs.dec_big (by decide), Vs.dec_small (by decide)]
  rfl
theorem qr_text : textQ qrC = qrT := by
  have h0 : optT 0 qrC = 32 :: (oUser ++ 61 :: [97, 110, 110]) := rfl
  have h1 : optT 1 qrC = 32 :: (kPart ++ 61 :: [112]) := rfl
  have h2 : optT 2 qrC = 32 :: (oNodes ++ 61 :: [50]) := by
    show (if Vs.num 2 = Vs.num 1 then [] else 32 :: (oNodes ++ 61 :: Vs.num 2) : Str) = _
    rw [num_two, num_one, if_neg (by decide)]
  have h3 : optT 3 qrC = 32 :: (kTime ++ 61 :: [54, 48]) := by
    show (if Vs.num 60 = Vs.num 0 then [] else 32 :: (kTime ++ 61 :: Vs.num 60) : Str) = _
    rw [num_sixty, num_zero, if_neg (by decide)]
  have h4 : optT 4 qrC = [] := if_pos rfl
  have h5 : optT 5 qrC = [] := if_pos rfl
  have h6 : optT 6 qrC = [] := if_pos rfl
  have h7 : optT 7 qrC = [] := if_pos rfl
  have h8 : optT 8 qrC = [] := if_pos rfl
  have h9 : optT 9 qrC = [] := if_pos rfl
  show wSubmit ++ (List.range 10).flatMap (fun i => optT i qrC) = qrT
  rw [show List.range 10 = [0, 1, 2, 3, 4, 5, 6, 7, 8, 9] from rfl]
  simp only [List.flatMap_cons, List.flatMap_nil, h0, h1, h2, h3, h4, h5, h6, h7, h8, h9]
  rfl
theorem qr_right : rightQ qrC = true := may_right qr_cmd (by decide)
theorem qr_fmt : fmtQ qrC = (qrT, 0) := by unfold fmtQ; rw [if_pos qr_right, qr_text]
end Go.Proofs.YtjpihophigjbpaaGreatDoor
/-
  The probe that stands in each statement.
-/
namespace Go.Proofs.YtjpihophigjbpaaGreatDoor
open Go.RowKit Go.Shelf Vs

def qUS : ByteArray := str [97, 110, 110]
def qPS : ByteArray := str [112]
theorem pr_ans {w w' : World} {e : Ending} (h : ParP NoX (qrC, 0) w e w') : Below w.heap.size w w' ∧ ∃ (Ap Aq : Option Addr) (cp cq : Nat), e = .returned (.tuple #[.agg #[.int .i64 1, .string qUS, .string qPS, .string ⟨#[]⟩, .string ⟨#[]⟩, .int .i64 2, .int .i64 60, .int .i64 0, .int .i64 0, .int .i64 0, .int .i64 0, .bool false, .slice Ap 0 cp, .slice Aq 0 cq, .int .i64 0, .int .i64 0, .string ⟨#[]⟩], .int .i64 0]) ∧ HasI NoX w' (.slice Ap 0 cp) [] ∧ HasA NoX w' (.slice Aq 0 cq) [] := by
  obtain ⟨hb, vi, va, he, hi, ha⟩ := h
  obtain ⟨Ap, cp, rfl, _⟩ := id hi
  obtain ⟨Aq, cq, rfl, _⟩ := id ha
  exact ⟨hb, Ap, Aq, cp, cq, he, hi, ha⟩
section
attribute [local go_sem ↓] exec_ld_cmd exec_st_cmd
set_option maxRecDepth 100000 in
set_option maxHeartbeats 4000000 in
theorem alive_any (w : World) (hw : Env w) : Calls Tryz.prog 9 #[] w (BoolP w true) := by
  have hP : ParseAll := fun X0 l W h1 h2 => parse_all X0 l W h1 h2
  have hpa : ∀ W, Below w.heap.size w W → Calls Tryz.prog 10 #[.string ⟨#[32, 115, 117, 98, 109, 105, 116, 32, 32, 117, 115, 101, 114, 61, 97, 110, 110, 32, 112, 97, 114, 116, 61, 112, 32, 116, 105, 109, 101, 61, 54, 48, 32, 110, 111, 100, 101, 115, 61, 50, 32]⟩] W (fun e w' => Below W.heap.size W w' ∧ ∃ (Ap Aq : Option Addr) (cp cq : Nat), e = .returned (.tuple #[.agg #[.int .i64 1, .string qUS, .string qPS, .string ⟨#[]⟩, .string ⟨#[]⟩, .int .i64 2, .int .i64 60, .int .i64 0, .int .i64 0, .int .i64 0, .int .i64 0, .bool false, .slice Ap 0 cp, .slice Aq 0 cq, .int .i64 0, .int .i64 0, .string ⟨#[]⟩], .int .i64 0]) ∧ HasI NoX w' (.slice Ap 0 cp) [] ∧ HasA NoX w' (.slice Aq 0 cq) []) := fun W hW => (parse_all NoX qrS W (hw.below hW) (fun k hk => hk.elim)).mono fun e w' h => pr_ans (by rw [qr_cmd] at h; exact h)
  have hfew : FewC qrC := few_parse qr_cmd
  have hfm : ∀ W Ap Aq cp cq, Below w.heap.size w W → HasI NoX W (.slice Ap 0 cp) [] → HasA NoX W (.slice Aq 0 cq) [] → Calls Tryz.prog 7 #[.agg #[.int .i64 1, .string qUS, .string qPS, .string ⟨#[]⟩, .string ⟨#[]⟩, .int .i64 2, .int .i64 60, .int .i64 0, .int .i64 0, .int .i64 0, .int .i64 0, .bool false, .slice Ap 0 cp, .slice Aq 0 cq, .int .i64 0, .int .i64 0, .string ⟨#[]⟩]] W (fun e w' => e = .returned (.tuple #[.string (str qrT), .int .i64 0]) ∧ Below W.heap.size W w') := fun W Ap Aq cp cq hW h1 h2 => (format_of hP qrC Ap Aq cp cq W (hw.below hW) h1 h2 hfew.wide hfew.texts.1 hfew.texts.2).mono fun e w' h => by
    unfold FmP at h
    rw [qr_fmt] at h
    exact h
  have hrt : ∀ W Ap Aq cp cq, Below w.heap.size w W → HasI NoX W (.slice Ap 0 cp) [] → HasA NoX W (.slice Aq 0 cq) [] → Calls Tryz.prog 13 #[.agg #[.int .i64 1, .string qUS, .string qPS, .string ⟨#[]⟩, .string ⟨#[]⟩, .int .i64 2, .int .i64 60, .int .i64 0, .int .i64 0, .int .i64 0, .int .i64 0, .bool false, .slice Ap 0 cp, .slice Aq 0 cq, .int .i64 0, .int .i64 0, .string ⟨#[]⟩]] W (fun e w' => e = .returned (.bool true) ∧ Below W.heap.size W w') := fun W Ap Aq cp cq hW h1 h2 => (right_of hP qrC Ap Aq cp cq W (hw.below hW) h1 h2 hfew.wide hfew.texts.1 hfew.texts.2).mono fun e w' h => by
    unfold BoolP at h
    rw [qr_right] at h
    exact h
  have x1 : qUS.toList = [97, 110, 110] := by
    have h : (qUS.toList == (⟨#[97, 110, 110]⟩ : ByteArray).toList) = true := by rw [Vs.str_eq]; decide
    simpa [go_sem] using h
  have x2 : (str qrT).toList = [115, 117, 98, 109, 105, 116, 32, 117, 115, 101, 114, 61, 97, 110, 110, 32, 112, 97, 114, 116, 61, 112, 32, 110, 111, 100, 101, 115, 61, 50, 32, 116, 105, 109, 101, 61, 54, 48] := by
    have h : ((str qrT).toList == (⟨#[115, 117, 98, 109, 105, 116, 32, 117, 115, 101, 114, 61, 97, 110, 110, 32, 112, 97, 114, 116, 61, 112, 32, 110, 111, 100, 101, 115, 61, 50, 32, 116, 105, 109, 101, 61, 54, 48]⟩ : ByteArray).toList) = true := by rw [Vs.str_eq]; decide
    simpa [go_sem] using h
  unfold BoolP
  generalize str qrT = QT at *
  generalize qUS = US at *
  generalize qPS = PS at *
  go_enter Tryz.func9, Tryz.ntmps9
  go_upto_region 2 with (go_at_call 10; (with_reducible refine (hpa _ (Below.refl _ _)).mono ?_); rintro e w1 ⟨b1, Ap, Aq, cp, cq, rfl, hi, ha⟩; obtain ⟨w2, h2, q1, bA, zA⟩ := st_new (w := w1) (A := #[.int .i64 1, .string US, .string PS, .string ⟨#[]⟩, .string ⟨#[]⟩, .int .i64 2, .int .i64 60, .int .i64 0, .int .i64 0, .int .i64 0, .int .i64 0, .bool false, .slice Ap 0 cp, .slice Aq 0 cq, .int .i64 0, .int .i64 0, .string ⟨#[]⟩]) rfl (by simp only [List.all_toArray, List.all_cons, List.all_nil, Bool.and_true]; rfl) #[.int .i64 0, .string ⟨#[]⟩, .string ⟨#[]⟩, .string ⟨#[]⟩, .string ⟨#[]⟩, .int .i64 0, .int .i64 0, .int .i64 0, .int .i64 0, .int .i64 0, .int .i64 0, .bool false, .slice none 0 0, .slice none 0 0, .int .i64 0, .int .i64 0, .string ⟨#[]⟩] rfl)
  have i2 := hi.keep (fun k hk _ => bA.block k hk) bA.size
  have a2 := ha.keep (fun k hk _ => bA.block k hk) bA.size
  have g2 := b1.trans (bA.mono b1.size)
  clear hi ha b1 bA h2 zA
  generalize w1.heap.size = c1 at *
  have l1 := ld_cmd q1 rfl
  have zk := Box.lt q1
  replace q1 := fhid q1
  go_upto_region 3 with (go_at_call 7; (with_reducible refine (hfm _ _ _ _ _ g2 i2 a2).mono ?_); rintro e w3 ⟨rfl, b3⟩)
  have g3 := g2.trans (b3.mono g2.size)
  have q3 : Box w3 c1 TCmd [.int .i64 1, .string US, .string PS, .string ⟨#[]⟩, .string ⟨#[]⟩, .int .i64 2, .int .i64 60, .int .i64 0, .int .i64 0, .int .i64 0, .int .i64 0, .bool false, .slice Ap 0 cp, .slice Aq 0 cq, .int .i64 0, .int .i64 0, .string ⟨#[]⟩] := Box.below q1.out b3 zk
  have i3 := i2.keep (fun k hk _ => b3.block k hk) b3.size
  have a3 := a2.keep (fun k hk _ => b3.block k hk) b3.size
  clear l1 zk i2 a2 g2 b3 hpa hfm
  have l3 : (ldS TCmd (.pointer (some ⟨c1, 0, none⟩))).run Tryz.prog w3 = .ok (.agg #[.int .i64 1, .string US, .string PS, .string ⟨#[]⟩, .string ⟨#[]⟩, .int .i64 2, .int .i64 60, .int .i64 0, .int .i64 0, .int .i64 0, .int .i64 0, .bool false, .slice Ap 0 cp, .slice Aq 0 cq, .int .i64 0, .int .i64 0, .string ⟨#[]⟩]) w3 := ld_cmd (A := #[.int .i64 1, .string US, .string PS, .string ⟨#[]⟩, .string ⟨#[]⟩, .int .i64 2, .int .i64 60, .int .i64 0, .int .i64 0, .int .i64 0, .int .i64 0, .bool false, .slice Ap 0 cp, .slice Aq 0 cq, .int .i64 0, .int .i64 0, .string ⟨#[]⟩]) q3 rfl
  obtain ⟨⟨k0, k1, k2, k3, k4, k5, k6, k7, k8, k9, k10, k11, k12, k13, k14, k15, k16⟩, _, zk⟩ := Box.seventeen q3
  replace q3 := fhid q3
  go_wp2_with (go_at_call 13; (with_reducible refine (hrt _ _ _ _ _ g3 i3 a3).mono ?_); rintro e w4 ⟨rfl, b4⟩)
  go_ret
  exact ⟨rfl, g3.trans (b4.mono g3.size)⟩
end
end Go.Proofs.YtjpihophigjbpaaGreatDoor
