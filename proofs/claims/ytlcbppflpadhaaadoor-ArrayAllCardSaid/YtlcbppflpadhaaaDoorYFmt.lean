/-
  Format, walked.
-/
import Derived.Test.YtlcbppflpadhaaaDoorYStr
namespace Go.Proofs.YtlcbppflpadhaaaDoor
open Go.RowKit

/-- Numbers that rise, none too great. -/
def Rising (l : List Int) : Prop := l.Pairwise (· < ·) ∧ ∀ x ∈ l, 0 ≤ x ∧ x ≤ 999999
theorem Rising.at_ {l : List Int} (h : Rising l) : ∀ j, j < l.length → 0 ≤ l.getD j 0 ∧ l.getD j 0 ≤ 999999 := fun j hj => by
  rw [getD_get hj]
  exact h.2 _ (List.getElem_mem hj)
theorem Rising.drop {l : List Int} (h : Rising l) (k : Nat) : Rising (l.drop k) := ⟨h.1.sublist (List.drop_sublist k l), fun x hx => h.2 x (List.mem_of_mem_drop hx)⟩
theorem Rising.step {l : List Int} (h : Rising l) (hl : 2 ≤ l.length) : 1 ≤ stepOf l ∧ stepOf l ≤ 999999 := by
  have h0 := h.at_ 0 (by omega)
  have h1 := h.at_ 1 (by omega)
  have := List.pairwise_iff_getElem.1 h.1 0 1 (by omega) (by omega) (by omega)
  rw [← getD_get (l := l) (j := 0) (by omega), ← getD_get (l := l) (j := 1) (by omega)] at this
  unfold stepOf
  omega
/-- The text that the first ones make. -/
theorem join_run (l : List Int) (A : Option Addr) (cap : Nat) (w : World) (hT : Tab w) (hs : Ints w w.heap.size A l) (hl : 0 < l.length) (hl2 : l.length ≤ 1000) (hx : Rising l) :
    Calls Tryd.prog 19 #[.slice A (cutN l) cap] w (TP w (pieceT l (cutN l))) ∧ (pieceT l (cutN l)).length ≤ 64 := by
  obtain ⟨c1, c2, c3⟩ := cutN_le (List.length_pos_iff.1 hl)
  have hat := hx.at_
  refine ⟨?_, pieceT_len (hat 0 hl) (hat _ (by omega)) fun h => hx.step (by omega)⟩
  by_cases h1 : cutN l = 1
  · rw [h1]
    exact join_one l A cap w hT hs hl (hat 0 hl)
  · refine join_more l (cutN l) A cap w hT hs (by omega) c2 (by omega) hat ?_ (hx.step (by omega)).1
    have := List.pairwise_iff_getElem.1 hx.1 0 (cutN l - 1) (by omega) (by omega) (by omega)
    rwa [← getD_get (l := l) (j := 0) (by omega), ← getD_get (l := l) (j := cutN l - 1) (by omega)] at this
theorem ints_take {w : World} {B : Nat} {A : Option Addr} {l : List Int} (h : Ints w B A l) {k cap : Nat} (hk : k ≤ l.length) (hc : l.length ≤ cap) : Ints w B (if cap = k then A else A.map (·.add k)) (l.drop k) := by
  have := SegC.drop h (k := k) (cap := cap) (by rw [IV_len]; exact hk) (by rw [IV_len]; exact hc)
  unfold IV at this
  rwa [← List.map_drop] at this
def lenS : Value → Nat | .slice _ n _ => n | _ => 0
/-- What Format hands back. -/
def FmtPost (w : World) (l : List Int) (lim : Int) (e : Ending) (w' : World) : Prop := e = .returned (if right l lim = true then .tuple #[.string (str (fmtT l lim)), .int .i64 0] else .tuple #[.string ⟨#[]⟩, .int .i64 3]) ∧ Below w.heap.size w w'
/-- Where the loop is. -/
def FInv (w : World) (l : List Int) (A : Option Addr) (cap : Nat) (lim : Int) (s4 s5 : Value) (wr : World) : Prop := ∃ (M : List Int) (done : List (List UInt8)) (A' : Option Addr) (cap' f : Nat), s5 = .slice A' M.length cap' ∧ M.length ≤ cap' ∧ Ints wr w.heap.size A' M ∧ Rising M ∧ OwnS wr (w.heap.size + 1) s4 done ∧ pieces l.length l = done ++ pieces f M ∧ M.length ≤ f ∧
  done.length + M.length ≤ l.length ∧ (∀ d ∈ done, d.length ≤ 64) ∧ AB wr w.heap.size TAr (.slice A l.length cap) lim ∧ Below w.heap.size w wr ∧ w.heap.size + 1 ≤ wr.heap.size
set_option maxRecDepth 100000 in
set_option maxHeartbeats 4000000 in
theorem Format_no (l : List Int) (A : Option Addr) (cap : Nat) (lim : Int) (w : World) (hs : Ints w w.heap.size A l) (hr : right l lim = false) :
    Calls Tryd.prog 8 #[.agg #[.slice A l.length cap, .int .i64 lim]] w (FmtPost w l lim) := by
  have p0 : AB (w.alloc (.cells #[.slice A l.length cap, .int .i64 lim] TAr)) w.heap.size TAr (.slice A l.length cap) lim := heap_alloc_new w _
  have b0 : Below w.heap.size w (w.alloc (.cells #[.slice A l.length cap, .int .i64 lim] TAr)) := (Below.refl _ _).alloc (Nat.le_refl _) _
  have hri := Right_any l A cap lim (w.alloc (.cells #[.slice A l.length cap, .int .i64 lim] TAr)) ((hs.below b0).more b0.size)
  rw [hr] at hri
  have hE := fhid (show (if right l lim = true then Value.tuple #[.string (str (fmtT l lim)), .int .i64 0] else .tuple #[.string ⟨#[]⟩, .int .i64 3]) = .tuple #[.string ⟨#[]⟩, .int .i64 3] by rw [hr]; rfl)
  clear hr hs
  go_enter Tryd.func8, Tryd.ntmps8
  go_upto_region 1 with fail
  generalize w.alloc _ = w1 at *
  obtain ⟨c0, c1, _, _, _⟩ := p0.facts
  replace p0 := fhid p0
  go_wp2_with (go_at_call 11; (with_reducible refine hri.mono ?_); rintro e w2 ⟨rfl, b2⟩)
  exact bodyPost_ret (v := .tuple #[.string ⟨#[]⟩, .int .i64 3]) (by simp [results, Tryd.results8, go_sem]) rfl ⟨by rw [hE.out], b0.trans (b2.mono b0.size)⟩
set_option maxRecDepth 100000 in
set_option maxHeartbeats 8000000 in
theorem Format_yes (l : List Int) (A : Option Addr) (cap : Nat) (lim : Int) (w : World) (hT : Tab w) (hs : Ints w w.heap.size A l) (hc : l.length ≤ cap) (hr : right l lim = true) :
    Calls Tryd.prog 8 #[.agg #[.slice A l.length cap, .int .i64 lim]] w (FmtPost w l lim) := by
  have p0 : AB (w.alloc (.cells #[.slice A l.length cap, .int .i64 lim] TAr)) w.heap.size TAr (.slice A l.length cap) lim := heap_alloc_new w _
  have b0 : Below w.heap.size w (w.alloc (.cells #[.slice A l.length cap, .int .i64 lim] TAr)) := (Below.refl _ _).alloc (Nat.le_refl _) _
  have zz := World.size_alloc w (.cells #[.slice A l.length cap, .int .i64 lim] TAr)
  have hri := Right_any l A cap lim (w.alloc (.cells #[.slice A l.length cap, .int .i64 lim] TAr)) ((hs.below b0).more b0.size)
  rw [hr] at hri
  have hR : RightP l lim := of_decide_eq_true hr
  obtain ⟨⟨l1, l2⟩, _, m0, m1⟩ := id hR
  have hris := fhid (show Rising l from ⟨hR.up, hR.range⟩)
  have hE := fhid (show (if right l lim = true then Value.tuple #[.string (str (fmtT l lim)), .int .i64 0] else .tuple #[.string ⟨#[]⟩, .int .i64 3]) = .tuple #[.string (str (fmtT l lim)), .int .i64 0] by rw [hr]; rfl)
  clear hr hR
  replace hs := fhid hs
  replace hT := fhid hT
  go_enter Tryd.func8, Tryd.ntmps8
  go_upto_region 1 with fail
  generalize w.alloc _ = w1 at *
  obtain ⟨c0, c1, _, _, _⟩ := p0.facts
  replace p0 := fhid p0
  go_upto_region 3 with (go_at_call 11; (with_reducible refine hri.mono ?_); rintro e w2 ⟨rfl, b2⟩)
  clear c0 c1 hri
  have q0 := AB.below p0.out b2 (by omega)
  have g2 := b0.trans (b2.mono b0.size)
  have hz2 := b2.size
  obtain ⟨c0, c1, _, _, _⟩ := q0.facts
  replace q0 := fhid q0
  go_wp2_with fail
  go_loopw [4, 5] (fun s4 s5 wr => FInv w l A cap lim s4 s5 wr) (fun _ s5 _ => lenS s5)
  case atStart => exact ⟨l, [], A, cap, l.length, rfl, hc, hs.out.below g2, hris.out, ownsRow_nil _ _ _ _, rfl, Nat.le_refl _, by simp, fun d hd => by simp at hd, q0.out, g2, by omega⟩
  case round =>
    clear c0 c1 q0 g2 hz2 b2
    obtain ⟨M, done, A', cap', f, rfl, hMc, hM, hMr, hown, hpc, hMf, hdl, hdb, hAB, hB, hz⟩ := hrel
    have hsz := hB.size
    replace hM := fhid hM
    replace hMr := fhid hMr
    replace hpc := fhid hpc
    replace hdb := fhid hdb
    replace hAB := fhid hAB
    cases M with
    | nil =>
      have hpd : pieces l.length l = done := by
        have := hpc.out
        rw [pieces_none, List.append_nil] at this
        exact this
      have hj := joins_any (w.heap.size + 1) _ done 44 wr hown (by simp at hdl; omega) hdb.out
      have hft : fmtT l lim = Go.Lib.join done [44] ++ if lim = 0 then [] else 37 :: num lim := by unfold fmtT; rw [hpd]
      have hjl := join_le 64 44 done hdb.out
      have hdl2 : done.length ≤ 256 := by simp at hdl; omega
      have hjl2 : (Go.Lib.join done [44]).length ≤ 65 * 256 := Nat.le_trans hjl (Nat.mul_le_mul_left 65 hdl2)
      have hzj := str_size (Go.Lib.join done [44])
      have hzn : (str (num lim)).size ≤ 6 := by rw [str_size]; exact (num_facts m0 m1).2.2.2
      have hit := fun W (b : Below wr.heap.size wr W) => itoa_any lim W (tab_below hT.out (hB.trans (b.mono hsz))) m0 m1
      unfold TP at hit
      have hF1 := fun (W : World) (b : Below wr.heap.size wr W) => (AB.facts (AB.below hAB.out b (by omega))).2.1
      replace hF1 := fhid hF1
      simp only [List.length_nil]
      by_cases h0 : lim = 0
      · have e2 := fhid (show str (fmtT l lim) = str (Go.Lib.join done [44]) by rw [hft, if_pos h0, List.append_nil])
        have n0 : (lim != 0) = false := by rw [h0]; rfl
        clear hft hpd hjl hjl2 hzj hzn hown hdl hit
        replace h0 := fhid h0
        generalize str (Go.Lib.join done [44]) = SJ at *
        go_wp2_with (go_at_call 20; (with_reducible refine hj.mono ?_); rintro e w2 ⟨rfl, b2⟩
                     have cl := hF1.out _ b2)
        exact bodyPost_ret (v := .tuple #[.string SJ, .int .i64 0]) (by simp [results, Tryd.results8, go_sem]) rfl ⟨by rw [hE.out, e2.out], hB.trans (b2.mono hsz)⟩
      · have q1 : ⟨#[37]⟩ ++ str (num lim) = str (37 :: num lim) := str_app [37] _
        have q2 : str (Go.Lib.join done [44]) ++ str (37 :: num lim) = str (Go.Lib.join done [44] ++ 37 :: num lim) := str_app _ _
        have e2 := fhid (show str (fmtT l lim) = str (Go.Lib.join done [44] ++ 37 :: num lim) by rw [hft, if_neg h0])
        have n0 : (lim != 0) = true := bne_iff_ne.2 h0
        have hz7 : (str (37 :: num lim)).size ≤ 7 := by rw [str_size, List.length_cons]; rw [str_size] at hzn; omega
        rw [← hzj] at hjl2
        clear hft hpd hjl hzj hown hdl
        generalize str (Go.Lib.join done [44] ++ 37 :: num lim) = Q2 at *
        generalize str (37 :: num lim) = Q1 at *
        generalize str (Go.Lib.join done [44]) = SJ at *
        generalize str (num lim) = SN at *
        have j1 : ¬ 9223372036854775807 < 1 + SN.size := by omega
        have j2 : ¬ 9223372036854775807 < SJ.size + Q1.size := by omega
        clear hz7 hjl2 hzn
        replace hit := fhid hit
        go_wp2_with (first
          | (go_at_call 20; (with_reducible refine hj.mono ?_); rintro e w2 ⟨rfl, b2⟩
             have cl := hF1.out _ b2)
          | (go_at_call 21; (with_reducible refine (hit.out _ b2).mono ?_); rintro e w3 ⟨rfl, b3⟩))
        have b23 := b2.trans (b3.mono b2.size)
        exact bodyPost_ret (v := .tuple #[.string Q2, .int .i64 0]) (by simp [results, Tryd.results8, go_sem]) rfl ⟨by rw [hE.out, e2.out], hB.trans (b23.mono hsz)⟩
    | cons x xs =>
      cases f with
      | zero => simp at hMf
      | succ f =>
      obtain ⟨r1, r2, r3⟩ := cutN_le (l := x :: xs) (by simp)
      rw [List.length_cons] at r2
      have hMc1 : xs.length + 1 ≤ cap' := by simpa using hMc
      have hMf1 : xs.length ≤ f := by simpa using hMf
      have hdl1 : done.length + (xs.length + 1) ≤ l.length := by simpa using hdl
      have hrun := run_any (x :: xs) A' cap' wr (hM.out.more hsz) (by simp) (by rw [List.length_cons]; omega) hMr.out.at_
      have hjn := fun W (b : Below wr.heap.size wr W) => join_run (x :: xs) A' cap' W (tab_below hT.out (hB.trans (b.mono hsz))) ((hM.out.below (b.mono hsz)).more (Nat.le_trans hsz b.size)) (by simp) (by rw [List.length_cons]; omega) hMr.out
      have hjl := (hjn wr (Below.refl _ _)).2
      replace hjn := fun W (b : Below wr.heap.size wr W) => (hjn W b).1
      have hpc2 := fhid (show pieces l.length l = (done ++ [pieceT (x :: xs) (cutN (x :: xs))]) ++ pieces f ((x :: xs).drop (cutN (x :: xs))) by rw [hpc.out, pieces_some f (l := x :: xs) (by simp), List.append_assoc]; rfl)
      have hMd := fun (W : World) (b : Below w.heap.size wr W) => ints_take (hM.out.below b) (k := cutN (x :: xs)) (cap := cap') (by rw [List.length_cons]; omega) hMc
      have hMdr := hMr.out.drop (cutN (x :: xs))
      have hdlen : ((x :: xs).drop (cutN (x :: xs))).length = xs.length + 1 - cutN (x :: xs) := by rw [List.length_drop, List.length_cons]
      generalize hjr : pieceT (x :: xs) (cutN (x :: xs)) = J at *
      generalize hMM : (x :: xs).drop (cutN (x :: xs)) = M2 at *
      rw [List.length_cons] at hrun
      generalize cutN (x :: xs) = r at *
      obtain ⟨SJ, hSJ⟩ : ∃ S, str J = S := ⟨_, rfl⟩
      unfold TP at hjn
      rw [hSJ] at hjn
      have i0 : (0 : Int) < ((xs.length : Int) + 1) := by omega
      have i1 : (0 : Int) ≤ r := by omega
      have i2 : (r : Int) ≤ cap' := by omega
      have i3 : (r : Int) ≤ ((xs.length : Int) + 1) := by omega
      have i4 : ((xs.length : Int) + 1) ≤ cap' := by omega
      replace hSJ := fhid hSJ
      replace hjr := fhid hjr
      replace hMM := fhid hMM
      replace hMd := fhid hMd
      replace hMdr := fhid hMdr
      replace hdlen := fhid hdlen
      replace hown := fhid hown
      replace hjl := fhid hjl
      replace hjn := fhid hjn
      have hdll := fhid (show done.length ≤ 1048576 by omega)
      go_wp2_with (first
        | (go_at_call 18
           (with_reducible refine hrun.mono ?_)
           rintro e w2 ⟨rfl, b2⟩)
        | (go_at_call 19
           (with_reducible refine (hjn.out _ b2).mono ?_)
           rintro e w3 ⟨rfl, b3⟩
           have b4 := b2.trans (b3.mono b2.size))
        | (at_builtin
           refine app_name rfl _ _ rfl (w.heap.size + 1) _ done J _ hSJ.out.symm _ rfl (hown.out.below b4) rfl _ (by first | rfl | simp) rfl hdll.out (Nat.le_trans hz b4.size) ?_
           intro v5 w5 o5 b5))
      all_goals
        have hdn : ∀ d ∈ done ++ [J], d.length ≤ 64 := fun d hd => by
          rcases List.mem_append.1 hd with h | h
          · exact hdb.out d h
          · rw [List.mem_singleton] at h; subst h; exact hjl.out
        have b6 : Below (w.heap.size + 1) wr w5 := (b4.mono hz).trans b5
        have hMl := hdlen.out
        go_roundw
        case rel => exact ⟨M2, done ++ [J], _, _, f, by rw [hMl], by rw [hMl]; omega, hMd.out w5 (b6.mono (by omega)), hMdr.out, o5, hpc2.out, by rw [hMl]; omega, by rw [hMl, List.length_append, List.length_singleton]; omega, hdn, hAB.out.below b6 (by omega), hB.trans (b6.mono (by omega)), Nat.le_trans hz b6.size⟩
        case measure => show xs.length + 1 - r < xs.length + 1; omega
theorem Format_any (l : List Int) (A : Option Addr) (cap : Nat) (lim : Int) (w : World) (hT : Tab w) (hs : Ints w w.heap.size A l) (hc : l.length ≤ cap) :
    Calls Tryd.prog 8 #[.agg #[.slice A l.length cap, .int .i64 lim]] w (FmtPost w l lim) := by
  cases hr : right l lim with
  | false => exact Format_no l A cap lim w hs hr
  | true => exact Format_yes l A cap lim w hT hs hc hr
end Go.Proofs.YtlcbppflpadhaaaDoor
