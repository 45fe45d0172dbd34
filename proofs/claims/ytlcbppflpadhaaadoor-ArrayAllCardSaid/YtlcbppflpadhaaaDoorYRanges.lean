/-
  The ranges that a text begins with, read.
-/
import Derived.Test.YtlcbppflpadhaaaDoorYAdd
namespace Go.Proofs.YtlcbppflpadhaaaDoor
open Go.RowKit

/-- What a call that reads the ranges hands back. -/
def RangesPost (w : World) (s : ByteArray) (e : Ending) (w' : World) : Prop := Below w.heap.size w w' ∧ match pRanges (s.size + 1) [] (bl s) with
  | none => ∃ y i : Int, y ≠ 0 ∧ e = .returned (.tuple #[.slice none 0 0, .int .i64 0, .agg #[.int .i64 y, .int .i64 i]])
  | some (l, r) => ∃ (c : Nat) (A : Option Addr) (cap : Nat), c ≤ s.size ∧ r = (bl s).drop c ∧ (srt l).length ≤ cap ∧ cap ≤ maxLen ∧ SegP w' (fun k => w.heap.size ≤ k ∧ k < w'.heap.size) A (IV (srt l)) ∧ e = .returned (.tuple #[.slice A (srt l).length cap, .int .i64 c, .agg #[.int .i64 0, .int .i64 0]])
theorem RangesPost.bad {w : World} {s : ByteArray} {e : Ending} {w' : World} (h : pRanges (s.size + 1) [] (bl s) = none) (hb : Below w.heap.size w w') {y i : Int} (hy : y ≠ 0) (he : e = .returned (.tuple #[.slice none 0 0, .int .i64 0, .agg #[.int .i64 y, .int .i64 i]])) : RangesPost w s e w' := by
  refine ⟨hb, ?_⟩
  rw [h]
  exact ⟨y, i, hy, he⟩
theorem RangesPost.good {w : World} {s : ByteArray} {e : Ending} {w' : World} {l : List Int} {c : Nat} (h : pRanges (s.size + 1) [] (bl s) = some (l, (bl s).drop c)) (hb : Below w.heap.size w w') (hc : c ≤ s.size) {A : Option Addr} {cap : Nat} (h1 : (srt l).length ≤ cap) (h2 : cap ≤ maxLen) (h3 : SegP w' (fun k => w.heap.size ≤ k ∧ k < w'.heap.size) A (IV (srt l)))
    (he : e = .returned (.tuple #[.slice A (srt l).length cap, .int .i64 c, .agg #[.int .i64 0, .int .i64 0]])) : RangesPost w s e w' := by
  refine ⟨hb, ?_⟩
  rw [h]
  exact ⟨c, A, cap, hc, rfl, h1, h2, h3, he⟩
section
variable {f : Nat} {came : List Int} {t r : List UInt8} {x : Sp}
theorem pRanges_none (h : pRange t = none) : pRanges (f + 1) came t = none := by rw [pRanges, h]
theorem pRanges_many (h : pRange t = some (x, r)) (h1 : mayAdd came x = false) : pRanges (f + 1) came t = none := by
  rw [pRanges, h]
  exact if_pos (Classical.not_not.1 (of_decide_eq_false h1))
theorem pRanges_more (h : pRange t = some (x, r)) (h1 : mayAdd came x = true) (h2 : r.head? = some 44) : pRanges (f + 1) came t = pRanges f (came ++ spL x) r.tail := by
  rw [pRanges, h]
  simp only
  rw [if_neg (of_decide_eq_true h1), if_pos h2]
theorem pRanges_done (h : pRange t = some (x, r)) (h1 : mayAdd came x = true) (h2 : r.head? ≠ some 44) : pRanges (f + 1) came t = some (came ++ spL x, r) := by
  rw [pRanges, h]
  simp only
  rw [if_neg (of_decide_eq_true h1), if_neg h2]
end
/-- The blocks of a range, and its fault, just made. -/
theorem two_new {w W : World} {B b m : Nat} {came : List Int} (x y st e f : Int) (hF : FB W b 0 0) (hM : KMap W m came) (hb : Below B w W) (hB : B ≤ W.heap.size) :
    SB ((W.alloc (.cells #[.int .i64 x, .int .i64 y, .int .i64 st] TSp)).alloc (.cells #[.int .i64 e, .int .i64 f] TFa)) W.heap.size x y st ∧ FB ((W.alloc (.cells #[.int .i64 x, .int .i64 y, .int .i64 st] TSp)).alloc (.cells #[.int .i64 e, .int .i64 f] TFa)) (W.heap.size + 1) e f ∧
    FB ((W.alloc (.cells #[.int .i64 x, .int .i64 y, .int .i64 st] TSp)).alloc (.cells #[.int .i64 e, .int .i64 f] TFa)) b 0 0 ∧ KMap ((W.alloc (.cells #[.int .i64 x, .int .i64 y, .int .i64 st] TSp)).alloc (.cells #[.int .i64 e, .int .i64 f] TFa)) m came ∧
    Below B w ((W.alloc (.cells #[.int .i64 x, .int .i64 y, .int .i64 st] TSp)).alloc (.cells #[.int .i64 e, .int .i64 f] TFa)) ∧ ((W.alloc (.cells #[.int .i64 x, .int .i64 y, .int .i64 st] TSp)).alloc (.cells #[.int .i64 e, .int .i64 f] TFa)).heap.size = W.heap.size + 2 := by
  have g : Below W.heap.size W ((W.alloc (.cells #[.int .i64 x, .int .i64 y, .int .i64 st] TSp)).alloc (.cells #[.int .i64 e, .int .i64 f] TFa)) := ((Below.refl _ _).alloc (Nat.le_refl _) _).alloc (by rw [World.size_alloc]; omega) _
  exact ⟨old_at _ _ _ (heap_alloc_new W _) (by rw [World.size_alloc]; omega), new_at _ _ _ (by rw [World.size_alloc]), hF.below g (hF.facts.2.2.2.2), hM.below g hM.lt, (hb.alloc hB _).alloc (by rw [World.size_alloc]; omega) _, by rw [World.size_alloc, World.size_alloc]⟩
theorem seg_set2 {w : World} {b c : Nat} {A : Option Addr} {vs : List Value} (h : SegP w (fun k => b ≤ k ∧ k < w.heap.size) A vs) (hc : c < b) (u v : Value) :
    SegP ((w.setCell ⟨c, 0, none⟩ u).setCell ⟨c, 1, none⟩ v) (fun k => b ≤ k ∧ k < ((w.setCell ⟨c, 0, none⟩ u).setCell ⟨c, 1, none⟩ v).heap.size) A vs := by
  have k := h.keep (w' := (w.setCell ⟨c, 0, none⟩ u).setCell ⟨c, 1, none⟩ v) fun k hk => block_other _ _ (block_other _ _ rfl (by omega)) (by omega)
  exact k.imp fun _ hb hk => ⟨hk.1, hb⟩
/-- Where the reading of ranges is. -/
def RsRel (w : World) (s : ByteArray) (i : Value) (wr : World) : Prop := ∃ (came : List Int) (c f : Nat), c ≤ s.size ∧ s.size - c < f + 1 ∧ i = .int .i64 (c : Int) ∧ KMap wr (w.heap.size + 1) came ∧ Came came ∧ FB wr w.heap.size 0 0 ∧ Below w.heap.size w wr ∧ pRanges (s.size + 1) [] (bl s) = pRanges (f + 1) came ((bl s).drop c)
set_option maxRecDepth 100000 in
set_option maxHeartbeats 8000000 in
theorem readRanges_any (s : ByteArray) (w : World) (hs : s.size ≤ 140737488355328) : Calls Tryd.prog 23 #[.string s] w (RangesPost w s) := by
  have hmm := @run_makeMap Tryd.prog
  have hsi : (s.size : Int) ≤ 140737488355328 := by omega
  have t0 : FB ((w.alloc (.cells #[.int .i64 0, .int .i64 0] TFa)).alloc (.map #[] 0)) w.heap.size 0 0 := old_at _ _ _ (heap_alloc_new w _) (by rw [World.size_alloc]; omega)
  have t1 : KMap ((w.alloc (.cells #[.int .i64 0, .int .i64 0] TFa)).alloc (.map #[] 0)) (w.heap.size + 1) [] := by
    rw [← World.size_alloc w (.cells #[.int .i64 0, .int .i64 0] TFa)]
    exact KMap.new _
  have t2 : Below w.heap.size w ((w.alloc (.cells #[.int .i64 0, .int .i64 0] TFa)).alloc (.map #[] 0)) := ((Below.refl _ _).alloc (Nat.le_refl _) _).alloc (by rw [World.size_alloc]; omega) _
  replace t0 := fhid t0
  replace t1 := fhid t1
  replace t2 := fhid t2
  go_enter Tryd.func23, Tryd.ntmps23
  go_upto_region 2 with fail
  generalize World.alloc _ _ = W at *
  go_wp2_with fail
  go_loopw [6] (fun i wr => RsRel w s i wr) (fun i _ => s.size + 1 - (intOf i).toNat)
  case atStart => exact ⟨[], 0, s.size, Nat.zero_le _, by omega, rfl, t1.out, ⟨List.nodup_nil, fun n hn => (by cases hn), by simp⟩, t0.out, t2.out, by rw [List.drop_zero]⟩
  case round =>
    clear t0 t1 t2 hmm
    obtain ⟨came, c, f, hc, hf, rfl, hM, hC, hF, hB, hp⟩ := hrel
    have hrr := fun W => readRange_any s c c W rfl hs hc
    unfold RangePost at hrr
    have hbz := hM.lt
    have c0 : (0 : Int) ≤ c := by omega
    have c1 : (c : Int) ≤ s.size := by omega
    replace hM := fhid hM
    replace hF := fhid hF
    cases h1 : pRange ((bl s).drop c) with
    | none =>
      rw [h1] at hrr
      simp only at hrr
      have hq := fhid (hp.trans (pRanges_none h1))
      clear hp h1
      go_upto_region 4 with (go_at_call 31; (with_reducible refine (hrr _).mono ?_); rintro e w2 ⟨b2, y, i, hy, rfl⟩)
      have z2 := b2.size
      obtain ⟨q0, q1, q2, q3, q4, q5⟩ := two_new 0 0 0 y i (hF.out.below b2 (by omega)) (hM.out.below b2 hbz) (hB.trans (b2.mono hB.size)) (by omega)
      have zF : w.heap.size < w2.heap.size := by omega
      generalize World.alloc _ _ = W2 at *
      generalize w2.heap.size = F at *
      obtain ⟨d0, d1, g0, g1, _⟩ := FB.facts q1
      obtain ⟨e0, e1, k0, k1, _⟩ := FB.facts q2
      have hy2 : (y != 0) = true := by simpa using hy
      have hy1 : ¬ y = 0 := hy
      replace q0 := fhid q0
      replace q1 := fhid q1
      replace q2 := fhid q2
      replace q3 := fhid q3
      replace q5 := fhid q5
      go_wp2_with fail
      go_region
      go_wp2_with fail
      refine bodyPost_ret (v := .tuple #[.slice none 0 0, .int .i64 0, .agg #[.int .i64 y, .int .i64 i]]) (by simp [results, Tryd.results23, go_sem, e0, e1]) rfl (RangesPost.bad hq.out ?_ hy rfl)
      repeat' (first | (with_reducible exact q4) | (with_reducible apply Below.drew) | (with_reducible apply Below.setCell) | (with_reducible apply below_drewN))
      all_goals (first | omega | (simp; done) | (simp; omega))
    | some q =>
      obtain ⟨⟨x, y, st⟩, r⟩ := q
      rw [h1] at hrr
      simp only at hrr
      obtain ⟨hsp, hrl⟩ := pRange_facts h1
      have hsp' : SpOk (x, y, st) := hsp
      replace hsp := fhid hsp
      go_upto_region 4 with (go_at_call 31; (with_reducible refine (hrr _).mono ?_); rintro e w2 ⟨b2, c', hcc, hcs, rfl, rfl⟩)
      have z2 := b2.size
      obtain ⟨q0, q1, q2, q3, q4, q5⟩ := two_new x y st 0 0 (hF.out.below b2 (by omega)) (hM.out.below b2 hbz) (hB.trans (b2.mono hB.size)) (by omega)
      have zF : w.heap.size + 1 < w2.heap.size := by omega
      generalize World.alloc _ _ = W2 at *
      generalize w2.heap.size = F at *
      obtain ⟨d0, d1, g0, g1, _⟩ := FB.facts q1
      obtain ⟨n0, n1, n2, m0, m1, m2, _⟩ := SB.facts q0
      have had := add_any (w.heap.size + 1) (w.heap.size + 1) came x y st W2 hsp' q3 (Nat.le_refl _) hC.2.2
      unfold AddPost at had
      clear hrr hM hF b2 z2
      replace q0 := fhid q0
      replace q1 := fhid q1
      replace q2 := fhid q2
      replace q3 := fhid q3
      replace q4 := fhid q4
      replace q5 := fhid q5
      replace hC := fhid hC
      replace hsp' := fhid hsp'
      cases hmy : mayAdd came (x, y, st) with
      | false =>
        rw [hmy] at had
        have hq := fhid (hp.trans (pRanges_many h1 hmy))
        clear hp h1 hmy
        go_wp2_with (go_at_call 32; (with_reducible refine had.mono ?_); rintro e w3 ⟨rfl, _, b3⟩
                     obtain ⟨e0, e1, k0, k1, _⟩ := FB.facts (FB.below q2.out b3 (by omega)))
        exact bodyPost_ret (v := .tuple #[.slice none 0 0, .int .i64 0, .agg #[.int .i64 5, .int .i64 c]]) (by simp [results, Tryd.results23, go_sem, e0, e1]) rfl
          (RangesPost.bad hq.out (set2 (q4.out.trans (b3.mono (by omega))) _ (Nat.le_refl _) _ _) (show (5 : Int) ≠ 0 by decide) rfl)
      | true =>
        rw [hmy] at had
        have hst := fun W => stands_any s c' c' 44 44 W rfl rfl
        have hhd : ((bl s).drop c').head? = (bl s)[c']? := by rw [List.head?_drop]
        have hC2 := fhid (hC.out.more h1 (of_decide_eq_true hmy)).1
        by_cases h44 : (bl s)[c']? = some 44
        · rw [decide_eq_true h44] at hst
          have hcl : c' < s.size := by
            have := (List.getElem?_eq_some_iff.1 h44).1
            rw [bl_len] at this
            exact this
          have hq := fhid (hp.trans (pRanges_more h1 hmy (hhd.trans h44)))
          have htl : ((bl s).drop c').tail = (bl s).drop (c' + 1) := by rw [List.tail_drop]
          rw [htl] at hq
          clear hp h1 hmy hhd htl h44
          have j0 : (0 : Int) ≤ c' := by omega
          have j1 : (c' : Int) < s.size := by omega
          go_wp2_with (first
            | (go_at_call 32; (with_reducible refine had.mono ?_); rintro e w3 ⟨rfl, hm3, b3⟩
               replace hm3 := fhid (hm3 rfl))
            | (go_at_call 24; (with_reducible refine (hst _).mono ?_); rintro e w1 ⟨rfl, rfl⟩))
          go_roundw
          case rel => exact ⟨_, c' + 1, f - 1, by omega, by omega, by go_num, hm3.out, hC2.out, FB.below q2.out b3 (by omega), q4.out.trans (b3.mono (by omega)), by rw [show f - 1 + 1 = f by omega]; exact hq.out⟩
          case measure => simp [intOf]; omega
        · rw [decide_eq_false h44] at hst
          have hq := fhid (hp.trans (pRanges_done h1 hmy (fun h => h44 (hhd.symm.trans h))))
          clear hp h1 hmy hhd h44
          go_upto_region 9 with (first
            | (go_at_call 32; (with_reducible refine had.mono ?_); rintro e w3 ⟨rfl, hm3, b3⟩
               replace hm3 := fhid (hm3 rfl))
            | (go_at_call 24; (with_reducible refine (hst _).mono ?_); rintro e w1 ⟨rfl, rfl⟩))
          have r2 := fhid (FB.below q2.out b3 (by omega))
          have g3 := fhid (q4.out.trans (b3.mono (by omega)))
          have hso := Sorted_any (w.heap.size + 1) _ w3 hm3.out (by have := hC2.out.2.2; omega) (fun n hn => by have := hC2.out.2.1 n hn; omega)
          have hz3 := (hm3.out).lt
          have bk : Below w3.heap.size w3 (w3.alloc (.cells #[.map (some (w.heap.size + 1))] 68)) := (Below.refl _ _).alloc (Nat.le_refl _) _
          replace bk := fhid bk
          go_wp2_with (first
            | (go_at_call 34; (with_reducible refine (Keys_any _ _).mono ?_); rintro e w4 ⟨rfl, rfl⟩)
            | (go_at_call 33; (with_reducible refine hso.mono ?_); rintro e w5 ⟨v, rfl, o5, b5⟩
               have b35 := bk.out.trans (b5.mono bk.out.size)
               obtain ⟨e0, e1, k0, k1, _⟩ := FB.facts (FB.below r2.out b35 (by omega))
               obtain ⟨A, cap, rfl, v1, v2, v3⟩ := o5.seg
               replace v3 := fhid v3
               replace o5 := fhid o5))
          generalize came ++ spL (x, y, st) = L at *
          exact bodyPost_ret (v := .tuple #[.slice A (srt L).length cap, .int .i64 c', .agg #[.int .i64 0, .int .i64 0]]) (by simp [results, Tryd.results23, go_sem, e0, e1]) rfl
            (RangesPost.good hq.out (set2 (g3.out.trans (b35.mono (by omega))) _ (Nat.le_refl _) _ _) hcs v1 v2 ((seg_set2 v3.out (by omega) _ _).imp fun _ _ hk => ⟨by have := hk.1; omega, hk.2⟩) rfl)
end Go.Proofs.YtlcbppflpadhaaaDoor
