/-
  Parse, walked.
-/
import Derived.Test.YtlcbppflpadhaaaDoorYRanges
namespace Go.Proofs.YtlcbppflpadhaaaDoor
open Go.RowKit

abbrev TAr : TypeId := 28
/-- An array's block. -/
def AB (w : World) (b : Nat) (T : TypeId) (v : Value) (n : Int) : Prop := w.heap[b]? = some (.cells #[v, .int .i64 n] T (0, 0))
theorem AB.facts {w : World} {b : Nat} {T : TypeId} {v : Value} {n : Int} (h : AB w b T v n) : w.cell? ⟨b, 0, none⟩ = some v ∧ w.cell? ⟨b, 1, none⟩ = some (.int .i64 n) ∧ w.frozen? ⟨b, 0, none⟩ = false ∧ w.frozen? ⟨b, 1, none⟩ = false ∧ b < w.heap.size := by
  unfold AB at h
  exact ⟨by simp [World.cell?, h], by simp [World.cell?, h], by simp [World.frozen?, h], by simp [World.frozen?, h], lt_of_block h⟩
theorem AB.below {w w' : World} {B b : Nat} {T : TypeId} {v : Value} {n : Int} (h : AB w b T v n) (hb : Below B w w') (hB : b < B) : AB w' b T v n := (hb.block b hB).trans h
/-- What Parse hands back. -/
def ParsePost (w : World) (s : ByteArray) (e : Ending) (w' : World) : Prop := Below w.heap.size w w' ∧ match pArr (bl s) with
  | none => ∃ y i : Int, y ≠ 0 ∧ e = .returned (.tuple #[.agg #[.slice none 0 0, .int .i64 0], .agg #[.int .i64 y, .int .i64 i]])
  | some (l, lim) => ∃ (A : Option Addr) (cap : Nat), l.length ≤ cap ∧ cap ≤ maxLen ∧ Ints w' w'.heap.size A l ∧ e = .returned (.tuple #[.agg #[.slice A l.length cap, .int .i64 lim], .agg #[.int .i64 0, .int .i64 0]])
theorem ParsePost.bad {w : World} {s : ByteArray} {e : Ending} {w' : World} (h : pArr (bl s) = none) (hb : Below w.heap.size w w') {y i : Int} (hy : y ≠ 0) (he : e = .returned (.tuple #[.agg #[.slice none 0 0, .int .i64 0], .agg #[.int .i64 y, .int .i64 i]])) : ParsePost w s e w' := by
  refine ⟨hb, ?_⟩
  rw [h]
  exact ⟨y, i, hy, he⟩
theorem ParsePost.good {w : World} {s : ByteArray} {e : Ending} {w' : World} {l : List Int} {lim : Int} (h : pArr (bl s) = some (l, lim)) (hb : Below w.heap.size w w') {A : Option Addr} {cap : Nat} (h1 : l.length ≤ cap) (h2 : cap ≤ maxLen) (h3 : Ints w' w'.heap.size A l)
    (he : e = .returned (.tuple #[.agg #[.slice A l.length cap, .int .i64 lim], .agg #[.int .i64 0, .int .i64 0]])) : ParsePost w s e w' := by
  refine ⟨hb, ?_⟩
  rw [h]
  exact ⟨A, cap, h1, h2, h3, he⟩
section
variable {s r r2 : List UInt8} {l : List Int} {n : Int}
theorem pArr_none (h : pRanges (s.length + 1) [] s = none) : pArr s = none := by unfold pArr; rw [h]
theorem pArr_plain (h : pRanges (s.length + 1) [] s = some (l, r)) (h1 : r.head? ≠ some 37) (h2 : r = []) : pArr s = some (srt l, 0) := by unfold pArr; rw [h]; simp only [if_neg h1, if_pos h2]
theorem pArr_rest (h : pRanges (s.length + 1) [] s = some (l, r)) (h1 : r.head? ≠ some 37) (h2 : r ≠ []) : pArr s = none := by unfold pArr; rw [h]; simp only [if_neg h1, if_neg h2]
theorem pArr_none2 (h : pRanges (s.length + 1) [] s = some (l, r)) (h1 : r.head? = some 37) (h2 : pNum 1 r.tail = none) : pArr s = none := by unfold pArr; rw [h]; simp only [if_pos h1, h2]
theorem pArr_lim (h : pRanges (s.length + 1) [] s = some (l, r)) (h1 : r.head? = some 37) (h2 : pNum 1 r.tail = some (n, r2)) (h3 : r2 = []) : pArr s = some (srt l, n) := by unfold pArr; rw [h]; simp only [if_pos h1, h2, if_pos h3]
theorem pArr_rest2 (h : pRanges (s.length + 1) [] s = some (l, r)) (h1 : r.head? = some 37) (h2 : pNum 1 r.tail = some (n, r2)) (h3 : r2 ≠ []) : pArr s = none := by unfold pArr; rw [h]; simp only [if_pos h1, h2, if_neg h3]
end
theorem drop_end {s : ByteArray} {c : Nat} (hc : c ≤ s.size) : (bl s).drop c = [] ↔ ¬ c < s.size := by
  rw [List.drop_eq_nil_iff, bl_len]; omega
theorem parse_start (w : World) : AB ((w.alloc (.cells #[.slice none 0 0, .int .i64 0] TAr)).alloc (.cells #[.int .i64 0, .int .i64 0] TFa)) w.heap.size TAr (.slice none 0 0) 0 ∧ FB ((w.alloc (.cells #[.slice none 0 0, .int .i64 0] TAr)).alloc (.cells #[.int .i64 0, .int .i64 0] TFa)) (w.heap.size + 1) 0 0 ∧
    Below w.heap.size w ((w.alloc (.cells #[.slice none 0 0, .int .i64 0] TAr)).alloc (.cells #[.int .i64 0, .int .i64 0] TFa)) ∧ ((w.alloc (.cells #[.slice none 0 0, .int .i64 0] TAr)).alloc (.cells #[.int .i64 0, .int .i64 0] TFa)).heap.size = w.heap.size + 2 :=
  ⟨old_at _ _ _ (heap_alloc_new w _) (by rw [World.size_alloc]; omega), new_at _ _ _ (by rw [World.size_alloc]), ((Below.refl _ _).alloc (Nat.le_refl _) _).alloc (by rw [World.size_alloc]; omega) _, by rw [World.size_alloc, World.size_alloc]⟩
theorem sets4 {B : Nat} {a w : World} (h : Below B a w) (b c : Nat) (hb : B ≤ b) (hc : B ≤ c) (u v x y : Value) : Below B a ((((w.setCell ⟨b, 0, none⟩ u).setCell ⟨b, 1, none⟩ v).setCell ⟨c, 0, none⟩ x).setCell ⟨c, 1, none⟩ y) := set2 (set2 h b hb u v) c hc x y
theorem seg_set4 {w : World} {b c d : Nat} {A : Option Addr} {vs : List Value} (h : SegP w (fun k => b ≤ k ∧ k < w.heap.size) A vs) (hc : c < b) (hd : d < b) (u v x y : Value) :
    SegC ((((w.setCell ⟨c, 0, none⟩ u).setCell ⟨c, 1, none⟩ v).setCell ⟨d, 0, none⟩ x).setCell ⟨d, 1, none⟩ y) ((((w.setCell ⟨c, 0, none⟩ u).setCell ⟨c, 1, none⟩ v).setCell ⟨d, 0, none⟩ x).setCell ⟨d, 1, none⟩ y).heap.size A vs :=
  (seg_set2 (seg_set2 h hc u v) hd x y).imp fun _ _ hk => hk.2
set_option maxRecDepth 100000 in
set_option maxHeartbeats 8000000 in
theorem Parse_any (s : ByteArray) (w : World) (hs : s.size ≤ 140737488355328) : Calls Tryd.prog 17 #[.string s] w (ParsePost w s) := by
  have hrs := fun W => readRanges_any s W hs
  unfold RangesPost at hrs
  have hsi : (s.size : Int) ≤ 140737488355328 := by omega
  have hbl := bl_len s
  obtain ⟨t0, t1, t2, t3⟩ := parse_start w
  replace t0 := fhid t0
  replace t1 := fhid t1
  replace t2 := fhid t2
  replace t3 := fhid t3
  cases h1 : pRanges (s.size + 1) [] (bl s) with
  | none =>
    rw [h1] at hrs
    simp only at hrs
    have hq := fhid (pArr_none (by rw [hbl]; exact h1))
    clear h1 hbl
    go_enter Tryd.func17, Tryd.ntmps17
    go_upto_region 1 with fail
    generalize World.alloc _ _ = W at *
    go_upto_region 2 with (go_at_call 23; (with_reducible refine (hrs _).mono ?_); rintro e w1 ⟨b1, y, i, hy, rfl⟩)
    have z1 := b1.size
    have zt := t3.out
    have r0 : AB (w1.alloc (.cells #[.int .i64 y, .int .i64 i] TFa)) w.heap.size TAr (.slice none 0 0) 0 := old_at w1 _ _ (AB.below t0.out b1 (by omega)) (by omega)
    have r1 : FB (w1.alloc (.cells #[.int .i64 y, .int .i64 i] TFa)) (w.heap.size + 1) 0 0 := old_at w1 _ _ (FB.below t1.out b1 (by omega)) (by omega)
    have r2 : FB (w1.alloc (.cells #[.int .i64 y, .int .i64 i] TFa)) w1.heap.size y i := heap_alloc_new w1 _
    have bz := (t2.out.trans (b1.mono t2.out.size)).alloc (by omega) (.cells #[.int .i64 y, .int .i64 i] TFa)
    generalize World.alloc _ _ = W2 at *
    obtain ⟨c0, c1, f0, f1, z3⟩ := AB.facts r0
    obtain ⟨d0, d1, g0, g1, z4⟩ := FB.facts r1
    obtain ⟨e0, e1, k0, k1, z5⟩ := FB.facts r2
    have hy2 : (y != 0) = true := by simpa using hy
    have hy1 : ¬ y = 0 := hy
    go_wp2_with fail
    go_region
    go_wp2_with fail
    refine bodyPost_ret (v := .tuple #[.agg #[.slice none 0 0, .int .i64 0], .agg #[.int .i64 y, .int .i64 i]]) (by simp [results, Tryd.results17, go_sem, c0, c1, d0, d1]) rfl
      (ParsePost.bad hq.out ?_ hy rfl)
    repeat' (first | (with_reducible exact bz) | (with_reducible apply Below.drew) | (with_reducible apply Below.setCell) | (with_reducible apply below_drewN))
    all_goals (first | omega | (simp; done) | (simp; omega))
  | some q =>
    obtain ⟨l0, r⟩ := q
    rw [h1] at hrs
    simp only at hrs
    have h1' : pRanges ((bl s).length + 1) [] (bl s) = some (l0, r) := by rw [hbl]; exact h1
    clear h1
    go_enter Tryd.func17, Tryd.ntmps17
    go_upto_region 1 with fail
    generalize World.alloc _ _ = W at *
    go_upto_region 2 with (go_at_call 23; (with_reducible refine (hrs _).mono ?_); rintro e w1 ⟨b1, c, A, cap, hcs, rfl, hc1, hc2, hsg, rfl⟩)
    have z1 := b1.size
    have zt := t3.out
    have r0 : AB (w1.alloc (.cells #[.int .i64 0, .int .i64 0] TFa)) w.heap.size TAr (.slice none 0 0) 0 := old_at w1 _ _ (AB.below t0.out b1 (by omega)) (by omega)
    have r1 : FB (w1.alloc (.cells #[.int .i64 0, .int .i64 0] TFa)) (w.heap.size + 1) 0 0 := old_at w1 _ _ (FB.below t1.out b1 (by omega)) (by omega)
    have r2 : FB (w1.alloc (.cells #[.int .i64 0, .int .i64 0] TFa)) w1.heap.size 0 0 := heap_alloc_new w1 _
    have bz := (t2.out.trans (b1.mono t2.out.size)).alloc (by omega) (.cells #[.int .i64 0, .int .i64 0] TFa)
    have zz := World.size_alloc w1 (.cells #[.int .i64 0, .int .i64 0] TFa)
    have sg : SegP (w1.alloc (.cells #[.int .i64 0, .int .i64 0] TFa)) (fun k => w.heap.size + 2 ≤ k ∧ k < w1.heap.size) A (IV (srt l0)) := (hsg.keep (fun k hk => Below.heap_alloc _ _ _ hk.2)).imp fun k _ hk => ⟨by have := hk.1; omega, hk.2⟩
    have hF : w.heap.size + 2 ≤ w1.heap.size := by omega
    clear hsg b1 t0 t1 t2 hrs z1 zt t3
    generalize World.alloc _ _ = W2 at *
    generalize w1.heap.size = F at *
    generalize hL : srt l0 = L at *
    replace hL := fhid hL
    obtain ⟨e0, e1, k0, k1, z5⟩ := FB.facts r2
    replace sg := fhid sg
    replace r0 := fhid r0
    replace r1 := fhid r1
    replace r2 := fhid r2
    replace bz := fhid bz
    replace zz := fhid zz
    have hst := fun W => stands_any s c c 37 37 W rfl rfl
    have hhd : ((bl s).drop c).head? = (bl s)[c]? := by rw [List.head?_drop]
    replace h1' := fhid h1'
    have hze := zz.out
    have c0' : (0 : Int) ≤ c := by omega
    by_cases h37 : (bl s)[c]? = some 37
    · rw [decide_eq_true h37] at hst
      have hh1 := fhid (hhd.trans h37)
      have htl : ((bl s).drop c).tail = (bl s).drop (c + 1) := by rw [List.tail_drop]
      have hcl : c < s.size := by
        have := (List.getElem?_eq_some_iff.1 h37).1
        rw [bl_len] at this
        exact this
      have hn2 := fun W => readNumber_any s (c + 1) ((c : Int) + 1) 1 W (by omega) hs (by omega)
      unfold NumPost at hn2
      have j1 : (c : Int) < s.size := by omega
      clear hhd h37 hbl
      replace htl := fhid htl
      cases h2 : pNum 1 ((bl s).drop (c + 1)) with
      | none =>
        rw [h2] at hn2
        simp only at hn2
        have hq := fhid (pArr_none2 h1'.out hh1.out (by rw [htl.out]; exact h2))
        clear h2
        go_upto_region 6 with (go_at_call 24; (with_reducible refine (hst _).mono ?_); rintro e w1 ⟨rfl, rfl⟩)
        go_upto_region 7 with (go_at_call 25; (with_reducible refine (hn2 _).mono ?_); rintro e w2 ⟨b2, y, i, hy, rfl⟩
                               have z2 := b2.size
                               obtain ⟨_, _, l0, l1, _⟩ := FB.facts (FB.below r2.out b2 (by omega)))
        have s0 := block_other (c := F) 1 (.int .i64 i) (block_other (c := F) 0 (.int .i64 y) (AB.below r0.out b2 (by omega)) (by omega)) (by omega)
        have s1 := block_other (c := F) 1 (.int .i64 i) (block_other (c := F) 0 (.int .i64 y) (FB.below r1.out b2 (by omega)) (by omega)) (by omega)
        have s2 := block_set 1 (.int .i64 i) (block_set 0 (.int .i64 y) (FB.below r2.out b2 (by omega)))
        have sb := set2 (bz.out.trans (b2.mono (by omega))) F (show w.heap.size ≤ F by omega) (.int .i64 y) (.int .i64 i)
        generalize World.setCell _ _ _ = W4 at *
        obtain ⟨c0, c1, f0, f1, z3⟩ := AB.facts s0
        obtain ⟨d0, d1, g0, g1, z4⟩ := FB.facts s1
        obtain ⟨e2, e3, k2, k3, z6⟩ := FB.facts (e := y) (f := i) s2
        have hy2 : (y != 0) = true := by simpa using hy
        have hy1 : ¬ y = 0 := hy
        go_wp2_with fail
        go_region
        go_wp2_with fail
        refine bodyPost_ret (v := .tuple #[.agg #[.slice none 0 0, .int .i64 0], .agg #[.int .i64 y, .int .i64 i]]) (by simp [results, Tryd.results17, go_sem, c0, c1, d0, d1]) rfl
          (ParsePost.bad hq.out ?_ hy rfl)
        repeat' (first | (with_reducible exact sb) | (with_reducible apply Below.drew) | (with_reducible apply Below.setCell) | (with_reducible apply below_drewN))
        all_goals (first | omega | (simp; done) | (simp; omega))
      | some q2 =>
        obtain ⟨n, r2'⟩ := q2
        rw [h2] at hn2
        simp only at hn2
        replace h2 := fhid h2
        go_upto_region 6 with (go_at_call 24; (with_reducible refine (hst _).mono ?_); rintro e w1 ⟨rfl, rfl⟩)
        go_upto_region 7 with (go_at_call 25; (with_reducible refine (hn2 _).mono ?_); rintro e w2 ⟨b2, c2, hc3, hcs2, rfl, rfl⟩
                               have z2 := b2.size
                               obtain ⟨_, _, l0, l1, _⟩ := FB.facts (FB.below r2.out b2 (by omega)))
        have s0 : AB ((w2.setCell ⟨F, 0, none⟩ (.int .i64 0)).setCell ⟨F, 1, none⟩ (.int .i64 0)) w.heap.size TAr (.slice none 0 0) 0 := block_other (c := F) 1 _ (block_other (c := F) 0 _ (AB.below r0.out b2 (by omega)) (by omega)) (by omega)
        have s1 : FB ((w2.setCell ⟨F, 0, none⟩ (.int .i64 0)).setCell ⟨F, 1, none⟩ (.int .i64 0)) (w.heap.size + 1) 0 0 := block_other (c := F) 1 _ (block_other (c := F) 0 _ (FB.below r1.out b2 (by omega)) (by omega)) (by omega)
        have s2 : FB ((w2.setCell ⟨F, 0, none⟩ (.int .i64 0)).setCell ⟨F, 1, none⟩ (.int .i64 0)) F 0 0 := block_set 1 (.int .i64 0) (block_set 0 (.int .i64 0) (FB.below r2.out b2 (by omega)))
        have sb := set2 (bz.out.trans (b2.mono (by omega))) F (show w.heap.size ≤ F by omega) (.int .i64 0) (.int .i64 0)
        have ss : SegP ((w2.setCell ⟨F, 0, none⟩ (.int .i64 0)).setCell ⟨F, 1, none⟩ (.int .i64 0)) (fun k => w.heap.size + 2 ≤ k ∧ k < F) A (IV L) := sg.out.keep fun k hk => block_other (c := F) 1 _ (block_other (c := F) 0 _ (b2.block k (by omega)) (by omega)) (by omega)
        generalize World.setCell _ _ _ = W4 at *
        clear e0 e1 k0 k1 z5 l0 l1
        obtain ⟨e2, e3, k2, k3, z6⟩ := FB.facts s2
        replace s0 := fhid s0
        replace s1 := fhid s1
        replace s2 := fhid s2
        replace sb := fhid sb
        replace ss := fhid ss
        clear b2 z2 r0 r1 r2 bz sg hn2 hst
        have hst : True := trivial
        have zW := (AB.facts s0.out).2.2.2.2
        by_cases hend : c2 < s.size
        · have hq := fhid (pArr_rest2 h1'.out hh1.out (by rw [htl.out]; exact h2.out) (fun e => (drop_end hcs2).1 e hend))
          have j2 : (c2 : Int) < s.size := by omega
          clear h2 h1' hh1 htl hst
          go_wp2_with (first
            | (go_at_call 26; (with_reducible refine (wrong_any s _ _).mono ?_); rintro e w3 ⟨y, hy, rfl, b3⟩
               replace hy := fhid hy
               obtain ⟨c0, c1, f0, f1, z3⟩ := AB.facts (AB.below s0.out b3 (by omega))
               obtain ⟨d0, d1, g0, g1, z4⟩ := FB.facts (FB.below s1.out b3 (by omega))))
          exact bodyPost_ret (v := .tuple #[.agg #[.slice none 0 0, .int .i64 0], .agg #[.int .i64 y, .int .i64 c2]]) (by simp [results, Tryd.results17, go_sem, c0, c1, d0, d1]) rfl
            (ParsePost.bad hq.out (sets4 (sb.out.trans (b3.mono (by omega))) _ _ (Nat.le_refl _) (by omega) _ _ _ _) hy.out rfl)
        · have hq := fhid (pArr_lim h1'.out hh1.out (by rw [htl.out]; exact h2.out) ((drop_end hcs2).2 hend))
          rw [hL.out] at hq
          have j2 : ¬ (c2 : Int) < s.size := by omega
          clear h2 h1' hh1 htl hst
          obtain ⟨c0, c1, f0, f1, z3⟩ := AB.facts s0.out
          obtain ⟨d0, d1, g0, g1, z4⟩ := FB.facts s1.out
          go_wp2_with fail
          exact bodyPost_ret (v := .tuple #[.agg #[.slice A L.length cap, .int .i64 n], .agg #[.int .i64 0, .int .i64 0]]) (by simp [results, Tryd.results17, go_sem, c0, c1, d0, d1]) rfl
            (ParsePost.good hq.out (sets4 sb.out _ _ (Nat.le_refl _) (by omega) _ _ _ _) hc1 hc2 (seg_set4 (ss.out.imp fun k hk h => ⟨h.1, hk⟩) (by omega) (by omega) _ _ _ _) rfl)
    · rw [decide_eq_false h37] at hst
      have hh1 := fhid (show ((bl s).drop c).head? ≠ some 37 from fun h => h37 (hhd.symm.trans h))
      clear hhd h37 hbl
      by_cases hend : c < s.size
      · have hq := fhid (pArr_rest h1'.out hh1.out (fun e => (drop_end hcs).1 e hend))
        have j2 : (c : Int) < s.size := by omega
        clear h1' hh1
        go_wp2_with (first
          | (go_at_call 24; (with_reducible refine (hst _).mono ?_); rintro e w1 ⟨rfl, rfl⟩)
          | (go_at_call 26; (with_reducible refine (wrong_any s _ _).mono ?_); rintro e w3 ⟨y, hy, rfl, b3⟩
             replace hy := fhid hy
             obtain ⟨c0, c1, f0, f1, z3⟩ := AB.facts (AB.below r0.out b3 (by omega))
             obtain ⟨d0, d1, g0, g1, z4⟩ := FB.facts (FB.below r1.out b3 (by omega))))
        exact bodyPost_ret (v := .tuple #[.agg #[.slice none 0 0, .int .i64 0], .agg #[.int .i64 y, .int .i64 c]]) (by simp [results, Tryd.results17, go_sem, c0, c1, d0, d1]) rfl
          (ParsePost.bad hq.out (sets4 (bz.out.trans (b3.mono (by omega))) _ _ (Nat.le_refl _) (by omega) _ _ _ _) hy.out rfl)
      · have hq := fhid (pArr_plain h1'.out hh1.out ((drop_end hcs).2 hend))
        rw [hL.out] at hq
        have j2 : ¬ (c : Int) < s.size := by omega
        clear h1' hh1
        obtain ⟨c0, c1, f0, f1, z3⟩ := AB.facts r0.out
        obtain ⟨d0, d1, g0, g1, z4⟩ := FB.facts r1.out
        go_wp2_with (first
          | (go_at_call 24; (with_reducible refine (hst _).mono ?_); rintro e w1 ⟨rfl, rfl⟩))
        exact bodyPost_ret (v := .tuple #[.agg #[.slice A L.length cap, .int .i64 0], .agg #[.int .i64 0, .int .i64 0]]) (by simp [results, Tryd.results17, go_sem, c0, c1, d0, d1]) rfl
          (ParsePost.good hq.out (sets4 bz.out _ _ (Nat.le_refl _) (by omega) _ _ _ _) hc1 hc2 (seg_set4 (sg.out.imp fun k hk h => ⟨h.1, hk⟩) (by omega) (by omega) _ _ _ _) rfl)
end Go.Proofs.YtlcbppflpadhaaaDoor
