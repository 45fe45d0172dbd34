/-
  A range, read.
-/
import Derived.Test.YtlcbppflpadhaaaDoorYSpan
namespace Go.Proofs.YtlcbppflpadhaaaDoor
open Go.RowKit

/-- What a call that reads a range hands back. -/
def RangePost (w : World) (s : ByteArray) (a : Nat) (e : Ending) (w' : World) : Prop := Below w.heap.size w w' ∧ match pRange ((bl s).drop a) with
  | none => ∃ y i : Int, y ≠ 0 ∧ e = .returned (.tuple #[.agg #[.int .i64 0, .int .i64 0, .int .i64 0], .int .i64 0, .agg #[.int .i64 y, .int .i64 i]])
  | some (x, r) => ∃ c : Nat, a < c ∧ c ≤ s.size ∧ r = (bl s).drop c ∧ e = .returned (.tuple #[.agg #[.int .i64 x.1, .int .i64 x.2.1, .int .i64 x.2.2], .int .i64 c, .agg #[.int .i64 0, .int .i64 0]])
theorem RangePost.bad {w : World} {s : ByteArray} {a : Nat} {e : Ending} {w' : World} (h : pRange ((bl s).drop a) = none) (hb : Below w.heap.size w w') {y i : Int} (hy : y ≠ 0) (he : e = .returned (.tuple #[.agg #[.int .i64 0, .int .i64 0, .int .i64 0], .int .i64 0, .agg #[.int .i64 y, .int .i64 i]])) : RangePost w s a e w' := by
  refine ⟨hb, ?_⟩
  rw [h]
  exact ⟨y, i, hy, he⟩
theorem RangePost.good {w : World} {s : ByteArray} {a : Nat} {e : Ending} {w' : World} {x : Sp} {c : Nat} (h : pRange ((bl s).drop a) = some (x, (bl s).drop c)) (hb : Below w.heap.size w w') (h1 : a < c) (hc : c ≤ s.size) (he : e = .returned (.tuple #[.agg #[.int .i64 x.1, .int .i64 x.2.1, .int .i64 x.2.2], .int .i64 c, .agg #[.int .i64 0, .int .i64 0]])) : RangePost w s a e w' := by
  refine ⟨hb, ?_⟩
  rw [h]
  exact ⟨c, h1, hc, rfl, he⟩
section
variable {t r r2 r3 : List UInt8} {x y st : Int}
theorem pRange_none (h : pNum 0 t = none) : pRange t = none := by unfold pRange; rw [h]
theorem pRange_one (h : pNum 0 t = some (x, r)) (h1 : r.head? ≠ some 45) : pRange t = some ((x, x, 1), r) := by unfold pRange; rw [h]; exact if_neg h1
theorem pRange_none2 (h : pNum 0 t = some (x, r)) (h1 : r.head? = some 45) (h2 : pNum x r.tail = none) : pRange t = none := by unfold pRange; rw [h]; simp only [h1, if_true, h2]
theorem pRange_two (h : pNum 0 t = some (x, r)) (h1 : r.head? = some 45) (h2 : pNum x r.tail = some (y, r2)) (h3 : r2.head? ≠ some 58) : pRange t = some ((x, y, 1), r2) := by unfold pRange; rw [h]; simp only [h1, if_true, h2]; exact if_neg h3
theorem pRange_none3 (h : pNum 0 t = some (x, r)) (h1 : r.head? = some 45) (h2 : pNum x r.tail = some (y, r2)) (h3 : r2.head? = some 58) (h4 : pNum 1 r2.tail = none) : pRange t = none := by unfold pRange; rw [h]; simp only [h1, if_true, h2, h3, h4]
theorem pRange_three (h : pNum 0 t = some (x, r)) (h1 : r.head? = some 45) (h2 : pNum x r.tail = some (y, r2)) (h3 : r2.head? = some 58) (h4 : pNum 1 r2.tail = some (st, r3)) : pRange t = some ((x, y, st), r3) := by unfold pRange; rw [h]; simp only [h1, if_true, h2, h3, h4]
end
theorem sets5 {B : Nat} {a w : World} (h : Below B a w) (b c : Nat) (hb : B ≤ b) (hc : B ≤ c) (u v t x y : Value) : Below B a (((((w.setCell ⟨b, 0, none⟩ u).setCell ⟨b, 1, none⟩ v).setCell ⟨b, 2, none⟩ t).setCell ⟨c, 0, none⟩ x).setCell ⟨c, 1, none⟩ y) := set2 ((set2 h b hb u v).setCell hb _) c hc x y
/-- A number put into the span, and a fault stored. -/
theorem put3 {w W : World} {b F i : Nat} {v : Value} {e f e' f' : Int} {cs : Array Value} (s0 : SB W b 0 0 0) (s1 : FB W (b + 1) 0 0) (s2 : FB W F e f) (s3 : W.heap[F + 1]? = some (.cells cs TSp (0, 0))) (hF : b + 2 ≤ F) (hb : Below b w W) :
    SB (((W.setCell ⟨F + 1, i, none⟩ v).setCell ⟨F, 0, none⟩ (.int .i64 e')).setCell ⟨F, 1, none⟩ (.int .i64 f')) b 0 0 0 ∧ FB (((W.setCell ⟨F + 1, i, none⟩ v).setCell ⟨F, 0, none⟩ (.int .i64 e')).setCell ⟨F, 1, none⟩ (.int .i64 f')) (b + 1) 0 0 ∧
    FB (((W.setCell ⟨F + 1, i, none⟩ v).setCell ⟨F, 0, none⟩ (.int .i64 e')).setCell ⟨F, 1, none⟩ (.int .i64 f')) F e' f' ∧ (((W.setCell ⟨F + 1, i, none⟩ v).setCell ⟨F, 0, none⟩ (.int .i64 e')).setCell ⟨F, 1, none⟩ (.int .i64 f')).heap[F + 1]? = some (.cells (cs.setIfInBounds i v) TSp (0, 0)) ∧
    Below b w (((W.setCell ⟨F + 1, i, none⟩ v).setCell ⟨F, 0, none⟩ (.int .i64 e')).setCell ⟨F, 1, none⟩ (.int .i64 f')) := by
  refine ⟨?_, ?_, ?_, ?_, ?_⟩
  · exact block_other _ _ (block_other _ _ (block_other _ _ s0 (by omega)) (by omega)) (by omega)
  · exact block_other _ _ (block_other _ _ (block_other _ _ s1 (by omega)) (by omega)) (by omega)
  · have h1 := block_set 1 (.int .i64 f') (block_set 0 (.int .i64 e') (block_other (c := F + 1) i v s2 (by omega)))
    exact h1
  · exact block_other _ _ (block_other _ _ (block_set i v s3) (by omega)) (by omega)
  · exact set2 (hb.setCell (show b ≤ F + 1 by omega) _) F (by omega) _ _
theorem range_start (w : World) : SB ((w.alloc (.cells #[.int .i64 0, .int .i64 0, .int .i64 0] TSp)).alloc (.cells #[.int .i64 0, .int .i64 0] TFa)) w.heap.size 0 0 0 ∧ FB ((w.alloc (.cells #[.int .i64 0, .int .i64 0, .int .i64 0] TSp)).alloc (.cells #[.int .i64 0, .int .i64 0] TFa)) (w.heap.size + 1) 0 0 ∧
    Below w.heap.size w ((w.alloc (.cells #[.int .i64 0, .int .i64 0, .int .i64 0] TSp)).alloc (.cells #[.int .i64 0, .int .i64 0] TFa)) ∧ ((w.alloc (.cells #[.int .i64 0, .int .i64 0, .int .i64 0] TSp)).alloc (.cells #[.int .i64 0, .int .i64 0] TFa)).heap.size = w.heap.size + 2 :=
  ⟨old_at _ _ _ (heap_alloc_new w _) (by rw [World.size_alloc]; omega), new_at _ _ _ (by rw [World.size_alloc]), ((Below.refl _ _).alloc (Nat.le_refl _) _).alloc (by rw [World.size_alloc]; omega) _, by rw [World.size_alloc, World.size_alloc]⟩
set_option maxRecDepth 100000 in
set_option maxHeartbeats 8000000 in
theorem readRange_any (s : ByteArray) (a : Nat) (ai : Int) (w : World) (hai : ai = a) (hs : s.size ≤ 140737488355328) (ha : a ≤ s.size) :
    Calls Tryd.prog 31 #[.string s, .int .i64 ai] w (RangePost w s a) := by
  subst hai
  have hn1 := fun W => readNumber_any s a a 0 W rfl hs ha
  obtain ⟨t0, t1, t2, t3⟩ := range_start w
  unfold NumPost at hn1
  have hsi : (s.size : Int) ≤ 140737488355328 := by omega
  cases h1 : pNum 0 ((bl s).drop a) with
  | none =>
    rw [h1] at hn1
    simp only at hn1
    have hp := fhid (pRange_none h1)
    clear h1
    replace t0 := fhid t0
    replace t1 := fhid t1
    replace t2 := fhid t2
    replace t3 := fhid t3
    go_enter Tryd.func31, Tryd.ntmps31
    go_upto_region 1 with fail
    generalize World.alloc _ _ = W at *
    go_upto_region 2 with (go_at_call 25; (with_reducible refine (hn1 _).mono ?_); rintro e w1 ⟨b1, y, i, hy, rfl⟩)
    have z1 := b1.size
    have zt := t3.out
    have q0 := SB.below t0.out b1 (by omega)
    have q1 := FB.below t1.out b1 (by omega)
    have r0 : SB (w1.alloc (.cells #[.int .i64 y, .int .i64 i] TFa)) w.heap.size 0 0 0 := old_at w1 _ _ q0 (by omega)
    have r1 : FB (w1.alloc (.cells #[.int .i64 y, .int .i64 i] TFa)) (w.heap.size + 1) 0 0 := old_at w1 _ _ q1 (by omega)
    have r2 : FB (w1.alloc (.cells #[.int .i64 y, .int .i64 i] TFa)) w1.heap.size y i := heap_alloc_new w1 _
    have bz := (t2.out.trans (b1.mono t2.out.size)).alloc (by omega) (.cells #[.int .i64 y, .int .i64 i] TFa)
    generalize World.alloc _ _ = W2 at *
    obtain ⟨c0, c1, c2, f0, f1, f2, z3⟩ := SB.facts r0
    obtain ⟨d0, d1, g0, g1, z4⟩ := FB.facts r1
    obtain ⟨e0, e1, k0, k1, z5⟩ := FB.facts r2
    have hy2 : (y != 0) = true := by simpa using hy
    have hy1 : ¬ y = 0 := hy
    go_wp2_with fail
    go_region
    go_wp2_with fail
    refine bodyPost_ret (v := .tuple #[.agg #[.int .i64 0, .int .i64 0, .int .i64 0], .int .i64 0, .agg #[.int .i64 y, .int .i64 i]]) (by simp [results, Tryd.results31, go_sem, c0, c1, c2, d0, d1]) rfl
      (RangePost.bad hp.out ?_ hy rfl)
    repeat' (first | (with_reducible exact bz) | (with_reducible apply Below.drew) | (with_reducible apply Below.setCell) | (with_reducible apply below_drewN))
    all_goals (first | omega | (simp; done) | (simp; omega))
  | some q =>
    obtain ⟨x, r⟩ := q
    rw [h1] at hn1
    simp only at hn1
    obtain ⟨nx0, nx1, _, _⟩ := pNum_facts h1
    replace h1 := fhid h1
    replace t0 := fhid t0
    replace t1 := fhid t1
    replace t2 := fhid t2
    replace t3 := fhid t3
    go_enter Tryd.func31, Tryd.ntmps31
    go_upto_region 1 with fail
    generalize World.alloc _ _ = W at *
    go_upto_region 2 with (go_at_call 25; (with_reducible refine (hn1 _).mono ?_); rintro e w1 ⟨b1, c, hac, hcs, rfl, rfl⟩)
    clear hn1
    have z1 := b1.size
    have zt := t3.out
    have q0 := SB.below t0.out b1 (by omega)
    have q1 := FB.below t1.out b1 (by omega)
    have r0 : SB (w1.alloc (.cells #[.int .i64 0, .int .i64 0] TFa)) w.heap.size 0 0 0 := old_at w1 _ _ q0 (by omega)
    have r1 : FB (w1.alloc (.cells #[.int .i64 0, .int .i64 0] TFa)) (w.heap.size + 1) 0 0 := old_at w1 _ _ q1 (by omega)
    have r2 : FB (w1.alloc (.cells #[.int .i64 0, .int .i64 0] TFa)) w1.heap.size 0 0 := heap_alloc_new w1 _
    have bz := (t2.out.trans (b1.mono t2.out.size)).alloc (by omega) (.cells #[.int .i64 0, .int .i64 0] TFa)
    have zz := World.size_alloc w1 (.cells #[.int .i64 0, .int .i64 0] TFa)
    have hG : w.heap.size + 2 ≤ w1.heap.size := by omega
    generalize World.alloc _ _ = W2 at *
    obtain ⟨e0, e1, k0, k1, z5⟩ := FB.facts r2
    replace t0 := fhid True.intro
    replace t1 := fhid True.intro
    replace b1 := fhid True.intro
    replace r0 := fhid r0
    replace r1 := fhid r1
    replace r2 := fhid r2
    replace bz := fhid bz
    replace zz := fhid zz
    clear q0 q1 z1 t2 t3 zt
    generalize w1.heap.size = F at *
    go_upto_region 5 with fail
    have s0 : SB (W2.alloc (.cells #[.int .i64 x, .int .i64 x, .int .i64 1] TSp)) w.heap.size 0 0 0 := old_at W2 _ _ r0.out (by have := zz.out; omega)
    have s1 : FB (W2.alloc (.cells #[.int .i64 x, .int .i64 x, .int .i64 1] TSp)) (w.heap.size + 1) 0 0 := old_at W2 _ _ r1.out (by have := zz.out; omega)
    have s2 : FB (W2.alloc (.cells #[.int .i64 x, .int .i64 x, .int .i64 1] TSp)) F 0 0 := old_at W2 _ _ r2.out (by have := zz.out; omega)
    have s3 : SB (W2.alloc (.cells #[.int .i64 x, .int .i64 x, .int .i64 1] TSp)) W2.heap.size x x 1 := heap_alloc_new W2 _
    have bz3 := bz.out.alloc (by have := zz.out; omega) (.cells #[.int .i64 x, .int .i64 x, .int .i64 1] TSp)
    have zz3 := World.size_alloc W2 (.cells #[.int .i64 x, .int .i64 x, .int .i64 1] TSp)
    have hG3 : W2.heap.size = F + 1 := zz.out
    generalize World.alloc _ _ = W3 at *
    rw [hG3] at s3 zz3 ⊢
    clear e0 e1 k0 k1 z5 r0 r1 r2 bz zz hG3
    have hst := fun W => stands_any s c c 45 45 W rfl rfl
    have hhd : ((bl s).drop c).head? = (bl s)[c]? := by rw [List.head?_drop]
    by_cases h45 : (bl s)[c]? = some 45
    · rw [decide_eq_true h45] at hst
      have hh1 := hhd.trans h45
      have htl : ((bl s).drop c).tail = (bl s).drop (c + 1) := by rw [List.tail_drop]
      have hcl : c < s.size := by
        have := (List.getElem?_eq_some_iff.1 h45).1
        rw [bl_len] at this
        exact this
      have hn2 := fun W => readNumber_any s (c + 1) ((c : Int) + 1) x W (by omega) hs (by omega)
      unfold NumPost at hn2
      have j0 : (0 : Int) ≤ c := by omega
      have j1 : (c : Int) < s.size := by omega
      clear hhd h45
      replace s0 := fhid s0
      replace s1 := fhid s1
      replace s2 := fhid s2
      replace s3 := fhid s3
      replace bz3 := fhid bz3
      replace zz3 := fhid zz3
      replace hh1 := fhid hh1
      replace htl := fhid htl
      obtain ⟨e0, e1, e2, k0, k1, k2, z5⟩ := SB.facts s3.out
      cases h2 : pNum x ((bl s).drop (c + 1)) with
      | none =>
        rw [h2] at hn2
        simp only at hn2
        have hp := fhid (pRange_none2 h1.out hh1.out (by rw [htl.out]; exact h2))
        clear h2
        go_upto_region 7 with (go_at_call 24; (with_reducible refine (hst _).mono ?_); rintro e w1 ⟨rfl, rfl⟩)
        go_upto_region 8 with (go_at_call 25; (with_reducible refine (hn2 _).mono ?_); rintro e w2 ⟨b2, y2, i2, hy, rfl⟩
                               have z2 := b2.size
                               obtain ⟨_, _, _, k0, k1, k2, _⟩ := SB.facts (SB.below s3.out b2 (by have := zz3.out; omega))
                               obtain ⟨_, _, l0, l1, _⟩ := FB.facts (FB.below s2.out b2 (by have := zz3.out; omega)))
        obtain ⟨u0, u1, u2, u3, ub⟩ := put3 (w := w) (i := 1) (v := .int .i64 0) (e' := y2) (f' := i2) (SB.below s0.out b2 (by have := zz3.out; omega)) (FB.below s1.out b2 (by have := zz3.out; omega)) (FB.below s2.out b2 (by have := zz3.out; omega)) ((b2.block _ (by have := zz3.out; omega)).trans s3.out) hG (bz3.out.trans (b2.mono (by have := zz3.out; omega)))
        generalize World.setCell _ _ _ = W4 at *
        obtain ⟨c0, c1, c2, f0, f1, f2, z3⟩ := SB.facts u0
        obtain ⟨d0, d1, g0, g1, z4⟩ := FB.facts u1
        obtain ⟨e0, e1, k0, k1, z6⟩ := FB.facts u2
        have hy2 : (y2 != 0) = true := by simpa using hy
        have hy1 : ¬ y2 = 0 := hy
        go_wp2_with fail
        go_region
        go_wp2_with fail
        refine bodyPost_ret (v := .tuple #[.agg #[.int .i64 0, .int .i64 0, .int .i64 0], .int .i64 0, .agg #[.int .i64 y2, .int .i64 i2]]) (by simp [results, Tryd.results31, go_sem, c0, c1, c2, d0, d1]) rfl
          (RangePost.bad hp.out ?_ hy rfl)
        repeat' (first | (with_reducible exact ub) | (with_reducible apply Below.drew) | (with_reducible apply Below.setCell) | (with_reducible apply below_drewN))
        all_goals (first | omega | (simp; done) | (simp; omega))
      | some q2 =>
        obtain ⟨y, r2⟩ := q2
        rw [h2] at hn2
        simp only at hn2
        obtain ⟨ny0, ny1, _, _⟩ := pNum_facts h2
        replace h2 := fhid h2
        go_upto_region 7 with (go_at_call 24; (with_reducible refine (hst _).mono ?_); rintro e w1 ⟨rfl, rfl⟩)
        go_upto_region 8 with (go_at_call 25; (with_reducible refine (hn2 _).mono ?_); rintro e w2 ⟨b2, c2, hc2, hcs2, rfl, rfl⟩
                               have z2 := b2.size
                               obtain ⟨_, _, _, k0, k1, k2, _⟩ := SB.facts (SB.below s3.out b2 (by have := zz3.out; omega))
                               obtain ⟨_, _, l0, l1, _⟩ := FB.facts (FB.below s2.out b2 (by have := zz3.out; omega)))
        obtain ⟨u0, u1, u2, u3, ub⟩ := put3 (w := w) (i := 1) (v := .int .i64 y) (e' := 0) (f' := 0) (SB.below s0.out b2 (by have := zz3.out; omega)) (FB.below s1.out b2 (by have := zz3.out; omega)) (FB.below s2.out b2 (by have := zz3.out; omega)) ((b2.block _ (by have := zz3.out; omega)).trans s3.out) hG (bz3.out.trans (b2.mono (by have := zz3.out; omega)))
        generalize World.setCell _ _ _ = W4 at *
        have zz4 : F + 2 ≤ W4.heap.size := lt_of_block u3
        clear e0 e1 e2 k0 k1 k2 l0 l1 hn2 hst z5 b2 z2
        clear s0 s1 s2 s3 bz3 zz3
        have u3' : SB W4 (F + 1) x y 1 := u3
        obtain ⟨e0, e1, k0, k1, z5⟩ := FB.facts u2
        obtain ⟨c0, c1, d2, f0, f1, f2, z3⟩ := SB.facts u0
        obtain ⟨d0, d1, g0, g1, z4⟩ := FB.facts u1
        obtain ⟨n0, n1, n2, m0, m1, m2, z6⟩ := SB.facts u3'
        have hst := fun W => stands_any s c2 c2 58 58 W rfl rfl
        have hhd : ((bl s).drop c2).head? = (bl s)[c2]? := by rw [List.head?_drop]
        replace u0 := fhid u0
        replace u1 := fhid u1
        replace u2 := fhid u2
        replace u3' := fhid u3'
        replace ub := fhid ub
        clear u3
        by_cases h58 : (bl s)[c2]? = some 58
        · rw [decide_eq_true h58] at hst
          have hh3 := hhd.trans h58
          have htl3 : ((bl s).drop c2).tail = (bl s).drop (c2 + 1) := by rw [List.tail_drop]
          have hcl : c2 < s.size := by
            have := (List.getElem?_eq_some_iff.1 h58).1
            rw [bl_len] at this
            exact this
          have hn3 := fun W => readNumber_any s (c2 + 1) ((c2 : Int) + 1) 1 W (by omega) hs (by omega)
          unfold NumPost at hn3
          have j2 : (0 : Int) ≤ c2 := by omega
          have j3 : (c2 : Int) < s.size := by omega
          clear hhd h58 c0 c1 d2 f0 f1 f2 d0 d1 g0 g1
          replace hh3 := fhid hh3
          replace htl3 := fhid htl3
          have v0 := u0
          have v1 := u1
          have v2 := u2
          have v3 := u3'
          have vb := ub
          clear u0 u1 u2 u3' ub
          cases h4 : pNum 1 ((bl s).drop (c2 + 1)) with
          | none =>
            rw [h4] at hn3
            simp only at hn3
            have hp := fhid (pRange_none3 h1.out hh1.out (by rw [htl.out]; exact h2.out) hh3.out (by rw [htl3.out]; exact h4))
            clear h4 h1 h2 hh1 htl hh3 htl3
            go_upto_region 12 with (go_at_call 24; (with_reducible refine (hst _).mono ?_); rintro e w1 ⟨rfl, rfl⟩)
            go_upto_region 13 with (go_at_call 25; (with_reducible refine (hn3 _).mono ?_); rintro e w2 ⟨b3, y2, i2, hy, rfl⟩
                                    have z2 := b3.size
                                    obtain ⟨_, _, _, m0, m1, m2, _⟩ := SB.facts (SB.below v3.out b3 (by omega))
                                    obtain ⟨_, _, l0, l1, _⟩ := FB.facts (FB.below v2.out b3 (by omega)))
            obtain ⟨u0, u1, u2, u3, ub⟩ := put3 (w := w) (i := 2) (v := .int .i64 0) (e' := y2) (f' := i2) (SB.below v0.out b3 (by omega)) (FB.below v1.out b3 (by omega)) (FB.below v2.out b3 (by omega)) ((b3.block _ (by omega)).trans v3.out) hG (vb.out.trans (b3.mono (by omega)))
            generalize World.setCell _ _ _ = W5 at *
            obtain ⟨c0, c1, c2, f0, f1, f2, z3⟩ := SB.facts u0
            obtain ⟨d0, d1, g0, g1, z4⟩ := FB.facts u1
            obtain ⟨e0, e1, k0, k1, z6⟩ := FB.facts u2
            have hy2 : (y2 != 0) = true := by simpa using hy
            have hy1 : ¬ y2 = 0 := hy
            go_wp2_with fail
            go_region
            go_wp2_with fail
            refine bodyPost_ret (v := .tuple #[.agg #[.int .i64 0, .int .i64 0, .int .i64 0], .int .i64 0, .agg #[.int .i64 y2, .int .i64 i2]]) (by simp [results, Tryd.results31, go_sem, c0, c1, c2, d0, d1]) rfl
              (RangePost.bad hp.out ?_ hy rfl)
            repeat' (first | (with_reducible exact ub) | (with_reducible apply Below.drew) | (with_reducible apply Below.setCell) | (with_reducible apply below_drewN))
            all_goals (first | omega | (simp; done) | (simp; omega))
          | some q3 =>
            obtain ⟨st, r3⟩ := q3
            rw [h4] at hn3
            simp only at hn3
            replace h4 := fhid h4
            go_upto_region 12 with (go_at_call 24; (with_reducible refine (hst _).mono ?_); rintro e w1 ⟨rfl, rfl⟩)
            go_upto_region 13 with (go_at_call 25; (with_reducible refine (hn3 _).mono ?_); rintro e w2 ⟨b3, c3, hc3, hcs3, rfl, rfl⟩
                                    have z2 := b3.size
                                    obtain ⟨_, _, _, m0, m1, m2, _⟩ := SB.facts (SB.below v3.out b3 (by omega))
                                    obtain ⟨_, _, l0, l1, _⟩ := FB.facts (FB.below v2.out b3 (by omega)))
            obtain ⟨u0, u1, u2, u3, ub⟩ := put3 (w := w) (i := 2) (v := .int .i64 st) (e' := 0) (f' := 0) (SB.below v0.out b3 (by omega)) (FB.below v1.out b3 (by omega)) (FB.below v2.out b3 (by omega)) ((b3.block _ (by omega)).trans v3.out) hG (vb.out.trans (b3.mono (by omega)))
            generalize World.setCell _ _ _ = W5 at *
            have hp := fhid (pRange_three h1.out hh1.out (by rw [htl.out]; exact h2.out) hh3.out (by rw [htl3.out]; exact h4.out))
            clear h4 h1 h2 hh1 htl hh3 htl3 e0 e1 k0 k1 n0 n1 n2 m0 m1 m2
            have u3' : SB W5 (F + 1) x y st := u3
            obtain ⟨e0, e1, k0, k1, z7⟩ := FB.facts u2
            obtain ⟨c0, c1, d2, f0, f1, f2, z8⟩ := SB.facts u0
            obtain ⟨d0, d1, g0, g1, z9⟩ := FB.facts u1
            obtain ⟨n0, n1, n2, m0, m1, m2, z10⟩ := SB.facts u3'
            replace u0 := fhid u0
            replace u1 := fhid u1
            replace u2 := fhid u2
            replace u3' := fhid u3'
            clear u3
            go_wp2_with fail
            exact bodyPost_ret (v := .tuple #[.agg #[.int .i64 x, .int .i64 y, .int .i64 st], .int .i64 c3, .agg #[.int .i64 0, .int .i64 0]]) (by simp [results, Tryd.results31, go_sem, c0, c1, d2, d0, d1]) rfl
              (RangePost.good hp.out (sets5 ub _ _ (Nat.le_refl _) (by omega) _ _ _ _ _) (by omega) hcs3 rfl)
        · rw [decide_eq_false h58] at hst
          have hp := fhid (pRange_two h1.out hh1.out (by rw [htl.out]; exact h2.out) (fun h => h58 (hhd.symm.trans h)))
          clear h1 h2 hh1 htl hhd h58
          go_wp2_with (go_at_call 24; (with_reducible refine (hst _).mono ?_); rintro e w1 ⟨rfl, rfl⟩)
          exact bodyPost_ret (v := .tuple #[.agg #[.int .i64 x, .int .i64 y, .int .i64 1], .int .i64 c2, .agg #[.int .i64 0, .int .i64 0]]) (by simp [results, Tryd.results31, go_sem, c0, c1, d2, d0, d1]) rfl
            (RangePost.good hp.out (sets5 ub.out _ _ (Nat.le_refl _) (by omega) _ _ _ _ _) (by omega) hcs2 rfl)
    · rw [decide_eq_false h45] at hst
      have hp := fhid (pRange_one h1.out (fun h => h45 (hhd.symm.trans h)))
      clear h1 hhd h45
      obtain ⟨c0, c1, c2, f0, f1, f2, z3⟩ := SB.facts s0
      obtain ⟨d0, d1, g0, g1, z4⟩ := FB.facts s1
      obtain ⟨e0, e1, e2, k0, k1, k2, z5⟩ := SB.facts s3
      replace s0 := fhid s0
      replace s1 := fhid s1
      replace s3 := fhid s3
      go_wp2_with (go_at_call 24; (with_reducible refine (hst _).mono ?_); rintro e w1 ⟨rfl, rfl⟩)
      exact bodyPost_ret (v := .tuple #[.agg #[.int .i64 x, .int .i64 x, .int .i64 1], .int .i64 c, .agg #[.int .i64 0, .int .i64 0]]) (by simp [results, Tryd.results31, go_sem, c0, c1, c2, d0, d1]) rfl
        (RangePost.good hp.out (sets5 bz3 _ _ (Nat.le_refl _) (by omega) _ _ _ _ _) hac hcs rfl)
end Go.Proofs.YtlcbppflpadhaaaDoor
