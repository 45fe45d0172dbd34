/-
  Parts: URAddM URAddA.
-/
import Derived.Test.YtmbgcphiigmdjaaR2
set_option linter.unusedSimpArgs false
set_option linter.unusedVariables false
/-
  One's use added to, by the document: who is there.
-/
namespace Go.Proofs.Ytmbgcphiigmdjaa
open Go.RowKit Ss Ds

set_option maxRecDepth 100000 in
set_option maxHeartbeats 8000000 in
theorem rAdd_more {w : World} {r : Nat} {h : Int} {L : List Usr} (b : RB w r h L) (hh : halfB h) (hu : Up L) (hgo : Good L) (s : Str) (am now : Int) (hn : nameB s am) (ht : timeB now) {ua ut : Int} (hs : lookG s L = some (ua, ut)) (hlt : ut ≤ now) :
    Calls Try.prog 15 #[.pointer (some ⟨r, 0, none⟩), .string (str s), .int .i64 am, .int .i64 now] w (AddR w r h L s (capI ((late h (ua, ut) now).1 + am), (late h (ua, ut) now).2)) := by
  have hfi := find_any b hgo.len s
  have hti := fun W => rtime_any now W
  have hln := hgo.len
  have hz := str_size s
  obtain ⟨o1, o2, o3, o4, o5⟩ := okn hn
  rw [decide_eq_true ht] at hti
  obtain ⟨t0, t1⟩ := ht
  clear hn
  unfold FindP at hfi
  obtain ⟨u0, u1, u2, u3⟩ := hgo.look hs
  simp only at u0 u1 u2 u3
  obtain ⟨f0, f1, _, _⟩ := late_facts (h := h) (now := now) (u := (ua, ut)) hh.1 u0 hlt
  simp only at f0 f1
  have hra := fhid (show ∀ W, RB W r h L → Calls Try.prog 32 #[.pointer (some ⟨r, 0, none⟩), .agg #[.string (str s), .int .i64 ua, .int .i64 ut], .int .i64 now] W fun e w' => e = .returned (.int .i64 (late h (ua, ut) now).1) ∧ Below W.heap.size W w' from fun W bW => rat_any bW hh (s, ua, ut) now ⟨u0, u1, u2⟩ hlt t1)
  have hl2 : (late h (ua, ut) now).2 = ut + (now - ut).tdiv h * h := rfl
  have hpost := fhid (show ∀ k W, At L s k → RB W r h (insK L s (capI ((late h (ua, ut) now).1 + am), (late h (ua, ut) now).2) k) → w.grownBy W (some r) → AddR w r h L s (capI ((late h (ua, ut) now).1 + am), (late h (ua, ut) now).2) (.returned (.int .i64 0)) W from fun k W h1 h2 h3 => ⟨k, h1, rfl, h2, h3⟩)
  generalize AddR w r h L s (capI ((late h (ua, ut) now).1 + am), (late h (ua, ut) now).2) = Post at *
  rw [hl2] at hpost
  generalize (late h (ua, ut) now).1 = va at *
  obtain ⟨hh1, hh2⟩ := hh
  obtain ⟨q0, q1, q2, q3⟩ := passed (h := h) (d := now - ut) hh1 (by omega)
  have hne : ¬ h = 0 := by omega
  have v1 : IntKind.i64.wrap (now - ut) = now - ut := IntWalk.i64_in _ (by omega)
  have v2 : IntKind.i64.wrap ((now - ut).tdiv h) = (now - ut).tdiv h := IntWalk.i64_in _ (by omega)
  have v3 : IntKind.i64.wrap ((now - ut).tdiv h * h) = (now - ut).tdiv h * h := IntWalk.i64_in _ (by omega)
  have v4 : IntKind.i64.wrap (ut + (now - ut).tdiv h * h) = ut + (now - ut).tdiv h * h := IntWalk.i64_in _ (by omega)
  have v5 : IntKind.i64.wrap (va + am) = va + am := IntWalk.i64_in _ (by omega)
  have hmin := fhid (show min (va + am) 1152921504606846976 = capI (va + am) by unfold capI; split <;> omega)
  generalize capI (va + am) = cp at *
  have hm' : ¬ now < ut := by omega
  go_enter Try.func15, Try.ntmps15
  go_upto_region 2 with (go_at_call 30; (with_reducible refine hfi.mono ?_); rintro e w1 ⟨k, hat, rfl, b1⟩)
  have hp := fhid (hpost.out k)
  have r1 := b.below b1
  cases hth : there L s k with
  | false =>
    rw [look_no hu hat hth] at hs
    cases hs
  | true =>
    obtain ⟨hk, hlk⟩ := look_yes hu hat hth
    rw [hs] at hlk
    injection hlk with hlk
    obtain ⟨_, hnm⟩ := there_yes hth
    have hkl : k + 1 ≤ L.length := hk
    have hins : insK L s (cp, ut + (now - ut).tdiv h * h) k = ([] ++ L.take k) ++ [(s, cp, ut + (now - ut).tdiv h * h)] ++ L.drop (k + 1) := by
      unfold insK
      rw [hth, if_pos rfl, List.nil_append, List.append_assoc]
      rfl
    rw [hins] at hp
    have hp2 := fhid (fun W => hp.out W hat)
    have hr1 : r < w1.heap.size := r1.lt
    have rr := fhid r1
    obtain ⟨A, cap, X, R⟩ := r1
    obtain ⟨bb, o, hA, hb, c0, c1, c2⟩ := act_at R hk
    rw [hnm] at c0
    rw [← hlk] at c1 c2
    simp only at c1 c2
    clear hpost hp hat hfi hs hth b hu hins hlk hnm hgo hl2
    have x0 := X.cell 0
    have x1 := X.cell 1
    have z1 := X.free 1
    have rc := R.1
    have rm := R.2.1
    simp only [List.getElem?_cons_zero, List.getElem?_cons_succ] at x0 x1
    have k0 : (0 : Int) ≤ k := by omega
    have k1 : (k : Int) < L.length := by omega
    have k1' : (k : Int) ≤ L.length := by omega
    have k2 : (L.length : Int) ≤ cap := by omega
    have k3 : (k : Int) ≤ cap := by omega
    have k4 : (k : Int) + 1 ≤ L.length := by omega
    have k5 : (k : Int) + 1 ≤ cap := by omega
    have ht1 := fhid (R.takeU k)
    have hd1 := R.dropU hkl
    rw [hA, Option.map_some, Addr.add_lit] at hd1
    replace hd1 := fhid hd1
    have l1 := fhid (show k = (L.take k).length by rw [List.length_take]; omega)
    have l2 := fhid (show L.length - (k + 1) = (L.drop (k + 1)).length from List.length_drop.symm)
    have l3 := fhid (show (L.take k).length ≤ 1024 ∧ (L.drop (k + 1)).length ≤ 1024 from ⟨by rw [List.length_take]; omega, by rw [List.length_drop]; omega⟩)
    have hL : L.length ≤ 9223372036854775807 := by simp only [maxLen] at rm; omega
    replace X := fhid X
    replace R := fhid R
    subst hA
    go_upto_region 7 with (go_at_call 31; (with_reducible refine (hti _).mono ?_); rintro e w2 ⟨rfl, rfl⟩)
    have X3 : Box (w2.alloc (.cells #[.string (str s), .int .i64 am, .int .i64 now] TRU)) w2.heap.size TRU [.string (str s), .int .i64 am, .int .i64 now] := Box.new w2 TRU _
    have B3 : Below w2.heap.size w2 (w2.alloc (.cells #[.string (str s), .int .i64 am, .int .i64 now] TRU)) := (Below.refl _ _).alloc (Nat.le_refl _) _
    have XR := X.out.below B3 hr1
    have e0 := (B3.cell (p := ⟨bb, o + k * 3, none⟩) hb).trans c0
    have e1 := (B3.cell (p := ⟨bb, o + k * 3 + 1, none⟩) hb).trans c1
    have e2 := (B3.cell (p := ⟨bb, o + k * 3 + 2, none⟩) hb).trans c2
    clear c0 c1 c2 x0 x1 z1
    have hb3 : bb < (w2.alloc (.cells #[.string (str s), .int .i64 am, .int .i64 now] TRU)).heap.size := Nat.lt_of_lt_of_le hb B3.size
    replace B3 := fhid B3
    generalize w2.alloc _ = w3 at *
    have x0 := XR.cell 0
    have x1 := XR.cell 1
    simp only [List.getElem?_cons_zero, List.getElem?_cons_succ] at x0 x1
    have hr3 := XR.lt
    go_upto_region 10 with fail
    have Y4 : Box (w3.alloc (.cells #[.string (str s), .int .i64 ua, .int .i64 ut] TRU)) w3.heap.size TRU [.string (str s), .int .i64 ua, .int .i64 ut] := Box.new w3 TRU _
    have B4 : Below w2.heap.size w2 (w3.alloc (.cells #[.string (str s), .int .i64 ua, .int .i64 ut] TRU)) := B3.out.alloc B3.out.size _
    have X4 : Box (w3.alloc (.cells #[.string (str s), .int .i64 ua, .int .i64 ut] TRU)) w2.heap.size TRU [.string (str s), .int .i64 am, .int .i64 now] := box_alloc X3 _
    have XR4 : Box (w3.alloc (.cells #[.string (str s), .int .i64 ua, .int .i64 ut] TRU)) r TRL _ := box_alloc XR _
    have hgy := Nat.ne_of_gt X3.lt
    have hry := Nat.ne_of_lt hr3
    have hrg := Nat.ne_of_lt hr1
    clear x0 x1 e0 e1 e2 hb3 B3 X3 XR hr3
    replace B4 := fhid B4
    generalize w3.alloc _ = w4 at *
    generalize w3.heap.size = gy at *
    generalize hgg : w2.heap.size = g at *
    have x0 := XR4.cell 0
    have y0 := Y4.cell 0
    have y1 := Y4.cell 1
    have y2 := Y4.cell 2
    have p2 := X4.cell 2
    have z2 := X4.free 2
    have hr4 := XR4.lt
    have hg4 := X4.lt
    have hy4 := Y4.lt
    simp only [List.getElem?_cons_zero, List.getElem?_cons_succ] at x0 y0 y1 y2 p2
    replace X4 := fhid X4
    replace Y4 := fhid Y4
    replace XR4 := fhid XR4
    refine wp_region_still_tail 18 (by kernel_rfl) (by kernel_rfl) ?_
    simp only [List.take_succ_cons, List.take_zero, List.drop_succ_cons, List.drop_zero]
    iterate 18 still_step
    refine wpStill_nil ?_
    change wpList _ _ _ _ _ w4.drew
    go_upto_region 11 with fail
    have X5 : Box (w4.setCell ⟨g, 2, none⟩ (.int .i64 (ut + (now - ut).tdiv h * h))).drew g TRU [.string (str s), .int .i64 am, .int .i64 (ut + (now - ut).tdiv h * h)] := X4.out.set 2 _
    have Y5 : Box (w4.setCell ⟨g, 2, none⟩ (.int .i64 (ut + (now - ut).tdiv h * h))).drew gy TRU [.string (str s), .int .i64 ua, .int .i64 ut] := Y4.out.other hgy _
    have XR5 : Box (w4.setCell ⟨g, 2, none⟩ (.int .i64 (ut + (now - ut).tdiv h * h))).drew r TRL _ := XR4.out.other hrg _
    have B5 : Below g w2 (w4.setCell ⟨g, 2, none⟩ (.int .i64 (ut + (now - ut).tdiv h * h))).drew := (B4.out.setCell (p := ⟨g, 2, none⟩) (Nat.le_refl _) _).drew
    clear x0 y0 y1 y2 p2 z2 hr4 hg4 hy4 X4 Y4 XR4 B4
    generalize (w4.setCell _ _).drew = w5 at *
    have rr5 := fhid (show RB w5 r h L from rr.out.below (by rw [hgg]; exact B5))
    have hra5 := fhid (hra.out w5 rr5.out)
    generalize hat1 : ut + (now - ut).tdiv h * h = at1 at *
    have y0 := Y5.cell 0
    have y1 := Y5.cell 1
    have y2 := Y5.cell 2
    have hy5 := Y5.lt
    have hg5 := X5.lt
    have hr5 := XR5.lt
    simp only [List.getElem?_cons_zero, List.getElem?_cons_succ] at y0 y1 y2
    have hX6 := fhid (show ∀ W, Below w5.heap.size w5 W → W.cell? ⟨g, 1, none⟩ = some (.int .i64 am) ∧ W.frozen? ⟨g, 1, none⟩ = false ∧ g < W.heap.size from fun W hB => ⟨(X5.below hB hg5).cell 1, (X5.below hB hg5).free 1, (X5.below hB hg5).lt⟩)
    replace X5 := fhid X5
    replace Y5 := fhid Y5
    replace XR5 := fhid XR5
    replace B5 := fhid B5
    go_upto_region 12 with (first
      | (go_at_call 32; (with_reducible refine hra5.out.mono ?_); rintro e w6 ⟨rfl, b6⟩; obtain ⟨p1, p2, p3⟩ := hX6.out _ b6))
    rw [hmin.out]
    have X7 : Box (w6.setCell ⟨g, 1, none⟩ (.int .i64 cp)) g TRU [.string (str s), .int .i64 cp, .int .i64 at1] := (X5.out.below b6 hg5).set 1 _
    have XR7 : Box (w6.setCell ⟨g, 1, none⟩ (.int .i64 cp)) r TRL _ := (XR5.out.below b6 hr5).other hrg _
    have B7 : Below g w2 (w6.setCell ⟨g, 1, none⟩ (.int .i64 cp)) := (B5.out.trans (b6.mono (Nat.le_of_lt hg5))).setCell (p := ⟨g, 1, none⟩) (Nat.le_refl _) _
    clear y0 y1 y2 hy5 hg5 hr5 p1 p2 p3 X5 Y5 XR5 B5
    generalize w6.setCell _ _ = w7 at *
    clear b6
    have ht3 := fhid ((ht1.out.below B7).more (show g ≤ w7.heap.size from hgg ▸ B7.size))
    have hd3 := fhid ((hd1.out.below B7).more (show g ≤ w7.heap.size from hgg ▸ B7.size))
    clear ht1 hd1
    replace B7 := fhid B7
    have x0 := XR7.cell 0
    have x1 := XR7.cell 1
    have z1 := XR7.free 1
    have y0 := X7.cell 0
    have y1 := X7.cell 1
    have y2 := X7.cell 2
    have hr3 := XR7.lt
    have hg3 := X7.lt
    simp only [List.getElem?_cons_zero, List.getElem?_cons_succ] at x0 x1 y0 y1 y2
    have hS := fhid (show ∀ W, Below w7.heap.size w7 W → W.cell? ⟨g, 0, none⟩ = some (.string (str s)) ∧ W.cell? ⟨g, 1, none⟩ = some (.int .i64 cp) ∧ W.cell? ⟨g, 2, none⟩ = some (.int .i64 at1) from fun W hB => ⟨(X7.below hB hg3).cell 0, (X7.below hB hg3).cell 1, (X7.below hB hg3).cell 2⟩)
    have hXR := fhid (show ∀ W, Below w7.heap.size w7 W → Box W r TRL [.int .i64 h, .slice (some ⟨bb, o, none⟩) L.length cap] from fun W hB => XR7.below hB hr3)
    have zz : Below w7.heap.size w7 w7.drew := (Below.refl _ _).drew
    generalize L.take k = o1 at *
    generalize L.drop (k + 1) = o2 at *
    replace X7 := fhid X7
    replace XR7 := fhid XR7
    go_upto_region 13 with fail
    go_region_law (first
        | (refine step_users rfl (.tmp 126) (.tmp 127) rfl w7.heap.size v5 ((([] : List Usr) ++ o1) ++ [(s, cp, at1)]) o2 (L.length - (k + 1)) l2.out (by simp [Act.eval]) o6.out w7.heap.size (if cap = k + 1 then some ⟨bb, o, none⟩ else some ⟨bb, o + (k + 1) * 3, none⟩) (cap - (k + 1)) (by simp [Act.eval]) (hd3.out.below z5) (by have := l3.out; rw [List.length_append, List.length_append, List.length_nil, List.length_singleton]; omega) z5.size ?_
           intro v6 w6 o7 b6
           have z6 : Below w7.heap.size w7 w6 := z5.trans b6
           have X6 := hXR.out _ z6
           have q1 := X6.cell 1
           have q2 := X6.free 1
           simp only [List.getElem?_cons_zero, List.getElem?_cons_succ] at q1
           replace X6 := fhid X6
           obtain ⟨A6, c6, rfl, R6⟩ := o7.shape
           replace R6 := fhid R6
           replace o7 := fhid o7)
        | (refine step_users rfl (.tmp 123) (.tmp 125) rfl w7.heap.size v4 (([] : List Usr) ++ o1) [(s, cp, at1)] 1 rfl (by simp [Act.eval]) (by first | exact o5'.out | exact OwnU.below o5'.out ((Below.refl _ _).alloc (Nat.le_refl _) _)) _ _ 1 (by simp [Act.eval]; rfl) (by first | exact one_cells _ [.string (str s), .int .i64 cp, .int .i64 at1] _ | exact (one_cells _ [.string (str s), .int .i64 cp, .int .i64 at1] _).below (b4.mono (by rw [World.size_alloc]; exact Nat.le_refl _))) (by have := l3.out; rw [List.length_append, List.length_nil, List.length_singleton]; omega) (by first | exact z4.size | exact (z4.alloc z4.size _).size) ?_
           intro v5 w5 o6 b5
           have z5 : Below w7.heap.size w7 w5 := (by first | exact z4.trans b5 | exact (z4.alloc z4.size _).trans b5)
           replace o6 := fhid o6)
        | (refine step_users rfl (.tmp 123) (.tmp 125) rfl w7.heap.size v4 (([] : List Usr) ++ o1) [(s, cp, at1)] 1 rfl (by simp [Act.eval]) o5'.out (w7.heap.size + 1) (some ⟨w7.heap.size, 0, none⟩) 1 (by simp [Act.eval]) (SegC.below (one_cells w7.drew [.string (str s), .int .i64 cp, .int .i64 at1] TRU) (b4.mono (by simp))) (by have := l3.out; rw [List.length_append, List.length_nil, List.length_singleton]; omega) z4.size ?_
           intro v5 w5 o6 b5
           have z5 : Below w7.heap.size w7 w5 := z4.trans b5
           replace o6 := fhid o6)
        | (refine step_users rfl (.const (.slice none 0 0)) (.tmp 122) rfl _ (.slice none 0 0) [] o1 k l1.out (by simp [Act.eval]) (OwnU.nil _ _) w7.heap.size (some ⟨bb, o, none⟩) cap (by simp [Act.eval, Act.put]) (by first | exact ht3.out.below zz | exact ht3.out.below (zz.alloc zz.size _)) (by have := l3.out; rw [List.length_nil]; omega) (Nat.le_refl _) ?_
           intro v4 w4 o5 b4
           have z4 : Below w7.heap.size w7 w4 := (by first | exact zz.trans (b4.mono zz.size) | exact (zz.alloc zz.size _).trans (b4.mono (zz.alloc zz.size _).size))
           have o5' := fhid (show OwnU w4 w7.heap.size v4 ([] ++ o1) from OwnU.base o5 (by first | exact zz.size | exact (zz.alloc zz.size _).size))
           obtain ⟨f0, f1, f2⟩ := hS.out _ z4
           clear o5))
    all_goals
      go_wp2_with fail
      all_goals exact hp2.out _ (RB.stored X6.out o7.out (by have a1 := l1.out; have a2 := l2.out; simp only [List.length_append, List.length_nil, List.length_cons]; omega) hr3) (grown_set ((b1.trans (B7.out.mono (by have := b1.size; omega))).trans (z6.mono (Nat.le_trans b1.size B7.out.size))) 1 _)
end Go.Proofs.Ytmbgcphiigmdjaa
/-
  One's use added to, by the document.
-/
namespace Go.Proofs.Ytmbgcphiigmdjaa
open Go.RowKit Ss Ds

/-- What a call of the document's Add comes to. -/
def RAddP (w : World) (r : Nat) (h : Int) (L : List Usr) (s : Str) (am now : Int) (e : Ending) (w' : World) : Prop := ∃ k, At L s k ∧ e = .returned (.int .i64 (addR h L s am now k).2) ∧ RB w' r h (addR h L s am now k).1 ∧ w.grownBy w' (some r)
theorem ref_radd {w : World} {r : Nat} {h : Int} {L : List Usr} (b : RB w r h L) {s : Str} {am now E : Int} (hE : ∀ k, addR h L s am now k = (L, E)) {e : Ending} {w' : World} (h1 : RefP w L s E e w') : RAddP w r h L s am now e w' := by
  obtain ⟨k, ha, he, hb⟩ := h1
  refine ⟨k, ha, ?_, ?_, below_grown hb⟩
  · rw [hE]; exact he
  · rw [hE]; exact b.below hb
theorem rAdd_any {w : World} {r : Nat} {h : Int} {L : List Usr} (b : RB w r h L) (hh : halfB h) (hu : Up L) (hg : Good L) (s : Str) (am now : Int) (hsl : s.length ≤ 9223372036854775807) :
    Calls Try.prog 15 #[.pointer (some ⟨r, 0, none⟩), .string (str s), .int .i64 am, .int .i64 now] w (RAddP w r h L s am now) := by
  by_cases hbad : ¬ timeB now ∨ ¬ nameB s am
  · refine (rAdd_bad b hg.len s am now hsl hbad).mono fun e w' h1 => ref_radd b (fun k => ?_) h1
    unfold addR
    rw [if_pos (by rcases hbad with h | h; exact .inl h; exact .inr (.inl h))]
  · have ht : timeB now := Classical.not_not.1 fun h => hbad (.inl h)
    have hn : nameB s am := Classical.not_not.1 fun h => hbad (.inr h)
    cases hs : lookG s L with
    | none =>
      have h0 : ¬ (¬ timeB now ∨ ¬ nameB s am ∨ ∃ u, lookG s L = some u ∧ now < u.2) := by
        rintro (h1 | h1 | ⟨u, h1, _⟩)
        · exact h1 ht
        · exact h1 hn
        · rw [hs] at h1; cases h1
      by_cases hm : 1024 ≤ L.length
      · refine (rAdd_full b hg.len hu s am now hn ht hs hm).mono fun e w' h1 => ref_radd b (fun k => ?_) h1
        unfold addR
        rw [if_neg h0, if_pos ⟨hs, hm⟩]
      · refine (rAdd_new b hu s am now hn ht hs (by omega)).mono fun e w' ⟨k, h1, h2, h3, h4⟩ => ⟨k, h1, ?_, ?_, h4⟩
        · unfold addR
          rw [if_neg h0, if_neg (fun h => hm h.2)]
          exact h2
        · unfold addR
          rw [if_neg h0, if_neg (fun h => hm h.2), hs]
          exact h3
    | some u =>
      obtain ⟨ua, ut⟩ := u
      by_cases hlt : now < ut
      · refine (rAdd_late b hg.len hu s am now hn ht hs hlt).mono fun e w' h1 => ref_radd b (fun k => ?_) h1
        unfold addR
        rw [if_pos (.inr (.inr ⟨(ua, ut), hs, hlt⟩))]
      · have h0 : ¬ (¬ timeB now ∨ ¬ nameB s am ∨ ∃ u, lookG s L = some u ∧ now < u.2) := by
          rintro (h1 | h1 | ⟨u, h1, h2⟩)
          · exact h1 ht
          · exact h1 hn
          · rw [hs] at h1
            injection h1 with h1
            subst h1
            exact hlt h2
        have h1 : ¬ (lookG s L = none ∧ 1024 ≤ L.length) := fun h => by rw [hs] at h; cases h.1
        refine (rAdd_more b hh hu hg s am now hn ht hs (by omega)).mono fun e w' ⟨k, g1, g2, g3, g4⟩ => ⟨k, g1, ?_, ?_, g4⟩
        · unfold addR
          rw [if_neg h0, if_neg h1]
          exact g2
        · unfold addR
          rw [if_neg h0, if_neg h1, hs]
          exact g3
end Go.Proofs.Ytmbgcphiigmdjaa
