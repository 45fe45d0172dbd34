/-
  Parts: URAdd.
-/
import Derived.Test.YtmbgcphiigmdjaaR1
import Derived.Deep.RegionHeldLaw
set_option linter.unusedSimpArgs false
set_option linter.unusedVariables false
/-
  One's use added to, by the document: who is not there.
-/
namespace Go.Proofs.Ytmbgcphiigmdjaa
open Go.RowKit Ss Ds

/-- What the document's Add leaves. -/
def AddR (w : World) (r : Nat) (h : Int) (L : List Usr) (s : Str) (u : Int × Int) (e : Ending) (w' : World) : Prop := ∃ k, At L s k ∧ e = .returned (.int .i64 0) ∧ RB w' r h (insK L s u k) ∧ w.grownBy w' (some r)
set_option maxRecDepth 100000 in
set_option maxHeartbeats 8000000 in
theorem rAdd_new {w : World} {r : Nat} {h : Int} {L : List Usr} (b : RB w r h L) (hu : Up L) (s : Str) (am now : Int) (hn : nameB s am) (ht : timeB now) (hs : lookG s L = none) (hm : L.length < 1024) :
    Calls Try.prog 15 #[.pointer (some ⟨r, 0, none⟩), .string (str s), .int .i64 am, .int .i64 now] w (AddR w r h L s (am, now)) := by
  have hfi := find_any b (by omega) s
  have hti := fun W => rtime_any now W
  have hz := str_size s
  obtain ⟨o1, o2, o3, o4, o5⟩ := okn hn
  rw [decide_eq_true ht] at hti
  clear hn ht
  unfold FindP at hfi
  have hpost := fhid (show ∀ k W, At L s k → RB W r h (insK L s (am, now) k) → w.grownBy W (some r) → AddR w r h L s (am, now) (.returned (.int .i64 0)) W from fun k W h1 h2 h3 => ⟨k, h1, rfl, h2, h3⟩)
  generalize AddR w r h L s (am, now) = Post at *
  have hm' : ¬ ((L.length : Int) ≥ 1024) := by omega
  go_enter Try.func15, Try.ntmps15
  go_upto_region 2 with (go_at_call 30; (with_reducible refine hfi.mono ?_); rintro e w1 ⟨k, hat, rfl, b1⟩)
  have hp := fhid (hpost.out k)
  have r1 := b.below b1
  cases hth : there L s k with
  | true =>
    obtain ⟨hk, hlk⟩ := look_yes hu hat hth
    rw [hs] at hlk
    cases hlk
  | false =>
    have hkl := hat.le
    have hins : insK L s (am, now) k = ([] ++ L.take k) ++ [(s, am, now)] ++ L.drop k := by
      unfold insK
      rw [hth, if_neg (by simp), List.nil_append, List.append_assoc]
      rfl
    rw [hins] at hp
    have hp2 := fhid (fun W => hp.out W hat)
    clear hpost hp hat hfi hs hth b hu hins
    have hr1 : r < w1.heap.size := r1.lt
    obtain ⟨A, cap, X, R⟩ := r1
    have x0 := X.cell 0
    have x1 := X.cell 1
    have z1 := X.free 1
    have rc := R.1
    have rm := R.2.1
    simp only [List.getElem?_cons_zero, List.getElem?_cons_succ] at x0 x1
    have k0 : (0 : Int) ≤ k := by omega
    have k1 : (k : Int) ≤ L.length := by omega
    have k2 : (L.length : Int) ≤ cap := by omega
    have k3 : (k : Int) ≤ cap := by omega
    have ht1 := fhid (R.takeU k)
    have hd1 := fhid (R.dropU hkl)
    have l1 := fhid (show k = (L.take k).length by rw [List.length_take]; omega)
    have l2 := fhid (show L.length - k = (L.drop k).length from List.length_drop.symm)
    have l3 := fhid (show (L.take k).length ≤ 1024 ∧ (L.drop k).length ≤ 1024 from ⟨by rw [List.length_take]; omega, by rw [List.length_drop]; omega⟩)
    replace X := fhid X
    replace R := fhid R
    go_upto_region 7 with (go_at_call 31; (with_reducible refine (hti _).mono ?_); rintro e w2 ⟨rfl, rfl⟩)
    have X3 : Box (w2.alloc (.cells #[.string (str s), .int .i64 am, .int .i64 now] TRU)) w2.heap.size TRU [.string (str s), .int .i64 am, .int .i64 now] := Box.new w2 TRU _
    have B3 : Below w2.heap.size w2 (w2.alloc (.cells #[.string (str s), .int .i64 am, .int .i64 now] TRU)) := (Below.refl _ _).alloc (Nat.le_refl _) _
    have XR := X.out.below B3 hr1
    have ht3 := fhid ((ht1.out.below B3).more B3.size)
    have hd3 := fhid ((hd1.out.below B3).more B3.size)
    have hg := Nat.ne_of_lt hr1
    clear ht1 hd1 x0 x1 z1
    replace B3 := fhid B3
    generalize w2.alloc _ = w3 at *
    generalize hgg : w2.heap.size = g at *
    have x0 := XR.cell 0
    have x1 := XR.cell 1
    have z1 := XR.free 1
    have y0 := X3.cell 0
    have y1 := X3.cell 1
    have y2 := X3.cell 2
    have hr3 := XR.lt
    have hg3 := X3.lt
    simp only [List.getElem?_cons_zero, List.getElem?_cons_succ] at x0 x1 y0 y1 y2
    have hS := fhid (show ∀ W, Below w3.heap.size w3 W → W.cell? ⟨g, 0, none⟩ = some (.string (str s)) ∧ W.cell? ⟨g, 1, none⟩ = some (.int .i64 am) ∧ W.cell? ⟨g, 2, none⟩ = some (.int .i64 now) from fun W hB => ⟨(X3.below hB hg3).cell 0, (X3.below hB hg3).cell 1, (X3.below hB hg3).cell 2⟩)
    have hXR := fhid (show ∀ W, Below w3.heap.size w3 W → Box W r TRL [.int .i64 h, .slice A L.length cap] from fun W hB => XR.below hB hr3)
    have zz : Below w3.heap.size w3 w3.drew := (Below.refl _ _).drew
    generalize L.take k = o1 at *
    generalize L.drop k = o2 at *
    replace X3 := fhid X3
    replace XR := fhid XR
    go_upto_region 13 with fail
    go_region_law (first
        | (refine step_users rfl (.tmp 126) (.tmp 127) rfl w3.heap.size v5 ((([] : List Usr) ++ o1) ++ [(s, am, now)]) o2 (L.length - k) l2.out (by simp [Act.eval]) o6.out w3.heap.size (if cap = k then A else A.map (·.add (k * 3))) (cap - k) (by simp [Act.eval]) (hd3.out.below z5) (by have := l3.out; rw [List.length_append, List.length_append, List.length_nil, List.length_singleton]; omega) z5.size ?_
           intro v6 w6 o7 b6
           have z6 : Below w3.heap.size w3 w6 := z5.trans b6
           have X6 := hXR.out _ z6
           have q1 := X6.cell 1
           have q2 := X6.free 1
           simp only [List.getElem?_cons_zero, List.getElem?_cons_succ] at q1
           replace X6 := fhid X6
           obtain ⟨A6, c6, rfl, R6⟩ := o7.shape
           replace R6 := fhid R6
           replace o7 := fhid o7)
        | (refine step_users rfl (.tmp 123) (.tmp 125) rfl w3.heap.size v4 (([] : List Usr) ++ o1) [(s, am, now)] 1 rfl (by simp [Act.eval]) (by first | exact o5'.out | exact OwnU.below o5'.out ((Below.refl _ _).alloc (Nat.le_refl _) _)) _ _ 1 (by simp [Act.eval]; rfl) (by first | exact one_cells _ [.string (str s), .int .i64 am, .int .i64 now] _ | exact (one_cells _ [.string (str s), .int .i64 am, .int .i64 now] _).below (b4.mono (by rw [World.size_alloc]; exact Nat.le_refl _))) (by have := l3.out; rw [List.length_append, List.length_nil, List.length_singleton]; omega) (by first | exact z4.size | exact (z4.alloc z4.size _).size) ?_
           intro v5 w5 o6 b5
           have z5 : Below w3.heap.size w3 w5 := (by first | exact z4.trans b5 | exact (z4.alloc z4.size _).trans b5)
           replace o6 := fhid o6)
        | (refine step_users rfl (.const (.slice none 0 0)) (.tmp 122) rfl _ (.slice none 0 0) [] o1 k l1.out (by simp [Act.eval]) (OwnU.nil _ _) w3.heap.size A cap (by simp [Act.eval, Act.put]) (by first | exact ht3.out.below zz | exact ht3.out.below (zz.alloc zz.size _)) (by have := l3.out; rw [List.length_nil]; omega) (Nat.le_refl _) ?_
           intro v4 w4 o5 b4
           have z4 : Below w3.heap.size w3 w4 := (by first | exact zz.trans (b4.mono zz.size) | exact (zz.alloc zz.size _).trans (b4.mono (zz.alloc zz.size _).size))
           have o5' := fhid (show OwnU w4 w3.heap.size v4 ([] ++ o1) from OwnU.base o5 (by first | exact zz.size | exact (zz.alloc zz.size _).size))
           obtain ⟨f0, f1, f2⟩ := hS.out _ z4
           clear o5)
        | (refine step_users rfl (.tmp 123) (.tmp 125) rfl w3.heap.size v4 (([] : List Usr) ++ o1) [(s, am, now)] 1 rfl (by simp [Act.eval]) o5'.out (w3.heap.size + 1) (some ⟨w3.heap.size, 0, none⟩) 1 (by simp [Act.eval]) (SegC.below (one_cells w3.drew [.string (str s), .int .i64 am, .int .i64 now] TRU) (b4.mono (by simp))) (by have := l3.out; rw [List.length_append, List.length_nil, List.length_singleton]; omega) z4.size ?_
           intro v5 w5 o6 b5
           have z5 : Below w3.heap.size w3 w5 := z4.trans b5
           replace o6 := fhid o6))
    all_goals
      go_wp2_with fail
      all_goals exact hp2.out _ (RB.stored X6.out o7.out (by have a1 := l1.out; have a2 := l2.out; simp only [List.length_append, List.length_nil, List.length_cons]; omega) hr3) (grown_set ((b1.trans (B3.out.mono (by have := b1.size; omega))).trans (z6.mono (Nat.le_trans b1.size B3.out.size))) 1 _)
end Go.Proofs.Ytmbgcphiigmdjaa
