/-
  What a user has used at a time, by the program.
-/
import Derived.Test.YtmbgcphiigmdjaaULate
namespace Go.Proofs.Ytmbgcphiigmdjaa
open Go.RowKit Ss Ds

theorem one_box (w : World) (T : TypeId) (cs : List Value) : ∃ W, W = w.alloc (.cells cs.toArray T) ∧ Below w.heap.size w W ∧ Box W w.heap.size T cs :=
  ⟨_, rfl, (Below.refl _ _).alloc (Nat.le_refl _) _, heap_alloc_new w _⟩
theorem box_alloc {w : World} {b : Nat} {T : TypeId} {cs : List Value} (h : Box w b T cs) (o : Obj) : Box (w.alloc o) b T cs := (Below.heap_alloc _ _ _ h.lt).trans h
theorem LB.alloc {w : World} {p m : Nat} {h : Int} {M : List Usr} (l : LB w p m h M) (o : Obj) : LB (w.alloc o) p m h M := l.below ((Below.refl _ _).alloc (Nat.le_refl _) _)
theorem LB.set {w : World} {p m : Nat} {h : Int} {M : List Usr} (l : LB w p m h M) {b j : Nat} (h1 : p ≠ b) (h2 : m ≠ b) (v : Value) : LB (w.setCell ⟨b, j, none⟩ v) p m h M :=
  ⟨l.1.other h1 v, l.2.keep (Below.heap_setCell _ _ _ _ h2)⟩
/-- What a call gives that answers a use and an error. -/
def UseP (w : World) (r : (Int × Int) × Int) (e : Ending) (w' : World) : Prop := e = .returned (.tuple #[useV r.1, .int .i64 r.2]) ∧ Below w.heap.size w w'
set_option maxRecDepth 100000 in
set_option maxHeartbeats 4000000 in
theorem at_any {w : World} {p m : Nat} {h : Int} {M : List Usr} (l : LB w p m h M) (hh : halfB h) (hg : Good M) (s : Str) (now : Int) :
    Calls Try.prog 29 #[.pointer (some ⟨p, 0, none⟩), .string (str s), .int .i64 now] w (UseP w (atP h M s now)) := by
  obtain ⟨W1, hW1, B1, X1⟩ := one_box w TUse [.int .i64 0, .int .i64 0]
  have l1 := l.below B1
  have hr := refused_any l1 hh now
  clear l
  replace hW1 := fhid hW1
  unfold UseP
  by_cases ht : timeB now
  · rw [if_pos ht] at hr
    obtain ⟨t0, t1⟩ := ht
    have hlk := run_sm_look (w := W1) true Try.underlying59 Try.underlying9 (zeroUse _) l1.2 s
    rw [look_UL] at hlk
    cases hl : lookG s M with
    | none =>
      rw [hl] at hlk
      have hP : atP h M s now = ((0, now), 0) := by unfold atP; rw [if_pos ⟨t0, t1⟩, hl]
      rw [hP]
      clear hP hl
      simp only [Option.map_none, Option.getD_none, Option.isSome_none, if_true] at hlk
      unfold useV at *
      simp only at hlk ⊢
      obtain ⟨W2, hW2, B2', X3⟩ := one_box W1 TUse [.int .i64 0, .int .i64 0]
      have l2 := l1.below B2'
      have X2 := X1.below B2' X1.lt
      have B2 := B1.trans (B2'.mono B1.size)
      have hs2 := fhid (show W1.heap.size ≠ w.heap.size from fun e => by have := X1.lt; omega)
      have hp := l1.lt.1
      obtain ⟨c0, c1, _, _⟩ := l1.cells
      replace hW2 := fhid hW2
      replace l1 := fhid l1
      replace X1 := fhid X1
      replace B1 := fhid B1
      replace l2 := fhid l2
      replace X2 := fhid X2
      replace B2 := fhid B2
      replace X3 := fhid X3
      clear B2'
      go_enter Try.func29, Try.ntmps29
      go_upto_region 1 with fail
      rw [← hW1.out]
      clear hW1
      go_upto_region 5 with (go_at_call 34; (with_reducible refine hr.mono ?_); rintro e w' ⟨rfl, rfl⟩)
      rw [← hW2.out]
      have s2 := hs2.out
      clear hW2 l1 X1 B1 hlk c0 c1 hr hp hs2
      have x0 := X3.out.cell 0
      have x1 := X3.out.cell 1
      have y0 := X2.out.cell 0
      have y1 := X2.out.cell 1
      have z0 := X2.out.free 0
      have z1 := X2.out.free 1
      have hx2 := X2.out.lt
      have hx3 := X3.out.lt
      simp only [List.getElem?_cons_zero, List.getElem?_cons_succ] at x0 x1 y0 y1
      go_wp2_with fail
      have X5 := (X2.out.set 0 (.int .i64 0)).set 1 (.int .i64 now)
      have d0 := X5.cell 0
      have d1 := X5.cell 1
      simp only [List.set_cons_zero, List.set_cons_succ, List.getElem?_cons_zero, List.getElem?_cons_succ] at d0 d1
      exact bodyPost_ret (v := .tuple #[.agg #[.int .i64 0, .int .i64 now], .int .i64 0]) (by simp [results, Try.results29, go_sem, d0, d1]) rfl ⟨rfl, set2 B2.out (Nat.le_refl _) _ _⟩
    | some u =>
      rw [hl] at hlk
      obtain ⟨u0, u1, u2, u3⟩ := hg.look hl
      have hP : atP h M s now = if now < u.2 then ((0, 0), 1) else (late h u now, 0) := by unfold atP; rw [if_pos ⟨t0, t1⟩, hl]
      rw [hP]
      clear hP hl
      obtain ⟨a, t⟩ := u
      simp only at u0 u1 u2 u3
      simp only [Option.map_some, Option.getD_some, Option.isSome_some, if_true] at hlk
      by_cases hn : now < t
      · rw [if_pos hn]
        unfold useV at *
        simp only at hlk ⊢
        obtain ⟨W2, hW2, B2', X3⟩ := one_box W1 TUse [.int .i64 a, .int .i64 t]
        have l2 := l1.below B2'
        have X2 := X1.below B2' X1.lt
        have B2 := B1.trans (B2'.mono B1.size)
        have hs2 := fhid (show W1.heap.size ≠ w.heap.size from fun e => by have := X1.lt; omega)
        have hp := l1.lt.1
        obtain ⟨c0, c1, _, _⟩ := l1.cells
        replace hW2 := fhid hW2
        replace l1 := fhid l1
        replace X1 := fhid X1
        replace B1 := fhid B1
        replace l2 := fhid l2
        replace X2 := fhid X2
        replace B2 := fhid B2
        replace X3 := fhid X3
        clear B2'
        go_enter Try.func29, Try.ntmps29
        go_upto_region 1 with fail
        rw [← hW1.out]
        clear hW1
        go_upto_region 5 with (go_at_call 34; (with_reducible refine hr.mono ?_); rintro e w' ⟨rfl, rfl⟩)
        rw [← hW2.out]
        have s2 := hs2.out
        clear hW2 l1 X1 B1 hlk c0 c1 hr hp hs2
        have x0 := X3.out.cell 0
        have x1 := X3.out.cell 1
        have y0 := X2.out.cell 0
        have y1 := X2.out.cell 1
        have z0 := X2.out.free 0
        have z1 := X2.out.free 1
        have hx2 := X2.out.lt
        have hx3 := X3.out.lt
        simp only [List.getElem?_cons_zero, List.getElem?_cons_succ] at x0 x1 y0 y1
        go_wp2_with fail
        have X5 := (X2.out.set 0 (.int .i64 0)).set 1 (.int .i64 0)
        have d0 := X5.cell 0
        have d1 := X5.cell 1
        simp only [List.set_cons_zero, List.set_cons_succ, List.getElem?_cons_zero, List.getElem?_cons_succ] at d0 d1
        exact bodyPost_ret (v := .tuple #[.agg #[.int .i64 0, .int .i64 0], .int .i64 1]) (by simp [results, Try.results29, go_sem, d0, d1]) rfl ⟨rfl, set2 B2.out (Nat.le_refl _) _ _⟩
      · rw [if_neg hn]
        have hla := fun W (l : LB W p m h M) => later_any l hh (a, t) now ⟨u0, u1, u2⟩ (by show t ≤ now; omega) t1
        generalize late h (a, t) now = r at *
        obtain ⟨ra, rt⟩ := r
        unfold useV at *
        simp only at hlk hla ⊢
        obtain ⟨W2, hW2, B2', X3⟩ := one_box W1 TUse [.int .i64 a, .int .i64 t]
        have l2 := l1.below B2'
        have X2 := X1.below B2' X1.lt
        have B2 := B1.trans (B2'.mono B1.size)
        have hs2 := fhid (show W1.heap.size ≠ w.heap.size from fun e => by have := X1.lt; omega)
        have hp := l1.lt.1
        obtain ⟨c0, c1, _, _⟩ := l1.cells
        replace hW2 := fhid hW2
        replace l1 := fhid l1
        replace X1 := fhid X1
        replace B1 := fhid B1
        replace l2 := fhid l2
        replace X2 := fhid X2
        replace B2 := fhid B2
        replace X3 := fhid X3
        clear B2'
        go_enter Try.func29, Try.ntmps29
        go_upto_region 1 with fail
        rw [← hW1.out]
        clear hW1
        go_upto_region 5 with (go_at_call 34; (with_reducible refine hr.mono ?_); rintro e w' ⟨rfl, rfl⟩)
        rw [← hW2.out]
        have s2 := hs2.out
        clear hW2 l1 X1 B1 hlk c0 c1 hr hp hs2
        have x0 := X3.out.cell 0
        have x1 := X3.out.cell 1
        have y0 := X2.out.cell 0
        have y1 := X2.out.cell 1
        have z0 := X2.out.free 0
        have z1 := X2.out.free 1
        have hx2 := X2.out.lt
        have hx3 := X3.out.lt
        simp only [List.getElem?_cons_zero, List.getElem?_cons_succ] at x0 x1 y0 y1
        go_upto_region 9 with fail
        go_wp2_with (go_at_call 36; (with_reducible refine (hla _ l2.out).mono ?_); rintro e w4 ⟨rfl, b4⟩
                     have X6 := fhid (X2.out.below b4 hx2)
                     have z6 := X6.out.free 0
                     have z7 := X6.out.free 1
                     have y6 := X6.out.cell 0
                     have y7 := X6.out.cell 1
                     simp only [List.getElem?_cons_zero, List.getElem?_cons_succ] at y6 y7
                     have hx6 := X6.out.lt)
        have X5 := (X6.out.set 0 (.int .i64 ra)).set 1 (.int .i64 rt)
        have d0 := X5.cell 0
        have d1 := X5.cell 1
        simp only [List.set_cons_zero, List.set_cons_succ, List.getElem?_cons_zero, List.getElem?_cons_succ] at d0 d1
        exact bodyPost_ret (v := .tuple #[.agg #[.int .i64 ra, .int .i64 rt], .int .i64 0]) (by simp [results, Try.results29, go_sem, d0, d1]) rfl ⟨rfl, set2 (B2.out.trans (b4.mono B2.out.size)) (Nat.le_refl _) _ _⟩
  · rw [if_neg ht] at hr
    have hP : atP h M s now = ((0, 0), 1) := by unfold atP; rw [if_neg ht]
    rw [hP]
    clear hP ht
    unfold useV
    simp only
    replace l1 := fhid l1
    have B2 := fhid B1
    have X2 := fhid X1
    clear B1 X1
    have z0 := X2.out.free 0
    have z1 := X2.out.free 1
    have y0 := X2.out.cell 0
    have y1 := X2.out.cell 1
    simp only [List.getElem?_cons_zero, List.getElem?_cons_succ] at y0 y1
    have hx2 := X2.out.lt
    go_enter Try.func29, Try.ntmps29
    go_upto_region 1 with fail
    rw [← hW1.out]
    clear hW1
    go_wp2_with (go_at_call 34; (with_reducible refine hr.mono ?_); rintro e w' ⟨rfl, rfl⟩)
    have X5 := (X2.out.set 0 (.int .i64 0)).set 1 (.int .i64 0)
    have d0 := X5.cell 0
    have d1 := X5.cell 1
    simp only [List.set_cons_zero, List.set_cons_succ, List.getElem?_cons_zero, List.getElem?_cons_succ] at d0 d1
    exact bodyPost_ret (v := .tuple #[.agg #[.int .i64 0, .int .i64 0], .int .i64 1]) (by simp [results, Try.results29, go_sem, d0, d1]) rfl ⟨rfl, set2 B2.out (Nat.le_refl _) _ _⟩
end Go.Proofs.Ytmbgcphiigmdjaa
