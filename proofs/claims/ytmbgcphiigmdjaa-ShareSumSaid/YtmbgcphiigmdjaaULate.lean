/-
  A use later; what a user has used at a time.
-/
import Derived.Test.YtmbgcphiigmdjaaUBase
namespace Go.Proofs.Ytmbgcphiigmdjaa
open Go.RowKit Ss Ds

theorem add_at (b o k : Nat) : (⟨b, o, none⟩ : Addr).add k = ⟨b, o + k, none⟩ := by
  unfold Addr.add
  by_cases h : k = 0
  · subst h; rfl
  · rw [if_neg h]
theorem set2 {w u : World} (h : Below w.heap.size w u) {b : Nat} (hb : w.heap.size ≤ b) (x y : Value) : Below w.heap.size w ((u.setCell ⟨b, 0, none⟩ x).setCell ⟨b, 1, none⟩ y) :=
  (h.setCell (p := ⟨b, 0, none⟩) hb _).setCell (p := ⟨b, 1, none⟩) hb _
/-- Two blocks of cells, made one behind the other. -/
theorem two_boxes (w : World) (T : TypeId) (cs : List Value) (T' : TypeId) (cs' : List Value) : ∃ W, W = (w.alloc (.cells cs.toArray T)).alloc (.cells cs'.toArray T') ∧ Below w.heap.size w W ∧ Box W w.heap.size T cs ∧ Box W (w.heap.size + 1) T' cs' := by
  refine ⟨_, rfl, ((Below.refl _ _).alloc (Nat.le_refl _) _).alloc (by rw [World.size_alloc]; omega) _, (Below.heap_alloc _ _ _ (by rw [World.size_alloc]; omega)).trans (heap_alloc_new w _), ?_⟩
  have := heap_alloc_new (w.alloc (.cells cs.toArray T)) (.cells cs'.toArray T')
  rwa [World.size_alloc] at this
set_option maxRecDepth 100000 in
set_option maxHeartbeats 4000000 in
theorem later_any {w : World} {p m : Nat} {h : Int} {M : List Usr} (l : LB w p m h M) (hh : halfB h) (u : Int × Int) (now : Int) (hu : 0 ≤ u.1 ∧ u.1 ≤ 1152921504606846976 ∧ 0 ≤ u.2) (hn : u.2 ≤ now) (ht : now ≤ 1099511627776) :
    Calls Try.prog 36 #[.pointer (some ⟨p, 0, none⟩), useV u, .int .i64 now] w fun e w' => e = .returned (useV (late h u now)) ∧ Below w.heap.size w w' := by
  obtain ⟨c0, c1, _, _⟩ := l.cells
  have hp := l.lt.1
  obtain ⟨hh1, hh2⟩ := hh
  obtain ⟨a, t⟩ := u
  obtain ⟨u0, u1, u2⟩ := hu
  simp only at u0 u1 u2 hn
  obtain ⟨q0, q1, q2, q3⟩ := passed (h := h) (d := now - t) hh1 (by omega)
  have hH : ∀ w, Calls Try.prog 57 #[.int .i64 a, .int .i64 ((now - t).tdiv h)] w fun e w' => e = .returned (.int .i64 (halves a ((now - t).tdiv h))) ∧ w' = w := fun w => (Halves_any a ((now - t).tdiv h) w (by unfold Fits; omega)).mono fun e w' ⟨h1, h2⟩ => ⟨h1, h2.symm⟩
  obtain ⟨f0, f1⟩ := (halves_near a ((now - t).tdiv h)).1 u0
  unfold late useV
  simp only
  generalize halves a ((now - t).tdiv h) = ha at *
  have hne : ¬ h = 0 := by omega
  obtain ⟨W1, hW1, B1, X0, X1⟩ := two_boxes w TUse [.int .i64 a, .int .i64 t] TUse [.int .i64 0, .int .i64 0]
  have l1 := l.below B1
  clear l c0 c1
  replace hW1 := fhid hW1
  go_enter Try.func36, Try.ntmps36
  go_upto_region 1 with fail
  rw [← hW1.out]
  clear hW1
  obtain ⟨c0, c1, _, _⟩ := l1.cells
  have x0 := X0.cell 0
  have x1 := X0.cell 1
  have z0 := X1.free 0
  have z1 := X1.free 1
  have y0 := X1.cell 0
  have y1 := X1.cell 1
  simp only [List.getElem?_cons_zero, List.getElem?_cons_succ] at x0 x1 y0 y1
  have hp1 := l1.lt.1
  have hx1 := X1.lt
  have hx0 := X0.lt
  replace X0 := fhid X0
  replace X1 := fhid X1
  replace l1 := fhid l1
  replace B1 := fhid B1
  have u3 : IntKind.i64.wrap ((now - t).tdiv h * h) = (now - t).tdiv h * h := IntWalk.i64_in _ (by omega)
  have u4 : IntKind.i64.wrap (t + (now - t).tdiv h * h) = t + (now - t).tdiv h * h := IntWalk.i64_in _ (by omega)
  go_region
  go_upto_region 2 with fail
  clear c0 c1 x0 x1 y0 y1 z0 z1
  have B2 := fhid (show Below w.heap.size w W1.drew from B1.out.drew)
  have X2 := fhid (show Box W1.drew w.heap.size TUse [.int .i64 a, .int .i64 t] from X0.out)
  have X3 := fhid (show Box W1.drew (w.heap.size + 1) TUse [.int .i64 0, .int .i64 0] from X1.out)
  have l2 := fhid (show LB W1.drew p m h M from l1.out.below ((Below.refl _ _).drew))
  generalize W1.drew = W2 at *
  clear B1 X0 X1 l1 hx0 hx1 hp1
  obtain ⟨c0, c1, _, _⟩ := l2.out.cells
  have x0 := X2.out.cell 0
  have x1 := X2.out.cell 1
  simp only [List.getElem?_cons_zero, List.getElem?_cons_succ] at x0 x1
  have hp1 := l2.out.lt.1
  have hx0 := X2.out.lt
  refine wp_region_still_tail 14 (by kernel_rfl) (by kernel_rfl) ?_
  simp only [List.take_succ_cons, List.take_zero, List.drop_succ_cons, List.drop_zero]
  iterate 3 still_step
  still_call (hH _)
  iterate 10 still_step
  refine wpStill_nil ?_
  change wpList _ _ _ _ _ W2.drew
  have B3 := fhid (show Below w.heap.size w W2.drew from B2.out.drew)
  have X4 := fhid (show Box W2.drew (w.heap.size + 1) TUse [.int .i64 0, .int .i64 0] from X3.out)
  generalize W2.drew = W3 at *
  clear B2 X2 X3 l2 c0 c1 x0 x1 hp1 hx0
  have z0 := X4.out.free 0
  have z1 := X4.out.free 1
  have y0 := X4.out.cell 0
  have y1 := X4.out.cell 1
  simp only [List.getElem?_cons_zero, List.getElem?_cons_succ] at y0 y1
  have hx1 := X4.out.lt
  go_wp2_with fail
  have X5 := (X4.out.set 0 (.int .i64 ha)).set 1 (.int .i64 (t + (now - t).tdiv h * h))
  have d0 := X5.cell 0
  have d1 := X5.cell 1
  simp only [List.set_cons_zero, List.set_cons_succ, List.getElem?_cons_zero, List.getElem?_cons_succ] at d0 d1
  exact bodyPost_ret (v := .agg #[.int .i64 ha, .int .i64 (t + (now - t).tdiv h * h)]) (by simp [results, Try.results36, go_sem, d0, d1]) rfl ⟨rfl, set2 B3.out (by omega) _ _⟩
end Go.Proofs.Ytmbgcphiigmdjaa
