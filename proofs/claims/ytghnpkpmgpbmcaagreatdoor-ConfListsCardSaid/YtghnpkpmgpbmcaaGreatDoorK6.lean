/-
  Parts: KParse.
-/
import Derived.Test.YtghnpkpmgpbmcaaGreatDoorK5
set_option linter.unusedSimpArgs false
set_option linter.unusedVariables false
/-
  A text's config.
-/
namespace Go.Proofs.YtghnpkpmgpbmcaaGreatDoor
open Go.RowKit Go.Shelf Vs
attribute [local go_sem] Oper.semAt_some

/-- What Parse answers: a config that reads so, and a fault. -/
def ParseP (w : World) (r : Cfg × Nat × Nat) (e : Ending) (w' : World) : Prop := ∃ v, e = .returned (.tuple #[v, .agg #[.int .i64 (r.2.1 : Int), .int .i64 (r.2.2 : Int)]]) ∧ CR w' v r.1 ∧ Below w.heap.size w w'
theorem cr_none (w : World) : CR w (.agg zeros12.toArray) noCfg :=
  ⟨none, 0, none, 0, none, 0, none, 0, 0, 0, 0, 0, 0, 0, 0, 0, rfl, rfl, ⟨Nat.le_refl _, Nat.zero_le _, SegC.nil _ _ _⟩, ⟨Nat.le_refl _, Nat.zero_le _, SegC.nil _ _ _⟩, ⟨Nat.le_refl _, Nat.zero_le _, SegC.nil _ _ _⟩, ⟨Nat.le_refl _, Nat.zero_le _, SegC.nil _ _ _⟩⟩
theorem parse_no {w W : World} (e k : Nat) (hb : Below w.heap.size w W) : ParseP w (noCfg, e, k) (.returned (.tuple #[.agg zeros12.toArray, .agg #[.int .i64 (e : Int), .int .i64 (k : Int)]])) W := ⟨_, rfl, cr_none _, hb⟩
theorem parse_yes {w W : World} {v : Value} {c : Cfg} (h : CR W v c) (hb : Below w.heap.size w W) : ParseP w (c, 0, 0) (.returned (.tuple #[v, .agg #[.int .i64 0, .int .i64 0]])) W := ⟨_, rfl, h, hb⟩
theorem Around.count {w W : World} {p b n : Nat} (h : Around w p b n W) (hp : w.heap.size + 2 ≤ p) : Around w p b (n + 1) (W.setCell ⟨p + 1, 0, none⟩ (.int .i64 ((n : Int) + 1))) where
  rc := Box.other h.rc (a := ⟨p + 1, 0, none⟩) (by show w.heap.size ≠ p + 1; omega) _
  rf := Box.other h.rf (a := ⟨p + 1, 0, none⟩) (by show w.heap.size + 1 ≠ p + 1; omega) _
  ptr := Box.other h.ptr (a := ⟨p + 1, 0, none⟩) (by show p ≠ p + 1; omega) _
  num := Box.set h.num 0 _
  sep := (Below.heap_setCell W ⟨p + 1, 0, none⟩ _ (p + 3) (by show p + 3 ≠ p + 1; omega)).trans h.sep
  cnt := (Below.heap_setCell W ⟨p + 1, 0, none⟩ _ (p + 4) (by show p + 4 ≠ p + 1; omega)).trans h.cnt
  env := h.env.below ((Below.refl _ _).setCell (p := ⟨p + 1, 0, none⟩) (by show w.heap.size + 2 ≤ p + 1; omega) _)
  old := h.old.setCell (p := ⟨p + 1, 0, none⟩) (by show w.heap.size ≤ p + 1; omega) _
/-- The results stored behind a bad line. -/
def WF (W : World) (rc k n : Nat) : World := ((((((((((((((W.setCell ⟨rc, 0, none⟩ (.slice none 0 0)).setCell ⟨rc, 1, none⟩ (.slice none 0 0)).setCell ⟨rc, 2, none⟩ (.slice none 0 0)).setCell ⟨rc, 3, none⟩ (.slice none 0 0)).setCell ⟨rc, 4, none⟩ (.int .i64 0)).setCell ⟨rc, 5, none⟩ (.int .i64 0)).setCell ⟨rc, 6, none⟩ (.int .i64 0)).setCell ⟨rc, 7, none⟩ (.int .i64 0)).setCell ⟨rc, 8, none⟩ (.int .i64 0)).setCell ⟨rc, 9, none⟩ (.int .i64 0)).setCell ⟨rc, 10, none⟩ (.int .i64 0)).setCell ⟨rc, 11, none⟩ (.int .i64 0)).setCell ⟨rc + 1, 0, none⟩ (.int .i64 (k : Int))).setCell ⟨rc + 1, 1, none⟩ (.int .i64 ((n : Int) + 1))).drew
theorem Box.drew {w : World} {b : Nat} {T : TypeId} {cs : List Value} (h : Box w b T cs) : Box w.drew b T cs := h
theorem keep_rc {w : World} {b : Nat} {T : TypeId} {cs : List Value} (h : Box w b T cs) (i : Nat) (v : Value) (hv : cs.set i v = cs) : Box (w.setCell ⟨b, i, none⟩ v) b T cs := by
  have := h.set i v
  rwa [hv] at this
theorem keep_rf {w : World} {rc : Nat} {T : TypeId} {cs : List Value} (h : Box w (rc + 1) T cs) (i : Nat) (v : Value) : Box (w.setCell ⟨rc, i, none⟩ v) (rc + 1) T cs := h.other (Nat.succ_ne_self rc) v
theorem set_rf0 {w : World} {b : Nat} {T : TypeId} {x y : Value} (h : Box w b T [x, y]) (v : Value) : Box (w.setCell ⟨b, 0, none⟩ v) b T [v, y] := h.set 0 v
theorem set_rf1 {w : World} {b : Nat} {T : TypeId} {x y : Value} (h : Box w b T [x, y]) (v : Value) : Box (w.setCell ⟨b, 1, none⟩ v) b T [x, v] := h.set 1 v
theorem get_set {w : World} {b i j : Nat} (v : Value) (h : j ≠ b) : (w.setCell ⟨b, i, none⟩ v).heap[j]? = w.heap[j]? := Below.heap_setCell _ _ _ _ h
theorem get_drew (w : World) (j : Nat) : w.drew.heap[j]? = w.heap[j]? := rfl
theorem keep_up {w : World} {rc : Nat} {T : TypeId} {cs : List Value} (h : Box w rc T cs) (i : Nat) (v : Value) : Box (w.setCell ⟨rc + 1, i, none⟩ v) rc T cs := h.other (Nat.ne_of_lt (Nat.lt_succ_self rc)) v
theorem wf_rc {W : World} {rc k n : Nat} (h : Box W rc TConf zeros12) : Box (WF W rc k n) rc TConf zeros12 := by
  unfold WF
  refine Box.drew (keep_up (keep_up ?_ _ _) _ _)
  iterate 12 refine keep_rc ?_ _ _ rfl
  exact h
theorem wf_other {W : World} {rc k n j : Nat} (h1 : j ≠ rc) (h2 : j ≠ rc + 1) : (WF W rc k n).heap[j]? = W.heap[j]? := by
  unfold WF
  rw [get_drew, get_set _ h2, get_set _ h2, get_set _ h1, get_set _ h1, get_set _ h1, get_set _ h1, get_set _ h1, get_set _ h1, get_set _ h1, get_set _ h1, get_set _ h1, get_set _ h1, get_set _ h1, get_set _ h1]
theorem wf_rf {W : World} {rc k n : Nat} (h : Box W (rc + 1) TFault [.int .i64 0, .int .i64 0]) : Box (WF W rc k n) (rc + 1) TFault [.int .i64 (k : Int), .int .i64 ((n : Int) + 1)] := by
  unfold WF
  refine Box.drew (set_rf1 (x := .int .i64 (k : Int)) (y := .int .i64 0) (set_rf0 (x := .int .i64 0) ?_ _) _)
  iterate 12 refine keep_rf ?_ _ _
  exact h
theorem wf_below {w W : World} {k n : Nat} (h : Below w.heap.size w W) : Below w.heap.size w (WF W w.heap.size k n) := by
  unfold WF
  exact (((((((below8 h (Nat.le_refl _)).setCell (p := ⟨w.heap.size, 8, none⟩) (Nat.le_refl _) _).setCell (p := ⟨w.heap.size, 9, none⟩) (Nat.le_refl _) _).setCell (p := ⟨w.heap.size, 10, none⟩) (Nat.le_refl _) _).setCell (p := ⟨w.heap.size, 11, none⟩) (Nat.le_refl _) _).setCell (p := ⟨w.heap.size + 1, 0, none⟩) (Nat.le_succ _) _).setCell (p := ⟨w.heap.size + 1, 1, none⟩) (Nat.le_succ _) _).drew
/-- Any results stored. -/
def WG (W : World) (rc : Nat) (v0 v1 v2 v3 v4 v5 v6 v7 v8 v9 v10 v11 x y : Value) : World := ((((((((((((((W.setCell ⟨rc, 0, none⟩ v0).setCell ⟨rc, 1, none⟩ v1).setCell ⟨rc, 2, none⟩ v2).setCell ⟨rc, 3, none⟩ v3).setCell ⟨rc, 4, none⟩ v4).setCell ⟨rc, 5, none⟩ v5).setCell ⟨rc, 6, none⟩ v6).setCell ⟨rc, 7, none⟩ v7).setCell ⟨rc, 8, none⟩ v8).setCell ⟨rc, 9, none⟩ v9).setCell ⟨rc, 10, none⟩ v10).setCell ⟨rc, 11, none⟩ v11).setCell ⟨rc + 1, 0, none⟩ x).setCell ⟨rc + 1, 1, none⟩ y)
theorem wg_rc {W : World} {rc : Nat} {v0 v1 v2 v3 v4 v5 v6 v7 v8 v9 v10 v11 x y : Value} (h : Box W rc TConf zeros12) : Box (WG W rc v0 v1 v2 v3 v4 v5 v6 v7 v8 v9 v10 v11 x y) rc TConf [v0, v1, v2, v3, v4, v5, v6, v7, v8, v9, v10, v11] := by
  unfold WG
  have q := h.set 0 v0
  replace q := q.set 1 v1
  replace q := q.set 2 v2
  replace q := q.set 3 v3
  replace q := q.set 4 v4
  replace q := q.set 5 v5
  replace q := q.set 6 v6
  replace q := q.set 7 v7
  replace q := q.set 8 v8
  replace q := q.set 9 v9
  replace q := q.set 10 v10
  replace q := q.set 11 v11
  exact keep_up (keep_up q _ _) _ _
theorem wg_rf {W : World} {rc : Nat} {v0 v1 v2 v3 v4 v5 v6 v7 v8 v9 v10 v11 x y : Value} (h : Box W (rc + 1) TFault [.int .i64 0, .int .i64 0]) : Box (WG W rc v0 v1 v2 v3 v4 v5 v6 v7 v8 v9 v10 v11 x y) (rc + 1) TFault [x, y] := by
  unfold WG
  refine set_rf1 (x := x) (y := .int .i64 0) (set_rf0 (x := .int .i64 0) ?_ _) _
  iterate 12 refine keep_rf ?_ _ _
  exact h
theorem wg_other {W : World} {rc j : Nat} {v0 v1 v2 v3 v4 v5 v6 v7 v8 v9 v10 v11 x y : Value} (h1 : j ≠ rc) (h2 : j ≠ rc + 1) : (WG W rc v0 v1 v2 v3 v4 v5 v6 v7 v8 v9 v10 v11 x y).heap[j]? = W.heap[j]? := by
  unfold WG
  rw [get_set _ h2, get_set _ h2, get_set _ h1, get_set _ h1, get_set _ h1, get_set _ h1, get_set _ h1, get_set _ h1, get_set _ h1, get_set _ h1, get_set _ h1, get_set _ h1, get_set _ h1, get_set _ h1]
theorem wg_rdr {B b rc : Nat} {W : World} {c : Cfg} {vN vV vP vQ : Value} {m0 m1 m2 : Nat} {v0 v1 v2 v3 v4 v5 v6 v7 v8 v9 v10 v11 x y : Value} (h : Rdr B W b c vN vV vP vQ m0 m1 m2) (h1 : ¬ Own b vN vV vP vQ m0 m1 m2 rc) (h2 : ¬ Own b vN vV vP vQ m0 m1 m2 (rc + 1)) : Rdr B (WG W rc v0 v1 v2 v3 v4 v5 v6 v7 v8 v9 v10 v11 x y) b c vN vV vP vQ m0 m1 m2 := by
  unfold WG
  have a := Aft.of (b := rc) (Below.refl W.heap.size W)
  replace a := a.set 0 v0
  replace a := a.set 1 v1
  replace a := a.set 2 v2
  replace a := a.set 3 v3
  replace a := a.set 4 v4
  replace a := a.set 5 v5
  replace a := a.set 6 v6
  replace a := a.set 7 v7
  replace a := a.set 8 v8
  replace a := a.set 9 v9
  replace a := a.set 10 v10
  replace a := a.set 11 v11
  have b1 := h.off a h1
  exact RG.off b1 (((Aft.of (b := rc + 1) (Below.refl _ _)).set 0 x).set 1 y) h2
theorem wg_below {w W : World} {v0 v1 v2 v3 v4 v5 v6 v7 v8 v9 v10 v11 x y : Value} (h : Below w.heap.size w W) : Below w.heap.size w (WG W w.heap.size v0 v1 v2 v3 v4 v5 v6 v7 v8 v9 v10 v11 x y) := by
  unfold WG
  exact (((((((below8 h (Nat.le_refl _)).setCell (p := ⟨w.heap.size, 8, none⟩) (Nat.le_refl _) _).setCell (p := ⟨w.heap.size, 9, none⟩) (Nat.le_refl _) _).setCell (p := ⟨w.heap.size, 10, none⟩) (Nat.le_refl _) _).setCell (p := ⟨w.heap.size, 11, none⟩) (Nat.le_refl _) _).setCell (p := ⟨w.heap.size + 1, 0, none⟩) (Nat.le_succ _) _).setCell (p := ⟨w.heap.size + 1, 1, none⟩) (Nat.le_succ _) _)
theorem aft_put {W : World} (b : Nat) (o : Obj) : Aft b W (W.putObj b o) :=
  have h := below_put (W := W) (B := min b W.heap.size) o (Nat.min_le_left _ _) (Nat.min_le_right _ _)
  ⟨h.os, h.tape, h.output, by simp [World.putObj], fun i _ hb => World.putObj_heap_other (by intro e; exact hb (by rw [e]))⟩
theorem rdr_is {B b : Nat} {W : World} {c : Cfg} {AN AV AP AQ : Option Addr} {cN cV cP cQ : Nat} {a0 a1 a2 a3 a4 a5 a6 a7 : Int} {m0 m1 m2 : Nat} (h : Rdr B W b c (.slice AN c.names.length cN) (.slice AV c.vecs.length cV) (.slice AP c.parts.length cP) (.slice AQ c.qos.length cQ) m0 m1 m2) (ev : c.vals = [a0, a1, a2, a3, a4, a5, a6, a7]) : CR W (.agg #[.slice AN c.names.length cN, .slice AV c.vecs.length cV, .slice AP c.parts.length cP, .slice AQ c.qos.length cQ, .int .i64 a0, .int .i64 a1, .int .i64 a2, .int .i64 a3, .int .i64 a4, .int .i64 a5, .int .i64 a6, .int .i64 a7]) c := by
  obtain ⟨AN', cN', AV', cV', AP', cP', AQ', cQ', b0, b1, b2, b3, b4, b5, b6, b7, e1, e2, e3, e4, ev', hcr⟩ := rdr_cr h
  rw [ev] at ev'
  simp only [Value.slice.injEq, true_and, and_true, List.cons.injEq] at e1 e2 e3 e4 ev'
  obtain ⟨rfl, rfl⟩ := e1
  obtain ⟨rfl, rfl⟩ := e2
  obtain ⟨rfl, rfl⟩ := e3
  obtain ⟨rfl, rfl⟩ := e4
  obtain ⟨rfl, rfl, rfl, rfl, rfl, rfl, rfl, rfl⟩ := ev'
  exact hcr
theorem raw_len (l : List Ls.Pc) : (Ls.raw l).length = l.length := by simp [Ls.raw]
set_option maxRecDepth 100000 in
set_option maxHeartbeats 40000000 in
theorem Parse_any9 (s : ByteArray) (w : World) (hw : Env w) (hs : s.size ≤ 140737488355328) : Calls Tryz.prog 9 #[.string s] w (ParseP w (parseC (bl s))) := by
  have hpc : parseC (bl s) = if 65536 < (bl s).length then (noCfg, 5, 0) else match linesP 1 startC (lines (bl s)) with
    | .error (e, k) => (noCfg, e, k)
    | .ok c => if rightC c = true then (c, 0, 0) else (noCfg, 12, 0) := rfl
  by_cases hbig : 65536 < s.size
  · have hE := fhid (hpc.trans (if_pos (by rw [bl_len]; exact hbig)))
    have i1 : (s.size : Int) > 65536 := by omega
    clear hpc
    go_enter Tryz.func9, Tryz.ntmps9
    go_wp2
    have hsz : (w.alloc (.cells zeros12.toArray TConf)).heap.size = w.heap.size + 1 := by simp
    have r0 : Box ((w.alloc (.cells zeros12.toArray TConf)).alloc (.cells #[.int .i64 5, .int .i64 0] TFault)) w.heap.size TConf zeros12 := (Below.heap_alloc _ _ _ (by simp)).trans (heap_alloc_new w _)
    have r1 : Box ((w.alloc (.cells zeros12.toArray TConf)).alloc (.cells #[.int .i64 5, .int .i64 0] TFault)) (w.heap.size + 1) TFault [.int .i64 5, .int .i64 0] := by
      have := Box.new (w.alloc (.cells zeros12.toArray TConf)) TFault [.int .i64 5, .int .i64 0]
      rwa [hsz] at this
    have hB : Below w.heap.size w ((w.alloc (.cells zeros12.toArray TConf)).alloc (.cells #[.int .i64 5, .int .i64 0] TFault)) := ((Below.refl _ _).alloc (Nat.le_refl _) _).alloc (by simp) _
    generalize (w.alloc _).alloc _ = w2 at *
    obtain ⟨c0, c1, c2, c3, c4, c5, c6, c7, c8, c9, c10, c11⟩ := Box.twelve r0
    have f0 : w2.cell? ⟨w.heap.size + 1, 0, none⟩ = some (.int .i64 5) := Box.cell r1 0
    have f1 : w2.cell? ⟨w.heap.size + 1, 1, none⟩ = some (.int .i64 0) := Box.cell r1 1
    refine bodyPost_ret (v := .tuple #[.agg zeros12.toArray, .agg #[.int .i64 5, .int .i64 0]]) (by simp [results, Tryz.results9, go_sem, c0, c1, c2, c3, c4, c5, c6, c7, c8, c9, c10, c11, f0, f1]) rfl ?_
    rw [hE.out]
    exact ⟨_, rfl, cr_none _, hB⟩
  · have hE := fhid (hpc.trans (if_neg (by rw [bl_len]; exact hbig)))
    have i1 : ¬ (s.size : Int) > 65536 := by omega
    have hnr := fun W => newReader_any W
    clear hpc
    refine (callsIn_wide (n := 6)).1 ?_
    refine callsIn_of_wp_marks Tryz.func9 rfl trivial ?_ rfl
    simp only [Tryz.ntmps9, List.size_toArray, List.length_cons, List.length_nil, Nat.reduceAdd, Nat.reduceSub, Array.replicate_succ, Array.replicate_zero, List.push_toArray, List.append_toArray, List.nil_append, List.cons_append]
    gi_wp2_with (first
      | (refine ⟨trivial, ?_⟩; gi_at_call 31; refine (callsIn_wide.2 (hnr _)).mono ?_; rintro e w1 ⟨b, vN, vV, vP, vQ, m0, m1, m2, rfl, R1, b1⟩)
      | (refine ⟨trivial, ?_⟩; gi_at_call 32; refine (callsIn_wide.2 (Ls.splitSeq_any s _)).mono ?_; rintro e w2 ⟨rfl, rfl⟩))
    have hz2 : ((w.alloc (.cells zeros12.toArray TConf)).alloc (.cells #[.int .i64 0, .int .i64 0] TFault)).heap.size = w.heap.size + 2 := by simp
    rw [hz2] at R1 b1
    obtain ⟨hPI, hBs, hz5⟩ := start_PI w w1 b s vN vV vP vQ m0 m1 m2 hw R1 b1
    unfold world5 at hPI hBs hz5
    have hp2 : w.heap.size + 2 ≤ w1.heap.size := Nat.le_trans R1.bb (Nat.le_of_lt (Box.lt R1.box))
    clear R1 b1 hz2
    generalize w1.heap.size = p at *
    generalize (((((w1.alloc _).alloc _).alloc _).alloc _).alloc _) = W0 at *
    have hlen : (bl s).length ≤ 140737488355328 := by rw [bl_len]; exact hs
    have hl64 : (bl s).length ≤ 65536 := by rw [bl_len]; omega
    rw [← str_bl s] at hBs
    refine Ls.range_pieces (n := 6) (by omega) (Bp := p + 3) (Bs := p + 2) (Bk := p + 4) (by omega) (by omega) (by omega) rfl rfl (bl s) hlen hBs (PI w p b) (PX w (bl s))
      (fun pre W W' h ha => h.grown ha (by omega) (.inr (by omega))) (fun W W' h ha => h.grown ha (by omega)) (fun pre W v h => h.grown (Aft.set (Aft.of (Below.refl _ _)) 0 v) (by omega) (.inl rfl))
      (fun pre W h => by obtain ⟨c, vN, vV, vP, vQ, m0, m1, m2, h1, h2, h3, h4, h5⟩ := h; exact ⟨h5.sep, h5.cnt⟩) hPI
      (fun x => { tmps := #[.string s, undef, .pointer (some ⟨w.heap.size, 0, none⟩), .pointer (some ⟨w.heap.size + 1, 0, none⟩), .pointer (some ⟨p, 0, none⟩), .pointer (some ⟨p + 1, 0, none⟩), Ls.pcV x, undef, .string s, .int .i64 s.size, .bool false, undef, undef, .pointer (some ⟨b, 0, none⟩), .string s,
        .func (.func 111) #[] #[.pointer (some ⟨p + 1 + 1 + 1, 0, none⟩), .pointer (some ⟨p + 1 + 1, 0, none⟩), .pointer (some ⟨p + 1 + 1 + 2, 0, none⟩)],
        Ls.pcV x, undef, undef, undef, undef, undef, undef, undef, undef, undef, undef, undef, undef, undef, undef, undef, undef, undef, undef, undef, undef, undef, undef, undef, undef], defers := [] }) ?assign ?body ?done ?stop
    case assign =>
      intro l x W K hK
      gi_wp2
      exact hK
    case body =>
      intro lp pre x W hlt hpf hI
      obtain ⟨c, vN, vV, vP, vQ, m0, m1, m2, h1, h2, h3, h4, h5⟩ := hI
      have hxm : x.1 ∈ lines (bl s) := hpf.subset (by rw [Ls.raw_snoc]; simp)
      have hx64 : x.1.length ≤ 65536 := Nat.le_trans ((lines_len (bl s)).2 _ hxm) hl64
      have hcn : pre.length + 1 ≤ 65537 := by
        have q1 := hpf.length_le
        have q2 := (lines_len (bl s)).1
        rw [raw_len, List.length_append, List.length_singleton] at q1
        omega
      have hsn := linesP_snoc (x := x.1) h1
      rw [← Ls.raw_snoc, raw_len] at hsn
      have hno : ∀ j, p ≤ j → j < p + 7 → ¬ Own b vN vV vP vQ m0 m1 m2 j := fun j q1 q2 ho => by have := (h4 j ho).2; omega
      have A1 := h5.count hp2
      have R1 := h3.off (x := p + 1) (Aft.set (Aft.of (Below.refl _ _)) 0 (.int .i64 ((pre.length : Int) + 1))) (hno _ (by omega) (by omega))
      have hrl := (readLine_any (w.heap.size + 2) b c vN vV vP vQ m0 m1 m2 x.1 _ R1 A1.env hx64 h2.1)
      have n0 : W.cell? ⟨p + 1, 0, none⟩ = some (.int .i64 (pre.length : Int)) := Box.cell h5.num 0
      have n1 : W.frozen? ⟨p + 1, 0, none⟩ = false := Box.free h5.num 0
      have nl := Box.lt h5.num
      have p0 : W.cell? ⟨p, 0, none⟩ = some (.pointer (some ⟨b, 0, none⟩)) := Box.cell h5.ptr 0
      have pl := Box.lt h5.ptr
      have e1 : IntKind.i64.wrap ((pre.length : Int) + 1) = (pre.length : Int) + 1 := IntWalk.i64_in _ (by omega)
      have hs1 : (W.setCell ⟨p + 1, 0, none⟩ (.int .i64 ((pre.length : Int) + 1))).heap.size = W.heap.size := World.size_setCell _ _ _
      have hk1 : ∀ j, j ≠ p + 1 → (W.setCell ⟨p + 1, 0, none⟩ (.int .i64 ((pre.length : Int) + 1))).heap[j]? = W.heap[j]? := fun j hj => Below.heap_setCell _ _ _ _ hj
      unfold Ls.pcV
      generalize hW1 : W.setCell ⟨p + 1, 0, none⟩ (.int .i64 ((pre.length : Int) + 1)) = W1 at *
      replace hW1 := fhid hW1
      have hd : 1 ≤ 6 - 1 - 1 := by omega
      generalize str x.1 = XS at *
      replace h5 := fhid h5
      replace h3 := fhid h3
      replace A1 := fhid A1
      replace R1 := fhid R1
      replace h1 := fhid h1
      replace h2 := fhid h2
      replace hpf := fhid hpf
      cases hlp : lineP c x.1 with
      | error k =>
        have hk0 := lineP_ne hlp
        rw [hlp] at hsn hrl
        have hrl2 : Calls Tryz.prog 33 #[.pointer (some ⟨b, 0, none⟩), .string XS] W1 fun e w' => e = .returned (.int .i64 (k : Int)) ∧ FX (Own b vN vV vP vQ m0 m1 m2) W1 w' ∧ Below (w.heap.size + 2) W1 w' := hrl.mono fun _ _ h => ⟨h.2.2, h.2.1, h.1⟩
        have j1 : ((k : Int) != 0) = true := by simp; omega
        have j2 : ¬ (k : Int) = 0 := by omega
        clear hrl hlp
        gi_wp2_with (refine ⟨trivial, ?_⟩; gi_at_call 33; rw [hW1.out]; refine (CallsIn.inRound lp (callsIn_wide.2 hrl2)).mono ?_; rintro e W2 ⟨rfl, fx, bx⟩)
        have A2 := A1.out.line h4 fx bx
        have hkeep : ∀ j, p ≤ j → j < p + 7 → j ≠ p + 1 → j < W.heap.size → W2.heap[j]? = W.heap[j]? := fun j q1 q2 q3 q4 => (fx.block j (by omega) (hno j q1 q2)).trans (hk1 j q3)
        obtain ⟨c0, c1, c2, c3, c4, c5, c6, c7, c8, c9, c10, c11⟩ := Box.twelve A2.rc
        have fr := Box.free A2.rc
        have rl := Box.lt A2.rc
        have f0 : W2.cell? ⟨w.heap.size + 1, 0, none⟩ = some (.int .i64 0) := Box.cell A2.rf 0
        have f1 : W2.cell? ⟨w.heap.size + 1, 1, none⟩ = some (.int .i64 0) := Box.cell A2.rf 1
        have ff := Box.free A2.rf
        have fl := Box.lt A2.rf
        have m0' : W2.cell? ⟨p + 1, 0, none⟩ = some (.int .i64 ((pre.length : Int) + 1)) := Box.cell A2.num 0
        have ml := Box.lt A2.num
        have hsz2 := fx.size
        clear hW1 hrl2 e1 n0 n1 p0
        have hend := fhid (show ∀ a, Ls.roundP W0.heap.size (p + 2) (PI w p b) (PX w (bl s)) (pre ++ [x]) W .ret a (WF W2 w.heap.size k pre.length) from fun a => by
          obtain ⟨tl, htl⟩ := hpf.out
          refine ⟨⟨(wf_other (by omega) (by omega)).trans (hkeep _ (by omega) (by omega) (by omega) (by omega)), (wf_other (by omega) (by omega)).trans (hkeep _ (by omega) (by omega) (by omega) (by omega))⟩, k, 1 + pre.length, ?_, wf_rc A2.rc, ?_, wf_below A2.old⟩
          · rw [← htl]
            exact linesP_pre _ _ _ _ _ hsn
          · have := wf_rf (k := k) (n := pre.length) A2.rf
            rwa [show ((1 + pre.length : Nat) : Int) = (pre.length : Int) + 1 from by omega])
        unfold WF at hend
        clear A2 hkeep hsn
        gi_region
        all_goals
          gi_wp2
          exact hend.out _
      | ok c' =>
        rw [hlp] at hsn hrl
        have hrl2 : Calls Tryz.prog 33 #[.pointer (some ⟨b, 0, none⟩), .string XS] W1 fun e w' => e = .returned (.int .i64 0) ∧ FX (Own b vN vV vP vQ m0 m1 m2) W1 w' ∧ Below (w.heap.size + 2) W1 w' ∧ ∃ vN' vV' vP' vQ' m0' m1' m2', Rdr (w.heap.size + 2) w' b c' vN' vV' vP' vQ' m0' m1' m2' ∧ ∀ k, Own b vN' vV' vP' vQ' m0' m1' m2' k → Own b vN vV vP vQ m0 m1 m2 k ∨ W1.heap.size ≤ k := hrl.mono fun _ _ h => ⟨h.2.2.1, h.2.1, h.1, h.2.2.2⟩
        have hg := lineP_good h2.out x.1 hlp
        clear hrl hlp
        gi_wp2_with (refine ⟨trivial, ?_⟩; gi_at_call 33; rw [hW1.out]; refine (CallsIn.inRound lp (callsIn_wide.2 hrl2)).mono ?_; rintro e W2 ⟨rfl, fx, bx, vN', vV', vP', vQ', m0', m1', m2', R2, o2⟩)
        have hkeep : ∀ j, p ≤ j → j < p + 7 → j ≠ p + 1 → j < W.heap.size → W2.heap[j]? = W.heap[j]? := fun j q1 q2 q3 q4 => (fx.block j (by omega) (hno j q1 q2)).trans (hk1 j q3)
        refine ⟨⟨hkeep _ (by omega) (by omega) (by omega) (by omega), hkeep _ (by omega) (by omega) (by omega) (by omega)⟩, hkeep _ (by omega) (by omega) (by omega) (by omega), c', vN', vV', vP', vQ', m0', m1', m2', hsn, hg, R2, fun k hk => ?_, ?_⟩
        · rcases o2 k hk with h | h
          · exact h4 k h
          · exact ⟨by omega, .inr (by omega)⟩
        · rw [List.length_append, List.length_singleton]
          exact A1.out.line h4 fx bx
    case done =>
      intro ys W hys hI hK
      obtain ⟨c, vN, vV, vP, vQ, m0, m1, m2, h1, h2, h3, h4, h5⟩ := hI
      rw [hys] at h1
      have hE2 := hE.out
      rw [h1] at hE2
      obtain ⟨AN, cN, AV, cV, AP, cP, AQ, cQ, a0, a1, a2, a3, a4, a5, a6, a7, rfl, rfl, rfl, rfl, ev, hcr⟩ := rdr_cr h3
      have hri := Right_any9 _ c W hcr h5.env.env h2.2
      have hB0 := h3.box
      rw [ev] at hB0
      have g0 : W.cell? ⟨b, 0, none⟩ = some (.slice AN c.names.length cN) := Box.cell hB0 0
      have g1 : W.cell? ⟨b, 1, none⟩ = some (.slice AV c.vecs.length cV) := Box.cell hB0 1
      have g2 : W.cell? ⟨b, 2, none⟩ = some (.slice AP c.parts.length cP) := Box.cell hB0 2
      have g3 : W.cell? ⟨b, 3, none⟩ = some (.slice AQ c.qos.length cQ) := Box.cell hB0 3
      have g4 : W.cell? ⟨b, 4, none⟩ = some (.int .i64 a0) := Box.cell hB0 4
      have g5 : W.cell? ⟨b, 5, none⟩ = some (.int .i64 a1) := Box.cell hB0 5
      have g6 : W.cell? ⟨b, 6, none⟩ = some (.int .i64 a2) := Box.cell hB0 6
      have g7 : W.cell? ⟨b, 7, none⟩ = some (.int .i64 a3) := Box.cell hB0 7
      have g8 : W.cell? ⟨b, 8, none⟩ = some (.int .i64 a4) := Box.cell hB0 8
      have g9 : W.cell? ⟨b, 9, none⟩ = some (.int .i64 a5) := Box.cell hB0 9
      have g10 : W.cell? ⟨b, 10, none⟩ = some (.int .i64 a6) := Box.cell hB0 10
      have g11 : W.cell? ⟨b, 11, none⟩ = some (.int .i64 a7) := Box.cell hB0 11
      have p0 : W.cell? ⟨p, 0, none⟩ = some (.pointer (some ⟨b, 0, none⟩)) := Box.cell h5.ptr 0
      have pl := Box.lt h5.ptr
      have bl' : b < W.heap.size := lt_of_block hB0
      rw [hz5] at hK
      simp only [Ls.onHeap, hz5]
      clear hPI hBs hnr
      replace h2 := fhid h2
      replace h3 := fhid h3
      replace h4 := fhid h4
      replace h5 := fhid h5
      replace hB0 := fhid hB0
      replace hcr := fhid hcr
      cases hr : rightC c with
      | false =>
        have hE3 := fhid (show parseC (bl s) = (noCfg, 12, 0) from hE2.trans (if_neg (by rw [hr]; decide)))
        clear hE2
        have hri2 : Calls Tryz.prog 24 #[.agg #[.slice AN c.names.length cN, .slice AV c.vecs.length cV, .slice AP c.parts.length cP, .slice AQ c.qos.length cQ, .int .i64 a0, .int .i64 a1, .int .i64 a2, .int .i64 a3, .int .i64 a4, .int .i64 a5, .int .i64 a6, .int .i64 a7]] W fun e w' => e = .returned (.bool false) ∧ Below W.heap.size W w' := hri.mono fun _ _ h => by rw [hr] at h; exact h
        clear hri
        gi_wp2_with (refine ⟨trivial, ?_⟩
                     gi_at_call 24
                     refine (callsIn_wide.2 hri2).mono ?_
                     rintro e W2 ⟨rfl, bR⟩
                     have rcB := Box.below h5.out.rc bR (Box.lt h5.out.rc)
                     have rfB := Box.below h5.out.rf bR (Box.lt h5.out.rf)
                     have oldB := fhid (h5.out.old.trans (bR.mono h5.out.old.size))
                     have hKB := fhid ((bR.block _ (lt_of_block hK)).trans hK)
                     have rdB := fhid (RG.off h3.out (Aft.of (b := w.heap.size) bR) (fun ho => by have := (h4.out _ ho).1; omega))
                     obtain ⟨c0, c1, c2, c3, c4, c5, c6, c7, c8, c9, c10, c11⟩ := Box.twelve rcB
                     have fr := Box.free rcB
                     have rl := Box.lt rcB
                     have f0 : W2.cell? ⟨w.heap.size + 1, 0, none⟩ = some (.int .i64 0) := Box.cell rfB 0
                     have f1 : W2.cell? ⟨w.heap.size + 1, 1, none⟩ = some (.int .i64 0) := Box.cell rfB 1
                     have ff := Box.free rfB
                     have fl := Box.lt rfB
                     have hBB := VBox.below hB0.out bR bl'
                     have bl1 := Box.lt hBB
                     replace rcB := fhid rcB
                     replace rfB := fhid rfB
                     replace hBB := fhid hBB)
        all_goals
          have hD := fhid (run_takeDeferred (P := Tryz.prog) (ds := []) (w := (WG W2 w.heap.size (.slice none 0 0) (.slice none 0 0) (.slice none 0 0) (.slice none 0 0) (.int .i64 0) (.int .i64 0) (.int .i64 0) (.int .i64 0) (.int .i64 0) (.int .i64 0) (.int .i64 0) (.int .i64 0) (.int .i64 12) (.int .i64 0))) ((wg_other (by omega) (by omega)).trans hKB.out))
          have k2 := fhid (show Box ((WG W2 w.heap.size (.slice none 0 0) (.slice none 0 0) (.slice none 0 0) (.slice none 0 0) (.int .i64 0) (.int .i64 0) (.int .i64 0) (.int .i64 0) (.int .i64 0) (.int .i64 0) (.int .i64 0) (.int .i64 0) (.int .i64 12) (.int .i64 0)).putObj (p + 5) (.deferred none)) w.heap.size TConf [.slice none 0 0, .slice none 0 0, .slice none 0 0, .slice none 0 0, .int .i64 0, .int .i64 0, .int .i64 0, .int .i64 0, .int .i64 0, .int .i64 0, .int .i64 0, .int .i64 0] from (World.putObj_heap_other (by omega)).trans (wg_rc rcB.out))
          have k3 := fhid (show Box ((WG W2 w.heap.size (.slice none 0 0) (.slice none 0 0) (.slice none 0 0) (.slice none 0 0) (.int .i64 0) (.int .i64 0) (.int .i64 0) (.int .i64 0) (.int .i64 0) (.int .i64 0) (.int .i64 0) (.int .i64 0) (.int .i64 12) (.int .i64 0)).putObj (p + 5) (.deferred none)) (w.heap.size + 1) TFault [.int .i64 12, .int .i64 0] from (World.putObj_heap_other (by omega)).trans (wg_rf rfB.out))
          have hB5 := wg_below (v0 := .slice none 0 0) (v1 := .slice none 0 0) (v2 := .slice none 0 0) (v3 := .slice none 0 0) (v4 := .int .i64 0) (v5 := .int .i64 0) (v6 := .int .i64 0) (v7 := .int .i64 0) (v8 := .int .i64 0) (v9 := .int .i64 0) (v10 := .int .i64 0) (v11 := .int .i64 0) (x := .int .i64 12) (y := .int .i64 0) oldB.out
          have hB6 := fhid (hB5.trans (below_put (b := p + 5) (.deferred none) (show w.heap.size ≤ p + 5 by omega) hB5.size))
          unfold WG at hD k2 k3 hB6
          refine ⟨by simp, .inl ⟨_, _, rfl, hD.out, ?_⟩⟩
          clear hD hB5
          generalize World.putObj _ _ _ = W6 at *
          obtain ⟨c0, c1, c2, c3, c4, c5, c6, c7, c8, c9, c10, c11⟩ := Box.twelve k2.out
          have f0 : W6.cell? ⟨w.heap.size + 1, 0, none⟩ = some (.int .i64 12) := Box.cell k3.out 0
          have f1 : W6.cell? ⟨w.heap.size + 1, 1, none⟩ = some (.int .i64 0) := Box.cell k3.out 1
          exact ⟨.tuple #[.agg #[.slice none 0 0, .slice none 0 0, .slice none 0 0, .slice none 0 0, .int .i64 0, .int .i64 0, .int .i64 0, .int .i64 0, .int .i64 0, .int .i64 0, .int .i64 0, .int .i64 0], .agg #[.int .i64 12, .int .i64 0]], by simp [results, Tryz.results9, go_sem, c0, c1, c2, c3, c4, c5, c6, c7, c8, c9, c10, c11, f0, f1], by rw [hE3.out]; exact parse_no 12 0 hB6.out⟩
      | true =>
        have hE3 := fhid (show parseC (bl s) = (c, 0, 0) from hE2.trans (if_pos hr))
        clear hE2
        have hri2 : Calls Tryz.prog 24 #[.agg #[.slice AN c.names.length cN, .slice AV c.vecs.length cV, .slice AP c.parts.length cP, .slice AQ c.qos.length cQ, .int .i64 a0, .int .i64 a1, .int .i64 a2, .int .i64 a3, .int .i64 a4, .int .i64 a5, .int .i64 a6, .int .i64 a7]] W fun e w' => e = .returned (.bool true) ∧ Below W.heap.size W w' := hri.mono fun _ _ h => by rw [hr] at h; exact h
        clear hri
        gi_wp2_with (refine ⟨trivial, ?_⟩
                     gi_at_call 24
                     refine (callsIn_wide.2 hri2).mono ?_
                     rintro e W2 ⟨rfl, bR⟩
                     have rcB := Box.below h5.out.rc bR (Box.lt h5.out.rc)
                     have rfB := Box.below h5.out.rf bR (Box.lt h5.out.rf)
                     have oldB := fhid (h5.out.old.trans (bR.mono h5.out.old.size))
                     have hKB := fhid ((bR.block _ (lt_of_block hK)).trans hK)
                     have rdB := fhid (RG.off h3.out (Aft.of (b := w.heap.size) bR) (fun ho => by have := (h4.out _ ho).1; omega))
                     obtain ⟨c0, c1, c2, c3, c4, c5, c6, c7, c8, c9, c10, c11⟩ := Box.twelve rcB
                     have fr := Box.free rcB
                     have rl := Box.lt rcB
                     have f0 : W2.cell? ⟨w.heap.size + 1, 0, none⟩ = some (.int .i64 0) := Box.cell rfB 0
                     have f1 : W2.cell? ⟨w.heap.size + 1, 1, none⟩ = some (.int .i64 0) := Box.cell rfB 1
                     have ff := Box.free rfB
                     have fl := Box.lt rfB
                     have hBB := VBox.below hB0.out bR bl'
                     have k0 : W2.cell? ⟨b, 0, none⟩ = some (.slice AN c.names.length cN) := Box.cell hBB 0
                     have k1 : W2.cell? ⟨b, 1, none⟩ = some (.slice AV c.vecs.length cV) := Box.cell hBB 1
                     have k2 : W2.cell? ⟨b, 2, none⟩ = some (.slice AP c.parts.length cP) := Box.cell hBB 2
                     have k3 : W2.cell? ⟨b, 3, none⟩ = some (.slice AQ c.qos.length cQ) := Box.cell hBB 3
                     have k4 : W2.cell? ⟨b, 4, none⟩ = some (.int .i64 a0) := Box.cell hBB 4
                     have k5 : W2.cell? ⟨b, 5, none⟩ = some (.int .i64 a1) := Box.cell hBB 5
                     have k6 : W2.cell? ⟨b, 6, none⟩ = some (.int .i64 a2) := Box.cell hBB 6
                     have k7 : W2.cell? ⟨b, 7, none⟩ = some (.int .i64 a3) := Box.cell hBB 7
                     have k8 : W2.cell? ⟨b, 8, none⟩ = some (.int .i64 a4) := Box.cell hBB 8
                     have k9 : W2.cell? ⟨b, 9, none⟩ = some (.int .i64 a5) := Box.cell hBB 9
                     have k10 : W2.cell? ⟨b, 10, none⟩ = some (.int .i64 a6) := Box.cell hBB 10
                     have k11 : W2.cell? ⟨b, 11, none⟩ = some (.int .i64 a7) := Box.cell hBB 11
                     have p1 : W2.cell? ⟨p, 0, none⟩ = some (.pointer (some ⟨b, 0, none⟩)) := Box.cell (Box.below h5.out.ptr bR pl) 0
                     have pl1 := Box.lt (Box.below h5.out.ptr bR pl)
                     have bl1 := Box.lt hBB
                     replace rcB := fhid rcB
                     replace rfB := fhid rfB
                     replace hBB := fhid hBB)
        all_goals
          have hD := fhid (run_takeDeferred (P := Tryz.prog) (ds := []) (w := (WG W2 w.heap.size (.slice AN c.names.length cN) (.slice AV c.vecs.length cV) (.slice AP c.parts.length cP) (.slice AQ c.qos.length cQ) (.int .i64 a0) (.int .i64 a1) (.int .i64 a2) (.int .i64 a3) (.int .i64 a4) (.int .i64 a5) (.int .i64 a6) (.int .i64 a7) (.int .i64 0) (.int .i64 0))) ((wg_other (by omega) (by omega)).trans hKB.out))
          have k2 := fhid (show Box ((WG W2 w.heap.size (.slice AN c.names.length cN) (.slice AV c.vecs.length cV) (.slice AP c.parts.length cP) (.slice AQ c.qos.length cQ) (.int .i64 a0) (.int .i64 a1) (.int .i64 a2) (.int .i64 a3) (.int .i64 a4) (.int .i64 a5) (.int .i64 a6) (.int .i64 a7) (.int .i64 0) (.int .i64 0)).putObj (p + 5) (.deferred none)) w.heap.size TConf [.slice AN c.names.length cN, .slice AV c.vecs.length cV, .slice AP c.parts.length cP, .slice AQ c.qos.length cQ, .int .i64 a0, .int .i64 a1, .int .i64 a2, .int .i64 a3, .int .i64 a4, .int .i64 a5, .int .i64 a6, .int .i64 a7] from (World.putObj_heap_other (by omega)).trans (wg_rc rcB.out))
          have k3 := fhid (show Box ((WG W2 w.heap.size (.slice AN c.names.length cN) (.slice AV c.vecs.length cV) (.slice AP c.parts.length cP) (.slice AQ c.qos.length cQ) (.int .i64 a0) (.int .i64 a1) (.int .i64 a2) (.int .i64 a3) (.int .i64 a4) (.int .i64 a5) (.int .i64 a6) (.int .i64 a7) (.int .i64 0) (.int .i64 0)).putObj (p + 5) (.deferred none)) (w.heap.size + 1) TFault [.int .i64 0, .int .i64 0] from (World.putObj_heap_other (by omega)).trans (wg_rf rfB.out))
          have hB5 := wg_below (v0 := .slice AN c.names.length cN) (v1 := .slice AV c.vecs.length cV) (v2 := .slice AP c.parts.length cP) (v3 := .slice AQ c.qos.length cQ) (v4 := .int .i64 a0) (v5 := .int .i64 a1) (v6 := .int .i64 a2) (v7 := .int .i64 a3) (v8 := .int .i64 a4) (v9 := .int .i64 a5) (v10 := .int .i64 a6) (v11 := .int .i64 a7) (x := .int .i64 0) (y := .int .i64 0) oldB.out
          have hB6 := fhid (hB5.trans (below_put (b := p + 5) (.deferred none) (show w.heap.size ≤ p + 5 by omega) hB5.size))
          have rd6 := RG.off (wg_rdr (rc := w.heap.size) (v0 := .slice AN c.names.length cN) (v1 := .slice AV c.vecs.length cV) (v2 := .slice AP c.parts.length cP) (v3 := .slice AQ c.qos.length cQ) (v4 := .int .i64 a0) (v5 := .int .i64 a1) (v6 := .int .i64 a2) (v7 := .int .i64 a3) (v8 := .int .i64 a4) (v9 := .int .i64 a5) (v10 := .int .i64 a6) (v11 := .int .i64 a7) (x := .int .i64 0) (y := .int .i64 0) rdB.out (fun ho => by have := (h4.out _ ho).1; omega) (fun ho => by have := (h4.out _ ho).1; omega)) (aft_put (p + 5) (.deferred none)) (fun ho => by have := (h4.out (p + 5) ho).2; omega)
          have hcr6 := fhid (rdr_is rd6 ev)
          unfold WG at hD k2 k3 hB6 hcr6
          refine ⟨by simp, .inl ⟨_, _, rfl, hD.out, ?_⟩⟩
          clear hD hB5 rd6
          generalize World.putObj _ _ _ = W6 at *
          obtain ⟨c0, c1, c2, c3, c4, c5, c6, c7, c8, c9, c10, c11⟩ := Box.twelve k2.out
          have f0 : W6.cell? ⟨w.heap.size + 1, 0, none⟩ = some (.int .i64 0) := Box.cell k3.out 0
          have f1 : W6.cell? ⟨w.heap.size + 1, 1, none⟩ = some (.int .i64 0) := Box.cell k3.out 1
          exact ⟨.tuple #[.agg #[.slice AN c.names.length cN, .slice AV c.vecs.length cV, .slice AP c.parts.length cP, .slice AQ c.qos.length cQ, .int .i64 a0, .int .i64 a1, .int .i64 a2, .int .i64 a3, .int .i64 a4, .int .i64 a5, .int .i64 a6, .int .i64 a7], .agg #[.int .i64 0, .int .i64 0]], by simp [results, Tryz.results9, go_sem, c0, c1, c2, c3, c4, c5, c6, c7, c8, c9, c10, c11, f0, f1], by rw [hE3.out]; exact parse_yes hcr6.out hB6.out⟩
    case stop =>
      intro W hX hK
      obtain ⟨e, k, h1, h2, h3, h4⟩ := hX
      rw [hz5] at hK
      simp only [Ls.onHeap, hz5]
      gi_wp2
      refine ⟨by simp, .inl ⟨_, _, rfl, run_takeDeferred hK, ?_⟩⟩
      have k2 := fhid (show Box (W.putObj (p + 5) (.deferred none)) w.heap.size TConf zeros12 from (World.putObj_heap_other (by omega)).trans h2)
      have k3 := fhid (show Box (W.putObj (p + 5) (.deferred none)) (w.heap.size + 1) TFault [.int .i64 (e : Int), .int .i64 (k : Int)] from (World.putObj_heap_other (by omega)).trans h3)
      have hB2 := fhid (h4.trans (below_put (W := W) (b := p + 5) (.deferred none) (show w.heap.size ≤ p + 5 by omega) h4.size))
      clear h2 h3 h4 hK
      generalize W.putObj _ _ = W6 at *
      obtain ⟨c0, c1, c2, c3, c4, c5, c6, c7, c8, c9, c10, c11⟩ := Box.twelve k2.out
      have f0 : W6.cell? ⟨w.heap.size + 1, 0, none⟩ = some (.int .i64 (e : Int)) := Box.cell k3.out 0
      have f1 : W6.cell? ⟨w.heap.size + 1, 1, none⟩ = some (.int .i64 (k : Int)) := Box.cell k3.out 1
      exact ⟨.tuple #[.agg zeros12.toArray, .agg #[.int .i64 (e : Int), .int .i64 (k : Int)]], by simp [results, Tryz.results9, go_sem, c0, c1, c2, c3, c4, c5, c6, c7, c8, c9, c10, c11, f0, f1], by rw [hE.out, h1]; exact ⟨_, rfl, cr_none _, hB2.out⟩⟩
end Go.Proofs.YtghnpkpmgpbmcaaGreatDoor
