/-
  Parts: KRDLine KRDParse.
-/
import Derived.Test.YtmnmcikbbfcjcaaGreatDoorD3
import Derived.Test.YtmnmcikbbfcjcaaGreatDoorD5
import Derived.Test.YtmnmcikbbfcjcaaGreatDoorD4
import Derived.Test.YtmnmcikbbfcjcaaGreatDoorD6
import Derived.Test.YtmnmcikbbfcjcaaGreatDoorK6
set_option linter.unusedSimpArgs false
set_option linter.unusedVariables false
/-
  The document's reader of a line's words.
-/
namespace Go.Proofs.YtmnmcikbbfcjcaaGreatDoor
open Go.RowKit Go.Shelf Vs

theorem word_eq (k : Str) (x : Str) (l : List UInt8) (hx : x = l) : (decide ((str k).toList = l)) = decide (k = x) := by
  subst hx
  rw [ByteArray.toList_eq]
  congr 1
set_option maxRecDepth 100000 in
set_option maxHeartbeats 8000000 in
theorem rline_any (B b : Nat) (c : Cfg) (vN vV vP vQ : Value) (A : Option Addr) (cap : Nat) (k : Str) (os : List Str) (w : World) (h : Doc B w b c vN vV vP vQ) (hg : GD c) (hA : Strs w w.heap.size A (k :: os)) (hL : ∀ x ∈ os, x.length ≤ 65536) (hne : ∀ x ∈ os, x ≠ []) (hws : os.length ≤ 1000000) (hcap : (k :: os).length ≤ cap) (hcm : cap ≤ 9223372036854775807) :
    Calls Tryz.prog 55 #[.pointer (some ⟨b, 0, none⟩), .slice A (k :: os).length cap] w (LineD B b (wordsP c (k :: os)) w) := by
  have c1 := rnode_any B b c vN vV vP vQ A cap k os w h hg hA hL
  have c2 := rpart_any B b c vN vV vP vQ A cap k os w h hg hA hL hne hws hcap hcm
  have c3 := rqos_any B b c vN vV vP vQ A cap k os w h hg hA hL hws hcap hcm
  have c4 := rset_any B b c vN vV vP vQ A cap k os w h hg hA hL
  obtain ⟨bb, oo, rfl, hbb, d0⟩ := Strs.at_ hA (k := 0) (by simp)
  simp only [List.getElem_cons_zero, Nat.add_zero] at d0
  have hwp : wordsP c (k :: os) = if k = kNode then nodeP c os else if k = kPart then partP c os else if k = kQos then qosP c os else if k = kSet then setP c os else .error 3 := rfl
  have hl0 : (0 : Int) < (((k :: os).length : Nat) : Int) := by simp
  have hBw : B ≤ w.heap.size := Nat.le_trans h.bb (Nat.le_of_lt h.lt)
  have q1 := str_eq (str k) (str kNode)
  have q2 := str_eq (str k) (str kPart)
  have q3 := str_eq (str k) (str kQos)
  have q4 := str_eq (str k) (str kSet)
  rw [bl_str, bl_str] at q1 q2 q3 q4
  rw [show (str kNode).toList = [110, 111, 100, 101] by rw [ByteArray.toList_eq]; rfl] at q1
  rw [show (str kPart).toList = [112, 97, 114, 116] by rw [ByteArray.toList_eq]; rfl] at q2
  rw [show (str kQos).toList = [113, 111, 115] by rw [ByteArray.toList_eq]; rfl] at q3
  rw [show (str kSet).toList = [115, 101, 116] by rw [ByteArray.toList_eq]; rfl] at q4
  generalize (k :: os).length = n at *
  generalize wordsP c (k :: os) = R at *
  replace h := fhid h
  replace hg := fhid hg
  replace hA := fhid hA
  replace hL := fhid hL
  replace hne := fhid hne
  by_cases e1 : k = kNode
  · rw [if_pos e1] at hwp
    rw [decide_eq_true e1] at q1
    subst hwp
    clear q2 q3 q4 c2 c3 c4 e1
    generalize str k = KS at *
    generalize hP : LineD B b (nodeP c os) w = P at *
    replace hP := fhid hP
    go_enter Tryz.func55, Tryz.ntmps55
    go_wp2_with (go_at_call 90; refine c1.mono ?_; intro e w1 hl; rw [← hP.out] at hl; obtain ⟨x, rfl, hx⟩ := lined_out hl; rw [hP.out] at hx)
    exact hx
  · rw [if_neg e1] at hwp
    rw [decide_eq_false e1] at q1
    by_cases e2 : k = kPart
    · rw [if_pos e2] at hwp
      rw [decide_eq_true e2] at q2
      subst hwp
      clear q3 q4 c1 c3 c4 e1 e2
      generalize str k = KS at *
      generalize hP : LineD B b (partP c os) w = P at *
      replace hP := fhid hP
      go_enter Tryz.func55, Tryz.ntmps55
      go_wp2_with (go_at_call 91; refine c2.mono ?_; intro e w1 hl; rw [← hP.out] at hl; obtain ⟨x, rfl, hx⟩ := lined_out hl; rw [hP.out] at hx)
      exact hx
    · rw [if_neg e2] at hwp
      rw [decide_eq_false e2] at q2
      by_cases e3 : k = kQos
      · rw [if_pos e3] at hwp
        rw [decide_eq_true e3] at q3
        subst hwp
        clear q4 c1 c2 c4 e1 e2 e3
        generalize str k = KS at *
        generalize hP : LineD B b (qosP c os) w = P at *
        replace hP := fhid hP
        go_enter Tryz.func55, Tryz.ntmps55
        go_wp2_with (go_at_call 92; refine c3.mono ?_; intro e w1 hl; rw [← hP.out] at hl; obtain ⟨x, rfl, hx⟩ := lined_out hl; rw [hP.out] at hx)
        exact hx
      · rw [if_neg e3] at hwp
        rw [decide_eq_false e3] at q3
        by_cases e4 : k = kSet
        · rw [if_pos e4] at hwp
          rw [decide_eq_true e4] at q4
          subst hwp
          clear  c1 c2 c3 e1 e2 e3 e4
          generalize str k = KS at *
          generalize hP : LineD B b (setP c os) w = P at *
          replace hP := fhid hP
          go_enter Tryz.func55, Tryz.ntmps55
          go_wp2_with (go_at_call 93; refine c4.mono ?_; intro e w1 hl; rw [← hP.out] at hl; obtain ⟨x, rfl, hx⟩ := lined_out hl; rw [hP.out] at hx)
          exact hx
        · rw [if_neg e4] at hwp
          rw [decide_eq_false e4] at q4
          have hE := fhid (show LineD B b R w (.returned (.int .i64 3)) w from lined_bad (k := 3) hwp (Below.refl _ _))
          clear c1 c2 c3 c4 e1 e2 e3 e4 hwp
          generalize str k = KS at *
          generalize LineD B b R w = P at *
          go_enter Tryz.func55, Tryz.ntmps55
          go_wp2_with fail
          exact hE.out
end Go.Proofs.YtmnmcikbbfcjcaaGreatDoor
/-
  The document's Parse: plain facts, and how it ends.
-/
namespace Go.Proofs.YtmnmcikbbfcjcaaGreatDoor
open Go.RowKit Go.Shelf Vs

/-- From a place in a text on: the line there, and what follows. -/
theorem lines_from {s : Str} {a e : Nat} (ha : a ≤ e) (he : e ≤ s.length) (hn : 10 ∉ (s.drop a).take (e - a)) (hx : e = s.length ∨ ∃ h : e < s.length, s[e] = 10) :
    lines (s.drop a) = (s.drop a).take (e - a) :: (if e < s.length then lines (s.drop (e + 1)) else []) := by
  rw [Ls.lines_step]
  rcases hx with rfl | ⟨hlt, h10⟩
  · have ht : (s.drop a).take (s.length - a) = s.drop a := List.take_of_length_le (by simp)
    rw [ht] at hn ⊢
    rw [Vs.upTo_no hn, if_neg hn, if_neg (by omega)]
  · have hd : s.drop a = (s.drop a).take (e - a) ++ 10 :: s.drop (e + 1) := by
      conv => lhs; rw [← List.take_append_drop (e - a) (s.drop a)]
      rw [List.drop_drop, show a + (e - a) = e by omega, List.drop_eq_getElem_cons hlt, h10]
    have hu : Vs.upTo 10 (s.drop a) = (s.drop a).take (e - a) := by
      conv => lhs; rw [hd]
      exact Vs.upTo_app hn
    have hb : Vs.behind 10 (s.drop a) = s.drop (e + 1) := by
      conv => lhs; rw [hd]
      exact Vs.behind_app hn
    have hm : 10 ∈ s.drop a := by rw [hd]; simp
    rw [hu, hb, if_pos hm, if_pos hlt]
/-- What the inner loop knows of the line so far: no end, and where its note begins. -/
def LI (s : Str) (a e : Nat) (f : Int) : Prop := a ≤ e ∧ e ≤ s.length ∧ 10 ∉ (s.drop a).take (e - a) ∧ ((f = -1 ∧ 35 ∉ (s.drop a).take (e - a)) ∨ ∃ m : Nat, f = m ∧ a ≤ m ∧ m < e ∧ Vs.upTo 35 ((s.drop a).take (e - a)) = (s.drop a).take (m - a))
theorem take_next {s : Str} {a e : Nat} (ha : a ≤ e) (h : e < s.length) : (s.drop a).take (e + 1 - a) = (s.drop a).take (e - a) ++ [s[e]] := by
  rw [show e + 1 - a = (e - a) + 1 by omega, List.take_succ_eq_append_getElem (by rw [List.length_drop]; omega)]
  simp only [List.getElem_drop]
  congr 3
  omega
theorem upTo_snoc_in {l : Str} {c : UInt8} (h : 35 ∈ l) : Vs.upTo 35 (l ++ [c]) = Vs.upTo 35 l := by
  induction l with
  | nil => cases h
  | cons x l ih =>
    rw [List.cons_append, upTo_cons, upTo_cons]
    by_cases hx : x = 35
    · rw [if_pos hx, if_pos hx]
    · rw [if_neg hx, if_neg hx, ih (by simpa [Ne.symm hx] using h)]
theorem li_start (s : Str) (a : Nat) (h : a ≤ s.length) : LI s a a (-1) := ⟨Nat.le_refl _, h, by simp, .inl ⟨rfl, by simp⟩⟩
theorem li_plain {s : Str} {a e : Nat} {f : Int} (h : LI s a e f) (hl : e < s.length) (h10 : s[e] ≠ 10) (h35 : s[e] ≠ 35 ∨ 0 ≤ f) : LI s a (e + 1) f := by
  obtain ⟨h1, h2, h3, h4⟩ := h
  refine ⟨by omega, by omega, ?_, ?_⟩
  · rw [take_next h1 hl]
    simp only [List.mem_append, List.mem_singleton, not_or]
    exact ⟨h3, fun e => h10 e.symm⟩
  · rcases h4 with ⟨rfl, h4⟩ | ⟨m, rfl, m1, m2, m3⟩
    · refine .inl ⟨rfl, ?_⟩
      rw [take_next h1 hl]
      simp only [List.mem_append, List.mem_singleton, not_or]
      refine ⟨h4, fun e => ?_⟩
      rcases h35 with h | h
      · exact h e.symm
      · omega
    · refine .inr ⟨m, rfl, m1, by omega, ?_⟩
      rw [take_next h1 hl, upTo_snoc_in ?_, m3]
      refine Classical.byContradiction fun hn => ?_
      rw [Vs.upTo_no hn] at m3
      have := congrArg List.length m3
      simp only [List.length_take, List.length_drop] at this
      omega
theorem li_note {s : Str} {a e : Nat} (h : LI s a e (-1)) (hl : e < s.length) (h35 : s[e] = 35) : LI s a (e + 1) e := by
  obtain ⟨h1, h2, h3, h4⟩ := h
  have h4 : 35 ∉ (s.drop a).take (e - a) := by
    rcases h4 with ⟨_, h4⟩ | ⟨m, hm, _⟩
    · exact h4
    · omega
  refine ⟨by omega, by omega, ?_, .inr ⟨e, rfl, h1, by omega, ?_⟩⟩
  · rw [take_next h1 hl, h35]
    simp only [List.mem_append, List.mem_singleton, not_or]
    exact ⟨h3, by decide⟩
  · rw [take_next h1 hl, h35]
    exact Vs.upTo_app h4
/-- Any results stored, whatever their types. -/
theorem wg_rcT {W : World} {rc : Nat} {T : TypeId} {v0 v1 v2 v3 v4 v5 v6 v7 v8 v9 v10 v11 x y : Value} (h : Box W rc T zeros12) : Box (WG W rc v0 v1 v2 v3 v4 v5 v6 v7 v8 v9 v10 v11 x y) rc T [v0, v1, v2, v3, v4, v5, v6, v7, v8, v9, v10, v11] := by
  unfold WG
  have q := h.set 0 v0
  replace q := q.set 1 v1
  replace q := q.set 2 v2
  replace q := q.set 3 v3
  replace q := q.set 4 v4
  replace q := q.set 5 v5
  replace q := q.set 6 v6
  replace q := q.set 7 v7
  replace q := q.set 8 v8
  replace q := q.set 9 v9
  replace q := q.set 10 v10
  replace q := q.set 11 v11
  exact keep_up (keep_up q _ _) _ _
/-- What the loop over lines knows at its head. -/
def DI (w : World) (s : Str) (a n : Nat) (c : Cfg) (vN vV vP vQ : Value) (W : World) : Prop :=
  Doc (w.heap.size + 2) W (w.heap.size + 2) c vN vV vP vQ ∧ GD c ∧ Box W w.heap.size TRConf9 zeros12 ∧ Box W (w.heap.size + 1) TFault [.int .i64 0, .int .i64 0] ∧ Below w.heap.size w W ∧ n ≤ a ∧
    ((a ≤ s.length ∧ linesP 1 startC (lines s) = linesP (n + 1) c (lines (s.drop a))) ∨ (a = s.length + 1 ∧ linesP 1 startC (lines s) = .ok c))
theorem di_end {w W : World} {s : Str} {a n : Nat} {c : Cfg} {vN vV vP vQ : Value} (h : DI w s a n c vN vV vP vQ W) (ha : s.length ≤ a) : linesP 1 startC (lines s) = .ok c := by
  obtain ⟨_, _, _, _, _, _, ⟨h1, h2⟩ | ⟨_, h2⟩⟩ := h
  · rw [h2, List.drop_of_length_le ha]
    show linesP (n + 1) c [[]] = .ok c
    rw [linesP_cons]
    rfl
  · exact h2
theorem DG.off {B : Nat} {w w' : World} {b x : Nat} {ns : List Str} {vs : List V3} {ps : List PartC} {qs : List QosC} {vals : List Int} {vN vV vP vQ : Value} (h : DG B w b ns vs ps qs vals vN vV vP vQ) (ha : Aft x w w') (hx : x < B) : DG B w' b ns vs ps qs vals vN vV vP vQ :=
  { h with
    box := Box.grown h.box ha fun e => by have := h.bb; injection e with e; omega
    nm := own_grown h.nm ha fun k hk e => by have := ownsRow_ge h.nm k hk; injection e with e; omega
    vc := own_grown h.vc ha fun k hk e => by have := ownsRow_ge h.vc k hk; injection e with e; omega
    pt := own_grown h.pt ha fun k hk e => by have := ownsRow_ge h.pt k hk; injection e with e; omega
    qs := own_grown h.qs ha fun k hk e => by have := ownsRow_ge h.qs k hk; injection e with e; omega }
theorem wg_doc {B b rc : Nat} {W : World} {c : Cfg} {vN vV vP vQ : Value} {v0 v1 v2 v3 v4 v5 v6 v7 v8 v9 v10 v11 x y : Value} (h : Doc B W b c vN vV vP vQ) (h1 : rc + 1 < B) : Doc B (WG W rc v0 v1 v2 v3 v4 v5 v6 v7 v8 v9 v10 v11 x y) b c vN vV vP vQ := by
  unfold WG
  have a := Aft.of (b := rc) (Below.refl W.heap.size W)
  replace a := a.set 0 v0
  replace a := a.set 1 v1
  replace a := a.set 2 v2
  replace a := a.set 3 v3
  replace a := a.set 4 v4
  replace a := a.set 5 v5
  replace a := a.set 6 v6
  replace a := a.set 7 v7
  replace a := a.set 8 v8
  replace a := a.set 9 v9
  replace a := a.set 10 v10
  replace a := a.set 11 v11
  have b1 := DG.off h a (by omega)
  exact DG.off b1 (((Aft.of (b := rc + 1) (Below.refl _ _)).set 0 x).set 1 y) h1
theorem doc_is {B b : Nat} {W : World} {c : Cfg} {AN AV AP AQ : Option Addr} {cN cV cP cQ : Nat} {a0 a1 a2 a3 a4 a5 a6 a7 : Int} (h : Doc B W b c (.slice AN c.names.length cN) (.slice AV c.vecs.length cV) (.slice AP c.parts.length cP) (.slice AQ c.qos.length cQ)) (ev : c.vals = [a0, a1, a2, a3, a4, a5, a6, a7]) : CR W (.agg #[.slice AN c.names.length cN, .slice AV c.vecs.length cV, .slice AP c.parts.length cP, .slice AQ c.qos.length cQ, .int .i64 a0, .int .i64 a1, .int .i64 a2, .int .i64 a3, .int .i64 a4, .int .i64 a5, .int .i64 a6, .int .i64 a7]) c := by
  obtain ⟨AN', cN', AV', cV', AP', cP', AQ', cQ', b0, b1, b2, b3, b4, b5, b6, b7, e1, e2, e3, e4, ev', _, hcr⟩ := doc_cr h
  rw [ev] at ev'
  simp only [Value.slice.injEq, true_and, and_true, List.cons.injEq] at e1 e2 e3 e4 ev'
  obtain ⟨rfl, rfl⟩ := e1
  obtain ⟨rfl, rfl⟩ := e2
  obtain ⟨rfl, rfl⟩ := e3
  obtain ⟨rfl, rfl⟩ := e4
  obtain ⟨rfl, rfl, rfl, rfl, rfl, rfl, rfl, rfl⟩ := ev'
  exact hcr
end Go.Proofs.YtmnmcikbbfcjcaaGreatDoor
