/-
  PROVED: PoolStates: each node is in one state, for every config and script.
  Conditions: the library's tables read as the program's text lays them (the card ties them); nothing else.
-/
import Derived.Test.YtbelmljphnponaaGreatDoorZ1
import Derived.Test.YtbelmljphnponaaGreatDoorPRefused
import Derived.Test.YtbelmljphnponaaGreatDoorZ3
set_option linter.unusedSimpArgs false
set_option linter.unusedVariables false
/-
  The nodes by their states: plain.
-/
namespace Go.Proofs.YtbelmljphnponaaGreatDoor.Ps
open Go.RowKit Go.Shelf Vs Ns

/-- The nodes in one of the first k states. -/
def uniP (L : List N3) (k : Nat) : Nat → Bool := whichP (fun n => decide (0 ≤ n.1) && decide (n.1 < (k : Int))) L
theorem uni_zero (L : List N3) (j : Nat) : uniP L 0 j = false := by
  unfold uniP whichP
  split
  · simp only [Bool.and_eq_false_iff, decide_eq_false_iff_not]; omega
  · rfl
theorem uni_step (L : List N3) (k : Nat) (j : Nat) : (uniP L k j || whichP (inB [(k : Int)]) L j) = uniP L (k + 1) j := by
  unfold uniP whichP
  cases L[j]? with
  | none => rfl
  | some n =>
    simp only [inB, List.mem_singleton]
    rw [Bool.eq_iff_iff]
    simp only [Bool.or_eq_true, Bool.and_eq_true, decide_eq_true_eq]
    omega
theorem uni_apart (L : List N3) (k : Nat) (j : Nat) : (uniP L k j && whichP (inB [(k : Int)]) L j) = false := by
  unfold uniP whichP
  cases L[j]? with
  | none => rfl
  | some n =>
    simp only [inB, List.mem_singleton]
    rw [Bool.eq_false_iff]
    simp only [ne_eq, Bool.and_eq_true, decide_eq_true_eq]
    omega
theorem cnt_apart (p q : Nat → Bool) (n : Nat) (h : ∀ j, (p j && q j) = false) : Bs.cnt (fun j => p j || q j) n = Bs.cnt p n + Bs.cnt q n := by
  induction n with
  | zero => rfl
  | succ n ih =>
    have := h n
    simp only [Bs.cnt]
    by_cases hp : p n = true <;> by_cases hq : q n = true <;> simp_all <;> omega
theorem cnt_uni (L : List N3) (k : Nat) : Bs.cnt (uniP L (k + 1)) 256 = Bs.cnt (uniP L k) 256 + Bs.cnt (whichP (inB [(k : Int)]) L) 256 := by
  rw [← cnt_apart _ _ _ (uni_apart L k)]
  exact Bs.cnt_congr fun j _ => (uni_step L k j).symm
theorem cnt_lt (n : Nat) : ∀ m, Bs.cnt (fun j => decide (j < n)) m = min n m
  | 0 => by simp [Bs.cnt]
  | m + 1 => by
    simp only [Bs.cnt, cnt_lt n m]
    by_cases h : m < n <;> simp [h] <;> omega
theorem uni_all {P : Pl} (hG : Good P) (j : Nat) : uniP P.L 8 j = decide (j < P.L.length) := by
  unfold uniP whichP
  by_cases h : j < P.L.length
  · rw [List.getElem?_eq_getElem h]
    obtain ⟨h0, h1, _⟩ := hG.ns _ (List.getElem_mem h)
    simp only
    rw [decide_eq_true h0, decide_eq_true (by omega), decide_eq_true h]
    rfl
  · rw [List.getElem?_eq_none (by omega), decide_eq_false h]
theorem cnt_all {P : Pl} (hG : Good P) : Bs.cnt (uniP P.L 8) 256 = P.L.length := by
  rw [Bs.cnt_congr (q := fun j => decide (j < P.L.length)) fun j _ => uni_all hG j, cnt_lt]
  have := hG.l2
  omega
theorem span_all {P : Pl} (hG : Good P) : Bs.nodes (Bs.spanP 0 ((P.L.length : Int) - 1)) = Bs.nodes (uniP P.L 8) := Bs.nodes_congr fun j _ => by
  rw [uni_all hG]
  unfold Bs.spanP
  rw [Bool.eq_iff_iff]
  simp only [Bool.and_eq_true, decide_eq_true_eq]
  omega
theorem free_idle (L : List N3) (s : Int) : Bs.nodes (fun j => whichP (freeB s) L j && !whichP (inB [2]) L j) = .agg #[.int .u64 0, .int .u64 0, .int .u64 0, .int .u64 0] := by
  rw [← nodes_none]
  refine Bs.nodes_congr fun j _ => ?_
  unfold whichP
  cases L[j]? with
  | none => rfl
  | some n =>
    simp only [inB, freeB, List.mem_singleton]
    rw [Bool.eq_false_iff]
    simp only [ne_eq, Bool.and_eq_true, Bool.not_eq_true', decide_eq_true_eq, decide_eq_false_iff_not]
    omega
theorem or_step (L : List N3) (k : Nat) : Bs.nodes (fun j => uniP L k j || whichP (inB [(k : Int)]) L j) = Bs.nodes (uniP L (k + 1)) := Bs.nodes_congr fun j _ => uni_step L k j
theorem uni_none (L : List N3) : Bs.nodes (uniP L 0) = .agg #[.int .u64 0, .int .u64 0, .int .u64 0, .int .u64 0] := by
  rw [← nodes_none]
  exact Bs.nodes_congr fun j _ => uni_zero L j
theorem cnt_uni_zero (L : List N3) : Bs.cnt (uniP L 0) 256 = 0 := by
  rw [Bs.cnt_congr (q := fun _ => false) fun j _ => uni_zero L j]
  decide +kernel
/-- One number in a block of its own, asked for. -/
theorem in_one (p : Nat) (P : Pl) (s : Int) (b : Nat) (w : World) (hP : PB w p P) (h1 : 1 ≤ P.L.length) (h2 : P.L.length ≤ 256) (hc : w.cell? ⟨b, 0, none⟩ = some (.int .i64 s)) (hb : b < w.heap.size) :
    Calls Tryz.prog 14 #[.pointer (some ⟨p, 0, none⟩), .slice (some ⟨b, 0, none⟩) 1 1] w (SetPost w (whichP (inB [s]) P.L)) :=
  In_any p P (some ⟨b, 0, none⟩) [s] 1 w hP h1 h2 (fun _ => ⟨b, 0, rfl, hb, fun j hj => by
    obtain rfl : j = 0 := by unfold ZV at hj; simp at hj; omega
    simpa [ZV] using hc⟩) (by simp)
end Go.Proofs.YtbelmljphnponaaGreatDoor.Ps
/-
  PoolStates, walked.
-/
namespace Go.Proofs.YtbelmljphnponaaGreatDoor.Ps
open Go.RowKit Go.Shelf Vs Ns

set_option maxRecDepth 100000 in
set_option maxHeartbeats 32000000 in
theorem states_walk (v : Value) (c : Cfg) (A : Option Addr) (l : List ActC) (cp : Nat) (w : World) (hw : Env12 w) (hc : CR w v c) (hr : RdS w A l.length cp (AVs l)) (ok : ∀ a ∈ l, okA a) :
    Calls Tryz.prog 3 #[v, .slice A l.length cp] w (BoolP w true) := by
  have hal := fun W (hb : Below w.heap.size w W) => alive_any W (hw.below hb)
  have hfar := fun W (hb : Below w.heap.size w W) => far_any v c W (hc.below hb)
  have hth := fun (hp : c.parts.length ≤ 60) (hq : c.qos.length ≤ 60) W (hb : Below w.heap.size w W) => theirs_any v c W (hc.below hb) hp hq
  have hno := fun v W (hb : Below w.heap.size w W) h hr => New_no v c W h (hw.below hb).env hr
  have hyes := fun v W (hb : Below w.heap.size w W) h hr => New_yes v c W h (hw.below hb).env hr
  have hsh := fun W (hb : Below w.heap.size w W) => short_any A l cp W (hr.below hb)
  have hgd := good_of hc
  have ok' : ∀ x ∈ shortL l, okA x := fun x hx => ok x (List.mem_of_mem_take hx)
  unfold BoolP at hal hfar ⊢
  unfold ConfP at hth
  have hds := fun p W a (oka : okA a) (hb : Below w.heap.size w W) P (hP : PB W p P) (hg : Good P) => Does_any p P a W hP hg (hw.below hb).tab (hw.below hb).bit oka
  obtain ⟨AN, cN, AV, cV, AP, cP, AQ, cQ, a0, a1, a2, a3, a4, a5, a6, a7, rfl, ev, -, -, -, -⟩ := hc
  clear ev
  have q0 := Box.new w TRConf [.slice AN c.names.length cN, .slice AV c.vecs.length cV, .slice AP c.parts.length cP, .slice AQ c.qos.length cQ, .int .i64 a0, .int .i64 a1, .int .i64 a2, .int .i64 a3, .int .i64 a4, .int .i64 a5, .int .i64 a6, .int .i64 a7]
  have bA : Below w.heap.size w (w.alloc (.cells ([.slice AN c.names.length cN, .slice AV c.vecs.length cV, .slice AP c.parts.length cP, .slice AQ c.qos.length cQ, .int .i64 a0, .int .i64 a1, .int .i64 a2, .int .i64 a3, .int .i64 a4, .int .i64 a5, .int .i64 a6, .int .i64 a7] : List Value).toArray TRConf)) := (Below.refl _ _).alloc (Nat.le_refl _) _
  have hz : (w.alloc (.cells ([.slice AN c.names.length cN, .slice AV c.vecs.length cV, .slice AP c.parts.length cP, .slice AQ c.qos.length cQ, .int .i64 a0, .int .i64 a1, .int .i64 a2, .int .i64 a3, .int .i64 a4, .int .i64 a5, .int .i64 a6, .int .i64 a7] : List Value).toArray TRConf)).heap.size = w.heap.size + 1 := World.size_alloc _ _
  have hw0 := fhid hw
  have hSR := short_rds hr
  have hL200 : (shortL l).length ≤ 200 := by unfold shortL; rw [List.length_take]; omega
  clear hr
  cases hF : farP c with
  | true =>
    rw [hF] at hfar
    clear hth hno hyes hsh hds hgd hF
    go_enter Tryz.func3, Tryz.ntmps3
    go_upto_region 1 with fail
    generalize w.alloc _ = w1 at *
    obtain ⟨c0, c1, c2, c3, c4, c5, c6, c7, c8, c9, c10, c11⟩ := Box.twelve q0
    have xl := Box.lt q0
    replace q0 := fhid q0
    go_wp2_with (first
      | (go_at_call 8; (with_reducible refine (hfar _ bA).mono ?_); rintro e w2 ⟨rfl, b2⟩; have B2 := bA.trans (b2.mono bA.size))
      | (go_at_call 9; (with_reducible refine (hal _ B2).mono ?_); rintro e w3 ⟨rfl, b3⟩))
    go_ret
    exact ⟨rfl, B2.trans (b3.mono B2.size)⟩
  | false =>
    rw [hF] at hfar
    obtain ⟨_, _, hp60, hq60⟩ := far_small hF
    have hth := hth hp60 hq60
    clear hp60 hq60 hF
    cases hR : rightC c with
    | false =>
      have hno := fun v W hb h => hno v W hb h hR
      clear hyes hsh hds hgd hR
      go_enter Tryz.func3, Tryz.ntmps3
      go_upto_region 1 with fail
      generalize w.alloc _ = w1 at *
      obtain ⟨c0, c1, c2, c3, c4, c5, c6, c7, c8, c9, c10, c11⟩ := Box.twelve q0
      have xl := Box.lt q0
      replace q0 := fhid q0
      go_wp2_with (first
        | (go_at_call 8; (with_reducible refine (hfar _ bA).mono ?_); rintro e w2 ⟨rfl, b2⟩; have B2 := bA.trans (b2.mono bA.size)
           clear c0 c1 c2 c3 c4 c5 c6 c7 c8 c9 c10 c11
           obtain ⟨c0, c1, c2, c3, c4, c5, c6, c7, c8, c9, c10, c11⟩ := Box.twelve (Box.below q0.out b2 xl)
           have xl := Nat.lt_of_lt_of_le xl b2.size)
        | (go_at_call 11; (with_reducible refine (hth _ B2).mono ?_); rintro e w3 ⟨v3, rfl, hcr3, b3⟩; have B3 := B2.trans (b3.mono B2.size))
        | (go_at_call 10; (with_reducible refine (hno _ _ B3 hcr3).mono ?_); rintro e w4 ⟨rfl, b4⟩; have B4 := B3.trans (b4.mono B3.size))
        | (go_at_call 9; (with_reducible refine (hal _ B4).mono ?_); rintro e w5 ⟨rfl, b5⟩))
      go_ret
      exact ⟨rfl, B4.trans (b5.mono B4.size)⟩
    | true =>
      have hyes := fun v W hb h => hyes v W hb h hR
      have hG := hgd hR
      clear hno hgd
      go_enter Tryz.func3, Tryz.ntmps3
      go_upto_region 1 with fail
      generalize w.alloc _ = w1 at *
      obtain ⟨c0, c1, c2, c3, c4, c5, c6, c7, c8, c9, c10, c11⟩ := Box.twelve q0
      have xl := Box.lt q0
      replace q0 := fhid q0
      go_upto_region 6 with (first
        | (go_at_call 8; (with_reducible refine (hfar _ bA).mono ?_); rintro e w2 ⟨rfl, b2⟩; have B2 := bA.trans (b2.mono bA.size)
           clear c0 c1 c2 c3 c4 c5 c6 c7 c8 c9 c10 c11
           obtain ⟨c0, c1, c2, c3, c4, c5, c6, c7, c8, c9, c10, c11⟩ := Box.twelve (Box.below q0.out b2 xl)
           have xl := Nat.lt_of_lt_of_le xl b2.size)
        | (go_at_call 11; (with_reducible refine (hth _ B2).mono ?_); rintro e w3 ⟨v3, rfl, hcr3, b3⟩; have B3 := B2.trans (b3.mono B2.size))
        | (go_at_call 10; (with_reducible refine (hyes _ _ B3 hcr3).mono ?_); rintro e w4 ⟨p, rfl, hp4, b4⟩; have B4 := B3.trans (b4.mono B3.size)))
      have hwp := Nat.le_trans B3.size hp4.1
      have P4 := hp4.pb
      have hne : ¬ At3 p w.heap.size := fun hj => by
        have hj : w.heap.size = p := hj
        have := hp4.1; have := b2.size; have := b3.size; omega
      have T1 := (b2.trans (b3.mono b2.size)).trans (b4.mono (Nat.le_trans b2.size b3.size))
      have X4 := Box.below q0.out T1 (Box.lt q0.out)
      clear c0 c1 c2 c3 c4 c5 c6 c7 c8 c9 c10 c11 hfar hyes hp4 hcr3 xl
      replace P4 := fhid P4
      replace X4 := fhid X4
      go_wp2_with (go_at_call 12; (with_reducible refine (hsh _ B4).mono ?_); rintro e w5 ⟨c5, rfl, r5, rfl⟩)
      have hN : (newP c).L.length = c.names.length := by unfold newP; simp
      clear r5 hsh b2 b3 b4 T1 B2 B3
      generalize shortL l = L at *
      replace hSR := fhid hSR
      go_loopw [32] (fun i wr => ∃ (k : Nat) (Pk : Pl), k ≤ L.length ∧ i = .int .i64 (k : Nat) ∧ Good Pk ∧ Pk.L.length = c.names.length ∧ PB wr p Pk ∧ Below w.heap.size w wr ∧ Box wr w.heap.size TRConf [.slice AN c.names.length cN, .slice AV c.vecs.length cV, .slice AP c.parts.length cP, .slice AQ c.qos.length cQ, .int .i64 a0, .int .i64 a1, .int .i64 a2, .int .i64 a3, .int .i64 a4, .int .i64 a5, .int .i64 a6, .int .i64 a7]) (fun i _ => L.length - (intOf i).toNat)
      case atStart => exact ⟨0, newP c, Nat.zero_le _, rfl, hG, hN, P4.out, B4, X4.out⟩
      case round =>
        obtain ⟨k, Pk, hk, rfl, hGk, hNk, hPk, hB, hX⟩ := hrel
        have k0 : (0 : Int) ≤ k := by omega
        by_cases hlt : k < L.length
        · have k1 : (k : Int) < L.length := by omega
          obtain ⟨b, o, rfl, hb, d0, d1, d2, d3, d4, d5, d6⟩ := RdS.act (hSR.out.below hB) hlt
          have hd := fun W hb hP => hds p W L[k] (ok' _ (List.getElem_mem hlt)) hb Pk hP hGk
          obtain ⟨hGQ, hlQ, -⟩ := act_facts hGk L[k]
          obtain ⟨⟨Q, s, er⟩, hR⟩ : ∃ x, actP Pk L[k] = x := ⟨_, rfl⟩
          rw [hR] at hd hGQ hlQ
          simp only at hGQ hlQ
          rw [hNk] at hlQ
          unfold TickPost actV at hd
          generalize hak : L[k] = ak at *
          obtain ⟨z0, z1, z2, zq⟩ := ak
          simp only at d0 d1 d2 d3 d4 d5 d6 hd
          generalize Bs.nodes s = sv at *
          generalize (Bs.word zq 0 : Int) = u0 at *
          generalize (Bs.word zq 1 : Int) = u1 at *
          generalize (Bs.word zq 2 : Int) = u2 at *
          generalize (Bs.word zq 3 : Int) = u3 at *
          clear hak hR
          go_upto_region 9 with fail
          have m1 := (Below.refl wr.heap.size wr).alloc (Nat.le_refl _) (.cells #[.int .u8 z0, .int .i64 z1, .int .i64 z2, .int .u64 u0, .int .u64 u1, .int .u64 u2, .int .u64 u3] TAct)
          have Y1 := Box.new wr TAct [.int .u8 z0, .int .i64 z1, .int .i64 z2, .int .u64 u0, .int .u64 u1, .int .u64 u2, .int .u64 u3]
          have P1 := hPk.below m1
          have X1 := Box.below hX m1 (Box.lt hX)
          have B1 := hB.trans (m1.mono hB.size)
          clear d0 d1 d2 d3 d4 d5 d6 hPk hX m1 hb
          generalize wr.alloc _ = W1 at *
          generalize wr.heap.size = bb at *
          obtain ⟨d0, d1, d2, d3, d4, d5, d6, xl⟩ := seven Y1
          clear Y1
          replace P1 := fhid P1
          replace X1 := fhid X1
          go_upto_region 10 with (go_at_call 13; (with_reducible refine (hd _ B1 P1.out).mono ?_); rintro e w6 ⟨rfl, P6, f6⟩)
          have B6 := below_fx hwp B1 f6
          have X6 := f6.box X1.out hne
          have m2 := (Below.refl w6.heap.size w6).alloc (Nat.le_refl _) (.cells #[.int .u64 0, .int .u64 0, .int .u64 0, .int .u64 0] TNodes)
          have G7 := Box.new w6 TNodes [.int .u64 0, .int .u64 0, .int .u64 0, .int .u64 0]
          have P7 := P6.below m2
          have X7 := Box.below X6 m2 (Box.lt X6)
          have B7 := B6.trans (m2.mono B6.size)
          have hgw : w.heap.size < w6.heap.size := Box.lt X6
          have hgp : p ≠ w6.heap.size := Nat.ne_of_lt P6.lt
          clear d0 d1 d2 d3 d4 d5 d6 xl P1 X1 B6 m2 P6 f6 X6 hd
          go_upto_region 11 with fail
          generalize w6.alloc _ = W2 at *
          generalize w6.heap.size = g at *
          have hu0 := uni_none Q.L
          simp only [Bs.nodes, Value.agg.injEq, Array.mk.injEq, List.cons.injEq, Value.int.injEq, true_and, and_true] at hu0
          obtain ⟨e0, e1, e2, e3⟩ := hu0
          have G7 : Box W2 g TNodes [.int .u64 (Bs.word (uniP Q.L 0) 0), .int .u64 (Bs.word (uniP Q.L 0) 1), .int .u64 (Bs.word (uniP Q.L 0) 2), .int .u64 (Bs.word (uniP Q.L 0) 3)] := by rw [e0, e1, e2, e3]; exact G7
          have hl1 := hGQ.l1
          have hl2 := hGQ.l2
          have hcz := cnt_uni_zero Q.L
          clear e0 e1 e2 e3
          replace P7 := fhid P7
          replace G7 := fhid G7
          replace X7 := fhid X7
          go_wp2_with fail
          go_loopw [10, 40] (fun m i wr => ∃ j : Nat, j ≤ 8 ∧ i = .int .i64 (j : Nat) ∧ m = .int .i64 (Bs.cnt (uniP Q.L j) 256 : Nat) ∧ PB wr p Q ∧ Below w.heap.size w wr ∧ Box wr w.heap.size TRConf [.slice AN c.names.length cN, .slice AV c.vecs.length cV, .slice AP c.parts.length cP, .slice AQ c.qos.length cQ, .int .i64 a0, .int .i64 a1, .int .i64 a2, .int .i64 a3, .int .i64 a4, .int .i64 a5, .int .i64 a6, .int .i64 a7] ∧ Box wr g TNodes [.int .u64 (Bs.word (uniP Q.L j) 0), .int .u64 (Bs.word (uniP Q.L j) 1), .int .u64 (Bs.word (uniP Q.L j) 2), .int .u64 (Bs.word (uniP Q.L j) 3)]) (fun _ i _ => 8 - (intOf i).toNat)
          case atStart => exact ⟨0, Nat.zero_le _, rfl, by rw [hcz]; rfl, P7.out, B7, X7.out, G7.out⟩
          case round =>
            obtain ⟨j, hj, rfl, rfl, hPq, hBq, hXq, hGq⟩ := hrel
            have j0 : (0 : Int) ≤ j := by omega
            by_cases hj8 : j < 8
            · have j1 : (j : Int) < 8 := by omega
              have hcu := cnt_uni Q.L j
              have hle := Bs.cnt_le (uniP Q.L (j + 1)) 256
              have hor := fun W => Bs.op_or (uniP Q.L j) (whichP (inB [(j : Int)]) Q.L) W
              simp only [or_step] at hor
              have hcn := fun W => Bs.count_any (whichP (inB [(j : Int)]) Q.L) W
              have hin := fun W b hP hc hb => in_one p Q j b W hP hl1 hl2 hc hb
              unfold SetPost at hin
              simp only [Bs.nodes] at hor hcn hin
              rw [hcu] at hle
              generalize Bs.cnt (whichP (inB [(j : Int)]) Q.L) 256 = ci at *
              generalize Bs.cnt (uniP Q.L j) 256 = cu at *
              generalize (Bs.word (whichP (inB [(j : Int)]) Q.L) 0 : Int) = i0 at *
              generalize (Bs.word (whichP (inB [(j : Int)]) Q.L) 1 : Int) = i1 at *
              generalize (Bs.word (whichP (inB [(j : Int)]) Q.L) 2 : Int) = i2 at *
              generalize (Bs.word (whichP (inB [(j : Int)]) Q.L) 3 : Int) = i3 at *
              generalize (Bs.word (uniP Q.L j) 0 : Int) = x0 at *
              generalize (Bs.word (uniP Q.L j) 1 : Int) = x1 at *
              generalize (Bs.word (uniP Q.L j) 2 : Int) = x2 at *
              generalize (Bs.word (uniP Q.L j) 3 : Int) = x3 at *
              generalize hy0 : (Bs.word (uniP Q.L (j + 1)) 0 : Int) = y0 at *
              generalize hy1 : (Bs.word (uniP Q.L (j + 1)) 1 : Int) = y1 at *
              generalize hy2 : (Bs.word (uniP Q.L (j + 1)) 2 : Int) = y2 at *
              generalize hy3 : (Bs.word (uniP Q.L (j + 1)) 3 : Int) = y3 at *
              have cu0 : (0 : Int) ≤ cu := by omega
              have ci0 : (0 : Int) ≤ ci := by omega
              have cu1 : (cu : Int) ≤ 256 := by omega
              have ci1 : (ci : Int) ≤ 256 := by omega
              replace hy0 := fhid hy0
              replace hy1 := fhid hy1
              replace hy2 := fhid hy2
              replace hy3 := fhid hy3
              replace hcu := fhid hcu
              replace hPq := fhid hPq
              replace hXq := fhid hXq
              replace hGq := fhid hGq
              have T5 := (Below.refl wr.heap.size wr).alloc (Nat.le_refl _) (.cells #[.int .i64 (j : Int)] 3)
              have hb5 := Box.new wr 3 [.int .i64 (j : Int)]
              go_upto_region 15 with (go_at_call 14; (with_reducible refine (hin _ _ (hPq.out.below T5) (Box.cell hb5 0) (Box.lt hb5)).mono ?_); rintro e w7 ⟨rfl, b7⟩)
              have T7 := T5.trans (b7.mono T5.size)
              have m3 := (Below.refl w7.heap.size w7).alloc (Nat.le_refl _) (.cells #[.int .u64 i0, .int .u64 i1, .int .u64 i2, .int .u64 i3] TNodes)
              have Z8 := Box.new w7 TNodes [.int .u64 i0, .int .u64 i1, .int .u64 i2, .int .u64 i3]
              have T8 := T7.trans (m3.mono T7.size)
              clear T5 hb5 b7 T7 m3 hin
              generalize w7.alloc _ = W4 at *
              generalize w7.heap.size = gi at *
              obtain ⟨⟨c0, c1, c2, c3⟩, -, -, -, -⟩ := Box.four Z8
              have xl := Box.lt Z8
              go_upto_region 16 with (go_at_call 15; (with_reducible refine (hcn _).mono ?_); rintro e w9 ⟨rfl, b9⟩)
              have T9 := T8.trans (b9.mono T8.size)
              have Z9 := Box.below Z8 b9 xl
              have P9 := hPq.out.below T9
              have X9 := Box.below hXq.out T9 (Box.lt hXq.out)
              have G9 := Box.below hGq.out T9 (Box.lt hGq.out)
              have B9 := hBq.trans (T9.mono hBq.size)
              clear c0 c1 c2 c3 xl Z8 T8 b9 T9 hcn hPq hXq hGq hBq
              obtain ⟨⟨c0, c1, c2, c3⟩, -, -, -, -⟩ := Box.four Z9
              obtain ⟨⟨d0, d1, d2, d3⟩, -, -, -, -⟩ := Box.four G9
              have xl := Box.lt Z9
              have yl := Box.lt G9
              replace P9 := fhid P9
              replace X9 := fhid X9
              replace G9 := fhid G9
              replace B9 := fhid B9
              go_wp2_with (go_at_call 16; (with_reducible refine (hor _).mono ?_); rintro e w10 ⟨rfl, b10⟩
                           have G10 := Box.below G9.out b10 yl
                           obtain ⟨⟨h0, h1, h2, h3⟩, r0, r1, r2, r3⟩ := Box.four G10
                           have zl := Box.lt G10)
              have f10 := ((((FX.of (X := At3 g) (Below.refl w10.heap.size w10)).set rfl 0 (.int .u64 y0)).set rfl 1 (.int .u64 y1)).set rfl 2 (.int .u64 y2)).set rfl 3 (.int .u64 y3)
              have B10 := B9.out.trans (b10.mono B9.out.size)
              go_roundw
              case rel => exact ⟨j + 1, by omega, by go_num, by rw [hcu.out]; go_num, (P9.out.below b10).fx f10 hgp (.inl ⟨TNodes, _, G10, by decide⟩), below4 B10 (Nat.le_of_lt hgw), f10.box (Box.below X9.out b10 (Box.lt X9.out)) (fun hj => by have hj : w.heap.size = g := hj; omega), by rw [hy0.out, hy1.out, hy2.out, hy3.out]; exact (((G10.set 0 _).set 1 _).set 2 _).set 3 _⟩
              case measure => simp [intOf]; omega
            · obtain rfl : j = 8 := by omega
              have j1 : ¬ ((8 : Nat) : Int) < 8 := by omega
              have hca := cnt_all hGQ
              have hsa := span_all hGQ
              rw [hlQ] at hca hsa
              rw [hca]
              have hspn := fun W => Bs.span_any 0 ((c.names.length : Int) - 1) W
              rw [hsa] at hspn
              have hfr := fun W hP => Free_any p Q 2199023255552 W hP hl1 hl2
              have hin2 := fun W b hP hc hb => in_one p Q 2 b W hP hl1 hl2 hc hb
              have hnot := fun W => Bs.op_not (whichP (freeB 2199023255552) Q.L) (whichP (inB [2]) Q.L) W
              simp only [free_idle] at hnot
              unfold SetPost at hfr hin2
              simp only [Bs.nodes] at hspn hfr hin2 hnot
              have hnl : (0 : Int) ≤ c.names.length := by omega
              have hnl2 : (c.names.length : Int) ≤ 256 := by rw [hlQ] at hl2; omega
              have hnl3 : (1 : Int) ≤ c.names.length := by rw [hlQ] at hl1; omega
              have hwr : IntKind.i64.wrap ((c.names.length : Int) - 1) = (c.names.length : Int) - 1 := IntWalk.i64_in _ (by omega)
              have hss := fun x0 x1 x2 x3 w => eq_same x0 x1 x2 x3 w
              clear hca hsa hcz
              generalize (Bs.word (uniP Q.L 8) 0 : Int) = x0 at *
              generalize (Bs.word (uniP Q.L 8) 1 : Int) = x1 at *
              generalize (Bs.word (uniP Q.L 8) 2 : Int) = x2 at *
              generalize (Bs.word (uniP Q.L 8) 3 : Int) = x3 at *
              have tt : Below wr.heap.size wr wr.drew := (Below.refl _ _).drew
              have zS := fhid (show ∀ W, Below wr.heap.size wr W → W.cell? ⟨w.heap.size, 0, none⟩ = some (.slice AN c.names.length cN) ∧ W.cell? ⟨g, 0, none⟩ = some (.int .u64 x0) ∧ W.cell? ⟨g, 1, none⟩ = some (.int .u64 x1) ∧ W.cell? ⟨g, 2, none⟩ = some (.int .u64 x2) ∧ W.cell? ⟨g, 3, none⟩ = some (.int .u64 x3) from fun W h => by
                obtain ⟨⟨y0, y1, y2, y3⟩, -, -, -, -⟩ := Box.four (Box.below hGq h (Box.lt hGq))
                obtain ⟨c0, -⟩ := Box.twelve (Box.below hXq h (Box.lt hXq))
                exact ⟨c0, y0, y1, y2, y3⟩)
              have z := zS.out _ tt
              clear hGq
              replace hPq := fhid hPq
              replace hXq := fhid hXq
              replace hfr := fhid hfr
              replace hin2 := fhid hin2
              replace hnot := fhid hnot
              replace hspn := fhid hspn
              go_wp2_with fail
              go_cut [78] (fun s78 wx => s78 = .bool false ∧ PB wx p Q ∧ Below w.heap.size w wx ∧ Box wx w.heap.size TRConf [.slice AN c.names.length cN, .slice AV c.vecs.length cV, .slice AP c.parts.length cP, .slice AQ c.qos.length cQ, .int .i64 a0, .int .i64 a1, .int .i64 a2, .int .i64 a3, .int .i64 a4, .int .i64 a5, .int .i64 a6, .int .i64 a7])
              case first =>
                refine wp_region_noPanic ?_
                refine wp_region_held_drew (S := (fun W => W.cell? ⟨w.heap.size, 0, none⟩ = some (.slice AN c.names.length cN) ∧ W.cell? ⟨g, 0, none⟩ = some (.int .u64 x0) ∧ W.cell? ⟨g, 1, none⟩ = some (.int .u64 x1) ∧ W.cell? ⟨g, 2, none⟩ = some (.int .u64 x2) ∧ W.cell? ⟨g, 3, none⟩ = some (.int .u64 x3))) (by kernel_rfl) z (fun hHeld => ?_)
                refine wpAnyH_take (i := 0) (v := ?_) (by (rw [List.getElem?_toArray]; exact rfl)) (by kernel_rfl) (by kernel_rfl) (by kernel_rfl) (fun _ _ _ h => h) (Or.inl ⟨by rfl, ?_⟩) (by assumption) ?_
                rotate_left
                · (intro W hSw; (try dsimp only at hSw); go_simp <;> with_reducible rfl)
                try simp only [Act.put, List.setIfInBounds_toArray, List.set_cons_zero, List.set_cons_succ]
                refine wpAnyH_take (i := 1) (v := ?_) (by (rw [List.getElem?_toArray]; exact rfl)) (by kernel_rfl) (by kernel_rfl) (by kernel_rfl) (fun _ _ _ h => h) (Or.inl ⟨by rfl, ?_⟩) (by assumption) ?_
                rotate_left
                · (intro W hSw; (try dsimp only at hSw); go_simp <;> with_reducible rfl)
                try simp only [Act.put, List.setIfInBounds_toArray, List.set_cons_zero, List.set_cons_succ]
                refine wpAnyH_take (i := 2) (v := ?_) (by (rw [List.getElem?_toArray]; exact rfl)) (by kernel_rfl) (by kernel_rfl) (by kernel_rfl) (fun _ _ _ h => h) (Or.inl ⟨by rfl, ?_⟩) (by assumption) ?_
                rotate_left
                · (intro W hSw; (try dsimp only at hSw); go_simp <;> with_reducible rfl)
                try simp only [Act.put, List.setIfInBounds_toArray, List.set_cons_zero, List.set_cons_succ]
                refine wpAnyH_take (i := 3) (v := ?_) (by (rw [List.getElem?_toArray]; exact rfl)) (by kernel_rfl) (by kernel_rfl) (by kernel_rfl) (fun _ _ _ h => h) (Or.inl ⟨by rfl, ?_⟩) (by assumption) ?_
                rotate_left
                · (intro W hSw; (try dsimp only at hSw); go_simp <;> with_reducible rfl)
                try simp only [Act.put, List.setIfInBounds_toArray, List.set_cons_zero, List.set_cons_succ]
                refine wpAnyH_take (i := 4) (v := ?_) (by (rw [List.getElem?_toArray]; exact rfl)) (by kernel_rfl) (by kernel_rfl) (by kernel_rfl) (fun _ _ _ h => h) (Or.inl ⟨by rfl, ?_⟩) (by assumption) ?_
                rotate_left
                · (intro W hSw; (try dsimp only at hSw); go_simp <;> with_reducible rfl)
                try simp only [Act.put, List.setIfInBounds_toArray, List.set_cons_zero, List.set_cons_succ]
                refine wpAnyH_take (i := 5) (v := ?_) (by (rw [List.getElem?_toArray]; exact rfl)) (by kernel_rfl) (by kernel_rfl) (by kernel_rfl) (fun _ _ _ h => h) (Or.inl ⟨by rfl, ?_⟩) (by assumption) ?_
                rotate_left
                · (intro W hSw; (try dsimp only at hSw); go_simp <;> with_reducible rfl)
                try simp only [Act.put, List.setIfInBounds_toArray, List.set_cons_zero, List.set_cons_succ]
                refine wpAnyH_take (i := 6) (v := ?_) (by (rw [List.getElem?_toArray]; exact rfl)) (by kernel_rfl) (by kernel_rfl) (by kernel_rfl) (fun _ _ _ h => h) (Or.inl ⟨by rfl, ?_⟩) (by assumption) ?_
                rotate_left
                · (intro W hSw; (try dsimp only at hSw); go_simp <;> with_reducible rfl)
                try simp only [Act.put, List.setIfInBounds_toArray, List.set_cons_zero, List.set_cons_succ]
                refine wpAnyH_take (i := 7) (v := ?_) (by (rw [List.getElem?_toArray]; exact rfl)) (by kernel_rfl) (by kernel_rfl) (by kernel_rfl) (fun _ _ _ h => h) (Or.inl ⟨by rfl, ?_⟩) (by assumption) ?_
                rotate_left
                · (intro W hSw; (try dsimp only at hSw); go_simp <;> with_reducible rfl)
                try simp only [Act.put, List.setIfInBounds_toArray, List.set_cons_zero, List.set_cons_succ]
                refine wpAnyH_take (i := 8) (v := ?_) (by (rw [List.getElem?_toArray]; exact rfl)) (by kernel_rfl) (by kernel_rfl) (by kernel_rfl) (fun _ _ _ h => h) (Or.inl ⟨by rfl, ?_⟩) (by assumption) ?_
                rotate_left
                · (intro W hSw; (try dsimp only at hSw); go_simp <;> with_reducible rfl)
                try simp only [Act.put, List.setIfInBounds_toArray, List.set_cons_zero, List.set_cons_succ]
                refine wpAnyH_take (i := 9) (v := ?_) (by (rw [List.getElem?_toArray]; exact rfl)) (by kernel_rfl) (by kernel_rfl) (by kernel_rfl) (fun _ _ _ h => h) (Or.inl ⟨by rfl, ?_⟩) (by assumption) ?_
                rotate_left
                · (intro W hSw; (try dsimp only at hSw); go_simp <;> with_reducible rfl)
                try simp only [Act.put, List.setIfInBounds_toArray, List.set_cons_zero, List.set_cons_succ]
                refine wpAnyH_take (i := 10) (v := ?_) (by (rw [List.getElem?_toArray]; exact rfl)) (by kernel_rfl) (by kernel_rfl) (by kernel_rfl) (fun _ _ _ h => h) (Or.inl ⟨by rfl, ?_⟩) (by assumption) ?_
                rotate_left
                · (intro W hSw; (try dsimp only at hSw); go_simp <;> with_reducible rfl)
                try simp only [Act.put, List.setIfInBounds_toArray, List.set_cons_zero, List.set_cons_succ]
                refine wpAnyH_ready (rs := [11]) (by kernel_rfl) (by simp) (AllReadyH.cons (by (rw [List.getElem?_toArray]; exact rfl)) (fun K hK => ?_) AllReadyH.nil)
                go_simp
                go_at_call 17
                with_reducible refine (hspn.out _).mono ?_
                rintro e wsp ⟨rfl, bsp⟩
                have tt := tt.trans (bsp.mono tt.size)
                have z := zS.out _ tt
                go_simp
                refine hK.out _ _ z (fun hHeld => ?_)
                clear hK K
                try simp only [Act.put, List.setIfInBounds_toArray, List.set_cons_zero, List.set_cons_succ]
                refine wpAnyH_take (i := 12) (v := ?_) (by (rw [List.getElem?_toArray]; exact rfl)) (by kernel_rfl) (by kernel_rfl) (by kernel_rfl) (fun _ _ _ h => h) (Or.inl ⟨by rfl, ?_⟩) (by assumption) ?_
                rotate_left
                · (intro W hSw; (try dsimp only at hSw); go_simp <;> with_reducible rfl)
                try simp only [Act.put, List.setIfInBounds_toArray, List.set_cons_zero, List.set_cons_succ]
                refine wpAnyH_take (i := 13) (v := ?_) (by (rw [List.getElem?_toArray]; exact rfl)) (by kernel_rfl) (by kernel_rfl) (by kernel_rfl) (fun _ _ _ h => h) (Or.inl ⟨by rfl, ?_⟩) (by assumption) ?_
                rotate_left
                · (intro W hSw; (try dsimp only at hSw); go_simp <;> with_reducible rfl)
                try simp only [Act.put, List.setIfInBounds_toArray, List.set_cons_zero, List.set_cons_succ]
                refine wpAnyH_take (i := 14) (v := ?_) (by (rw [List.getElem?_toArray]; exact rfl)) (by kernel_rfl) (by kernel_rfl) (by kernel_rfl) (fun _ _ _ h => h) (Or.inl ⟨by rfl, ?_⟩) (by assumption) ?_
                rotate_left
                · (intro W hSw; (try dsimp only at hSw); go_simp <;> with_reducible rfl)
                try simp only [Act.put, List.setIfInBounds_toArray, List.set_cons_zero, List.set_cons_succ]
                refine wpAnyH_take (i := 15) (v := ?_) (by (rw [List.getElem?_toArray]; exact rfl)) (by kernel_rfl) (by kernel_rfl) (by kernel_rfl) (fun _ _ _ h => h) (Or.inl ⟨by rfl, ?_⟩) (by assumption) ?_
                rotate_left
                · (intro W hSw; (try dsimp only at hSw); go_simp <;> with_reducible rfl)
                try simp only [Act.put, List.setIfInBounds_toArray, List.set_cons_zero, List.set_cons_succ]
                refine wpAnyH_take (i := 17) (v := ?_) (by (rw [List.getElem?_toArray]; exact rfl)) (by kernel_rfl) (by kernel_rfl) (by kernel_rfl) (fun _ _ _ h => h) (Or.inl ⟨by rfl, ?_⟩) (by assumption) ?_
                rotate_left
                · (intro W hSw; (try dsimp only at hSw); go_simp <;> with_reducible rfl)
                try simp only [Act.put, List.setIfInBounds_toArray, List.set_cons_zero, List.set_cons_succ]
                refine wpAnyH_take (i := 21) (v := ?_) (by (rw [List.getElem?_toArray]; exact rfl)) (by kernel_rfl) (by kernel_rfl) (by kernel_rfl) (fun _ _ _ h => h) (Or.inl ⟨by rfl, ?_⟩) (by assumption) ?_
                rotate_left
                · (intro W hSw; (try dsimp only at hSw); go_simp <;> with_reducible rfl)
                try simp only [Act.put, List.setIfInBounds_toArray, List.set_cons_zero, List.set_cons_succ]
                refine wpAnyH_ready (rs := [16, 18]) (by kernel_rfl) (by simp) (AllReadyH.cons (by (rw [List.getElem?_toArray]; exact rfl)) (fun K hK => ?_) (AllReadyH.cons (by (rw [List.getElem?_toArray]; exact rfl)) (fun K hK => ?_) AllReadyH.nil))
                · go_simp
                  go_at_call 19
                  with_reducible refine (hfr.out _ (hPq.out.below tt)).mono ?_
                  rintro e wf ⟨rfl, bf⟩
                  have tt := tt.trans (bf.mono tt.size)
                  have z := zS.out _ tt
                  go_simp
                  refine hK.out _ _ z (fun hHeld => ?_)
                  clear hK K
                  try simp only [Act.put, List.setIfInBounds_toArray, List.set_cons_zero, List.set_cons_succ]
                  refine wpAnyH_ready (rs := [18]) (by kernel_rfl) (by simp) (AllReadyH.cons (by (rw [List.getElem?_toArray]; exact rfl)) (fun K hK => ?_) AllReadyH.nil)
                  go_simp
                  have hcb : (wf.alloc (.cells #[.int .i64 2] 3)).cell? ⟨wf.heap.size, 0, none⟩ = some (.int .i64 2) := Box.cell (Box.new wf 3 [.int .i64 2]) 0
                  have hcl : wf.heap.size < (wf.alloc (.cells #[.int .i64 2] 3)).heap.size := Box.lt (Box.new wf 3 [.int .i64 2])
                  have tt := Below.alloc tt tt.size (.cells #[.int .i64 2] 3)
                  have z := zS.out _ tt
                  refine hK.out _ _ z (fun hHeld => ?_)
                  clear hK K
                  try simp only [Act.put, List.setIfInBounds_toArray, List.set_cons_zero, List.set_cons_succ]
                  refine wpAnyH_ready (rs := [19]) (by kernel_rfl) (by simp) (AllReadyH.cons (by (rw [List.getElem?_toArray]; exact rfl)) (fun K hK => ?_) AllReadyH.nil)
                  go_simp
                  go_at_call 14
                  with_reducible refine (hin2.out _ _ (hPq.out.below tt) hcb hcl).mono ?_
                  rintro e wi ⟨rfl, bi⟩
                  have tt := tt.trans (bi.mono tt.size)
                  have z := zS.out _ tt
                  go_simp
                  refine hK.out _ _ z (fun hHeld => ?_)
                  clear hK K
                  try simp only [Act.put, List.setIfInBounds_toArray, List.set_cons_zero, List.set_cons_succ]
                  refine wpAnyH_ready (rs := [20]) (by kernel_rfl) (by simp) (AllReadyH.cons (by (rw [List.getElem?_toArray]; exact rfl)) (fun K hK => ?_) AllReadyH.nil)
                  go_simp
                  go_at_call 18
                  with_reducible refine (hnot.out _).mono ?_
                  rintro e wn ⟨rfl, bn⟩
                  have tt := tt.trans (bn.mono tt.size)
                  have z := zS.out _ tt
                  go_simp
                  refine hK.out _ _ z (fun hHeld => ?_)
                  clear hK K
                  try simp only [Act.put, List.setIfInBounds_toArray, List.set_cons_zero, List.set_cons_succ]
                  refine wpAnyH_take (i := 22) (v := ?_) (by (rw [List.getElem?_toArray]; exact rfl)) (by kernel_rfl) (by kernel_rfl) (by kernel_rfl) (fun _ _ _ h => h) (Or.inl ⟨by rfl, ?_⟩) (by assumption) ?_
                  rotate_left
                  · (intro W hSw; (try dsimp only at hSw); go_simp <;> with_reducible rfl)
                  try simp only [Act.put, List.setIfInBounds_toArray, List.set_cons_zero, List.set_cons_succ]
                  refine wpAnyH_take (i := 23) (v := ?_) (by (rw [List.getElem?_toArray]; exact rfl)) (by kernel_rfl) (by kernel_rfl) (by kernel_rfl) (fun _ _ _ h => h) (Or.inl ⟨by rfl, ?_⟩) (by assumption) ?_
                  rotate_left
                  · (intro W hSw; (try dsimp only at hSw); go_simp <;> with_reducible rfl)
                  try simp only [Act.put, List.setIfInBounds_toArray, List.set_cons_zero, List.set_cons_succ]
                  refine wpAnyH_done (by kernel_rfl) ?_ _
                  refine NoPanic.normal ?_
                  go_wp2_with fail
                  go_meet
                  exact ⟨rfl, hPq.out.below tt, hBq.trans (tt.mono hBq.size), Box.below hXq.out tt (Box.lt hXq.out)⟩
                · go_simp
                  have hcb : (wsp.alloc (.cells #[.int .i64 2] 3)).cell? ⟨wsp.heap.size, 0, none⟩ = some (.int .i64 2) := Box.cell (Box.new wsp 3 [.int .i64 2]) 0
                  have hcl : wsp.heap.size < (wsp.alloc (.cells #[.int .i64 2] 3)).heap.size := Box.lt (Box.new wsp 3 [.int .i64 2])
                  have tt := Below.alloc tt tt.size (.cells #[.int .i64 2] 3)
                  have z := zS.out _ tt
                  refine hK.out _ _ z (fun hHeld => ?_)
                  clear hK K
                  try simp only [Act.put, List.setIfInBounds_toArray, List.set_cons_zero, List.set_cons_succ]
                  refine wpAnyH_ready (rs := [16]) (by kernel_rfl) (by simp) (AllReadyH.cons (by (rw [List.getElem?_toArray]; exact rfl)) (fun K hK => ?_) AllReadyH.nil)
                  go_simp
                  go_at_call 19
                  with_reducible refine (hfr.out _ (hPq.out.below tt)).mono ?_
                  rintro e wf ⟨rfl, bf⟩
                  have hcb := (bf.cell (p := ⟨wsp.heap.size, 0, none⟩) hcl).trans hcb
                  have hcl := Nat.lt_of_lt_of_le hcl bf.size
                  have tt := tt.trans (bf.mono tt.size)
                  have z := zS.out _ tt
                  go_simp
                  refine hK.out _ _ z (fun hHeld => ?_)
                  clear hK K
                  try simp only [Act.put, List.setIfInBounds_toArray, List.set_cons_zero, List.set_cons_succ]
                  refine wpAnyH_ready (rs := [19]) (by kernel_rfl) (by simp) (AllReadyH.cons (by (rw [List.getElem?_toArray]; exact rfl)) (fun K hK => ?_) AllReadyH.nil)
                  go_simp
                  go_at_call 14
                  with_reducible refine (hin2.out _ _ (hPq.out.below tt) hcb hcl).mono ?_
                  rintro e wi ⟨rfl, bi⟩
                  have tt := tt.trans (bi.mono tt.size)
                  have z := zS.out _ tt
                  go_simp
                  refine hK.out _ _ z (fun hHeld => ?_)
                  clear hK K
                  try simp only [Act.put, List.setIfInBounds_toArray, List.set_cons_zero, List.set_cons_succ]
                  refine wpAnyH_ready (rs := [20]) (by kernel_rfl) (by simp) (AllReadyH.cons (by (rw [List.getElem?_toArray]; exact rfl)) (fun K hK => ?_) AllReadyH.nil)
                  go_simp
                  go_at_call 18
                  with_reducible refine (hnot.out _).mono ?_
                  rintro e wn ⟨rfl, bn⟩
                  have tt := tt.trans (bn.mono tt.size)
                  have z := zS.out _ tt
                  go_simp
                  refine hK.out _ _ z (fun hHeld => ?_)
                  clear hK K
                  try simp only [Act.put, List.setIfInBounds_toArray, List.set_cons_zero, List.set_cons_succ]
                  refine wpAnyH_take (i := 22) (v := ?_) (by (rw [List.getElem?_toArray]; exact rfl)) (by kernel_rfl) (by kernel_rfl) (by kernel_rfl) (fun _ _ _ h => h) (Or.inl ⟨by rfl, ?_⟩) (by assumption) ?_
                  rotate_left
                  · (intro W hSw; (try dsimp only at hSw); go_simp <;> with_reducible rfl)
                  try simp only [Act.put, List.setIfInBounds_toArray, List.set_cons_zero, List.set_cons_succ]
                  refine wpAnyH_take (i := 23) (v := ?_) (by (rw [List.getElem?_toArray]; exact rfl)) (by kernel_rfl) (by kernel_rfl) (by kernel_rfl) (fun _ _ _ h => h) (Or.inl ⟨by rfl, ?_⟩) (by assumption) ?_
                  rotate_left
                  · (intro W hSw; (try dsimp only at hSw); go_simp <;> with_reducible rfl)
                  try simp only [Act.put, List.setIfInBounds_toArray, List.set_cons_zero, List.set_cons_succ]
                  refine wpAnyH_done (by kernel_rfl) ?_ _
                  refine NoPanic.normal ?_
                  go_wp2_with fail
                  go_meet
                  exact ⟨rfl, hPq.out.below tt, hBq.trans (tt.mono hBq.size), Box.below hXq.out tt (Box.lt hXq.out)⟩
              case rest =>
                obtain ⟨rfl, P10, B10, X10⟩ := hcut
                clear hPq hXq hBq zS z tt
                replace P10 := fhid P10
                replace X10 := fhid X10
                go_wp2_with fail
                go_roundw
                case rel => exact ⟨k + 1, Q, by omega, by go_num, hGQ, hlQ, P10.out, B10, X10.out⟩
                case measure => simp [intOf]; omega
        · have k1 : ¬ (k : Int) < L.length := by omega
          clear hSR
          go_wp2_with (go_at_call 9; (with_reducible refine (hal _ hB).mono ?_); rintro e w9 ⟨rfl, b9⟩)
          go_ret
          exact ⟨rfl, hB.trans (b9.mono hB.size)⟩
end Go.Proofs.YtbelmljphnponaaGreatDoor.Ps
/-
  PROVED: PoolStates: each node is in one state, for every config and script.
  Conditions: the library's tables read as the program's text lays them (the card ties them); nothing else.
-/
namespace Go.Proofs.YtbelmljphnponaaGreatDoor.Ps
open Go.ChangeShapes Go.WideShapes Go.ChangeAt Go.WideMaps Go.WideElems Go.RowKit
set_option maxRecDepth 100000 in
theorem poolstates_lifted (os : Os) (started : os.Started) (H : Type) (enc : TypeId × Value → H) :
    ReturnsInHanded {} Tryz.checked os 3 .any (fun w args => (Rows.poolStatesSpec.pre enc Tryz.prog Tryz.f3 [] false w args ∧ laidMetH Tryz.prog laidList w) ∧ sizedMet enc Tryz.prog Tryz.f3 (OpenSpec.ofChange Rows.poolStatesSpec) false w args)
      (Rows.poolStatesSpec.post enc Tryz.prog Tryz.f3 false true false false) := by
  refine returnsInHanded_of_change_and (C := Tryz.checked) (X := fun w _ => laidMetH Tryz.prog laidList w) (fun _ _ _ hh h => h.of_heap hh) own started (by kernel_rfl) Tryz.func3
    (ChangeSpec.witness_shaped (enc := enc) (C := Tryz.checked) (os := os) (X := fun w _ => laidMetH Tryz.prog laidList w) false (World.laidAll Tryz.prog os laidList) #[.agg #[.slice none 0 0, .slice none 0 0, .slice none 0 0, .slice none 0 0, .int .i64 0, .int .i64 0, .int .i64 0, .int .i64 0, .int .i64 0, .int .i64 0, .int .i64 0, .int .i64 0], .slice none 0 0] 8 (World.laidAll_os _ _ _) (World.shaped_of_ZipB (by kernel_rfl) (by kernel_rfl)) (by kernel_rfl) (by kernel_rfl) (by kernel_rfl) (lay_met os _)) ?_
  intro W base args ds gs before hval0 hW _ _ hL _
  have hval : ∀ (j : Nat) t v, Tryz.f3.params[j]? = some t → args[j]? = some v → Value.okWide Tryz.prog W .any base t v := hval0
  have hW' := hW
  obtain ⟨p, q, hA0, hV, rfl, hfz, hnd⟩ := hW
  have hA : DataW.TrodAll enc Tryz.prog W 0 (fun _ => true) true Tryz.f3.params.toList args.toList ds p := hA0
  rw [Tryz.params3] at hA hval
  obtain ⟨v0, v1, d0, d1, p0, p1, rfl, rfl, rfl, h0, h1⟩ := trodAll_two hA
  obtain ⟨rfl, rfl⟩ := trodVars_none hV
  have hT := tab_of hL
  obtain ⟨c0, cr0⟩ := open_conf (hval 0 28 v0 rfl rfl) h0
  obtain ⟨A1, l1, cp1, rfl, rd1, ok1⟩ := open_acts (hval 1 29 v1 rfl rfl) h1
  have hlt : ∀ z ∈ p0 ++ p1, z.block < W.heap.size := fun z hz => hW'.lt z (by simp [hz])
  clear hA0 hval0
  simp only [List.append_nil] at hW'
  refine (states_walk v0 c0 A1 l1 cp1 W hT cr0 rd1 ok1).mono fun e W' ⟨he, hb⟩ => ?_
  subst he
  refine ⟨_, rfl, ⟨_, _, _, [], p0 ++ p1, [], hW', trodAll_mk1 (shut_bool Tryz.underlying4 _), ?_, rfl, hb.frame _, fun h => by cases h⟩⟩
  exact trodAll_mk2 (Below.trod laidOut (by kernel_rfl) (of_decide_eq_true (by kernel_rfl)) h0 hb (fun z hz => hlt z (by simp [hz]))) (Below.trod laidOut (by kernel_rfl) (of_decide_eq_true (by kernel_rfl)) h1 hb (fun z hz => hlt z (by simp [hz])))

theorem poolstates_holds : Rows.PoolStatesSaid :=
  OpenClaim.holds_of_wide 3 Tryz.f3 rfl rfl rfl rfl rfl rfl rfl ⟨rfl, rfl, rfl, rfl, rfl⟩ rfl rfl rfl rfl rfl (by kernel_rfl) Tryz.func3 (by kernel_rfl)
    (of_decide_eq_true (by kernel_rfl)) (by unfold Func.isWrapper; rw [if_neg (of_decide_eq_false (by kernel_rfl))]; exact ⟨rfl, rfl⟩)
    (fun os started H enc _ => poolstates_lifted os started H enc)
theorem poolstates_card : Rows.PoolStatesCardSaid :=
  Claim7.holds_tied_plain_at .later [] [.data, .data, .data, .data, .data, .pinned] true Rows.poolStatesCard.stood.harness false
    poolstates_holds (fun _ h => by cases h) (by kernel_rfl) (fun _ h => by cases h) poolStates_row_tie rfl ⟨rfl, rfl⟩ (by kernel_rfl) rfl
    (fun f fn hf hfn => by
      obtain rfl : f = 3 := Option.some.inj ((show Tryz.prog.funcNamed "marlinspike/marlinspikelaw12.PoolStates" = some 3 by kernel_rfl).symm.trans hf) |>.symm
      obtain rfl : fn = Tryz.f3 := (Option.some.inj (Tryz.func3.symm.trans hfn)).symm
      exact ⟨by kernel_rfl, fun j t ht => by
        rw [Tryz.params3] at ht
        have hm : t ∈ [28, 29] := by simpa using Array.mem_of_getElem? ht
        have hall : ([28, 29].all fun u => !Tryz.prog.wantsStandIn u) = true := by kernel_rfl
        exact (show Tryz.prog.wantsStandIn t = false by simpa using List.all_eq_true.1 hall t hm)⟩)
    (by kernel_rfl)
end Go.Proofs.YtbelmljphnponaaGreatDoor.Ps
namespace Go.Proofs.YtbelmljphnponaaGreatDoor
open Go.RowKit
theorem pool_states_card : Rows.PoolStatesCardSaid := Ps.poolstates_card
end Go.Proofs.YtbelmljphnponaaGreatDoor
