/-
  PROVED: PoolLoads: of any bytes a pool is loaded, or refused; one that is loaded is saved to the same bytes, and is right, for every config, script and turned byte.
  Conditions: the library's tables read as the program's text lays them (the card ties them); nothing else.
-/
import Derived.Test.YtmnmcikbbfcjcaaGreatDoorX1
import Derived.Test.YtmnmcikbbfcjcaaGreatDoorC1
import Derived.Deep.AppendLies
import Derived.Test.YtmnmcikbbfcjcaaGreatDoorZ3
import Derived.Test.YtmnmcikbbfcjcaaGreatDoorZ1
import Derived.Deep.RegionHeld3
import Derived.Test.YtmnmcikbbfcjcaaGreatDoorZ5
set_option linter.unusedSimpArgs false
set_option linter.unusedVariables false
/-
  A pair of numbers that came in.
-/
namespace Go.Proofs.YtmnmcikbbfcjcaaGreatDoor.Ns
open Go.Proofs.YtmnmcikbbfcjcaaGreatDoor.Ds
open Go.Joins Go.ChangeShapes Go.WideShapes Go.ChangeAt Go.WideMaps Go.WideElems Go.RowKit Go.Deep

theorem cellsAt : Tryz.prog.cellsOf 30 = 2 := by kernel_rfl
set_option maxRecDepth 100000 in
theorem open_at {H : Type} {enc : TypeId × Value → H} {W : World} {base : Nat} {v : Value} {d : DataW H} {ps : List MemPlace}
    (hv : Value.okWide Tryz.prog W .any base 30 v) (h : DataW.Trod enc Tryz.prog W 0 (fun _ => true) true 30 v d ps) :
    ∃ a b : Int, v = .agg #[.int .i64 a, .int .i64 b] ∧ I64 a ∧ I64 b := by
  obtain ⟨cs, rfl, hsz, _⟩ : ∃ cs, v = .agg cs ∧ cs.size = Tryz.prog.cellsOf 30 ∧ Row.okWide Tryz.prog W .any base 30 cs := by
    simpa [Value.okWide, Tryz.underlying30] using hv
  rw [cellsAt] at hsz
  obtain ⟨l⟩ := cs
  match l, hsz with
  | [c0, c1], _ =>
    obtain ⟨fuel, hf⟩ := h
    obtain ⟨y0, y1, m, hx, hy0, hy1⟩ := trod_two Tryz.underlying30 cellsInt hf
    obtain ⟨x0, e0, rfl, w0⟩ := DataW.trod_int Tryz.underlying3 hy0
    obtain ⟨x1, e1, rfl, w1⟩ := DataW.trod_int Tryz.underlying3 hy1
    simp at e0 e1
    subst e0 e1
    exact ⟨x0, x1, rfl, wf_I64 w0, wf_I64 w1⟩
end Go.Proofs.YtmnmcikbbfcjcaaGreatDoor.Ns
/-
  A byte of the call's own, written over.
-/
namespace Go.Proofs.YtmnmcikbbfcjcaaGreatDoor.Cs
open Go.RowKit

theorem xor_byte (c y : UInt8) : bits .xor .u8 (c.toNat : Int) (y.toNat : Int) = ((c ^^^ y).toNat : Int) := by
  have hc := c.toNat_lt
  have hy := y.toNat_lt
  have h1 : (BitVec.ofInt 8 (c.toNat : Int)).toNat = c.toNat := by
    rw [BitVec.ofInt_natCast, BitVec.toNat_ofNat]; exact Nat.mod_eq_of_lt (by omega)
  have h2 : (BitVec.ofInt 8 (y.toNat : Int)).toNat = y.toNat := by
    rw [BitVec.ofInt_natCast, BitVec.toNat_ofNat]; exact Nat.mod_eq_of_lt (by omega)
  have hx : c.toNat ^^^ y.toNat < 2 ^ 8 := Nat.xor_lt_two_pow hc hy
  show IntKind.u8.wrap ((BitVec.ofInt 8 (c.toNat : Int) ^^^ BitVec.ofInt 8 (y.toNat : Int)).toNat : Int) = _
  rw [BitVec.toNat_xor, h1, h2, UInt8.toNat_xor]
  simp [IntKind.wrap, IntKind.bits, IntKind.signed]
  omega
theorem BV_set (l : List UInt8) (i : Nat) (x : UInt8) : BV (l.set i x) = (BV l).set i (.int .u8 (x.toNat : Int)) := by
  unfold BV; rw [List.map_set]
theorem Own.stored {w : World} {base g cap : Nat} {l : List UInt8} (h : Own w base (.slice (some ⟨g, 0, none⟩) l.length cap) l) (i : Nat) (x : UInt8) :
    Own (w.setCell ⟨g, i, none⟩ (.int .u8 (x.toNat : Int))) base (.slice (some ⟨g, 0, none⟩) l.length cap) (l.set i x) := by
  have := (World.ownsRow.stored h i (.int .u8 (x.toNat : Int))).1
  unfold Own
  rw [List.length_set, BV_set]
  exact this
theorem Own.cell_at {w : World} {base g cap : Nat} {l : List UInt8} (h : Own w base (.slice (some ⟨g, 0, none⟩) l.length cap) l) (i : Nat) (hi : i < l.length) :
    w.cell? ⟨g, i, none⟩ = some (.int .u8 (l[i].toNat : Int)) ∧ w.frozen? ⟨g, i, none⟩ = false := by
  refine ⟨?_, World.ownsRow.frozenAt h i⟩
  rw [World.ownsRow.cellAt h i (by omega)]
  unfold BV
  rw [List.getElem?_map, List.getElem?_eq_getElem hi]
  rfl
theorem Own.form2 {w : World} {base k : Nat} {A : Option Addr} {l : List UInt8} (h : Own w base (.slice A l.length k) l) (hn : 0 < l.length) : ∃ g, A = some ⟨g, 0, none⟩ ∧ base ≤ g := by
  obtain ⟨g, cap, hv, hb, _⟩ := World.ownsRow.form h hn
  injection hv with hA _ _
  exact ⟨g, hA, hb⟩
end Go.Proofs.YtmnmcikbbfcjcaaGreatDoor.Cs
/-
  A number brought between 0 and another one; a byte of a number.
-/
namespace Go.Proofs.YtmnmcikbbfcjcaaGreatDoor.Ps
open Go.RowKit Go.Shelf Vs Ns

theorem brought (a : Int) (n : Nat) (hn : 0 < n) (hs : n < 4611686018427387904) : ∃ (t : Int) (r : Nat), a.tmod n = t ∧ wrap64 (a.tmod n) = t ∧ wrap64 (t + n) = t + n ∧ (t + (n : Int)).tmod n = r ∧ wrap64 ((t + (n : Int)).tmod n) = r ∧ r < n ∧ 0 ≤ t + n := by
  have h1 := Int.tmod_lt_of_pos a (b := n) (by omega)
  have h2 : -(n : Int) < a.tmod n := by
    have := Int.tmod_lt_of_pos (-a) (b := n) (by omega)
    rw [Int.neg_tmod] at this
    omega
  have h3 : 0 ≤ a.tmod n + n := by omega
  have h4 := Int.tmod_lt_of_pos (a.tmod n + n) (b := n) (by omega)
  have h5 : 0 ≤ (a.tmod n + n).tmod n := Int.tmod_nonneg _ h3
  generalize ht : a.tmod n = t at *
  generalize hu : (t + n).tmod n = u at *
  obtain ⟨r, rfl⟩ := Int.eq_ofNat_of_zero_le h5
  exact ⟨t, r, rfl, by unfold wrap64; omega, by unfold wrap64; omega, hu, by rw [hu]; unfold wrap64; omega, by omega, h3⟩
/-- An operation taken first, the side conditions paid by themselves. -/
theorem tk (i : Nat) {P : Program} {ops : Array Oper} {Q : Exit → Act → World → Prop} {md : Region.Mode} {S : World → Prop} {oi : Oper} {v : Value} {fuel : Nat} {listed : Array Bool} {a : Act} {w : World}
    (hy : ∀ w, S w → (execOp a.eval oi).run P w = .ok (.value v) w) (h : wpAnyH P md ops Q S fuel (listed.setIfInBounds i true) (a.put oi.dst v) w) (hQ : ∀ c a w, Q (.panic c) (a.put oi.dst v) w → Q (.panic c) a w)
    (hi : ops[i]? = some oi := by (rw [List.getElem?_toArray]; exact rfl)) (hs : Region.noSelect ops = true := by kernel_rfl) (hf : Region.free md ops listed i = true := by kernel_rfl) (hr : (Region.ready md ops listed).contains i = true := by kernel_rfl) (hw : Region.wanted oi (yielded ops a.tmps) = true := by rfl) (hS : S w := by assumption) : wpAnyH P md ops Q S (fuel + 1) listed a w :=
  wpAnyH_take hi hs hf hr hQ (.inl ⟨hw, hy⟩) hS h
/-- The byte of a number. -/
theorem byte_of (y : Int) : ∃ b : UInt8, IntKind.u8.wrap y = (b.toNat : Int) := by
  refine ⟨UInt8.ofNat (y % 256).toNat, ?_⟩
  simp only [IntKind.wrap, IntKind.bits, IntKind.signed, UInt8.toNat_ofNat']
  have h0 := Int.emod_nonneg y (b := 256) (by decide)
  have h1 := Int.emod_lt_of_pos y (b := 256) (by decide)
  simp
  omega
/-- What is loaded is right, and is saved to the bytes that it was loaded from. -/
theorem loaded_good {c : Cfg} {l : List UInt8} (hG : Good (newP c)) (hN : (newP c).L.length = c.names.length) (hle : (bodyR l c.names.length).2.1 ≤ l.length) (h : (endR l c.names.length).1 = 0) : ∃ P2 : Pl, {newP c with L := (bodyR l c.names.length).1, now := (headR l).1} = P2 ∧ Good P2 ∧ l = saveP P2 ∧ P2.L.length = c.names.length := by
  obtain ⟨_, h1, h2, h3, h4⟩ := load_got hle h
  have hlen : (bodyR l c.names.length).1.length = c.names.length := nodesR_len _ _ _ _
  have k1 := hG.l1
  have k2 := hG.l2
  rw [hN] at k1 k2
  exact ⟨_, rfl, ⟨by simpa [hlen] using k1, by simpa [hlen] using k2, h1, h2, h3, hG.b0, hG.b1, hG.s0, hG.s1, hG.r0, hG.r1⟩, h4, hlen⟩
theorem node_here {P : Pl} {k : Nat} (hk : k < P.L.length) : nodeAt P (k : Int) = (P.L[k], 0) := by
  unfold nodeAt
  rw [if_neg (by omega)]
  simp [List.getD_eq_getElem?_getD, List.getElem?_eq_getElem hk]
end Go.Proofs.YtmnmcikbbfcjcaaGreatDoor.Ps
/-
  PoolLoads, walked.
-/
namespace Go.Proofs.YtmnmcikbbfcjcaaGreatDoor.Ps
open Go.RowKit Go.Shelf Vs Ns

set_option maxRecDepth 100000 in
set_option maxHeartbeats 32000000 in
theorem loads_walk (v : Value) (c : Cfg) (A : Option Addr) (l : List ActC) (cp : Nat) (x y : Int) (w : World) (hw : Env12 w) (hc : CR w v c) (hr : RdS w A l.length cp (AVs l)) (ok : ∀ a ∈ l, okA a) (hx : Vs.I64 x) (hy : Vs.I64 y) :
    Calls Tryz.prog 3 #[v, .slice A l.length cp, .agg #[.int .i64 x, .int .i64 y]] w (BoolP w true) := by
  have hal := fun W (hb : Below w.heap.size w W) => alive_any W (hw.below hb)
  have hfar := fun W (hb : Below w.heap.size w W) => far_any v c W (hc.below hb)
  have hth := fun (hp : c.parts.length ≤ 60) (hq : c.qos.length ≤ 60) W (hb : Below w.heap.size w W) => theirs_any v c W (hc.below hb) hp hq
  have hno := fun v W (hb : Below w.heap.size w W) h hr => New_no v c W h (hw.below hb).env hr
  have hyes := fun v W (hb : Below w.heap.size w W) h hr => New_yes v c W h (hw.below hb).env hr
  have hlo := fun v A l cp W (hb : Below w.heap.size w W) h hs hl => Load_any v c A l cp W h (hw.below hb).env hs hl
  have hsh := fun W (hb : Below w.heap.size w W) => short_any A l cp W (hr.below hb)
  have hgd := good_of hc
  have ok' : ∀ x ∈ shortL l, okA x := fun x hx => ok x (List.mem_of_mem_take hx)
  unfold BoolP at hal hfar ⊢
  unfold ConfP at hth
  have hds := fun p W a (oka : okA a) (hb : Below w.heap.size w W) P (hP : PB W p P) (hg : Good P) => Does_any p P a W hP hg (hw.below hb).tab (hw.below hb).bit oka
  have hsv := fun p W P (hP : PB W p P) (hg : Good P) => Save_any p P W hP hg
  unfold SavePost at hsv
  obtain ⟨AN, cN, AV, cV, AP, cP, AQ, cQ, a0, a1, a2, a3, a4, a5, a6, a7, rfl, ev, -, -, -, -⟩ := hc
  clear ev
  obtain ⟨q0, q1, bA, hz⟩ := two_boxes w TRConf 30 [.slice AN c.names.length cN, .slice AV c.vecs.length cV, .slice AP c.parts.length cP, .slice AQ c.qos.length cQ, .int .i64 a0, .int .i64 a1, .int .i64 a2, .int .i64 a3, .int .i64 a4, .int .i64 a5, .int .i64 a6, .int .i64 a7] [.int .i64 x, .int .i64 y]
  have hw0 := fhid hw
  have hSR := short_rds hr
  have hL200 : (shortL l).length ≤ 200 := by unfold shortL; rw [List.length_take]; omega
  clear hr
  cases hF : farP c with
  | true =>
    rw [hF] at hfar
    clear hth hno hyes hsh hds hsv hgd hF hlo
    go_enter Tryz.func3, Tryz.ntmps3
    go_upto_region 1 with fail
    generalize (w.alloc _).alloc _ = w1 at *
    obtain ⟨c0, c1, c2, c3, c4, c5, c6, c7, c8, c9, c10, c11⟩ := Box.twelve q0
    have xl := Box.lt q0
    replace q0 := fhid q0
    replace q1 := fhid q1
    go_wp2_with (first
      | (go_at_call 4; (with_reducible refine (hfar _ bA).mono ?_); rintro e w2 ⟨rfl, b2⟩; have B2 := bA.trans (b2.mono bA.size))
      | (go_at_call 5; (with_reducible refine (hal _ B2).mono ?_); rintro e w3 ⟨rfl, b3⟩))
    go_ret
    exact ⟨rfl, B2.trans (b3.mono B2.size)⟩
  | false =>
    rw [hF] at hfar
    obtain ⟨_, _, hp60, hq60⟩ := far_small hF
    have hth := hth hp60 hq60
    clear hp60 hq60 hF
    cases hR : rightC c with
    | false =>
      have hno := fun v W hb h => hno v W hb h hR
      clear hyes hsh hds hsv hgd
      go_enter Tryz.func3, Tryz.ntmps3
      go_upto_region 1 with fail
      generalize (w.alloc _).alloc _ = w1 at *
      obtain ⟨c0, c1, c2, c3, c4, c5, c6, c7, c8, c9, c10, c11⟩ := Box.twelve q0
      have xl := Box.lt q0
      replace q0 := fhid q0
      replace q1 := fhid q1
      go_upto_region 5 with (first
        | (go_at_call 4; (with_reducible refine (hfar _ bA).mono ?_); rintro e w2 ⟨rfl, b2⟩; have B2 := bA.trans (b2.mono bA.size)
           clear c0 c1 c2 c3 c4 c5 c6 c7 c8 c9 c10 c11
           obtain ⟨c0, c1, c2, c3, c4, c5, c6, c7, c8, c9, c10, c11⟩ := Box.twelve (Box.below q0.out b2 xl)
           have xl := Nat.lt_of_lt_of_le xl b2.size)
        | (go_at_call 7; (with_reducible refine (hth _ B2).mono ?_); rintro e w3 ⟨v3, rfl, hcr3, b3⟩; have B3 := B2.trans (b3.mono B2.size))
        | (go_at_call 6; (with_reducible refine (hno _ _ B3 hcr3).mono ?_); rintro e w4 ⟨rfl, b4⟩; have B4 := B3.trans (b4.mono B3.size)))
      have T4 := (b2.trans (b3.mono b2.size)).trans (b4.mono (Nat.le_trans b2.size b3.size))
      have X4 := Box.below q0.out T4 (Box.lt q0.out)
      have hlo2 := fun v W hb h => hlo v none [] 0 W hb h (fun h0 => absurd h0 (by simp)) (by simp)
      simp only [List.length_nil] at hlo2
      clear c0 c1 c2 c3 c4 c5 c6 c7 c8 c9 c10 c11 xl hcr3 hlo
      obtain ⟨c0, c1, c2, c3, c4, c5, c6, c7, c8, c9, c10, c11⟩ := Box.twelve X4
      have xl := Box.lt X4
      go_wp2_with (first
        | (go_at_call 7; (with_reducible refine (hth _ B4).mono ?_); rintro e w5 ⟨v5, rfl, hcr5, b5⟩; have B5 := B4.trans (b5.mono B4.size))
        | (go_at_call 8; (with_reducible refine (hlo2 _ _ B5 hcr5).mono ?_); rintro e w6 ⟨b6, ⟨_, rfl⟩ | ⟨hR2, _⟩ | ⟨hR2, _⟩⟩ <;> first | (rw [hR] at hR2; cases hR2) | skip
           have B6 := B5.trans (b6.mono B5.size))
        | (go_at_call 5; (with_reducible refine (hal _ B6).mono ?_); rintro e w7 ⟨rfl, b7⟩))
      go_ret
      exact ⟨rfl, B6.trans (b7.mono B6.size)⟩
    | true =>
      have hyes := fun v W hb h => hyes v W hb h hR
      have hG := hgd hR
      clear hno hgd
      go_enter Tryz.func3, Tryz.ntmps3
      go_upto_region 1 with fail
      generalize (w.alloc _).alloc _ = w1 at *
      obtain ⟨c0, c1, c2, c3, c4, c5, c6, c7, c8, c9, c10, c11⟩ := Box.twelve q0
      have xl := Box.lt q0
      replace q0 := fhid q0
      replace q1 := fhid q1
      go_upto_region 6 with (first
        | (go_at_call 4; (with_reducible refine (hfar _ bA).mono ?_); rintro e w2 ⟨rfl, b2⟩; have B2 := bA.trans (b2.mono bA.size)
           clear c0 c1 c2 c3 c4 c5 c6 c7 c8 c9 c10 c11
           obtain ⟨c0, c1, c2, c3, c4, c5, c6, c7, c8, c9, c10, c11⟩ := Box.twelve (Box.below q0.out b2 xl)
           have xl := Nat.lt_of_lt_of_le xl b2.size)
        | (go_at_call 7; (with_reducible refine (hth _ B2).mono ?_); rintro e w3 ⟨v3, rfl, hcr3, b3⟩; have B3 := B2.trans (b3.mono B2.size))
        | (go_at_call 6; (with_reducible refine (hyes _ _ B3 hcr3).mono ?_); rintro e w4 ⟨p, rfl, hp4, b4⟩; have B4 := B3.trans (b4.mono B3.size)))
      have hwp := Nat.le_trans B3.size hp4.1
      have P4 := hp4.pb
      have hne : ¬ At3 p w.heap.size := fun hj => by
        have hj : w.heap.size = p := hj
        have := hp4.1; have := b2.size; have := b3.size; omega
      have hne2 : ¬ At3 p (w.heap.size + 1) := fun hj => by
        have hj : w.heap.size + 1 = p := hj
        have := hp4.1; have := b2.size; have := b3.size; omega
      have T1 := (b2.trans (b3.mono b2.size)).trans (b4.mono (Nat.le_trans b2.size b3.size))
      have X4 := Box.below q0.out T1 (Box.lt q0.out)
      have O4 := Box.below q1.out T1 (Box.lt q1.out)
      clear c0 c1 c2 c3 c4 c5 c6 c7 c8 c9 c10 c11 hfar hyes hp4 hcr3 xl
      replace P4 := fhid P4
      replace X4 := fhid X4
      replace O4 := fhid O4
      go_wp2_with (go_at_call 9; (with_reducible refine (hsh _ B4).mono ?_); rintro e w5 ⟨c5, rfl, r5, rfl⟩)
      have hstep := fun W k hk hb hP => script_step (p := p) (P0 := newP c) (L := shortL l) (W := W) hw hwp hG ok' k hk hb hP
      have hgG := play_good hG (shortL l)
      clear r5 hsh b2 b3 b4 T1 B2 B3
      generalize shortL l = L at *
      replace hstep := fhid hstep
      replace hSR := fhid hSR
      go_loopw [53] (fun i wr => ∃ k : Nat, k ≤ L.length ∧ i = .int .i64 (k : Nat) ∧ PB wr p (playP (newP c) (L.take k)) ∧ Below w.heap.size w wr ∧ Box wr w.heap.size TRConf [.slice AN c.names.length cN, .slice AV c.vecs.length cV, .slice AP c.parts.length cP, .slice AQ c.qos.length cQ, .int .i64 a0, .int .i64 a1, .int .i64 a2, .int .i64 a3, .int .i64 a4, .int .i64 a5, .int .i64 a6, .int .i64 a7] ∧ Box wr (w.heap.size + 1) 30 [.int .i64 x, .int .i64 y]) (fun i _ => L.length - (intOf i).toNat)
      case atStart => exact ⟨0, Nat.zero_le _, rfl, P4.out, B4, X4.out, O4.out⟩
      case round =>
        obtain ⟨k, hk, rfl, hPk, hB, hX, hO⟩ := hrel
        have k0 : (0 : Int) ≤ k := by omega
        by_cases hlt : k < L.length
        · have k1 : (k : Int) < L.length := by omega
          obtain ⟨b, o, rfl, hb, d0, d1, d2, d3, d4, d5, d6⟩ := RdS.act (hSR.out.below hB) hlt
          have hst := fun W hb hP => hstep.out W k hlt hb hP
          unfold actV at hst
          generalize hak : L[k] = ak at *
          obtain ⟨z0, z1, z2, zq⟩ := ak
          simp only at d0 d1 d2 d3 d4 d5 d6 hst
          generalize (Bs.word zq 0 : Int) = u0 at *
          generalize (Bs.word zq 1 : Int) = u1 at *
          generalize (Bs.word zq 2 : Int) = u2 at *
          generalize (Bs.word zq 3 : Int) = u3 at *
          clear hak
          replace hst := fhid hst
          go_upto_region 10 with fail
          have m1 := (Below.refl wr.heap.size wr).alloc (Nat.le_refl _) (.cells #[.int .u8 z0, .int .i64 z1, .int .i64 z2, .int .u64 u0, .int .u64 u1, .int .u64 u2, .int .u64 u3] TAct)
          have Y1 := Box.new wr TAct [.int .u8 z0, .int .i64 z1, .int .i64 z2, .int .u64 u0, .int .u64 u1, .int .u64 u2, .int .u64 u3]
          have P1 := hPk.below m1
          have X1 := Box.below hX m1 (Box.lt hX)
          have O1 := Box.below hO m1 (Box.lt hO)
          have B1 := hB.trans (m1.mono hB.size)
          clear d0 d1 d2 d3 d4 d5 d6 hPk hX hO m1 hb
          generalize wr.alloc _ = W1 at *
          generalize wr.heap.size = bb at *
          obtain ⟨d0, d1, d2, d3, d4, d5, d6, xl⟩ := seven Y1
          clear Y1
          replace P1 := fhid P1
          replace X1 := fhid X1
          replace O1 := fhid O1
          go_wp2_with (go_at_call 10; (with_reducible refine (hst.out _ B1 P1.out).mono ?_); rintro e w6 ⟨⟨s, er, rfl⟩, P6, f6, B6⟩)
          go_roundw
          case rel => exact ⟨k + 1, by omega, by go_num, P6, B6, f6.box X1.out hne, f6.box O1.out hne2⟩
          case measure => simp [intOf]; omega
        · have k2 : k = L.length := by omega
          subst k2
          rw [List.take_length] at hPk
          have k1 : ¬ (L.length : Int) < L.length := by omega
          clear hstep hSR hlt hk
          obtain ⟨hG2, hl2, hb2, hs2, ht2⟩ := hgG
          generalize playP (newP c) L = P1 at *
          have hs1 := hsv p wr P1 hPk hG2
          have hN : (newP c).L.length = c.names.length := by unfold newP; simp
          have hls := load_save hG2
          rw [hl2, hN] at hls
          have hln := save_len hG2
          have hpos : 0 < (saveP P1).length := by unfold saveP; have := Cs.nb_pos P1.now; rw [List.length_append]; omega
          generalize saveP P1 = SB at *
          go_upto_region 13 with (go_at_call 11; (with_reducible refine hs1.mono ?_); rintro e w6 ⟨v6, rfl, o6, b6⟩)
          obtain ⟨A6, k6, rfl, _, _, -⟩ := o6.shape
          obtain ⟨g, rfl, hgB⟩ := Cs.Own.form2 o6 hpos
          have B6 := hB.trans (b6.mono hB.size)
          have X6 := Box.below hX b6 (Box.lt hX)
          have O6 := Box.below hO b6 (Box.lt hO)
          have O6' := hO
          clear hX hO hPk hs1 b6 hl2 hb2 hs2 ht2 hN
          obtain ⟨t, r, r1, r2, r3, r4, r5, r6, r7⟩ := brought x SB.length hpos (by omega)
          obtain ⟨yb, hyb⟩ := byte_of y
          have p0 : (0 : Int) < SB.length := by omega
          have p1 : ¬ (SB.length : Int) = 0 := by omega
          have p2 : (r : Int) < SB.length := by omega
          have p3 : (0 : Int) ≤ r := by omega
          have u0 : w6.cell? ⟨w.heap.size + 1, 0, none⟩ = some (.int .i64 x) := Box.cell O6 0
          have u1 : w6.cell? ⟨w.heap.size + 1, 1, none⟩ = some (.int .i64 y) := Box.cell O6 1
          have ul := Box.lt O6
          go_upto_region 15 with fail
          have bd := (Below.refl w6.heap.size w6).drew
          have o7 := ownsRow_below o6 bd
          obtain ⟨y1, y2⟩ := Cs.Own.cell_at o7 r r6
          have gl := (World.ownsRow.lt o7 g rfl).2
          have o8 := Cs.Own.stored o7 r (SB[r] ^^^ yb)
          have e3 := Cs.xor_byte SB[r] yb
          have bs : Below wr.heap.size w6 (w6.drew.setCell ⟨g, r, none⟩ (.int .u8 ((SB[r] ^^^ yb).toNat : Int))) := ((Below.refl _ _).drew).setCell (p := ⟨g, r, none⟩) hgB _
          have hgw : w.heap.size + 1 < wr.heap.size := Box.lt O6'
          have X8 := Box.below X6 bs (by omega)
          have O8 := Box.below O6 bs hgw
          have B8 := B6.trans (bs.mono hB.size)
          have z := Box.cell (Box.below O6 bd (Box.lt O6)) 1
          have z2 := Box.cell O8 1
          replace z : w6.drew.cell? ⟨w.heap.size + 1, 1, none⟩ = some (.int .i64 y) := z
          replace z2 : (w6.drew.setCell ⟨g, r, none⟩ (.int .u8 ((SB[r] ^^^ yb).toNat : Int))).cell? ⟨w.heap.size + 1, 1, none⟩ = some (.int .i64 y) := z2
          have hlen : (SB.set r (SB[r] ^^^ yb)).length = SB.length := List.length_set
          have hsame : yb = 0 → SB.set r (SB[r] ^^^ yb) = SB := fun h => by subst h; simp
          clear o6 o7 X6 O6 B6 bs bd u0 u1 ul
          replace o8 := fhid o8
          replace hsame := fhid hsame
          replace hlen := fhid hlen
          generalize SB.set r (SB[r] ^^^ yb) = l' at *
          generalize SB[r] ^^^ yb = zb at *
          generalize SB[r] = cb at *
          generalize zb.toNat = zn at *
          generalize cb.toNat = cn at *
          refine wp_region_noPanic ?_
          refine wp_region_held_drew (S := (fun W => W.cell? ⟨w.heap.size + 1, 1, none⟩ = some (.int .i64 y))) (by kernel_rfl) z (fun hHeld => ?_)
          refine tk 0 (v := ?_) ?_ ?_ fun _ _ _ h => h
          rotate_left
          · (intro W hSw; (try dsimp only at hSw); go_simp <;> with_reducible rfl)
          try simp only [Act.put, List.setIfInBounds_toArray, List.set_cons_zero, List.set_cons_succ]
          refine tk 1 (v := ?_) ?_ ?_ fun _ _ _ h => h
          rotate_left
          · (intro W hSw; (try dsimp only at hSw); go_simp <;> with_reducible rfl)
          try simp only [Act.put, List.setIfInBounds_toArray, List.set_cons_zero, List.set_cons_succ]
          refine tk 2 (v := ?_) ?_ ?_ fun _ _ _ h => h
          rotate_left
          · (intro W hSw; (try dsimp only at hSw); go_simp <;> with_reducible rfl)
          try simp only [Act.put, List.setIfInBounds_toArray, List.set_cons_zero, List.set_cons_succ]
          refine tk 4 (v := ?_) ?_ ?_ fun _ _ _ h => h
          rotate_left
          · (intro W hSw; (try dsimp only at hSw); go_simp <;> with_reducible rfl)
          try simp only [Act.put, List.setIfInBounds_toArray, List.set_cons_zero, List.set_cons_succ]
          refine tk 5 (v := ?_) ?_ ?_ fun _ _ _ h => h
          rotate_left
          · (intro W hSw; (try dsimp only at hSw); go_simp <;> with_reducible rfl)
          try simp only [Act.put, List.setIfInBounds_toArray, List.set_cons_zero, List.set_cons_succ]
          refine tk 6 (v := ?_) ?_ ?_ fun _ _ _ h => h
          rotate_left
          · (intro W hSw; (try dsimp only at hSw); go_simp <;> with_reducible rfl)
          try simp only [Act.put, List.setIfInBounds_toArray, List.set_cons_zero, List.set_cons_succ]
          refine wpAnyH_ready (rs := [3]) (by kernel_rfl) (by simp) (AllReadyH.cons (by (rw [List.getElem?_toArray]; exact rfl)) (fun K hK => ?_) AllReadyH.nil)
          go_simp
          refine hK.out _ _ z (fun hHeld => ?_)
          clear hK K
          try simp only [Act.put, List.setIfInBounds_toArray, List.set_cons_zero, List.set_cons_succ]
          refine tk 7 (v := ?_) ?_ ?_ fun _ _ _ h => h
          rotate_left
          · (intro W hSw; (try dsimp only at hSw); go_simp <;> with_reducible rfl)
          try simp only [Act.put, List.setIfInBounds_toArray, List.set_cons_zero, List.set_cons_succ]
          refine tk 8 (v := ?_) ?_ ?_ fun _ _ _ h => h
          rotate_left
          · (intro W hSw; (try dsimp only at hSw); go_simp <;> with_reducible rfl)
          try simp only [Act.put, List.setIfInBounds_toArray, List.set_cons_zero, List.set_cons_succ]
          refine wpAnyH_ready (rs := [9]) (by kernel_rfl) (by simp) (AllReadyH.cons (by (rw [List.getElem?_toArray]; exact rfl)) (fun K hK => ?_) AllReadyH.nil)
          go_simp
          refine hK.out _ _ z2 (fun hHeld => ?_)
          clear hK K
          try simp only [Act.put, List.setIfInBounds_toArray, List.set_cons_zero, List.set_cons_succ]
          refine wpAnyH_done (by kernel_rfl) ?_ _
          refine NoPanic.normal ?_
          clear z y1 y2 e3
          rw [show w6.drew.setCell ⟨g, r, none⟩ (.int .u8 (zn : Int)) = (w6.setCell ⟨g, r, none⟩ (.int .u8 (zn : Int))).drew from rfl] at *
          generalize (w6.setCell ⟨g, r, none⟩ (.int .u8 (zn : Int))).drew = W8 at *
          obtain ⟨A8, k8, e8, _, _, s8⟩ := Cs.Own.shape o8.out
          rw [hlen.out] at e8
          injection e8 with e8 _ e9
          subst e8 e9
          have hlo2 := fun v W hb h hs => hlo v (some ⟨g, 0, none⟩) l' k6 W hb h hs (by rw [hlen.out]; omega)
          rw [hlen.out] at hlo2
          obtain ⟨c0, c1, c2, c3, c4, c5, c6, c7, c8, c9, c10, c11⟩ := Box.twelve X8
          have xl := Box.lt X8
          have u1 : W8.cell? ⟨w.heap.size + 1, 1, none⟩ = some (.int .i64 y) := z2
          have ul := Box.lt O8
          clear z2 hlo gl
          replace X8 := fhid X8
          replace O8 := fhid O8
          go_upto_region 17 with (first
            | (go_at_call 7; (with_reducible refine (hth _ B8).mono ?_); rintro e w9 ⟨v9, rfl, hcr9, b9⟩; have B9 := B8.trans (b9.mono B8.size))
            | (go_at_call 8; (with_reducible refine (hlo2 _ _ B9 hcr9 ((s8.below b9).more b9.size)).mono ?_); rintro e w10 ⟨b10, hpo⟩
               rcases hpo with ⟨hR2, _⟩ | ⟨_, her, rfl⟩ | ⟨_, her, hle, q, rfl, hq, Q10⟩
               · rw [hR] at hR2; cases hR2))
          · have B10 := B9.trans (b10.mono B9.size)
            have T10 := b9.trans (b10.mono b9.size)
            have O10 := Box.below O8.out T10 (Box.lt O8.out)
            have hyb0 : yb ≠ 0 := fun h => her (by rw [hsame.out h, hls.2.2])
            have hyn : ¬ (yb.toNat : Int) = 0 := fun h => hyb0 (UInt8.toNat_inj.1 (by simpa using h))
            have hyn2 : ((yb.toNat : Int) != 0) = true := by simpa using hyn
            have v1 : w10.cell? ⟨w.heap.size + 1, 1, none⟩ = some (.int .i64 y) := Box.cell O10 1
            have vl := Box.lt O10
            go_wp2_with (go_at_call 5; (with_reducible refine (hal _ B10).mono ?_); rintro e w11 ⟨rfl, b11⟩)
            go_ret
            exact ⟨rfl, B10.trans (b11.mono B10.size)⟩
          · have B10 := B9.trans (b10.mono B9.size)
            have T10 := b9.trans (b10.mono b9.size)
            have X10 := Box.below X8.out T10 (Box.lt X8.out)
            have s10 := (s8.below T10).more T10.size
            have hN : (newP c).L.length = c.names.length := by unfold newP; simp
            obtain ⟨P2, hP2, hGP, hl', hLP⟩ := loaded_good hG hN hle her
            rw [hP2] at Q10
            have hnw0 := hGP.n0
            have hnw1 := hGP.n1
            have hg1 : ¬ P2.now < 0 := by omega
            have hg2 : ¬ (1099511627776 : Int) < P2.now := by omega
            have hsv2 := fun W hP => hsv q W P2 hP hGP
            rw [← hl'] at hsv2
            have hnow := fhid (fun W hP => Now_any q P2 W hP hGP.l1)
            have hcv2 := fhid (fun w9 B A9 k9 s9 => Cs.conv_seg w9 B A9 l' k9 s9)
            have zS := fhid (fun W (hb : Below w10.heap.size w10 W) => Cs.conv_seg W _ (some ⟨g, 0, none⟩) l' k6 (s10.below hb))
            rw [hlen.out] at zS
            have hqq : ((Cs.str l').toList == (Cs.str l').toList) = true := by simp
            generalize Cs.str l' = ST at *
            clear hls hle her hP2 hlo2 hth hsame s8 hl'
            replace hsv2 := fhid hsv2
            replace Q10 := fhid Q10
            replace X10 := fhid X10
            go_upto_region 19 with fail
            go_cut [129] (fun s129 wx => s129 = .bool false ∧ PB wx q P2 ∧ Below w.heap.size w wx ∧ Box wx w.heap.size TRConf [.slice AN c.names.length cN, .slice AV c.vecs.length cV, .slice AP c.parts.length cP, .slice AQ c.qos.length cQ, .int .i64 a0, .int .i64 a1, .int .i64 a2, .int .i64 a3, .int .i64 a4, .int .i64 a5, .int .i64 a6, .int .i64 a7])
            case first =>
              have tt : Below w10.heap.size w10 w10.drew := (Below.refl _ _).drew
              have z := zS.out _ tt
              refine wp_region_noPanic ?_
              refine wp_region_held_drew (S := (fun W => (convert 51 9 (.slice (some ⟨g, 0, none⟩) SB.length k6)).run Tryz.prog W = .ok (.string ST) W)) (by kernel_rfl) z (fun hHeld => ?_)
              refine tk 0 (v := ?_) ?_ ?_ fun _ _ _ h => h
              rotate_left
              · (intro W hSw; (try dsimp only at hSw); go_simp <;> with_reducible rfl)
              try simp only [Act.put, List.setIfInBounds_toArray, List.set_cons_zero, List.set_cons_succ]
              refine tk 1 (v := ?_) ?_ ?_ fun _ _ _ h => h
              rotate_left
              · (intro W hSw; (try dsimp only at hSw); go_simp <;> with_reducible rfl)
              try simp only [Act.put, List.setIfInBounds_toArray, List.set_cons_zero, List.set_cons_succ]
              refine tk 2 (v := ?_) ?_ ?_ fun _ _ _ h => h
              rotate_left
              · (intro W hSw; (try dsimp only at hSw); go_simp <;> with_reducible rfl)
              try simp only [Act.put, List.setIfInBounds_toArray, List.set_cons_zero, List.set_cons_succ]
              refine tk 3 (v := ?_) ?_ ?_ fun _ _ _ h => h
              rotate_left
              · (intro W hSw; (try dsimp only at hSw); go_simp <;> with_reducible rfl)
              try simp only [Act.put, List.setIfInBounds_toArray, List.set_cons_zero, List.set_cons_succ]
              refine tk 6 (v := ?_) ?_ ?_ fun _ _ _ h => h
              rotate_left
              · (intro W hSw; (try dsimp only at hSw); go_simp <;> with_reducible rfl)
              try simp only [Act.put, List.setIfInBounds_toArray, List.set_cons_zero, List.set_cons_succ]
              refine tk 7 (v := ?_) ?_ ?_ fun _ _ _ h => h
              rotate_left
              · (intro W hSw; (try dsimp only at hSw); go_simp <;> with_reducible rfl)
              try simp only [Act.put, List.setIfInBounds_toArray, List.set_cons_zero, List.set_cons_succ]
              refine wpAnyH_ready (rs := [4]) (by kernel_rfl) (by simp) (AllReadyH.cons (by (rw [List.getElem?_toArray]; exact rfl)) (fun K hK => ?_) AllReadyH.nil)
              go_simp
              go_at_call 11
              with_reducible refine (hsv2.out _ (Q10.out.below tt)).mono ?_
              rintro e ws ⟨vs, rfl, os, bs⟩
              obtain ⟨As, ks, rfl, _, _, ss⟩ := Cs.Own.shape os
              have tt := tt.trans (bs.mono tt.size)
              have z := zS.out _ tt
              have rs := hcv2.out ws _ As ks ss
              go_simp
              refine hK.out _ _ z (fun hHeld => ?_)
              clear hK K
              try simp only [Act.put, List.setIfInBounds_toArray, List.set_cons_zero, List.set_cons_succ]
              refine wpAnyH_ready (rs := [5]) (by kernel_rfl) (by simp) (AllReadyH.cons (by (rw [List.getElem?_toArray]; exact rfl)) (fun K hK => ?_) AllReadyH.nil)
              go_simp
              refine hK.out _ _ z (fun hHeld => ?_)
              clear hK K
              try simp only [Act.put, List.setIfInBounds_toArray, List.set_cons_zero, List.set_cons_succ]
              refine tk 8 (v := ?_) ?_ ?_ fun _ _ _ h => h
              rotate_left
              · (intro W hSw; (try dsimp only at hSw); go_simp <;> with_reducible rfl)
              try simp only [Act.put, List.setIfInBounds_toArray, List.set_cons_zero, List.set_cons_succ]
              refine tk 9 (v := ?_) ?_ ?_ fun _ _ _ h => h
              rotate_left
              · (intro W hSw; (try dsimp only at hSw); go_simp <;> with_reducible rfl)
              try simp only [Act.put, List.setIfInBounds_toArray, List.set_cons_zero, List.set_cons_succ]
              refine tk 10 (v := ?_) ?_ ?_ fun _ _ _ h => h
              rotate_left
              · (intro W hSw; (try dsimp only at hSw); go_simp <;> with_reducible rfl)
              try simp only [Act.put, List.setIfInBounds_toArray, List.set_cons_zero, List.set_cons_succ]
              refine tk 11 (v := ?_) ?_ ?_ fun _ _ _ h => h
              rotate_left
              · (intro W hSw; (try dsimp only at hSw); go_simp <;> with_reducible rfl)
              try simp only [Act.put, List.setIfInBounds_toArray, List.set_cons_zero, List.set_cons_succ]
              refine wpAnyH_ready (rs := [12]) (by kernel_rfl) (by simp) (AllReadyH.cons (by (rw [List.getElem?_toArray]; exact rfl)) (fun K hK => ?_) AllReadyH.nil)
              go_simp
              go_at_call 12
              with_reducible refine (hnow.out _ (Q10.out.below tt)).mono ?_
              rintro e wn ⟨rfl, rfl⟩
              go_simp
              refine hK.out _ _ z (fun hHeld => ?_)
              clear hK K
              try simp only [Act.put, List.setIfInBounds_toArray, List.set_cons_zero, List.set_cons_succ]
              refine tk 13 (v := ?_) ?_ ?_ fun _ _ _ h => h
              rotate_left
              · (intro W hSw; (try dsimp only at hSw); go_simp <;> with_reducible rfl)
              try simp only [Act.put, List.setIfInBounds_toArray, List.set_cons_zero, List.set_cons_succ]
              refine tk 14 (v := ?_) ?_ ?_ fun _ _ _ h => h
              rotate_left
              · (intro W hSw; (try dsimp only at hSw); go_simp <;> with_reducible rfl)
              try simp only [Act.put, List.setIfInBounds_toArray, List.set_cons_zero, List.set_cons_succ]
              refine tk 15 (v := ?_) ?_ ?_ fun _ _ _ h => h
              rotate_left
              · (intro W hSw; (try dsimp only at hSw); go_simp <;> with_reducible rfl)
              try simp only [Act.put, List.setIfInBounds_toArray, List.set_cons_zero, List.set_cons_succ]
              refine tk 16 (v := ?_) ?_ ?_ fun _ _ _ h => h
              rotate_left
              · (intro W hSw; (try dsimp only at hSw); go_simp <;> with_reducible rfl)
              try simp only [Act.put, List.setIfInBounds_toArray, List.set_cons_zero, List.set_cons_succ]
              refine wpAnyH_ready (rs := [17]) (by kernel_rfl) (by simp) (AllReadyH.cons (by (rw [List.getElem?_toArray]; exact rfl)) (fun K hK => ?_) AllReadyH.nil)
              go_simp
              go_at_call 12
              with_reducible refine (hnow.out _ (Q10.out.below tt)).mono ?_
              rintro e wn ⟨rfl, rfl⟩
              go_simp
              refine hK.out _ _ z (fun hHeld => ?_)
              clear hK K
              try simp only [Act.put, List.setIfInBounds_toArray, List.set_cons_zero, List.set_cons_succ]
              refine tk 18 (v := ?_) ?_ ?_ fun _ _ _ h => h
              rotate_left
              · (intro W hSw; (try dsimp only at hSw); go_simp <;> with_reducible rfl)
              try simp only [Act.put, List.setIfInBounds_toArray, List.set_cons_zero, List.set_cons_succ]
              refine tk 19 (v := ?_) ?_ ?_ fun _ _ _ h => h
              rotate_left
              · (intro W hSw; (try dsimp only at hSw); go_simp <;> with_reducible rfl)
              try simp only [Act.put, List.setIfInBounds_toArray, List.set_cons_zero, List.set_cons_succ]
              refine wpAnyH_done (by kernel_rfl) ?_ _
              refine NoPanic.normal ?_
              go_wp2_with fail
              go_meet
              exact ⟨rfl, Q10.out.below tt, B10.trans (tt.mono B10.size), Box.below X10.out tt (Box.lt X10.out)⟩
            case rest =>
              obtain ⟨rfl, Q11, B11, X11⟩ := hcut
              obtain ⟨c0, -⟩ := Box.twelve X11
              have xl := Box.lt X11
              clear Q10 X10 zS
              replace Q11 := fhid Q11
              go_wp2_with fail
              go_loopw [133] (fun i wr => ∃ k : Nat, k ≤ c.names.length ∧ i = .int .i64 (k : Nat) ∧ PB wr q P2 ∧ Below w.heap.size w wr) (fun i _ => c.names.length - (intOf i).toNat)
              case atStart => exact ⟨0, Nat.zero_le _, rfl, Q11.out, B11⟩
              case round =>
                obtain ⟨k, hk, rfl, hQ, hBk⟩ := hrel
                have k0 : (0 : Int) ≤ k := by omega
                by_cases hlt : k < c.names.length
                · have k1 : (k : Int) < c.names.length := by omega
                  have hkL : k < P2.L.length := by omega
                  have hnd := Node_any q P2 k wr hQ hGP.l1
                  rw [node_here hkL] at hnd
                  obtain ⟨n0, n1, n2, n3, n4, n5⟩ := hGP.ns _ (List.getElem_mem hkL)
                  generalize P2.L[k] = nd at *
                  obtain ⟨s, si, ti⟩ := nd
                  simp only at n0 n1 n2 n3 n4 n5
                  unfold nv at hnd
                  have f0 : ¬ s < 0 := by omega
                  have f1 : ¬ (7 : Int) < s := by omega
                  have f2 : ¬ si < 0 := by omega
                  have f3 : ¬ P2.now < si := by omega
                  have f4 : ¬ ti < 0 := by omega
                  have g0 : decide (s < 0) = false := decide_eq_false f0
                  have g1 : decide (s > 7) = false := decide_eq_false f1
                  have g2 : decide (si < 0) = false := decide_eq_false f2
                  have g3 : decide (si > P2.now) = false := decide_eq_false f3
                  have g4 : decide (ti < 0) = false := decide_eq_false f4
                  clear f0 f1 f2 f3 f4 n0 n1 n2 n3 n4 n5
                  go_upto_region 25 with (go_at_call 13; (with_reducible refine hnd.mono ?_); rintro e w12 ⟨rfl, b12⟩)
                  have m12 := (Below.refl w12.heap.size w12).alloc (Nat.le_refl _) (.cells #[.int .i64 s, .int .i64 si, .int .i64 ti] TNd)
                  have Z12 : NB (w12.alloc (.cells #[.int .i64 s, .int .i64 si, .int .i64 ti] TNd)) w12.heap.size TNd (s, si, ti) := NB.new w12 TNd (s, si, ti)
                  have T12 := b12.trans (m12.mono b12.size)
                  have Q12 := hQ.below T12
                  have B12 := hBk.trans (T12.mono hBk.size)
                  clear hnd b12 m12 T12 hQ hBk
                  generalize w12.alloc _ = W12 at *
                  generalize w12.heap.size = nb at *
                  replace Q12 := fhid Q12
                  go_cut [170] (fun s170 wx => s170 = .bool false ∧ PB wx q P2 ∧ Below w.heap.size w wx)
                  case first =>
                    have tt : Below W12.heap.size W12 W12.drew := (Below.refl _ _).drew
                    have z : W12.drew.cell? ⟨nb, 0, none⟩ = some (.int .i64 s) ∧ W12.drew.cell? ⟨nb, 1, none⟩ = some (.int .i64 si) ∧ W12.drew.cell? ⟨nb, 2, none⟩ = some (.int .i64 ti) := by
                      obtain ⟨g0, g1, g2, -⟩ := (Z12.below tt Z12.facts.2.2.2.2.2.2).facts
                      exact ⟨g0, g1, g2⟩
                    refine wp_region_noPanic ?_
                    refine wp_region_held_drew (S := (fun W => W.cell? ⟨nb, 0, none⟩ = some (.int .i64 s) ∧ W.cell? ⟨nb, 1, none⟩ = some (.int .i64 si) ∧ W.cell? ⟨nb, 2, none⟩ = some (.int .i64 ti))) (by kernel_rfl) z (fun hHeld => ?_)
                    refine tk 0 (v := ?_) ?_ ?_ fun _ _ _ h => h
                    rotate_left
                    · (intro W hSw; (try dsimp only at hSw); go_simp <;> with_reducible rfl)
                    try simp only [Act.put, List.setIfInBounds_toArray, List.set_cons_zero, List.set_cons_succ]
                    refine tk 1 (v := ?_) ?_ ?_ fun _ _ _ h => h
                    rotate_left
                    · (intro W hSw; (try dsimp only at hSw); go_simp <;> with_reducible rfl)
                    try simp only [Act.put, List.setIfInBounds_toArray, List.set_cons_zero, List.set_cons_succ]
                    refine tk 2 (v := ?_) ?_ ?_ fun _ _ _ h => h
                    rotate_left
                    · (intro W hSw; (try dsimp only at hSw); go_simp <;> with_reducible rfl)
                    try simp only [Act.put, List.setIfInBounds_toArray, List.set_cons_zero, List.set_cons_succ]
                    refine tk 3 (v := ?_) ?_ ?_ fun _ _ _ h => h
                    rotate_left
                    · (intro W hSw; (try dsimp only at hSw); go_simp <;> with_reducible rfl)
                    try simp only [Act.put, List.setIfInBounds_toArray, List.set_cons_zero, List.set_cons_succ]
                    refine tk 4 (v := ?_) ?_ ?_ fun _ _ _ h => h
                    rotate_left
                    · (intro W hSw; (try dsimp only at hSw); go_simp <;> with_reducible rfl)
                    try simp only [Act.put, List.setIfInBounds_toArray, List.set_cons_zero, List.set_cons_succ]
                    refine tk 5 (v := ?_) ?_ ?_ fun _ _ _ h => h
                    rotate_left
                    · (intro W hSw; (try dsimp only at hSw); go_simp <;> with_reducible rfl)
                    try simp only [Act.put, List.setIfInBounds_toArray, List.set_cons_zero, List.set_cons_succ]
                    refine tk 6 (v := ?_) ?_ ?_ fun _ _ _ h => h
                    rotate_left
                    · (intro W hSw; (try dsimp only at hSw); go_simp <;> with_reducible rfl)
                    try simp only [Act.put, List.setIfInBounds_toArray, List.set_cons_zero, List.set_cons_succ]
                    refine tk 7 (v := ?_) ?_ ?_ fun _ _ _ h => h
                    rotate_left
                    · (intro W hSw; (try dsimp only at hSw); go_simp <;> with_reducible rfl)
                    try simp only [Act.put, List.setIfInBounds_toArray, List.set_cons_zero, List.set_cons_succ]
                    refine tk 8 (v := ?_) ?_ ?_ fun _ _ _ h => h
                    rotate_left
                    · (intro W hSw; (try dsimp only at hSw); go_simp <;> with_reducible rfl)
                    try simp only [Act.put, List.setIfInBounds_toArray, List.set_cons_zero, List.set_cons_succ]
                    refine tk 9 (v := ?_) ?_ ?_ fun _ _ _ h => h
                    rotate_left
                    · (intro W hSw; (try dsimp only at hSw); go_simp <;> with_reducible rfl)
                    try simp only [Act.put, List.setIfInBounds_toArray, List.set_cons_zero, List.set_cons_succ]
                    refine tk 10 (v := ?_) ?_ ?_ fun _ _ _ h => h
                    rotate_left
                    · (intro W hSw; (try dsimp only at hSw); go_simp <;> with_reducible rfl)
                    try simp only [Act.put, List.setIfInBounds_toArray, List.set_cons_zero, List.set_cons_succ]
                    refine tk 11 (v := ?_) ?_ ?_ fun _ _ _ h => h
                    rotate_left
                    · (intro W hSw; (try dsimp only at hSw); go_simp <;> with_reducible rfl)
                    try simp only [Act.put, List.setIfInBounds_toArray, List.set_cons_zero, List.set_cons_succ]
                    refine tk 12 (v := ?_) ?_ ?_ fun _ _ _ h => h
                    rotate_left
                    · (intro W hSw; (try dsimp only at hSw); go_simp <;> with_reducible rfl)
                    try simp only [Act.put, List.setIfInBounds_toArray, List.set_cons_zero, List.set_cons_succ]
                    refine tk 13 (v := ?_) ?_ ?_ fun _ _ _ h => h
                    rotate_left
                    · (intro W hSw; (try dsimp only at hSw); go_simp <;> with_reducible rfl)
                    try simp only [Act.put, List.setIfInBounds_toArray, List.set_cons_zero, List.set_cons_succ]
                    refine tk 14 (v := ?_) ?_ ?_ fun _ _ _ h => h
                    rotate_left
                    · (intro W hSw; (try dsimp only at hSw); go_simp <;> with_reducible rfl)
                    try simp only [Act.put, List.setIfInBounds_toArray, List.set_cons_zero, List.set_cons_succ]
                    refine tk 15 (v := ?_) ?_ ?_ fun _ _ _ h => h
                    rotate_left
                    · (intro W hSw; (try dsimp only at hSw); go_simp <;> with_reducible rfl)
                    try simp only [Act.put, List.setIfInBounds_toArray, List.set_cons_zero, List.set_cons_succ]
                    refine tk 16 (v := ?_) ?_ ?_ fun _ _ _ h => h
                    rotate_left
                    · (intro W hSw; (try dsimp only at hSw); go_simp <;> with_reducible rfl)
                    try simp only [Act.put, List.setIfInBounds_toArray, List.set_cons_zero, List.set_cons_succ]
                    refine tk 17 (v := ?_) ?_ ?_ fun _ _ _ h => h
                    rotate_left
                    · (intro W hSw; (try dsimp only at hSw); go_simp <;> with_reducible rfl)
                    try simp only [Act.put, List.setIfInBounds_toArray, List.set_cons_zero, List.set_cons_succ]
                    refine tk 18 (v := ?_) ?_ ?_ fun _ _ _ h => h
                    rotate_left
                    · (intro W hSw; (try dsimp only at hSw); go_simp <;> with_reducible rfl)
                    try simp only [Act.put, List.setIfInBounds_toArray, List.set_cons_zero, List.set_cons_succ]
                    refine tk 19 (v := ?_) ?_ ?_ fun _ _ _ h => h
                    rotate_left
                    · (intro W hSw; (try dsimp only at hSw); go_simp <;> with_reducible rfl)
                    try simp only [Act.put, List.setIfInBounds_toArray, List.set_cons_zero, List.set_cons_succ]
                    refine tk 20 (v := ?_) ?_ ?_ fun _ _ _ h => h
                    rotate_left
                    · (intro W hSw; (try dsimp only at hSw); go_simp <;> with_reducible rfl)
                    try simp only [Act.put, List.setIfInBounds_toArray, List.set_cons_zero, List.set_cons_succ]
                    refine wpAnyH_ready (rs := [21]) (by kernel_rfl) (by simp) (AllReadyH.cons (by (rw [List.getElem?_toArray]; exact rfl)) (fun K hK => ?_) AllReadyH.nil)
                    go_simp
                    go_at_call 12
                    with_reducible refine (hnow.out _ (Q12.out.below tt)).mono ?_
                    rintro e wn ⟨rfl, rfl⟩
                    go_simp
                    refine hK.out _ _ z (fun hHeld => ?_)
                    clear hK K
                    try simp only [Act.put, List.setIfInBounds_toArray, List.set_cons_zero, List.set_cons_succ]
                    refine tk 22 (v := ?_) ?_ ?_ fun _ _ _ h => h
                    rotate_left
                    · (intro W hSw; (try dsimp only at hSw); go_simp <;> with_reducible rfl)
                    try simp only [Act.put, List.setIfInBounds_toArray, List.set_cons_zero, List.set_cons_succ]
                    refine tk 23 (v := ?_) ?_ ?_ fun _ _ _ h => h
                    rotate_left
                    · (intro W hSw; (try dsimp only at hSw); go_simp <;> with_reducible rfl)
                    try simp only [Act.put, List.setIfInBounds_toArray, List.set_cons_zero, List.set_cons_succ]
                    refine tk 24 (v := ?_) ?_ ?_ fun _ _ _ h => h
                    rotate_left
                    · (intro W hSw; (try dsimp only at hSw); go_simp <;> with_reducible rfl)
                    try simp only [Act.put, List.setIfInBounds_toArray, List.set_cons_zero, List.set_cons_succ]
                    refine tk 25 (v := ?_) ?_ ?_ fun _ _ _ h => h
                    rotate_left
                    · (intro W hSw; (try dsimp only at hSw); go_simp <;> with_reducible rfl)
                    try simp only [Act.put, List.setIfInBounds_toArray, List.set_cons_zero, List.set_cons_succ]
                    refine tk 26 (v := ?_) ?_ ?_ fun _ _ _ h => h
                    rotate_left
                    · (intro W hSw; (try dsimp only at hSw); go_simp <;> with_reducible rfl)
                    try simp only [Act.put, List.setIfInBounds_toArray, List.set_cons_zero, List.set_cons_succ]
                    refine tk 27 (v := ?_) ?_ ?_ fun _ _ _ h => h
                    rotate_left
                    · (intro W hSw; (try dsimp only at hSw); go_simp <;> with_reducible rfl)
                    try simp only [Act.put, List.setIfInBounds_toArray, List.set_cons_zero, List.set_cons_succ]
                    refine tk 28 (v := ?_) ?_ ?_ fun _ _ _ h => h
                    rotate_left
                    · (intro W hSw; (try dsimp only at hSw); go_simp <;> with_reducible rfl)
                    try simp only [Act.put, List.setIfInBounds_toArray, List.set_cons_zero, List.set_cons_succ]
                    refine wpAnyH_done (by kernel_rfl) ?_ _
                    refine NoPanic.normal ?_
                    go_wp2_with fail
                    go_meet
                    exact ⟨rfl, Q12.out.below tt, B12.trans (tt.mono B12.size)⟩
                  case rest =>
                    obtain ⟨rfl, Q13, B13⟩ := hcut
                    clear Q12 Z12
                    replace Q13 := fhid Q13
                    go_wp2_with fail
                    go_roundw
                    case rel => exact ⟨k + 1, by omega, by go_num, Q13.out, B13⟩
                    case measure => simp [intOf]; omega
                · have k1 : ¬ (k : Int) < c.names.length := by omega
                  go_wp2_with (go_at_call 5; (with_reducible refine (hal _ hBk).mono ?_); rintro e w14 ⟨rfl, b14⟩)
                  go_ret
                  exact ⟨rfl, hBk.trans (b14.mono hBk.size)⟩
end Go.Proofs.YtmnmcikbbfcjcaaGreatDoor.Ps
/-
  PROVED: PoolLoads: of any bytes a pool is loaded, or refused; one that is loaded is saved to the same bytes, and is right, for every config, script and turned byte.
  Conditions: the library's tables read as the program's text lays them (the card ties them); nothing else.
-/
namespace Go.Proofs.YtmnmcikbbfcjcaaGreatDoor.Ps
open Go.ChangeShapes Go.WideShapes Go.ChangeAt Go.WideMaps Go.WideElems Go.RowKit
set_option maxRecDepth 100000 in
theorem poolloads_lifted (os : Os) (started : os.Started) (H : Type) (enc : TypeId × Value → H) :
    ReturnsInHanded {} Tryz.checked os 3 .any (fun w args => (Rows.poolLoadsSpec.pre enc Tryz.prog Tryz.f3 [] false w args ∧ laidMetH Tryz.prog laidList w) ∧ sizedMet enc Tryz.prog Tryz.f3 (OpenSpec.ofChange Rows.poolLoadsSpec) false w args)
      (Rows.poolLoadsSpec.post enc Tryz.prog Tryz.f3 false true false false) := by
  refine returnsInHanded_of_change_and (C := Tryz.checked) (X := fun w _ => laidMetH Tryz.prog laidList w) (fun _ _ _ hh h => h.of_heap hh) own started (by kernel_rfl) Tryz.func3
    (ChangeSpec.witness_shaped (enc := enc) (C := Tryz.checked) (os := os) (X := fun w _ => laidMetH Tryz.prog laidList w) false (World.laidAll Tryz.prog os laidList) #[.agg #[.slice none 0 0, .slice none 0 0, .slice none 0 0, .slice none 0 0, .int .i64 0, .int .i64 0, .int .i64 0, .int .i64 0, .int .i64 0, .int .i64 0, .int .i64 0, .int .i64 0], .slice none 0 0, .agg #[.int .i64 0, .int .i64 0]] 8 (World.laidAll_os _ _ _) (World.shaped_of_ZipB (by kernel_rfl) (by kernel_rfl)) (by kernel_rfl) (by kernel_rfl) (by kernel_rfl) (lay_met os _)) ?_
  intro W base args ds gs before hval0 hW _ _ hL _
  have hval : ∀ (j : Nat) t v, Tryz.f3.params[j]? = some t → args[j]? = some v → Value.okWide Tryz.prog W .any base t v := hval0
  have hW' := hW
  obtain ⟨p, q, hA0, hV, rfl, hfz, hnd⟩ := hW
  have hA : DataW.TrodAll enc Tryz.prog W 0 (fun _ => true) true Tryz.f3.params.toList args.toList ds p := hA0
  rw [Tryz.params3] at hA hval
  obtain ⟨v0, v1, v2, d0, d1, d2, p0, p1, p2, rfl, rfl, rfl, h0, h1, h2⟩ := trodAll_three hA
  obtain ⟨rfl, rfl⟩ := trodVars_none hV
  have hT := tab_of hL
  obtain ⟨c0, cr0⟩ := open_conf (hval 0 28 v0 rfl rfl) h0
  obtain ⟨A1, l1, cp1, rfl, rd1, ok1⟩ := open_acts (hval 1 29 v1 rfl rfl) h1
  obtain ⟨x2, y2, rfl, hx2, hy2⟩ := Ns.open_at (hval 2 30 v2 rfl rfl) h2
  have hlt : ∀ z ∈ p0 ++ (p1 ++ p2), z.block < W.heap.size := fun z hz => hW'.lt z (by simp [hz])
  clear hA0 hval0
  simp only [List.append_nil, List.append_assoc] at hW'
  refine (loads_walk v0 c0 A1 l1 cp1 x2 y2 W hT cr0 rd1 ok1 hx2 hy2).mono fun e W' ⟨he, hb⟩ => ?_
  subst he
  refine ⟨_, rfl, ⟨_, _, _, [], p0 ++ (p1 ++ p2), [], hW', trodAll_mk1 (shut_bool Tryz.underlying4 _), ?_, rfl, hb.frame _, fun h => by cases h⟩⟩
  exact trodAll_mk3 (Below.trod laidOut (by kernel_rfl) (of_decide_eq_true (by kernel_rfl)) h0 hb (fun z hz => hlt z (by simp [hz]))) (Below.trod laidOut (by kernel_rfl) (of_decide_eq_true (by kernel_rfl)) h1 hb (fun z hz => hlt z (by simp [hz]))) (Below.trod laidOut (by kernel_rfl) (of_decide_eq_true (by kernel_rfl)) h2 hb (fun z hz => hlt z (by simp [hz])))

theorem poolloads_holds : Rows.PoolLoadsSaid :=
  OpenClaim.holds_of_wide 3 Tryz.f3 rfl rfl rfl rfl rfl rfl rfl ⟨rfl, rfl, rfl, rfl, rfl⟩ rfl rfl rfl rfl rfl (by kernel_rfl) Tryz.func3 (by kernel_rfl)
    (of_decide_eq_true (by kernel_rfl)) (by unfold Func.isWrapper; rw [if_neg (of_decide_eq_false (by kernel_rfl))]; exact ⟨rfl, rfl⟩)
    (fun os started H enc _ => poolloads_lifted os started H enc)
theorem poolloads_card : Rows.PoolLoadsCardSaid :=
  Claim7.holds_tied_plain_at .later [] [.data, .data, .data, .data, .data, .pinned] true Rows.poolLoadsCard.stood.harness false
    poolloads_holds (fun _ h => by cases h) (by kernel_rfl) (fun _ h => by cases h) poolLoads_row_tie rfl ⟨rfl, rfl⟩ (by kernel_rfl) rfl
    (fun f fn hf hfn => by
      obtain rfl : f = 3 := Option.some.inj ((show Tryz.prog.funcNamed "marlinspike/marlinspikelaw12.PoolLoads" = some 3 by kernel_rfl).symm.trans hf) |>.symm
      obtain rfl : fn = Tryz.f3 := (Option.some.inj (Tryz.func3.symm.trans hfn)).symm
      exact ⟨by kernel_rfl, fun j t ht => by
        rw [Tryz.params3] at ht
        have hm : t ∈ [28, 29, 30] := by simpa using Array.mem_of_getElem? ht
        have hall : ([28, 29, 30].all fun u => !Tryz.prog.wantsStandIn u) = true := by kernel_rfl
        exact (show Tryz.prog.wantsStandIn t = false by simpa using List.all_eq_true.1 hall t hm)⟩)
    (by kernel_rfl)
end Go.Proofs.YtmnmcikbbfcjcaaGreatDoor.Ps
namespace Go.Proofs.YtmnmcikbbfcjcaaGreatDoor
open Go.RowKit
theorem pool_loads_card : Rows.PoolLoadsCardSaid := Ps.poolloads_card
end Go.Proofs.YtmnmcikbbfcjcaaGreatDoor
