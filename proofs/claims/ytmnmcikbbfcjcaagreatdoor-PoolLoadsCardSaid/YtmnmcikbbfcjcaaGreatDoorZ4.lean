/-
  Parts: ZLoadR ZLoad.
-/
import Derived.Test.YtmnmcikbbfcjcaaGreatDoorZ1
import Derived.Test.YtmnmcikbbfcjcaaGreatDoorZ3
import Derived.Test.YtmnmcikbbfcjcaaGreatDoorC2
import Derived.Deep.RegionHeld3
import Derived.BigRegion
set_option linter.unusedSimpArgs false
set_option linter.unusedVariables false
/-
  A reader of the call's own: what it stands in, and what else may turn.
-/
namespace Go.Proofs.YtmnmcikbbfcjcaaGreatDoor.Ps
open Go.RowKit Go.Shelf Vs Ns

theorem fx_turns {w w' : World} {g : Nat} (h : Cs.Turns w w' g) : FX (At3 g) w w' := ⟨h.os, h.tape, h.output, h.size, fun k hk hx => h.block k hk (fun e => hx (by injection e))⟩
/-- A reader in block g, all of which lies from block B on. -/
def RdG (B : Nat) (w : World) (g : Nat) (l : List UInt8) (s : St) : Prop := Cs.Rdr w g l s.1 s.2.1 s.2.2 ∧ B ≤ g ∧ ∃ A cap, w.cell? ⟨g, 0, none⟩ = some (.slice A l.length cap) ∧ ∀ a, A = some a → B ≤ a.block
theorem RdG.lt {B : Nat} {w : World} {g : Nat} {l : List UInt8} {s : St} (h : RdG B w g l s) : g < w.heap.size := h.1.lt
theorem RdG.below {B : Nat} {w w' : World} {g : Nat} {l : List UInt8} {s : St} (h : RdG B w g l s) (hb : Below w.heap.size w w') : RdG B w' g l s := by
  obtain ⟨h1, h2, A, cap, h3, h4⟩ := h
  exact ⟨h1.below hb, h2, A, cap, (hb.cell (p := ⟨g, 0, none⟩) h1.lt).trans h3, h4⟩
theorem RdG.drew {B : Nat} {w : World} {g : Nat} {l : List UInt8} {s : St} (h : RdG B w g l s) : RdG B w.drew g l s := h.below ((Below.refl _ _).drew)
/-- A block below B turns. -/
theorem RdG.fx {B : Nat} {w w' : World} {g q : Nat} {l : List UInt8} {s : St} (h : RdG B w g l s) (hf : FX (At3 q) w w') (hq : q < B) : RdG B w' g l s := by
  obtain ⟨⟨A', cap', r1, r2, r3, r4, r5, r6⟩, h2, A, cap, h3, h4⟩ := h
  have hc := r1.c0
  rw [h3] at hc
  injection hc with hc
  injection hc with e1 _ e2
  subst e1 e2
  have hgb : w'.heap[g]? = w.heap[g]? := hf.block g r1.lt (by show ¬ g = q; omega)
  refine ⟨⟨A, cap, hgb.trans r1, fun h0 => ?_, r3, r4, r5, r6⟩, h2, A, cap, (World.cell?_of_block hgb).trans h3, h4⟩
  obtain ⟨b, o, e, hb, hcl⟩ := r2 h0
  have hbB := h4 _ e
  refine ⟨b, o, e, Nat.lt_of_lt_of_le hb hf.size, fun j hj => ?_⟩
  exact (World.cell?_of_block (hf.block b hb (by show ¬ b = q; have : B ≤ b := hbB; omega))).trans (hcl j hj)
theorem RdG.box {B : Nat} {w : World} {g : Nat} {l : List UInt8} {s : St} (h : RdG B w g l s) : ∃ T cs, Box w g T cs ∧ T ≠ TNd := by
  obtain ⟨⟨A', cap', r1, _⟩, _⟩ := h
  exact ⟨101, [_, _, _, _], r1, by decide⟩
/-- It has been read. -/
theorem RdG.turn {B : Nat} {w w' : World} {g : Nat} {l : List UInt8} {s s' : St} (h : RdG B w g l s) (hr : Cs.Rdr w' g l s'.1 s'.2.1 s'.2.2) (ht : Cs.Turns w w' g) : RdG B w' g l s' := by
  obtain ⟨h1, h2, A, cap, h3, h4⟩ := h
  exact ⟨hr, h2, A, cap, (ht.head h1.lt).trans h3, h4⟩
theorem rd_in {B : Nat} {w : World} {g : Nat} {l : List UInt8} {s : St} (low high : Int) {n : Int} {s' : St} (h : RdG B w g l s) (hs : Cs.inStep l s.1 s.2.1 s.2.2 low high = (n, s')) :
    Calls Tryz.prog 21 #[.pointer (some ⟨g, 0, none⟩), .int .i64 low, .int .i64 high] w fun e w' => e = .returned (.int .i64 n) ∧ RdG B w' g l s' ∧ FX (At3 g) w w' := by
  refine (Cs.in_any g l s.1 s.2.1 s.2.2 low high w h.1).mono ?_
  rintro e w' ⟨he, hr, ht⟩
  rw [hs] at he hr
  exact ⟨he, h.turn hr ht, fx_turns ht⟩
set_option maxHeartbeats 400000 in
/-- The call answers a reader of its own, all of which is new. -/
theorem newr_any (A : Option Addr) (l : List UInt8) (c : Nat) (w : World) (h : Cs.Seg w w.heap.size A l) (hl : l.length ≤ 140737488355328) :
    Calls Tryz.prog 20 #[.slice A l.length c] w fun e w' => ∃ g, e = .returned (.pointer (some ⟨g, 0, none⟩)) ∧ RdG w.heap.size w' g l (0, 0, 0) ∧ Below w.heap.size w w' := by
  have cl := Cs.Clone_any A l c w h hl
  clear h
  go_enter Tryz.func20, Tryz.ntmps20
  go_wp2_with (go_at_call 43; (with_reducible refine cl.mono ?_); rintro e w1 ⟨v1, rfl, o1, b1⟩; obtain ⟨A1, c1, rfl, hc1, _, s1⟩ := o1.shape)
  go_ret
  have hA : ∀ a, A1 = some a → w.heap.size ≤ a.block ∧ a.block < w1.heap.size := by
    rintro a rfl
    rcases o1.2 with ⟨hv, _⟩ | ⟨g, cap, cur, hv, hg, hh, _⟩
    · cases hv
    · injection hv with hA _ _
      injection hA with hA
      subst hA
      exact ⟨hg, (Array.getElem?_eq_some_iff.1 hh).1⟩
  have hX := Box.new w1 101 [.slice A1 l.length c1, .int .i64 0, .int .i64 0, .int .i64 0]
  refine ⟨w1.heap.size, rfl, ⟨⟨A1, c1, hX, ?_, hc1, ?_, Nat.zero_le _, hl⟩, b1.size, A1, c1, Box.cell hX 0, fun a ha => (hA a ha).1⟩, b1.alloc b1.size _⟩
  · rw [World.size_alloc]
    exact (s1.keep fun p hp => World.cell?_alloc_lt _ _ _ hp).more (by omega)
  · rintro a ha e
    have := (hA a ha).2
    omega
/-- What Load comes to. -/
def LoadPost (w : World) (c : Cfg) (l : List UInt8) (e : Ending) (w' : World) : Prop := Below w.heap.size w w' ∧
  ((rightC c = false ∧ e = .returned (.tuple #[.pointer none, .int .i64 1])) ∨
   (rightC c = true ∧ (endR l c.names.length).1 ≠ 0 ∧ e = .returned (.tuple #[.pointer none, .int .i64 3])) ∨
   (rightC c = true ∧ (endR l c.names.length).1 = 0 ∧ (bodyR l c.names.length).2.1 ≤ l.length ∧ ∃ p, e = .returned (.tuple #[.pointer (some ⟨p, 0, none⟩), .int .i64 0]) ∧ w.heap.size ≤ p ∧ PB w' p {newP c with L := (bodyR l c.names.length).1, now := (headR l).1}))
/-- What has been read, and behind it what has not. -/
def partL (l : List UInt8) (N k : Nat) : List N3 := (bodyR l k).1 ++ List.replicate (N - k) (0, 0, 0)
theorem partL_len (l : List UInt8) (N k : Nat) (hk : k ≤ N) : (partL l N k).length = N := by
  unfold partL bodyR
  rw [List.length_append, nodesR_len, List.length_replicate]
  omega
theorem partL_set (l : List UInt8) (N k : Nat) (hk : k < N) : (partL l N k).set k (nodeR l (headR l).1 (bodyR l k).2).1 = partL l N (k + 1) := by
  have hl : (bodyR l k).1.length = k := nodesR_len _ _ _ _
  have h1 : (bodyR l (k + 1)).1 = (bodyR l k).1 ++ [(nodeR l (headR l).1 (bodyR l k).2).1] := rfl
  unfold partL
  rw [h1, List.set_append_right _ _ (by omega), hl, Nat.sub_self, show N - k = (N - (k + 1)) + 1 by omega, List.replicate_succ, List.set_cons_zero, List.append_assoc]
  rfl
theorem body_next (l : List UInt8) (k : Nat) : (bodyR l (k + 1)).2 = (nodeR l (headR l).1 (bodyR l k).2).2 := rfl
theorem partL_zero (l : List UInt8) (N : Nat) : partL l N 0 = List.replicate N (0, 0, 0) := by
  unfold partL; simp [bodyR, nodesR]
theorem partL_all (l : List UInt8) (N : Nat) : partL l N N = (bodyR l N).1 := by
  unfold partL; simp
end Go.Proofs.YtmnmcikbbfcjcaaGreatDoor.Ps
/-
  Load, walked.
-/
namespace Go.Proofs.YtmnmcikbbfcjcaaGreatDoor.Ps
open Go.RowKit Go.Shelf Vs Ns

/-- The pool's object and its row, apart. -/
theorem PBB.open_ {B : Nat} {w : World} {p : Nat} {P : Pl} (h : PBB B w p P) (h1 : 1 ≤ P.L.length) : ∃ gn cap, Box w p TPool [.slice (some ⟨gn, 0, none⟩) P.L.length cap, .int .i64 P.now, .int .i64 P.boot, .int .i64 P.stop, .int .i64 P.retry] ∧ OwnN w B (.slice (some ⟨gn, 0, none⟩) P.L.length cap) P.L ∧ gn ≠ p := by
  obtain ⟨_, A, cap, hb, hr⟩ := h
  have hO : OwnN w B (.slice A P.L.length cap) P.L := hr
  obtain ⟨gn, c', e, _⟩ := hO.block h1
  injection e with e1 _ e2
  subst e1 e2
  refine ⟨gn, cap, hb, hr, fun e => ?_⟩
  have := own_tag hr hb pool_node
  rw [e] at this
  exact this rfl
theorem cell_off {w : World} {b b' : Nat} (i j : Nat) (v : Value) (h : b' ≠ b) : (w.setCell ⟨b, i, none⟩ v).cell? ⟨b', j, none⟩ = w.cell? ⟨b', j, none⟩ := World.cell?_of_block (Below.heap_setCell _ _ _ _ h)
theorem set3i {B : Nat} {a w : World} (h : Below B a w) {b : Nat} (hb : B ≤ b) (i j k : Nat) (x y z : Value) : Below B a (((w.setCell ⟨b, i, none⟩ x).setCell ⟨b, j, none⟩ y).setCell ⟨b, k, none⟩ z) :=
  ((h.setCell (p := ⟨b, i, none⟩) hb _).setCell (p := ⟨b, j, none⟩) hb _).setCell (p := ⟨b, k, none⟩) hb _
/-- A pool whose row lies in a block that is named. -/
structure PX (B : Nat) (w : World) (p gn cap N : Nat) (P : Pl) : Prop where
  box : Box w p TPool [.slice (some ⟨gn, 0, none⟩) N cap, .int .i64 P.now, .int .i64 P.boot, .int .i64 P.stop, .int .i64 P.retry]
  own : OwnN w B (.slice (some ⟨gn, 0, none⟩) N cap) P.L
  len : P.L.length = N
  ne : gn ≠ p
section
variable {B : Nat} {w w' : World} {p gn cap N : Nat} {P : Pl}
theorem PX.below (h : PX B w p gn cap N P) (hb : Below w.heap.size w w') : PX B w' p gn cap N P := ⟨Box.below h.box hb (Box.lt h.box), ownsRow_below h.own hb, h.len, h.ne⟩
theorem PX.fx {q : Nat} (h : PX B w p gn cap N P) (hf : FX (At3 q) w w') (hne : p ≠ q) (hq : ∃ T cs, Box w q T cs ∧ T ≠ TNd) : PX B w' p gn cap N P := by
  refine ⟨hf.box h.box hne, own_fx h.own hf fun k hk hx => ?_, h.len, h.ne⟩
  obtain rfl : k = q := hx
  obtain ⟨T, cs, hq, hT⟩ := hq
  exact own_tag h.own hq hT hk.symm
theorem PX.apart {q : Nat} (h : PX B w p gn cap N P) (hq : ∃ T cs, Box w q T cs ∧ T ≠ TNd) : gn ≠ q := by
  obtain ⟨T, cs, hq, hT⟩ := hq
  intro e
  have := own_tag h.own hq hT
  rw [← e] at this
  exact this rfl
theorem PX.now_ (h : PX B w p gn cap N P) (now : Int) : PX B (w.setCell ⟨p, 1, none⟩ (.int .i64 now)) p gn cap N {P with now := now} := ⟨Box.set h.box 1 _, own_set h.own h.box pool_node 1 _, h.len, h.ne⟩
theorem PX.put (h : PX B w p gn cap N P) {k : Nat} (hk : k < N) (x : N3) (L' : List N3) (hL : P.L.set k x = L') :
    PX B (((w.setCell ⟨gn, k * 3, none⟩ (.int .i64 x.1)).setCell ⟨gn, k * 3 + 1, none⟩ (.int .i64 x.2.1)).setCell ⟨gn, k * 3 + 2, none⟩ (.int .i64 x.2.2)) p gn cap N {P with L := L'} := by
  subst hL
  have hO := h.own
  rw [← h.len] at hO
  have h1 := hO.put (by rw [h.len]; exact hk) x
  rw [h.len] at h1
  exact ⟨((h.box.other (a := ⟨gn, k * 3, none⟩) (Ne.symm h.ne) _).other (a := ⟨gn, k * 3 + 1, none⟩) (Ne.symm h.ne) _).other (a := ⟨gn, k * 3 + 2, none⟩) (Ne.symm h.ne) _, h1, by show (P.L.set k x).length = N; rw [List.length_set, h.len], h.ne⟩
theorem PX.pb (h : PX B w p gn cap N P) : PB w p P := by
  refine ⟨some ⟨gn, 0, none⟩, cap, ?_, ?_⟩
  · rw [h.len]; exact h.box
  · have := h.own
    unfold OwnN at this
    rw [h.len] at this ⊢
    exact ownsRow_base this (Nat.zero_le _)
/-- The cells of one node. -/
theorem PX.node (h : PX B w p gn cap N P) {k : Nat} (hk : k < N) : ∃ v0 v1 v2, w.cell? ⟨gn, k * 3, none⟩ = some v0 ∧ w.cell? ⟨gn, k * 3 + 1, none⟩ = some v1 ∧ w.cell? ⟨gn, k * 3 + 2, none⟩ = some v2 ∧ w.frozen? ⟨gn, k * 3, none⟩ = false ∧ w.frozen? ⟨gn, k * 3 + 1, none⟩ = false ∧ w.frozen? ⟨gn, k * 3 + 2, none⟩ = false ∧ gn < w.heap.size ∧ B ≤ gn := by
  have hO := h.own
  rw [← h.len] at hO
  have hk' : k < P.L.length := by rw [h.len]; exact hk
  obtain ⟨b, o, e, _, c0, c1, c2⟩ := RdS.vec (row_reads hO) hk'
  injection e with e
  injection e with e1 e2
  subst e1 e2
  simp only [Nat.zero_add] at c0 c1 c2
  exact ⟨_, _, _, c0, c1, c2, (hO.free _).1, (hO.free _).1, (hO.free _).1, (hO.free 0).2.1, (hO.free 0).2.2⟩
end
theorem PBB.px {B : Nat} {w : World} {p N : Nat} {P : Pl} (h : PBB B w p P) (hN : P.L.length = N) (h1 : 1 ≤ N) : ∃ gn cap, PX B w p gn cap N P := by
  obtain ⟨gn, cap, hb, hO, hne⟩ := h.open_ (by omega)
  rw [hN] at hb hO
  exact ⟨gn, cap, hb, hO, hN, hne⟩
set_option maxRecDepth 100000 in
set_option maxHeartbeats 16000000 in
theorem Load_any (v : Value) (c : Cfg) (A : Option Addr) (l : List UInt8) (cp : Nat) (w : World) (h : CR w v c) (hw : Env w) (hs : Cs.Seg w w.heap.size A l) (hl : l.length ≤ 140737488355328) :
    Calls Tryz.prog 8 #[v, .slice A l.length cp] w (LoadPost w c l) := by
  have hno := fun W (hb : Below w.heap.size w W) hr => New_no v c W (h.below hb) (hw.below hb) hr
  have hyes := fun W (hb : Below w.heap.size w W) hr => New_yes v c W (h.below hb) (hw.below hb) hr
  have hgd := good_of h
  obtain ⟨AN, cN, AV, cV, AP, cP, AQ, cQ, a0, a1, a2, a3, a4, a5, a6, a7, rfl, ev, -, -, -, -⟩ := h
  have hX := Box.new w TConf [.slice AN c.names.length cN, .slice AV c.vecs.length cV, .slice AP c.parts.length cP, .slice AQ c.qos.length cQ, .int .i64 a0, .int .i64 a1, .int .i64 a2, .int .i64 a3, .int .i64 a4, .int .i64 a5, .int .i64 a6, .int .i64 a7]
  have B0 : Below w.heap.size w (w.alloc (.cells #[.slice AN c.names.length cN, .slice AV c.vecs.length cV, .slice AP c.parts.length cP, .slice AQ c.qos.length cQ, .int .i64 a0, .int .i64 a1, .int .i64 a2, .int .i64 a3, .int .i64 a4, .int .i64 a5, .int .i64 a6, .int .i64 a7] TConf)) := (Below.refl _ _).alloc (Nat.le_refl _) _
  have hno0 := hno _ B0
  have hyes0 := hyes _ B0
  clear hno hyes ev hw
  cases hR : rightC c with
  | false =>
    have hn1 := hno0 hR
    have hp := fhid (show ∀ W, Below w.heap.size w W → LoadPost w c l (.returned (.tuple #[.pointer none, .int .i64 1])) W from fun W hb => ⟨hb, .inl ⟨hR, rfl⟩⟩)
    generalize LoadPost w c l = Post at *
    clear hno0 hyes0 hR hs hgd
    go_enter Tryz.func8, Tryz.ntmps8
    go_upto_region 1 with fail
    generalize w.alloc _ = w1 at *
    obtain ⟨c0, c1, c2, c3, c4, c5, c6, c7, c8, c9, c10, c11⟩ := Box.twelve hX
    have xl := Box.lt hX
    replace hX := fhid hX
    go_wp2_with (go_at_call 6; (with_reducible refine hn1.mono ?_); rintro e w2 ⟨rfl, b2⟩)
    exact hp.out _ (B0.trans (b2.mono B0.size))
  | true =>
    have hn1 := hyes0 hR
    have hG := hgd hR
    have hNL : (newP c).L = List.replicate c.names.length (0, 0, 0) := rfl
    have hN1 : 1 ≤ c.names.length := by have := hG.l1; rw [hNL, List.length_replicate] at this; exact this
    have hN2 : c.names.length ≤ 256 := by have := hG.l2; rw [hNL, List.length_replicate] at this; exact this
    have hbad := fhid (show ∀ W, Below w.heap.size w W → (endR l c.names.length).1 ≠ 0 → LoadPost w c l (.returned (.tuple #[.pointer none, .int .i64 3])) W from fun W hb he => ⟨hb, .inr (.inl ⟨hR, he, rfl⟩)⟩)
    have hgood := fhid (show ∀ W p, Below w.heap.size w W → (endR l c.names.length).1 = 0 → (bodyR l c.names.length).2.1 ≤ l.length → w.heap.size ≤ p → PB W p {newP c with L := (bodyR l c.names.length).1, now := (headR l).1} → LoadPost w c l (.returned (.tuple #[.pointer (some ⟨p, 0, none⟩), .int .i64 0])) W from fun W p hb he hle hp hP => ⟨hb, .inr (.inr ⟨hR, he, hle, p, rfl, hp, hP⟩)⟩)
    have hnr := fun W (hb : Below w.heap.size w W) => newr_any A l cp W ((hs.below hb).more hb.size) hl
    obtain ⟨n0, s0, hh⟩ : ∃ n s, headR l = (n, s) := ⟨_, _, rfl⟩
    have hh' : Cs.inStep l 0 0 0 0 1099511627776 = (n0, s0) := hh
    have hb0 : bodyR l 0 = ([], s0) := by unfold bodyR nodesR; rw [hh]
    have hhd : (headR l).1 = n0 := by rw [hh]
    have hstart : ∀ W p gn cap N, PX w.heap.size W p gn cap N (newP c) → PX w.heap.size (W.setCell ⟨p, 1, none⟩ (.int .i64 n0)) p gn cap N {newP c with L := partL l c.names.length 0, now := n0} := fun W p gn cap N h => by
      have := h.now_ n0
      rw [partL_zero]
      exact this
    have hpl := fun k (hk : k ≤ c.names.length) => partL_len l c.names.length k hk
    have hps := fun k (hk : k < c.names.length) => partL_set l c.names.length k hk
    rw [hhd] at hgood hps
    have hbn := fun k => body_next l k
    rw [hhd] at hbn
    have hpa := partL_all l c.names.length
    have hendR : endR l c.names.length = Cs.endStep l (bodyR l c.names.length).2.1 (bodyR l c.names.length).2.2.1 (bodyR l c.names.length).2.2.2 := rfl
    generalize LoadPost w c l = Post at *
    clear hno0 hyes0 hR hs hgd hh hhd
    generalize c.names.length = N at *
    replace hstart := fhid hstart
    replace hps := fhid hps
    replace hpl := fhid hpl
    replace hbn := fhid hbn
    replace hpa := fhid hpa
    replace hendR := fhid hendR
    replace hb0 := fhid hb0
    replace hNL := fhid hNL
    go_enter Tryz.func8, Tryz.ntmps8
    go_upto_region 1 with fail
    generalize w.alloc _ = w1 at *
    obtain ⟨c0, c1, c2, c3, c4, c5, c6, c7, c8, c9, c10, c11⟩ := Box.twelve hX
    have xl := Box.lt hX
    replace hX := fhid hX
    go_upto_region 4 with (go_at_call 6; (with_reducible refine hn1.mono ?_); rintro e w2 ⟨p, rfl, hP, b2⟩)
    have B2 := B0.trans (b2.mono B0.size)
    have P2' : PBB w.heap.size w2 p (newP c) := ⟨Nat.le_trans B0.size hP.1, by obtain ⟨_, A', cap', h1, h2⟩ := hP; exact ⟨A', cap', h1, ownsRow_base h2 B0.size⟩⟩
    have hwp := P2'.1
    obtain ⟨gn, cap, P2⟩ := P2'.px (N := N) (by rw [hNL.out, List.length_replicate]) hN1
    have pl2 := Box.lt P2.box
    obtain ⟨-, -, -, -, -, -, -, -, -, hgn2, hwg⟩ := P2.node (k := 0) (by omega)
    have hgnp := P2.ne
    clear c0 c1 c2 c3 c4 c5 c6 c7 c8 c9 c10 c11 hP xl P2'
    replace P2 := fhid P2
    go_upto_region 5 with (go_at_call 20; (with_reducible refine (hnr _ B2).mono ?_); rintro e w3 ⟨g, rfl, hR3, b3⟩)
    have P3 := P2.out.below b3
    have hgB := hR3.2.1
    have hgp : p < g := Nat.lt_of_lt_of_le pl2 hgB
    have B3 := B2.trans (b3.mono B2.size)
    have hin0 := rd_in 0 1099511627776 hR3 hh'
    have hbx3 := hR3.box
    obtain ⟨-, q1, -, -, -, -, fr1, pl3⟩ := five P3.box
    replace P3 := fhid P3
    replace hR3 := fhid hR3
    replace hbx3 := fhid hbx3
    go_upto_region 6 with (go_at_call 21; (with_reducible refine hin0.mono ?_); rintro e w4 ⟨rfl, hR4, f4⟩
                           have P4 := P3.out.fx f4 (by omega) hbx3.out
                           obtain ⟨-, q1, -, -, -, -, fr1, pl4⟩ := five P4.box)
    have P5 := hstart.out w4 p gn cap N P4
    have R5 : RdG w2.heap.size (w4.setCell ⟨p, 1, none⟩ (.int .i64 n0)) g l s0 := hR4.fx ((FX.of (Below.refl _ _)).set (X := At3 p) (b := p) rfl 1 _) pl2
    have B5 : Below w.heap.size w (w4.setCell ⟨p, 1, none⟩ (.int .i64 n0)) := (B3.trans (f4.below (B := w.heap.size) (fun j hj => by obtain rfl : j = g := hj; have := B2.size; omega) B3.size)).setCell (p := ⟨p, 1, none⟩) hwp _
    clear P4 q1 fr1 pl4 hR4 f4
    generalize w4.setCell _ _ = W5 at *
    obtain ⟨q0, -, -, -, -, -, -, pl5⟩ := five P5.box
    have i0 : (N : Int) ≤ 256 := by omega
    replace P5 := fhid P5
    replace R5 := fhid R5
    go_wp2_with fail
    go_loopw [30] (fun i wr => ∃ k, k ≤ N ∧ i = .int .i64 (k : Nat) ∧ PX w.heap.size wr p gn cap N {newP c with L := partL l N k, now := n0} ∧ RdG w2.heap.size wr g l (bodyR l k).2 ∧ Below w.heap.size w wr) (fun i _ => N - (intOf i).toNat)
    case atStart => exact ⟨0, Nat.zero_le _, rfl, P5.out, by rw [hb0.out]; exact R5.out, B5⟩
    case round =>
      obtain ⟨k, hk, rfl, hPk, hRk, hB⟩ := hrel
      have k0 : (0 : Int) ≤ k := by omega
      by_cases hlt : k < N
      · have k1 : (k : Int) < N := by omega
        obtain ⟨q0, q1, -, -, -, -, -, qp⟩ := five hPk.box
        have hps1 := hps.out k hlt
        have hbn1 := hbn.out k
        have hbxk := hRk.box
        have hgg := hPk.apart hbxk
        generalize (bodyR l k).2 = s at *
        obtain ⟨x1, s1, h1⟩ : ∃ a s1, Cs.inStep l s.1 s.2.1 s.2.2 0 7 = (a, s1) := ⟨_, _, rfl⟩
        obtain ⟨x2, s2, h2⟩ : ∃ a s2, Cs.inStep l s1.1 s1.2.1 s1.2.2 0 n0 = (a, s2) := ⟨_, _, rfl⟩
        obtain ⟨x3, s3, h3⟩ : ∃ a s3, Cs.inStep l s2.1 s2.2.1 s2.2.2 0 4611686018427387904 = (a, s3) := ⟨_, _, rfl⟩
        have hnode : nodeR l n0 s = ((x1, x2, x3), s3) := by unfold nodeR; simp only [h1, h2, h3]
        rw [hnode] at hps1 hbn1
        simp only at hps1 hbn1
        have c1 := fun W (h : RdG w2.heap.size W g l s) => rd_in 0 7 h h1
        have c2 := fun W (h : RdG w2.heap.size W g l s1) => rd_in 0 n0 h h2
        have c3 := fun W (h : RdG w2.heap.size W g l s2) => rd_in 0 4611686018427387904 h h3
        have zS := fhid (show ∀ W, FX (At3 g) wr W → W.cell? ⟨p, 0, none⟩ = some (.slice (some ⟨gn, 0, none⟩) N cap) ∧ W.cell? ⟨p, 1, none⟩ = some (.int .i64 n0) from fun W hf => by
          obtain ⟨y0, y1, -⟩ := five (hPk.fx hf (by omega) hbxk).box
          exact ⟨y0, y1⟩)
        have zN := fhid (fun W (hf : FX (At3 g) wr W) => (hPk.fx hf (by omega) hbxk).node hlt)
        have zP := fhid (show ∀ (W : World) (a b c : Value), (W.cell? ⟨p, 0, none⟩ = some (.slice (some ⟨gn, 0, none⟩) N cap) ∧ W.cell? ⟨p, 1, none⟩ = some (.int .i64 n0)) → (((W.setCell ⟨gn, k * 3, none⟩ a).setCell ⟨gn, k * 3 + 1, none⟩ b).setCell ⟨gn, k * 3 + 2, none⟩ c).cell? ⟨p, 0, none⟩ = some (.slice (some ⟨gn, 0, none⟩) N cap) ∧ (((W.setCell ⟨gn, k * 3, none⟩ a).setCell ⟨gn, k * 3 + 1, none⟩ b).setCell ⟨gn, k * 3 + 2, none⟩ c).cell? ⟨p, 1, none⟩ = some (.int .i64 n0) from fun W a b c h => by
          have hne := Ne.symm hgnp
          rw [cell_off _ _ _ hne, cell_off _ _ _ hne, cell_off _ _ _ hne, cell_off _ _ _ hne, cell_off _ _ _ hne, cell_off _ _ _ hne]
          exact h)
        have tt : FX (At3 g) wr wr.drew := FX.of ((Below.refl _ _).drew)
        have hR : RdG w2.heap.size wr.drew g l s := hRk.drew
        have z := zS.out _ tt
        clear h1 h2 h3 hnode
        replace hPk := fhid hPk
        replace hRk := fhid hRk
        replace hbxk := fhid hbxk
        replace hps1 := fhid hps1
        replace hbn1 := fhid hbn1
        go_upto_region 9 with fail
        clear q0 q1
        go_region_held3 (fun W => W.cell? ⟨p, 0, none⟩ = some (.slice (some ⟨gn, 0, none⟩) N cap) ∧ W.cell? ⟨p, 1, none⟩ = some (.int .i64 n0)) (first | exact z | exact zP.out _ _ _ _ z | fail)
          (first
            | (go_at_call 21; (with_reducible refine (c1 _ hR).mono ?_); rintro e w7 ⟨rfl, hR, f7⟩; have tt := fx_trans tt f7; have z := zS.out _ tt; obtain ⟨v0, v1, v2, m0, m1, m2, r0, r1, r2, gl, -⟩ := zN.out _ tt)
            | (go_at_call 21; (with_reducible refine (c2 _ hR).mono ?_); rintro e w7 ⟨rfl, hR, f7⟩; have tt := fx_trans tt f7; have z := zS.out _ tt; obtain ⟨v0, v1, v2, m0, m1, m2, r0, r1, r2, gl, -⟩ := zN.out _ tt)
            | (go_at_call 21; (with_reducible refine (c3 _ hR).mono ?_); rintro e w7 ⟨rfl, hR, f7⟩; have tt := fx_trans tt f7; have z := zS.out _ tt; obtain ⟨v0, v1, v2, m0, m1, m2, r0, r1, r2, gl, -⟩ := zN.out _ tt)
            | fail)
        have P7 := hPk.out.fx tt (by omega) hbxk.out
        have P8 := P7.put hlt (x1, x2, x3) _ hps1.out
        have R8 : RdG w2.heap.size (((w7.setCell ⟨gn, k * 3, none⟩ (.int .i64 x1)).setCell ⟨gn, k * 3 + 1, none⟩ (.int .i64 x2)).setCell ⟨gn, k * 3 + 2, none⟩ (.int .i64 x3)) g l s3 := hR.fx ((((FX.of (Below.refl _ _)).set (X := At3 gn) (b := gn) rfl _ _).set rfl _ _).set rfl _ _) hgn2
        have hg2 : w.heap.size ≤ g := Nat.le_trans B2.size hgB
        have B8 : Below w.heap.size w (((w7.setCell ⟨gn, k * 3, none⟩ (.int .i64 x1)).setCell ⟨gn, k * 3 + 1, none⟩ (.int .i64 x2)).setCell ⟨gn, k * 3 + 2, none⟩ (.int .i64 x3)) := set3i (hB.trans (tt.below (B := w.heap.size) (fun j hj => by obtain rfl : j = g := hj; exact hg2) hB.size)) hwg _ _ _ _ _ _
        replace P7 := fhid P7
        replace P8 := fhid P8
        replace R8 := fhid R8
        go_wp2_with fail
        go_roundw
        case rel => exact ⟨k + 1, by omega, by go_num, P8.out, by rw [hbn1.out]; exact R8.out, B8⟩
        case measure => simp [intOf]; omega
      · obtain rfl : k = N := by omega
        have k1 : ¬ (k : Int) < k := by omega
        have hend := Cs.end_any g l (bodyR l k).2.1 (bodyR l k).2.2.1 (bodyR l k).2.2.2 wr hRk.1
        unfold Cs.EndPost at hend
        rw [← hendR.out] at hend
        have hle : (bodyR l k).2.1 ≤ l.length := by obtain ⟨⟨_, _, _, _, _, _, h5, _⟩, _⟩ := hRk; exact h5
        have hbx := hRk.box
        have hg2 : w.heap.size ≤ g := Nat.le_trans B2.size hgB
        rw [hpa.out] at hPk
        obtain ⟨⟨en, fa⟩, hE⟩ : ∃ x, endR l k = x := ⟨_, rfl⟩
        rw [hE] at hend hbad hgood
        have hfd := Cs.fault_why en fa
        replace hE := fhid hE
        replace hPk := fhid hPk
        replace hRk := fhid hRk
        replace hbx := fhid hbx
        by_cases he : en = 0
        · subst he
          go_wp2_with (go_at_call 22; (with_reducible refine hend.mono ?_); rintro e w7 ⟨rfl, -, t7⟩)
          exact hgood.out _ _ (hB.trans ((fx_turns t7).below (B := w.heap.size) (fun j hj => by obtain rfl : j = g := hj; exact hg2) hB.size)) trivial hle hwp (hPk.out.fx (fx_turns t7) (by omega) hbx.out).pb
        · have j1 : (en != 0) = true := by simpa using he
          have he := fhid he
          go_wp2_with (go_at_call 22; (with_reducible refine hend.mono ?_); rintro e w7 ⟨rfl, -, t7⟩)
          have hBe : Below w.heap.size w w7 := hB.trans ((fx_turns t7).below (B := w.heap.size) (fun j hj => by have hj : j = g := hj; rw [hj]; exact hg2) hB.size)
          have hq := hbad.out _ hBe
          first
            | exact hq he.out
            | exact hq trivial
            | exact hq
end Go.Proofs.YtmnmcikbbfcjcaaGreatDoor.Ps
