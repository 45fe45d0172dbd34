/-
  Parts: KTheirs.
-/
import Derived.Test.YtmnmcikbbfcjcaaGreatDoorK5
set_option linter.unusedSimpArgs false
set_option linter.unusedVariables false
/-
  The statements' config made into the program's.
-/
namespace Go.Proofs.YtmnmcikbbfcjcaaGreatDoor
open Go.RowKit Go.Shelf Vs

abbrev TRConf : TypeId := 28
abbrev TRPart : TypeId := 68
abbrev TRQos : TypeId := 71
abbrev TVals : TypeId := 26
theorem FX.below {X : Nat → Prop} {w w' : World} {B : Nat} (h : FX X w w') (hX : ∀ k, X k → B ≤ k) (hB : B ≤ w.heap.size) : Below B w w' :=
  ⟨h.os, h.tape, h.output, h.size, fun i hi => h.block i (Nat.lt_of_lt_of_le hi hB) (fun hx => by have := hX i hx; omega)⟩
theorem FX.box {X : Nat → Prop} {w w' : World} {b : Nat} {T : TypeId} {cs : List Value} (h : FX X w w') (hb : Box w b T cs) (hx : ¬ X b) : Box w' b T cs := fx_at h hb hx
theorem own_fx {X : Nat → Prop} {w w' : World} {base : Nat} {e : TypeId} {size n : Nat} {v : Value} {xs : List Value} (h : w.ownsRow base e size v n xs) (hf : FX X w w') (hr : ∀ k, v.ownBlock = some k → ¬ X k) : w'.ownsRow base e size v n xs := by
  refine ⟨h.1, ?_⟩
  rcases h.2 with ⟨rfl, hn⟩ | ⟨g, cap, cur, rfl, hb, hh, rest⟩
  · exact .inl ⟨rfl, hn⟩
  · exact .inr ⟨g, cap, cur, rfl, hb, (hf.block g (Array.getElem?_eq_some_iff.1 hh).1 (hr g rfl)).trans hh, rest⟩
theorem fill_box {W : World} {b : Nat} {T : TypeId} {z0 z1 z2 z3 z4 z5 z6 z7 z8 z9 z10 z11 : Value} (h : Box W b T [z0, z1, z2, z3, z4, z5, z6, z7, z8, z9, z10, z11]) (v0 v1 v2 v3 v4 v5 v6 v7 v8 v9 v10 v11 : Value) :
    Box ((((((((((((W.setCell ⟨b, 0, none⟩ v0).setCell ⟨b, 1, none⟩ v1).setCell ⟨b, 2, none⟩ v2).setCell ⟨b, 3, none⟩ v3).setCell ⟨b, 4, none⟩ v4).setCell ⟨b, 5, none⟩ v5).setCell ⟨b, 6, none⟩ v6).setCell ⟨b, 7, none⟩ v7).setCell ⟨b, 8, none⟩ v8).setCell ⟨b, 9, none⟩ v9).setCell ⟨b, 10, none⟩ v10).setCell ⟨b, 11, none⟩ v11) b T [v0, v1, v2, v3, v4, v5, v6, v7, v8, v9, v10, v11] := by
  have q := h.set 0 v0
  replace q := q.set 1 v1
  replace q := q.set 2 v2
  replace q := q.set 3 v3
  replace q := q.set 4 v4
  replace q := q.set 5 v5
  replace q := q.set 6 v6
  replace q := q.set 7 v7
  replace q := q.set 8 v8
  replace q := q.set 9 v9
  replace q := q.set 10 v10
  replace q := q.set 11 v11
  exact q
theorem fill_fx {X : Nat → Prop} {W0 W : World} {b : Nat} (h : FX X W0 W) (hb : X b) (v0 v1 v2 v3 v4 v5 v6 v7 v8 v9 v10 v11 : Value) :
    FX X W0 ((((((((((((W.setCell ⟨b, 0, none⟩ v0).setCell ⟨b, 1, none⟩ v1).setCell ⟨b, 2, none⟩ v2).setCell ⟨b, 3, none⟩ v3).setCell ⟨b, 4, none⟩ v4).setCell ⟨b, 5, none⟩ v5).setCell ⟨b, 6, none⟩ v6).setCell ⟨b, 7, none⟩ v7).setCell ⟨b, 8, none⟩ v8).setCell ⟨b, 9, none⟩ v9).setCell ⟨b, 10, none⟩ v10).setCell ⟨b, 11, none⟩ v11) :=
  (((((((((((h.set hb 0 v0).set hb 1 v1).set hb 2 v2).set hb 3 v3).set hb 4 v4).set hb 5 v5).set hb 6 v6).set hb 7 v7).set hb 8 v8).set hb 9 v9).set hb 10 v10).set hb 11 v11
theorem four_boxes (w : World) (T1 T2 T3 T4 : TypeId) (c1 c2 c3 c4 : List Value) : ∃ W, W = ((((w.alloc (.cells c1.toArray T1)).alloc (.cells c2.toArray T2)).alloc (.cells c3.toArray T3)).alloc (.cells c4.toArray T4)) ∧ Box W w.heap.size T1 c1 ∧ Box W (w.heap.size + 1) T2 c2 ∧ Box W (w.heap.size + 1 + 1) T3 c3 ∧ Box W (w.heap.size + 1 + 1 + 1) T4 c4 ∧ Below w.heap.size w W ∧ W.heap.size = w.heap.size + 1 + 1 + 1 + 1 := by
  have hn : ∀ (u : World) (o : Obj) (k : Nat), u.heap.size = k → (u.alloc o).heap[k]? = some o ∧ (u.alloc o).heap.size = k + 1 := fun u o k h => by subst h; exact ⟨heap_alloc_new u o, by simp⟩
  have ho : ∀ (u : World) (o : Obj) (k : Nat) (c : Option Obj), k < u.heap.size → u.heap[k]? = c → (u.alloc o).heap[k]? = c := fun u o k c hk h => (Below.heap_alloc u o k hk).trans h
  obtain ⟨a1, z1⟩ := hn w (.cells c1.toArray T1) _ rfl
  obtain ⟨a2, z2⟩ := hn _ (.cells c2.toArray T2) _ z1
  obtain ⟨a3, z3⟩ := hn _ (.cells c3.toArray T3) _ z2
  obtain ⟨a4, z4⟩ := hn _ (.cells c4.toArray T4) _ z3
  exact ⟨_, rfl, ho _ _ _ _ (by omega) (ho _ _ _ _ (by omega) (ho _ _ _ _ (by omega) a1)), ho _ _ _ _ (by omega) (ho _ _ _ _ (by omega) a2), ho _ _ _ _ (by omega) a3, a4, ((((Below.refl _ _).alloc (Nat.le_refl _) _).alloc (by omega) _).alloc (by omega) _).alloc (by omega) _, z4⟩
/-- What a call that makes a config comes to. -/
def ConfP (w : World) (c : Cfg) (e : Ending) (w' : World) : Prop := ∃ v, e = .returned v ∧ CR w' v c ∧ Below w.heap.size w w'
/-- The block of the call's own that turns. -/
def At3 (b : Nat) (k : Nat) : Prop := k = b
/-- Between two rounds of the loop over partitions, and of that over qualities. -/
def TI (T : TypeId) (w1 : World) (b base : Nat) (ps : List PartC) (vN vV vQ : Value) (us : List Value) (e : TypeId) (k : Nat) (wr : World) : Prop :=
  ∃ A cap, Box wr b T ([vN, vV, .slice A k cap, vQ] ++ us) ∧ wr.ownsRow base e 8 (.slice A k cap) k (PVs (ps.take k)) ∧ FX (At3 b) w1 wr
def TJ (T : TypeId) (w1 : World) (b base : Nat) (qs : List QosC) (vN vV vP : Value) (us : List Value) (e : TypeId) (k : Nat) (wr : World) : Prop :=
  ∃ A cap, Box wr b T ([vN, vV, vP, .slice A k cap] ++ us) ∧ wr.ownsRow base e 3 (.slice A k cap) k (QVs (qs.take k)) ∧ FX (At3 b) w1 wr
/-- One more of a row of partitions, of whichever type. -/
theorem more_part {T e Ts : TypeId} {w1 wr Wb : World} {b base k g : Nat} {ps : List PartC} {vN vV vQ : Value} {us : List Value} {A : Option Addr} {cap : Nat} (hTe : T ≠ e)
    (hTs : Tryz.prog.underlying Ts = some (.slice e)) (hinfo : (Tryz.prog.info? e).map (fun i => (i.zero, i.size, i.bytes)) = some (some (.agg #[.string ⟨#[]⟩, .int .u64 0, .int .u64 0, .int .u64 0, .int .u64 0, .int .i64 0, .int .i64 0, .int .i64 0]), 8, 72))
    (hk : k < ps.length) (hk60 : ps.length ≤ 60) (hx : Box wr b T ([vN, vV, .slice A k cap, vQ] ++ us)) (ho : wr.ownsRow base e 8 (.slice A k cap) k (PVs (ps.take k))) (hf : FX (At3 b) w1 wr) (hb : Below wr.heap.size wr Wb)
    (hb1 : w1.heap.size ≤ base) (hb2 : base ≤ Wb.heap.size) (hg : Box Wb g e (partV ps[k])) (ty : TypeId) :
    ∃ A' c' w7, (Builtin.append_ #[Ts, Ts] ty #[.slice A k cap, .slice (some ⟨g, 0, none⟩) 1 1]).run Tryz.prog Wb = .ok (.slice A' (k + 1) c') w7 ∧ Box w7 b T ([vN, vV, .slice A k cap, vQ] ++ us) ∧ TI T w1 b base ps vN vV vQ us e (k + 1) (w7.setCell ⟨b, 2, none⟩ (.slice A' (k + 1) c')) := by
  have o2 := ownsRow_below ho hb
  have x2 : Box Wb b T ([vN, vV, .slice A k cap, vQ] ++ us) := Box.below hx hb (Box.lt hx)
  obtain ⟨v', w', h1, h2, h3, h4⟩ := app_run (w := Wb) Ts e _ 8 72 hTs hinfo rfl (by decide) ty base (.slice A k cap) k (PVs (ps.take k)) o2 Wb.heap.size (some ⟨g, 0, none⟩) 1 1 (partV ps[k]) (fun _ => ⟨g, 0, rfl, Box.lt hg, fun j hj => by rw [Nat.zero_add, Box.cell hg]; exact List.getElem?_eq_getElem hj⟩) rfl (part_one _) (by omega) (by omega) hb2
  obtain ⟨A', c', rfl, -, -, -⟩ := ownsRow_shape h2
  have x7 := Box.grown x2 h3 (own_tag o2 x2 hTe)
  have t : ps.take (k + 1) = ps.take k ++ [ps[k]] := List.take_succ_eq_append_getElem hk
  refine ⟨A', c', w', h1, x7, A', c', Box.set x7 2 _, ?_, ((hf.on hb).step h3 fun j e => .inr (Nat.le_trans hb1 (ownsRow_ge o2 j e))).set rfl 2 _⟩
  rw [t, PVs_app]
  exact own_set h2 x7 hTe 2 _
theorem more_qos {T e Ts : TypeId} {w1 wr Wb : World} {b base k g : Nat} {qs : List QosC} {vN vV vP : Value} {us : List Value} {A : Option Addr} {cap : Nat} (hTe : T ≠ e)
    (hTs : Tryz.prog.underlying Ts = some (.slice e)) (hinfo : (Tryz.prog.info? e).map (fun i => (i.zero, i.size, i.bytes)) = some (some (.agg #[.string ⟨#[]⟩, .int .i64 0, .int .i64 0]), 3, 32))
    (hk : k < qs.length) (hk60 : qs.length ≤ 60) (hx : Box wr b T ([vN, vV, vP, .slice A k cap] ++ us)) (ho : wr.ownsRow base e 3 (.slice A k cap) k (QVs (qs.take k))) (hf : FX (At3 b) w1 wr) (hb : Below wr.heap.size wr Wb)
    (hb1 : w1.heap.size ≤ base) (hb2 : base ≤ Wb.heap.size) (hg : Box Wb g e (qosV qs[k])) (ty : TypeId) :
    ∃ A' c' w7, (Builtin.append_ #[Ts, Ts] ty #[.slice A k cap, .slice (some ⟨g, 0, none⟩) 1 1]).run Tryz.prog Wb = .ok (.slice A' (k + 1) c') w7 ∧ Box w7 b T ([vN, vV, vP, .slice A k cap] ++ us) ∧ TJ T w1 b base qs vN vV vP us e (k + 1) (w7.setCell ⟨b, 3, none⟩ (.slice A' (k + 1) c')) := by
  have o2 := ownsRow_below ho hb
  have x2 : Box Wb b T ([vN, vV, vP, .slice A k cap] ++ us) := Box.below hx hb (Box.lt hx)
  obtain ⟨v', w', h1, h2, h3, h4⟩ := app_run (w := Wb) Ts e _ 3 32 hTs hinfo rfl (by decide) ty base (.slice A k cap) k (QVs (qs.take k)) o2 Wb.heap.size (some ⟨g, 0, none⟩) 1 1 (qosV qs[k]) (fun _ => ⟨g, 0, rfl, Box.lt hg, fun j hj => by rw [Nat.zero_add, Box.cell hg]; exact List.getElem?_eq_getElem hj⟩) rfl (qos_one _) (by omega) (by omega) hb2
  obtain ⟨A', c', rfl, -, -, -⟩ := ownsRow_shape h2
  have x7 := Box.grown x2 h3 (own_tag o2 x2 hTe)
  have t : qs.take (k + 1) = qs.take k ++ [qs[k]] := List.take_succ_eq_append_getElem hk
  refine ⟨A', c', w', h1, x7, A', c', Box.set x7 3 _, ?_, ((hf.on hb).step h3 fun j e => .inr (Nat.le_trans hb1 (ownsRow_ge o2 j e))).set rfl 3 _⟩
  rw [t, QVs_app]
  exact own_set h2 x7 hTe 3 _
theorem alloc2 (w : World) (T1 T2 : TypeId) (c1 c2 : List Value) : Below w.heap.size w ((w.alloc (.cells c1.toArray T1)).alloc (.cells c2.toArray T2)) ∧ Box ((w.alloc (.cells c1.toArray T1)).alloc (.cells c2.toArray T2)) (w.heap.size + 1) T2 c2 ∧ ((w.alloc (.cells c1.toArray T1)).alloc (.cells c2.toArray T2)).heap.size = w.heap.size + 2 := by
  refine ⟨((Below.refl _ _).alloc (Nat.le_refl _) _).alloc (by simp) _, ?_, by simp⟩
  have := Box.new (w.alloc (.cells c1.toArray T1)) T2 c2
  rwa [World.size_alloc] at this
set_option maxRecDepth 100000 in
set_option maxHeartbeats 16000000 in
theorem theirs_any (v : Value) (c : Cfg) (w : World) (h : CR w v c) (hp : c.parts.length ≤ 60) (hq : c.qos.length ≤ 60) : Calls Tryz.prog 7 #[v] w (ConfP w c) := by
  obtain ⟨AN, cN, AV, cV, AP, cP, AQ, cQ, a0, a1, a2, a3, a4, a5, a6, a7, rfl, ev, r1, r2, r3, r4⟩ := h
  have hE := fhid (show ∀ (W : World) (AP' AQ' : Option Addr) (cP' cQ' : Nat), Below w.heap.size w W → RdS W AP' c.parts.length cP' (PVs c.parts) → RdS W AQ' c.qos.length cQ' (QVs c.qos) → ConfP w c (.returned (.agg #[.slice AN c.names.length cN, .slice AV c.vecs.length cV, .slice AP' c.parts.length cP', .slice AQ' c.qos.length cQ', .int .i64 a0, .int .i64 a1, .int .i64 a2, .int .i64 a3, .int .i64 a4, .int .i64 a5, .int .i64 a6, .int .i64 a7])) W from
    fun W AP' AQ' cP' cQ' hb h3 h4 => ⟨_, rfl, ⟨AN, cN, AV, cV, AP', cP', AQ', cQ', a0, a1, a2, a3, a4, a5, a6, a7, rfl, ev, r1.below hb, r2.below hb, h3, h4⟩, hb⟩)
  generalize ConfP w c = P at *
  clear r1 r2 ev
  generalize c.names.length = nN at *
  generalize c.vecs.length = nV at *
  generalize c.parts = ps at *
  generalize c.qos = qs at *
  have e3 := r3.1
  have e4 := r4.1
  obtain ⟨w1, hw1, X0, X2, -, X4, B1, hz1⟩ := four_boxes w TRConf TConf TVals TConf [.slice AN nN cN, .slice AV nV cV, .slice AP ps.length cP, .slice AQ qs.length cQ, .int .i64 a0, .int .i64 a1, .int .i64 a2, .int .i64 a3, .int .i64 a4, .int .i64 a5, .int .i64 a6, .int .i64 a7] zeros12 [.int .i64 a0, .int .i64 a1, .int .i64 a2, .int .i64 a3, .int .i64 a4, .int .i64 a5, .int .i64 a6, .int .i64 a7] [.slice AN nN cN, .slice AV nV cV, .slice none 0 0, .slice none 0 0, .int .i64 a0, .int .i64 a1, .int .i64 a2, .int .i64 a3, .int .i64 a4, .int .i64 a5, .int .i64 a6, .int .i64 a7]
  have h0 := fhid (show TI TConf w1 (w.heap.size + 1 + 1 + 1) w1.heap.size ps (.slice AN nN cN) (.slice AV nV cV) (.slice none 0 0) [.int .i64 a0, .int .i64 a1, .int .i64 a2, .int .i64 a3, .int .i64 a4, .int .i64 a5, .int .i64 a6, .int .i64 a7] TPart 0 w1 from
    ⟨none, 0, X4, World.ownsRow_nil _ _ _ _, FX.of (Below.refl _ _)⟩)
  replace hw1 := fhid hw1
  replace hz1 := fhid hz1
  go_enter Tryz.func7, Tryz.ntmps7
  go_upto_region 3 with fail
  rw [← hw1.out]
  clear hw1
  obtain ⟨y0, y1, y2, y3, -⟩ := Box.twelve X0
  have xl := Box.lt X0
  replace X2 := fhid X2
  replace X4 := fhid X4
  replace r3 := fhid r3
  replace r4 := fhid r4
  go_wp2
  go_loopw [35] (fun i wr => ∃ k : Nat, k ≤ ps.length ∧ i = .int .i64 k ∧ TI TConf w1 (w.heap.size + 1 + 1 + 1) w1.heap.size ps (.slice AN nN cN) (.slice AV nV cV) (.slice none 0 0) [.int .i64 a0, .int .i64 a1, .int .i64 a2, .int .i64 a3, .int .i64 a4, .int .i64 a5, .int .i64 a6, .int .i64 a7] TPart k wr) (fun i _ => ps.length - (intOf i).toNat)
  case atStart => exact ⟨0, Nat.zero_le _, rfl, h0.out⟩
  case round =>
    obtain ⟨k, hk, rfl, A, cap, Xr, O, F⟩ := hrel
    have Bw := B1.trans (F.below (B := w.heap.size) (fun j hj => by unfold At3 at hj; omega) B1.size)
    have X0r := F.box X0 (by unfold At3; omega)
    obtain ⟨y0', y1', y2', y3', -⟩ := Box.twelve X0r
    have xl' := Box.lt X0r
    have i0 : (0 : Int) ≤ k := by omega
    by_cases hlt : k < ps.length
    · have i1 : (k : Int) < ps.length := by omega
      obtain ⟨pb, po, rfl, hpb, e0, e1, e2, e3', e4', e5, e6, e7⟩ := RdS.part r3.out hlt
      have g0 := (Bw.cell (p := ⟨pb, po + k * 8, none⟩) hpb).trans e0
      have g1 := (Bw.cell (p := ⟨pb, po + k * 8 + 1, none⟩) hpb).trans e1
      have g2 := (Bw.cell (p := ⟨pb, po + k * 8 + 2, none⟩) hpb).trans e2
      have g3 := (Bw.cell (p := ⟨pb, po + k * 8 + 3, none⟩) hpb).trans e3'
      have g4 := (Bw.cell (p := ⟨pb, po + k * 8 + 4, none⟩) hpb).trans e4'
      have g5 := (Bw.cell (p := ⟨pb, po + k * 8 + 5, none⟩) hpb).trans e5
      have g6 := (Bw.cell (p := ⟨pb, po + k * 8 + 6, none⟩) hpb).trans e6
      have g7 := (Bw.cell (p := ⟨pb, po + k * 8 + 7, none⟩) hpb).trans e7
      have hpb' := Nat.lt_of_lt_of_le hpb Bw.size
      clear e0 e1 e2 e3' e4' e5 e6 e7
      obtain ⟨bA, XA, sA⟩ := alloc2 wr TRPart TPart (partV ps[k]) (partV ps[k])
      obtain ⟨A', c', w7, hap, x7, nx⟩ := more_part (T := TConf) (e := TPart) (Ts := TParts) (by decide) Tryz.underlying37 infoPart hlt hp Xr O F bA (Nat.le_refl _) (Nat.le_trans F.size bA.size) XA TParts
      have z0 : wr.cell? ⟨w.heap.size + 1 + 1 + 1, 2, none⟩ = some (.slice A k cap) := Box.cell Xr 2
      have zl := Box.lt Xr
      have z7 : w7.cell? ⟨w.heap.size + 1 + 1 + 1, 2, none⟩ = some (.slice A k cap) := Box.cell x7 2
      have f7 : w7.frozen? ⟨w.heap.size + 1 + 1 + 1, 2, none⟩ = false := Box.free x7 2
      have zl7 := Box.lt x7
      have hne : w.heap.size + 1 + 1 + 1 ≠ wr.heap.size := by omega
      have hne2 : w.heap.size + 1 + 1 + 1 ≠ wr.heap.size + 1 := by omega
      unfold partV at hap
      replace nx := fhid nx
      replace hap := fhid hap
      replace x7 := fhid x7
      replace XA := fhid XA
      replace bA := fhid bA
      replace O := fhid O
      replace F := fhid F
      replace Xr := fhid Xr
      replace X0r := fhid X0r
      replace Bw := fhid Bw
      replace sA := fhid sA
      generalize ps[k].max = q5 at *
      generalize ps[k].time = q6 at *
      generalize ps[k].prio = q7 at *
      generalize (Bs.word ps[k].nodes 0 : Int) = q1 at *
      generalize (Bs.word ps[k].nodes 1 : Int) = q2 at *
      generalize (Bs.word ps[k].nodes 2 : Int) = q3 at *
      generalize (Bs.word ps[k].nodes 3 : Int) = q4 at *
      generalize str ps[k].name = q0 at *
      go_wp2_with (at_builtin; refine wp_app TParts rfl (.tmp 40) (.tmp 52) rfl (.slice A k cap) (.slice (some ⟨wr.heap.size + 1, 0, none⟩) 1 1) rfl rfl (.slice A' (k + 1) c') w7 hap.out ?_)
      go_roundw
      case rel => exact ⟨k + 1, by omega, by go_num, nx.out⟩
      case measure => simp [intOf]; omega
    · obtain rfl : k = ps.length := by omega
      obtain ⟨w2, rfl⟩ : ∃ w2 : World, w2 = wr := ⟨_, rfl⟩
      rw [List.take_of_length_le (Nat.le_refl _)] at O
      have hn3 := O.2
      obtain ⟨A2', cap2', e2', R2⟩ := ownsRow_shape O
      injection e2' with e2a _ e2c
      subst e2a
      subst e2c
      have tg := own_tag O Xr (by decide)
      have h02 := fhid (show TJ TConf w2 (w.heap.size + 1 + 1 + 1) w2.heap.size qs (.slice AN nN cN) (.slice AV nV cV) (.slice A ps.length cap) [.int .i64 a0, .int .i64 a1, .int .i64 a2, .int .i64 a3, .int .i64 a4, .int .i64 a5, .int .i64 a6, .int .i64 a7] TQos 0 w2 from
        ⟨none, 0, Xr, World.ownsRow_nil _ _ _ _, FX.of (Below.refl _ _)⟩)
      have X2r := fhid (F.box X2.out (by unfold At3; omega))
      replace O := fhid O
      replace F := fhid F
      replace Xr := fhid Xr
      replace Bw := fhid Bw
      replace tg := fhid tg
      clear R2 hn3
      go_wp2
      go_loopw [59] (fun i wr => ∃ k : Nat, k ≤ qs.length ∧ i = .int .i64 k ∧ TJ TConf w2 (w.heap.size + 1 + 1 + 1) w2.heap.size qs (.slice AN nN cN) (.slice AV nV cV) (.slice A ps.length cap) [.int .i64 a0, .int .i64 a1, .int .i64 a2, .int .i64 a3, .int .i64 a4, .int .i64 a5, .int .i64 a6, .int .i64 a7] TQos k wr) (fun i _ => qs.length - (intOf i).toNat)
      case atStart => exact ⟨0, Nat.zero_le _, rfl, h02.out⟩
      case round =>
        obtain ⟨k, hk, rfl, AJ, capJ, XJ, OJ, FJ⟩ := hrel
        have Bj := Bw.out.trans (FJ.below (B := w.heap.size) (fun j hj => by unfold At3 at hj; omega) Bw.out.size)
        have i0 : (0 : Int) ≤ k := by omega
        by_cases hlt : k < qs.length
        · have i1 : (k : Int) < qs.length := by omega
          obtain ⟨pb, po, rfl, hpb, e0, e1, e2⟩ := RdS.qos r4.out hlt
          have g0 := (Bj.cell (p := ⟨pb, po + k * 3, none⟩) hpb).trans e0
          have g1 := (Bj.cell (p := ⟨pb, po + k * 3 + 1, none⟩) hpb).trans e1
          have g2 := (Bj.cell (p := ⟨pb, po + k * 3 + 2, none⟩) hpb).trans e2
          have hpb' := Nat.lt_of_lt_of_le hpb Bj.size
          clear e0 e1 e2
          obtain ⟨bA, XA, sA⟩ := alloc2 wr TRQos TQos (qosV qs[k]) (qosV qs[k])
          obtain ⟨A', c', w7, hap, x7, nx⟩ := more_qos (T := TConf) (e := TQos) (Ts := TQoss) (by decide) Tryz.underlying38 infoQos hlt hq XJ OJ FJ bA (Nat.le_refl _) (Nat.le_trans FJ.size bA.size) XA TQoss
          have z0 : wr.cell? ⟨w.heap.size + 1 + 1 + 1, 3, none⟩ = some (.slice AJ k capJ) := Box.cell XJ 3
          have zl := Box.lt XJ
          have z7 : w7.cell? ⟨w.heap.size + 1 + 1 + 1, 3, none⟩ = some (.slice AJ k capJ) := Box.cell x7 3
          have f7 : w7.frozen? ⟨w.heap.size + 1 + 1 + 1, 3, none⟩ = false := Box.free x7 3
          have zl7 := Box.lt x7
          have hne : w.heap.size + 1 + 1 + 1 ≠ wr.heap.size := by omega
          have hne2 : w.heap.size + 1 + 1 + 1 ≠ wr.heap.size + 1 := by omega
          unfold qosV at hap
          replace nx := fhid nx
          replace hap := fhid hap
          replace x7 := fhid x7
          replace XA := fhid XA
          replace bA := fhid bA
          replace OJ := fhid OJ
          replace FJ := fhid FJ
          replace XJ := fhid XJ
          replace Bj := fhid Bj
          replace sA := fhid sA
          generalize qs[k].max = q2 at *
          generalize qs[k].prio = q1 at *
          generalize str qs[k].name = q0 at *
          go_wp2_with (at_builtin; refine wp_app TQoss rfl (.tmp 64) (.tmp 72) rfl (.slice AJ k capJ) (.slice (some ⟨wr.heap.size + 1, 0, none⟩) 1 1) rfl rfl (.slice A' (k + 1) c') w7 hap.out ?_)
          go_roundw
          case rel => exact ⟨k + 1, by omega, by go_num, nx.out⟩
          case measure => simp [intOf]; omega
        · obtain rfl : k = qs.length := by omega
          rw [List.take_of_length_le (Nat.le_refl _)] at OJ
          have X2s := FJ.box X2r.out (by unfold At3; omega)
          have OP := own_fx O.out FJ (fun j hj => fun e => tg.out (by unfold At3 at e; rw [hj, e]))
          obtain ⟨_, _, p1, P1⟩ := ownsRow_shape OP
          injection p1 with p1a _ p1c
          subst p1a
          subst p1c
          obtain ⟨_, _, p2, P2⟩ := ownsRow_shape OJ
          injection p2 with p2a _ p2c
          subst p2a
          subst p2c
          obtain ⟨c0, c1, c2, c3, c4, c5, c6, c7, c8, c9, c10, c11⟩ := Box.twelve XJ
          have zl := Box.lt XJ
          have rl := Box.lt X2s
          have fr := Box.free X2s
          obtain ⟨d0, d1, d2, d3, d4, d5, d6, d7, d8, d9, d10, d11⟩ := Box.twelve X2s
          have XQ := fhid (fill_box X2s (.slice AN nN cN) (.slice AV nV cV) (.slice A ps.length cap) (.slice AJ qs.length capJ) (.int .i64 a0) (.int .i64 a1) (.int .i64 a2) (.int .i64 a3) (.int .i64 a4) (.int .i64 a5) (.int .i64 a6) (.int .i64 a7))
          have FQ := fill_fx (FX.of (X := At3 (w.heap.size + 1)) (Below.refl wr.heap.size wr)) rfl (.slice AN nN cN) (.slice AV nV cV) (.slice A ps.length cap) (.slice AJ qs.length capJ) (.int .i64 a0) (.int .i64 a1) (.int .i64 a2) (.int .i64 a3) (.int .i64 a4) (.int .i64 a5) (.int .i64 a6) (.int .i64 a7)
          replace FQ := fhid FQ
          replace X2s := fhid X2s
          replace XJ := fhid XJ
          replace P1 := fhid P1
          replace P2 := fhid P2
          replace OP := fhid OP
          replace OJ := fhid OJ
          replace FJ := fhid FJ
          go_wp2
          generalize World.setCell (World.setCell (World.setCell (World.setCell (World.setCell (World.setCell (World.setCell (World.setCell (World.setCell (World.setCell (World.setCell (World.setCell _ _ _) _ _) _ _) _ _) _ _) _ _) _ _) _ _) _ _) _ _) _ _) _ _ = W6 at *
          have q12 := Box.twelve XQ.out
          obtain ⟨u0, u1, u2, u3, u4, u5, u6, u7, u8, u9, u10, u11⟩ := q12
          have B6 : Below w.heap.size w W6 := Bj.trans (FQ.out.below (B := w.heap.size) (fun j hj => by unfold At3 at hj; omega) Bj.size)
          refine bodyPost_ret (v := .agg #[.slice AN nN cN, .slice AV nV cV, .slice A ps.length cap, .slice AJ qs.length capJ, .int .i64 a0, .int .i64 a1, .int .i64 a2, .int .i64 a3, .int .i64 a4, .int .i64 a5, .int .i64 a6, .int .i64 a7]) (by simp [results, Tryz.results7, go_sem, u0, u1, u2, u3, u4, u5, u6, u7, u8, u9, u10, u11]) rfl (hE.out W6 _ _ _ _ B6 ?_ ?_)
          · obtain ⟨_, _, p3, P3⟩ := ownsRow_shape (own_fx OP.out FQ.out (fun j hj e => by have := ownsRow_ge OP.out j hj; have := hz1.out; unfold At3 at e; omega))
            injection p3 with p3a _ p3c
            subst p3a
            subst p3c
            exact P3
          · obtain ⟨_, _, p3, P3⟩ := ownsRow_shape (own_fx OJ.out FQ.out (fun j hj e => by have := ownsRow_ge OJ.out j hj; have := hz1.out; have := F.out.size; unfold At3 at e; omega))
            injection p3 with p3a _ p3c
            subst p3a
            subst p3c
            exact P3
end Go.Proofs.YtmnmcikbbfcjcaaGreatDoor
