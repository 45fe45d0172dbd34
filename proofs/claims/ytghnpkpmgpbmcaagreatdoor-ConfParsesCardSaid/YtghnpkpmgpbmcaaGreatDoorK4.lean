/-
  Parts: KRPart.
-/
import Derived.Test.YtghnpkpmgpbmcaaGreatDoorK3
import Derived.Deep.RegionWith
set_option linter.unusedSimpArgs false
set_option linter.unusedVariables false
/-
  A line that tells a partition.
-/
namespace Go.Proofs.YtghnpkpmgpbmcaaGreatDoor
open Go.RowKit Go.Shelf Vs

theorem partP_few {c : Cfg} {ws : List Str} (h : ws.length < 2) : partP c ws = .error 3 := by
  match ws, h with
  | [], _ => rfl
  | [_], _ => rfl
  | _ :: _ :: _, h => simp at h; omega
theorem partP_name {c : Cfg} {n l : Str} {os : List Str} (h : isNameP n = false) : partP c (n :: l :: os) = .error 3 := by
  unfold partP
  dsimp only
  rw [h]
theorem partP_opts {c : Cfg} {n l : Str} {os : List Str} (h : optsP partS os [] (untold partS) = none) : partP c (n :: l :: os) = .error 3 := by
  unfold partP
  dsimp only
  rw [h]
  cases isNameP n <;> rfl
theorem partP_ok {c : Cfg} {n l : Str} {os : List Str} {r : List Int} (h1 : isNameP n = true) (h : optsP partS os [] (untold partS) = some r) : partP c (n :: l :: os) = if (setOf c l).2 ≠ 0 then .error (setOf c l).2 else if n ∈ c.parts.map (·.name) then .error 7 else if 16 < c.parts.length + 1 then .error 5 else if partWrong (partOf n (setOf c l).1 r) = true then .error 12 else .ok { c with parts := c.parts ++ [partOf n (setOf c l).1 r] } := by
  unfold partP
  dsimp only
  rw [h, h1]
theorem rdr_cr {B : Nat} {w : World} {b : Nat} {c : Cfg} {vN vV vP vQ : Value} {m0 m1 m2 : Nat} (h : Rdr B w b c vN vV vP vQ m0 m1 m2) : ∃ AN cN AV cV AP cP AQ cQ a0 a1 a2 a3 a4 a5 a6 a7, vN = .slice AN c.names.length cN ∧ vV = .slice AV c.vecs.length cV ∧ vP = .slice AP c.parts.length cP ∧ vQ = .slice AQ c.qos.length cQ ∧
    c.vals = [a0, a1, a2, a3, a4, a5, a6, a7] ∧ CR w (.agg #[.slice AN c.names.length cN, .slice AV c.vecs.length cV, .slice AP c.parts.length cP, .slice AQ c.qos.length cQ, .int .i64 a0, .int .i64 a1, .int .i64 a2, .int .i64 a3, .int .i64 a4, .int .i64 a5, .int .i64 a6, .int .i64 a7]) c := by
  obtain ⟨AN, cN, e1, p1⟩ := ownsRow_shape h.nm
  obtain ⟨AV, cV, e2, p2⟩ := ownsRow_shape h.vc
  obtain ⟨AP, cP, e3, p3⟩ := ownsRow_shape h.pt
  obtain ⟨AQ, cQ, e4, p4⟩ := ownsRow_shape h.qs
  obtain ⟨a0, a1, a2, a3, a4, a5, a6, a7, ev⟩ : ∃ a0 a1 a2 a3 a4 a5 a6 a7, c.vals = [a0, a1, a2, a3, a4, a5, a6, a7] := by
    have hl := h.len
    match c.vals, hl with
    | [a0, a1, a2, a3, a4, a5, a6, a7], _ => exact ⟨_, _, _, _, _, _, _, _, rfl⟩
  exact ⟨AN, cN, AV, cV, AP, cP, AQ, cQ, a0, a1, a2, a3, a4, a5, a6, a7, e1, e2, e3, e4, ev, _, _, _, _, _, _, _, _, _, _, _, _, _, _, _, _, rfl, ev, p1, p2, p3, p4⟩
theorem strs_rest2 {w : World} {B bb oo cap : Nat} {n l : Str} {os : List Str} (h : Strs w B (some ⟨bb, oo, none⟩) (n :: l :: os)) (hc : (n :: l :: os).length ≤ cap) : ∃ oq, Strs w B (some ⟨bb, oq, none⟩) os ∧ ((cap = 2 ∧ oq = oo) ∨ (¬ cap = 2 ∧ oq = oo + 2)) := by
  have := SegC.drop (k := 2) (cap := cap) h (by rw [SV_len]; simp) (by rw [SV_len]; exact hc)
  by_cases e : cap = 2
  · rw [if_pos e] at this
    exact ⟨oo, this, .inl ⟨e, rfl⟩⟩
  · rw [if_neg e] at this
    have ha : (⟨bb, oo, none⟩ : Addr).add 2 = ⟨bb, oo + 2, none⟩ := rfl
    exact ⟨oo + 2, by rw [Option.map_some, ha] at this; exact this, .inr ⟨e, rfl⟩⟩
abbrev TParts : TypeId := 25
theorem part_one (p : PartC) : ∀ u ∈ partV p, u.oneCell' = true := by
  intro u hu
  simp [partV] at hu
  rcases hu with rfl | rfl | rfl | rfl | rfl | rfl | rfl | rfl <;> rfl
theorem PVs_app (l : List PartC) (q : PartC) : PVs (l ++ [q]) = PVs l ++ partV q := by simp [PVs, List.flatMap_append]
/-- A partition put behind a row of partitions. -/
theorem app_part {W : World} {B : Nat} {vP : Value} {l : List PartC} {q : PartC} (h : OwnP W B vP l) (hl : l.length ≤ 1000) (hB : B ≤ W.heap.size) (g : Nat) (hg : Box W g TPart (partV q)) (ty : TypeId) :
    ∃ A' c' w', (Builtin.append_ #[TParts, TParts] ty #[vP, .slice (some ⟨g, 0, none⟩) 1 1]).run Tryz.prog W = .ok (.slice A' (l.length + 1) c') w' ∧ OwnP w' B (.slice A' (l.length + 1) c') (l ++ [q]) ∧ W.grownBy w' vP.ownBlock ∧ ((Value.slice A' (l.length + 1) c').ownBlock = vP.ownBlock ∨ (Value.slice A' (l.length + 1) c').ownBlock = some W.heap.size) := by
  obtain ⟨v', w', h1, h2, h3, h4⟩ := app_run (w := W) TParts TPart _ 8 72 Tryz.underlying25 infoPart rfl (by decide) ty B vP l.length (PVs l) h W.heap.size (some ⟨g, 0, none⟩) 1 1 (partV q) (fun _ => ⟨g, 0, rfl, Box.lt hg, fun j hj => by rw [Nat.zero_add, Box.cell hg]; exact List.getElem?_eq_getElem hj⟩) rfl (part_one q) (by omega) (by omega) hB
  obtain ⟨A', c', rfl, -, -, -⟩ := ownsRow_shape h2
  exact ⟨A', c', w', h1, by unfold OwnP; rw [PVs_app, List.length_append, List.length_singleton]; exact h2, h3, h4⟩
/-- Where the row of partitions, put anew, lies. -/
theorem own_newP {X : Nat → Prop} {b : Nat} {vN vV vP vP' vQ : Value} {m0 m1 m2 k0 s : Nat} (h : ∀ k, Own b vN vV vP vQ m0 m1 m2 k → X k) (ho : vP'.ownBlock = vP.ownBlock ∨ vP'.ownBlock = some s) (hs : k0 ≤ s) : ∀ k, Own b vN vV vP' vQ m0 m1 m2 k → X k ∨ k0 ≤ k := by
  rintro k (e | e | e | e | e | e | e | e)
  · exact .inl (h k (.inl e))
  · exact .inl (h k (.inr (.inl e)))
  · exact .inl (h k (.inr (.inr (.inl e))))
  · exact .inl (h k (.inr (.inr (.inr (.inl e)))))
  · exact .inl (h k (.inr (.inr (.inr (.inr (.inl e))))))
  · exact .inl (h k (.inr (.inr (.inr (.inr (.inr (.inl e)))))))
  · rcases ho with q | q
    · exact .inl (h k (.inr (.inr (.inr (.inr (.inr (.inr (.inl (q ▸ e)))))))))
    · rw [q] at e
      injection e with e
      exact .inr (e ▸ hs)
  · exact .inl (h k (.inr (.inr (.inr (.inr (.inr (.inr (.inr e))))))))
/-- Behind the first call: where the nodes lie. -/
def NodesAt (w : World) (x0 x1 x2 x3 : Int) (s5 : Value) (W : World) : Prop := ∃ bn, s5 = .pointer (some ⟨bn, 0, none⟩) ∧ Box W bn TNodes [.int .u64 x0, .int .u64 x1, .int .u64 x2, .int .u64 x3] ∧ w.heap.size ≤ bn ∧ Below w.heap.size w W
/-- Behind the second one: where the partition lies. -/
def PartAt (w : World) (cs : List Value) (s7 : Value) (W : World) : Prop := ∃ bp, s7 = .pointer (some ⟨bp, 0, none⟩) ∧ Box W bp TPart cs ∧ w.heap.size ≤ bp ∧ Below w.heap.size w W
theorem na_new {w w1 : World} {x0 x1 x2 x3 : Int} (b1 : Below w.heap.size w w1) : NodesAt w x0 x1 x2 x3 (.pointer (some ⟨w1.heap.size, 0, none⟩)) (w1.alloc (.cells #[.int .u64 x0, .int .u64 x1, .int .u64 x2, .int .u64 x3] TNodes)) :=
  ⟨_, rfl, Box.new w1 TNodes [.int .u64 x0, .int .u64 x1, .int .u64 x2, .int .u64 x3], b1.size, b1.alloc b1.size _⟩
theorem na_set {w w1 : World} {x0 x1 x2 x3 : Int} (b1 : Below (w.alloc (.cells #[.int .u64 0, .int .u64 0, .int .u64 0, .int .u64 0] TNodes)).heap.size (w.alloc (.cells #[.int .u64 0, .int .u64 0, .int .u64 0, .int .u64 0] TNodes)) w1) :
    NodesAt w x0 x1 x2 x3 (.pointer (some ⟨w.heap.size, 0, none⟩)) ((((w1.setCell ⟨w.heap.size, 0, none⟩ (.int .u64 x0)).setCell ⟨w.heap.size, 1, none⟩ (.int .u64 x1)).setCell ⟨w.heap.size, 2, none⟩ (.int .u64 x2)).setCell ⟨w.heap.size, 3, none⟩ (.int .u64 x3)) := by
  have kz : Box w1 w.heap.size TNodes [.int .u64 0, .int .u64 0, .int .u64 0, .int .u64 0] := Box.below (Box.new w TNodes [.int .u64 0, .int .u64 0, .int .u64 0, .int .u64 0]) b1 (by simp)
  have hb : Below w.heap.size w w1 := ((Below.refl w.heap.size w).alloc (Nat.le_refl _) _).trans (b1.mono (by simp))
  exact ⟨_, rfl, (((kz.set 0 _).set 1 _).set 2 _).set 3 _, Nat.le_refl _, below4 hb (Nat.le_refl _)⟩
theorem pa_new {w w1 : World} {cs : List Value} (b1 : Below w.heap.size w w1) : PartAt w cs (.pointer (some ⟨w1.heap.size, 0, none⟩)) (w1.alloc (.cells cs.toArray TPart)) :=
  ⟨_, rfl, Box.new w1 TPart cs, b1.size, b1.alloc b1.size _⟩
theorem pa_set {w w0 w1 : World} {s : Value} {x0 x1 x2 x3 y0 y1 y2 : Value} (h0 : Below w.heap.size w w0) (b1 : Below (w0.alloc (.cells #[.string ⟨#[]⟩, .int .u64 0, .int .u64 0, .int .u64 0, .int .u64 0, .int .i64 0, .int .i64 0, .int .i64 0] TPart)).heap.size (w0.alloc (.cells #[.string ⟨#[]⟩, .int .u64 0, .int .u64 0, .int .u64 0, .int .u64 0, .int .i64 0, .int .i64 0, .int .i64 0] TPart)) w1) :
    PartAt w [s, x0, x1, x2, x3, y0, y1, y2] (.pointer (some ⟨w0.heap.size, 0, none⟩)) ((((((((w1.setCell ⟨w0.heap.size, 0, none⟩ s).setCell ⟨w0.heap.size, 1, none⟩ x0).setCell ⟨w0.heap.size, 2, none⟩ x1).setCell ⟨w0.heap.size, 3, none⟩ x2).setCell ⟨w0.heap.size, 4, none⟩ x3).setCell ⟨w0.heap.size, 5, none⟩ y0).setCell ⟨w0.heap.size, 6, none⟩ y1).setCell ⟨w0.heap.size, 7, none⟩ y2) := by
  have kz : Box w1 w0.heap.size TPart [.string ⟨#[]⟩, .int .u64 0, .int .u64 0, .int .u64 0, .int .u64 0, .int .i64 0, .int .i64 0, .int .i64 0] := Box.below (Box.new w0 TPart [.string ⟨#[]⟩, .int .u64 0, .int .u64 0, .int .u64 0, .int .u64 0, .int .i64 0, .int .i64 0, .int .i64 0]) b1 (by simp)
  have hb : Below w.heap.size w w1 := (h0.alloc h0.size _).trans (b1.mono (by have := h0.size; simp; omega))
  exact ⟨_, rfl, (((((((kz.set 0 _).set 1 _).set 2 _).set 3 _).set 4 _).set 5 _).set 6 _).set 7 _, h0.size, below8 hb h0.size⟩
set_option maxRecDepth 100000 in
set_option maxHeartbeats 1000000 in
theorem readPart_any (B b : Nat) (c : Cfg) (vN vV vP vQ : Value) (m0 m1 m2 : Nat) (A : Option Addr) (cap : Nat) (ws : List Str) (w : World) (h : Rdr B w b c vN vV vP vQ m0 m1 m2) (hw : EnvAt B w) (hA : Strs w w.heap.size A ws) (hL : ∀ x ∈ ws, x.length ≤ 65536) (hws : ws.length ≤ 65536) (hcap : ws.length ≤ cap) (hcm : cap ≤ 9223372036854775807) (hq : c.parts.length ≤ 16) :
    Calls Tryz.prog 116 #[.pointer (some ⟨b, 0, none⟩), .slice A ws.length cap] w (LineP B b (Own b vN vV vP vQ m0 m1 m2) (partP c ws) w) := by
  obtain ⟨X, hX⟩ : ∃ X, X = Own b vN vV vP vQ m0 m1 m2 := ⟨_, rfl⟩
  rw [← hX]
  have hOX : ∀ k, Own b vN vV vP vQ m0 m1 m2 k → X k := fun k hk => by rw [hX]; exact hk
  clear hX
  replace hOX := fhid hOX
  have hBw : B ≤ w.heap.size := Nat.le_trans h.bb (Nat.le_of_lt (Box.lt h.box))
  have hbad := fhid (fun k (W : World) (hs : partP c ws = .error k) (hb : Below B w W) (hx : FX X w W) => line_bad (b := b) hs hb hx)
  have hokk := fhid (fun c' (W : World) (hs : partP c ws = .ok c') (hb : Below B w W) (hx : FX X w W) vN' vV' vP' vQ' m0' m1' m2' (hr : Rdr B W b c' vN' vV' vP' vQ' m0' m1' m2') (ho : ∀ k, Own b vN' vV' vP' vQ' m0' m1' m2' k → X k ∨ w.heap.size ≤ k) => line_ok (b := b) hs hb hx hr ho)
  by_cases h2 : ws.length < 2
  · have hE := fhid (partP_few (c := c) h2)
    have i1 : (ws.length : Int) < 2 := by omega
    generalize partP c ws = R at *
    generalize LineP B b X R w = P at *
    replace h := fhid h
    go_enter Tryz.func116, Tryz.ntmps116
    go_wp2_with fail
    exact hbad.out 3 _ hE.out (Below.refl _ _) (FX.of (Below.refl _ _))
  · obtain ⟨n, l, os, rfl⟩ : ∃ n l os, ws = n :: l :: os := by
      match ws, h2 with
      | [], h => simp at h
      | [_], h => simp at h
      | n :: l :: os, _ => exact ⟨_, _, _, rfl⟩
    obtain ⟨bb, oo, rfl, hbb, hc0⟩ := Strs.at_ hA (k := 0) (by simp)
    obtain ⟨bb', oo', he, _, hc1⟩ := Strs.at_ hA (k := 1) (by simp)
    injection he with he
    injection he with he1 he2
    subst he1
    subst he2
    simp only [List.getElem_cons_zero, List.getElem_cons_succ, Nat.add_zero] at hc0 hc1
    have d0 := hc0
    have d1 := hc1
    clear hc0 hc1
    have hnl := hL n (by simp)
    have hll := hL l (by simp)
    have hos : ∀ x ∈ os, x.length ≤ 65536 := fun x hx => hL x (by simp [hx])
    obtain ⟨oq, hdr, hcase⟩ := strs_rest2 hA hcap
    obtain ⟨AN, cN, AV, cV, AP, cP, AQ, cQ, a0, a1, a2, a3, a4, a5, a6, a7, rfl, rfl, rfl, rfl, ev, hcr⟩ := rdr_cr h
    have hset := fun (W : World) (hb : Below w.heap.size w W) => Set_any _ c (str l) W (hcr.below hb) ((hw.below (hb.mono hBw)).env) (by rw [str_size]; omega)
    rw [bl_str] at hset
    unfold setV at hset
    have hnew := fun p W => newPart_any n p W
    have hna := fun W => isName_any (str n) W (wsz n hnl)
    simp only [bl_str] at hna
    unfold BoolP at hna
    have hop := fun b W => partOptions_any b W
    unfold MadeN at hop
    have hro := fun g bq (x0 x1 x2 x3 : Value) (W : World) (hE : EnvAt bq W) hN (hV : VBox W bq TPart [.string (str n), x0, x1, x2, x3] (untold partS) []) (hgb : g ≠ bq) A' cap' (hA : Strs W W.heap.size A' os) (hAb : Apart A' bq) => readOptions_any g bq partS 5 TPart [.string (str n), x0, x1, x2, x3] (untold partS) [] A' cap' os W hE hN hV rfl rfl hgb (by decide) hA hAb hos (by simp only [List.length_cons] at hws; omega)
    unfold OptsP at hro
    rw [show partS.length = 3 from rfl] at hop hro
    have hadd := fun (m : Nat) (l : List Str) (W : World) (h : SMap W m l) => add_any m l n W h
    unfold AddP at hadd
    have hqn := @partP_name c n l os
    have hqo := @partP_opts c n l os
    have hqk := fun r => @partP_ok c n l os r
    have hlen1 : (n :: l :: os).length = os.length + 2 := rfl
    rw [hlen1] at hcap hws ⊢
    generalize partP c (n :: l :: os) = R at *
    generalize LineP B b X R w = P at *
    generalize hSO : setOf c l = SO at *
    obtain ⟨sp, sk⟩ := SO
    replace hnew := hnew sp
    have hpv : partV (partOf n sp (untold partS)) = [.string (str n), .int .u64 (Bs.word sp 0), .int .u64 (Bs.word sp 1), .int .u64 (Bs.word sp 2), .int .u64 (Bs.word sp 3), .int .i64 256, .int .i64 1000000, .int .i64 0] := rfl
    rw [hpv] at hnew
    simp only [Bs.nodes] at hset hnew
    have hwr := fun x y z W => partWrong_any ⟨n, sp, x, y, z⟩ W hnl
    unfold BoolP at hwr
    simp only [partV] at hwr
    have hbx := h.box
    rw [ev] at hbx
    obtain ⟨c0, c1, c2, c3, c4, c5, c6, c7, c8, c9, c10, c11⟩ : w.cell? ⟨b, 0, none⟩ = some (.slice AN c.names.length cN) ∧ w.cell? ⟨b, 1, none⟩ = some (.slice AV c.vecs.length cV) ∧ w.cell? ⟨b, 2, none⟩ = some (.slice AP c.parts.length cP) ∧ w.cell? ⟨b, 3, none⟩ = some (.slice AQ c.qos.length cQ) ∧ w.cell? ⟨b, 4, none⟩ = some (.int .i64 a0) ∧ w.cell? ⟨b, 5, none⟩ = some (.int .i64 a1) ∧ w.cell? ⟨b, 6, none⟩ = some (.int .i64 a2) ∧ w.cell? ⟨b, 7, none⟩ = some (.int .i64 a3) ∧ w.cell? ⟨b, 8, none⟩ = some (.int .i64 a4) ∧ w.cell? ⟨b, 9, none⟩ = some (.int .i64 a5) ∧ w.cell? ⟨b, 10, none⟩ = some (.int .i64 a6) ∧ w.cell? ⟨b, 11, none⟩ = some (.int .i64 a7) :=
      ⟨Box.cell hbx 0, Box.cell hbx 1, Box.cell hbx 2, Box.cell hbx 3, Box.cell hbx 4, Box.cell hbx 5, Box.cell hbx 6, Box.cell hbx 7, Box.cell hbx 8, Box.cell hbx 9, Box.cell hbx 10, Box.cell hbx 11⟩
    have hbl := Box.lt h.box
    generalize hx0 : (Bs.word sp 0 : Int) = x0 at *
    generalize hx1 : (Bs.word sp 1 : Int) = x1 at *
    generalize hx2 : (Bs.word sp 2 : Int) = x2 at *
    generalize hx3 : (Bs.word sp 3 : Int) = x3 at *
    have i0 : ¬ ((os.length : Int) + 2 < 2) := by omega
    have i00 : (0 : Int) < (os.length : Int) + 2 := by omega
    have i01 : (1 : Int) < (os.length : Int) + 2 := by omega
    have i1 : (2 : Int) ≤ (os.length : Int) + 2 := by omega
    have i2 : ((os.length : Int) + 2) ≤ cap := by omega
    have i3 : (cap : Int) ≤ 9223372036854775807 := by omega
    generalize hNS : str n = NS at *
    generalize str l = LS at *
    generalize hm : os.length = m at *
    replace h := fhid h
    replace hw := fhid hw
    replace hA := fhid hA
    replace hL := fhid hL
    replace hdr := fhid hdr
    replace hNS := fhid hNS
    replace hlen1 := fhid hlen1
    replace hm := fhid hm
    replace hbx := fhid hbx
    replace hx0 := fhid hx0
    replace hx1 := fhid hx1
    replace hx2 := fhid hx2
    replace hx3 := fhid hx3
    replace hSO := fhid hSO
    replace ev := fhid ev
    clear hcr
    generalize c.names.length = nN at *
    generalize c.vecs.length = nV at *
    generalize hnQ : c.qos.length = nQ at *
    replace hnQ := fhid hnQ
    go_enter Tryz.func116, Tryz.ntmps116
    go_upto_region 3 with fail
    go_cut [5, 6] (fun s5 s6 wx => NodesAt w x0 x1 x2 x3 s5 wx ∧ s6 = .int .i64 (sk : Int))
    case first =>
      go_region_law (go_simp; go_at_call 21; (with_reducible refine (hset _ (by first | exact (Below.refl _ _).drew | exact ((Below.refl _ _).alloc (Nat.le_refl _) _).drew | exact (Below.refl _ _).drew.alloc (Nat.le_refl _) _)).mono ?_); rintro e w1 ⟨rfl, b1⟩
                     (first
                       | (have bs : Below (w.alloc (.cells #[.int .u64 0, .int .u64 0, .int .u64 0, .int .u64 0] TNodes)).heap.size (w.alloc (.cells #[.int .u64 0, .int .u64 0, .int .u64 0, .int .u64 0] TNodes)) w1 := ⟨b1.os, b1.tape, b1.output, b1.size, b1.block⟩
                          have kz : Box w1 w.heap.size TNodes [.int .u64 0, .int .u64 0, .int .u64 0, .int .u64 0] := Box.below (Box.new w TNodes [.int .u64 0, .int .u64 0, .int .u64 0, .int .u64 0]) bs (by simp)
                          obtain ⟨⟨y0, y1, y2, y3⟩, q0, q1, q2, q3⟩ := Box.four kz
                          have kl := Box.lt kz)
                       | (have bn : Below w.heap.size w w1 := ⟨b1.os, b1.tape, b1.output, b1.size, b1.block⟩)))
      all_goals
        go_wp2_with fail
        go_meet
        first
          | (with_reducible exact ⟨na_new bn, rfl⟩)
          | (with_reducible exact ⟨na_set bs, rfl⟩)
    case rest =>
      obtain ⟨⟨bn, rfl, N2, hbn, B2⟩, rfl⟩ := hcut
      obtain ⟨w2, rfl⟩ : ∃ w2 : World, w2 = wc := ⟨_, rfl⟩
      obtain ⟨⟨n0, n1, n2, n3⟩, -, -, -, -⟩ := Box.four N2
      have nl := Box.lt N2
      have e0 := (B2.cell (p := ⟨bb, oo, none⟩) hbb).trans d0
      have hbb2 := Nat.lt_of_lt_of_le hbb B2.size
      clear hset c0 c1 c2 c3 c4 c5 c6 c7 c8 c9 c10 c11 d0 d1
      replace N2 := fhid N2
      replace B2 := fhid B2
      go_upto_region 4 with fail
      go_cut [7] (fun s7 wx => PartAt w2 [.string NS, .int .u64 x0, .int .u64 x1, .int .u64 x2, .int .u64 x3, .int .i64 256, .int .i64 1000000, .int .i64 0] s7 wx)
      case first =>
        go_region_law (go_simp; go_at_call 148; (with_reducible refine (hnew _).mono ?_); rintro e w3 ⟨rfl, b3⟩
                       (first
                         | (have bs : Below (w2.alloc (.cells #[.string ⟨#[]⟩, .int .u64 0, .int .u64 0, .int .u64 0, .int .u64 0, .int .i64 0, .int .i64 0, .int .i64 0] TPart)).heap.size (w2.alloc (.cells #[.string ⟨#[]⟩, .int .u64 0, .int .u64 0, .int .u64 0, .int .u64 0, .int .i64 0, .int .i64 0, .int .i64 0] TPart)) w3 := ⟨b3.os, b3.tape, b3.output, b3.size, b3.block⟩
                            have kz : Box w3 w2.heap.size TPart [.string ⟨#[]⟩, .int .u64 0, .int .u64 0, .int .u64 0, .int .u64 0, .int .i64 0, .int .i64 0, .int .i64 0] := Box.below (Box.new w2 TPart [.string ⟨#[]⟩, .int .u64 0, .int .u64 0, .int .u64 0, .int .u64 0, .int .i64 0, .int .i64 0, .int .i64 0]) bs (by simp)
                            obtain ⟨⟨y0, q0⟩, ⟨y1, q1⟩, ⟨y2, q2⟩, ⟨y3, q3⟩, ⟨y4, q4⟩, ⟨y5, q5⟩, ⟨y6, q6⟩, ⟨y7, q7⟩, kl⟩ := Box.eight kz)
                         | (have bn : Below w2.heap.size w2 w3 := ⟨b3.os, b3.tape, b3.output, b3.size, b3.block⟩)))
        all_goals
          go_wp2_with fail
          go_meet
          first
            | (with_reducible exact pa_new bn)
            | (with_reducible exact pa_set (Below.refl _ _) bs)
      case rest =>
        obtain ⟨bp, rfl, P3, hbp, B3⟩ := hcut
        obtain ⟨w3, rfl⟩ : ∃ w3 : World, w3 = wc := ⟨_, rfl⟩
        have V3 := fhid (show VBox w3 bp TPart [.string NS, .int .u64 x0, .int .u64 x1, .int .u64 x2, .int .u64 x3] (untold partS) [] from P3)
        have V3l := Box.lt P3
        have B3w := fhid (B2.out.trans (B3.mono B2.out.size))
        have hbpw : w.heap.size ≤ bp := Nat.le_trans B2.out.size hbp
        have z0 : w3.drew.cell? ⟨bp, 0, none⟩ = some (.string NS) := Box.cell P3 0
        have d3 : Below w3.heap.size w3 w3.drew := (Below.refl _ _).drew
        have hbbp : bb ≠ bp := by omega
        replace P3 := fhid P3
        replace B3 := fhid B3
        clear hnew n0 n1 n2 n3 e0 hbb2 nl
        generalize hnP : c.parts.length = nP at *
        replace hnP := fhid hnP
        have hm0 : (cap = 2 ∧ oq = oo ∧ m = 0) ∨ (¬ cap = 2 ∧ oq = oo + 2) := by
          rcases hcase with ⟨e1, e2⟩ | ⟨e1, e2⟩
          · exact .inl ⟨e1, e2, by omega⟩
          · exact .inr ⟨e1, e2⟩
        clear hcase
        cases hn : isNameP n with
        | false =>
          have hE := fhid (hqn hn)
          rw [hn] at hna
          clear hqn hqo hqk hop hro hwr hadd
          replace hn := fhid hn
          have cz := fun d os => cell_regrown (show w3.cell? ⟨bp, 0, none⟩ = some (.string NS) from Box.cell P3.out 0) d os
          have cm := fun d os => Calls.regrown_of (hna (Sort.grow (redrawn w3 d) os))
          clear hna z0 d3
          go_upto_region 5 with fail
          refine wp_region_quiet_below (by kernel_rfl) (by kernel_rfl) ?_
          repeat (first | go_big_quiet_step ((exact cm _ _)) | quiet_step ((exact cm _ _)))
          refine wpQuiet_nil ?_
          rintro w9 ⟨pq, rfl⟩
          have b9 := below_regrown w3 pq.d pq.os
          go_wp2_with fail
          exact hbad.out 3 _ hE.out ((B3w.out.trans (b9.mono B3w.out.size)).mono hBw) (FX.of (B3w.out.trans (b9.mono B3w.out.size)))
        | true =>
          rw [hn] at hna
          have hqk2 := fun r => hqk r hn
          clear hqn hqk
          replace hn := fhid hn
          generalize hop2 : optsP partS os [] (untold partS) = O at *
          rcases hm0 with ⟨rfl, rfl, rfl⟩ | ⟨hc1, rfl⟩
          all_goals
            cases O with
            | none =>
              have hE := fhid (hqo rfl)
              simp only [Option.isSome] at hro
              clear hqo hqk2 hwr hadd
              replace hop2 := fhid hop2
              have z := z0
              go_upto_region 5 with fail
              go_region_held3 (fun w' => w'.cell? ⟨bp, 0, none⟩ = some (.string NS)) (first | exact z | fail)
                (first
                  | (go_at_call 135
                     (with_reducible refine (hna _).mono ?_)
                     rintro e w4 ⟨rfl, b4'⟩
                     have b4 := d3.trans b4'
                     have z := (b4.cell (p := ⟨bp, 0, none⟩) V3l).trans z0)
                  | (go_at_call 136
                     (with_reducible refine (hop _ _).mono ?_)
                     rintro e w5 ⟨g, rfl, hgs, hN, b5'⟩
                     have b5 := b4.trans (b5'.mono b4.size)
                     have hgq : g ≠ bp := by have := b4.size; omega
                     have z := (b5.cell (p := ⟨bp, 0, none⟩) V3l).trans z0
                     have B5 := B3w.out.trans (b5.mono B3w.out.size)
                     have V5 := VBox.below V3.out b5 V3l
                     have E5 := (hw.out.below (B5.mono hBw)).mono (Nat.le_trans hBw hbpw)
                     have A5 := strs_below hdr.out B5 B5.size)
                  | (go_at_call 149
                     (with_reducible refine (hro _ bp _ _ _ _ _ E5 hN V5 hgq _ _ A5 (apart_of hbbp)).mono ?_)
                     rintro e w6 ⟨rfl, a6, vs6, V6, l6, p6⟩
                     have z : w6.cell? ⟨bp, 0, none⟩ = some (.string NS) := Box.cell V6 0))
              go_wp2_with fail
              exact hbad.out 3 _ hE.out ((B5.mono hBw).trans (a6.below (Nat.le_trans hBw hbpw) (Nat.le_trans hBw B5.size))) ((FX.of B5).aft a6 (.inr hbpw))
            | some r =>
              simp only [Option.isSome] at hro
              clear hqo
              have hR1 := fhid (hqk2 r rfl)
              clear hqk2
              replace hop2 := fhid hop2
              have z := z0
              go_upto_region 5 with fail
              go_region_held3 (fun w' => w'.cell? ⟨bp, 0, none⟩ = some (.string NS)) (first | exact z | fail)
                (first
                  | (go_at_call 135
                     (with_reducible refine (hna _).mono ?_)
                     rintro e w4 ⟨rfl, b4'⟩
                     have b4 := d3.trans b4'
                     have z := (b4.cell (p := ⟨bp, 0, none⟩) V3l).trans z0)
                  | (go_at_call 136
                     (with_reducible refine (hop _ _).mono ?_)
                     rintro e w5 ⟨g, rfl, hgs, hN, b5'⟩
                     have b5 := b4.trans (b5'.mono b4.size)
                     have hgq : g ≠ bp := by have := b4.size; omega
                     have z := (b5.cell (p := ⟨bp, 0, none⟩) V3l).trans z0
                     have B5 := B3w.out.trans (b5.mono B3w.out.size)
                     have V5 := VBox.below V3.out b5 V3l
                     have E5 := (hw.out.below (B5.mono hBw)).mono (Nat.le_trans hBw hbpw)
                     have A5 := strs_below hdr.out B5 B5.size)
                  | (go_at_call 149
                     (with_reducible refine (hro _ bp _ _ _ _ _ E5 hN V5 hgq _ _ A5 (apart_of hbbp)).mono ?_)
                     rintro e w6 ⟨rfl, a6, vs6, V6, l6, p6⟩
                     have z : w6.cell? ⟨bp, 0, none⟩ = some (.string NS) := Box.cell V6 0))
              have hvr : vs6 = r := p6 r rfl
              subst hvr
              obtain ⟨y0, y1, y2, rfl⟩ : ∃ y0 y1 y2, vs6 = [y0, y1, y2] := by
                match vs6, l6 with
                | [y0, y1, y2], _ => exact ⟨_, _, _, rfl⟩
              have B6 : Below w.heap.size w w6 := B5.trans (a6.below hbpw B5.size)
              have R6 := h.out.below B6
              have hqx : partOf n sp [y0, y1, y2] = ⟨n, sp, y0, y1, y2⟩ := rfl
              have hR0 : R = if sk ≠ 0 then .error sk else if n ∈ c.parts.map (·.name) then .error 7 else if 16 < nP + 1 then .error 5 else if partWrong ⟨n, sp, y0, y1, y2⟩ = true then .error 12 else .ok { c with parts := c.parts ++ [⟨n, sp, y0, y1, y2⟩] } := hR1.out
              replace hR0 := fhid hR0
              have hx6 : Box w6 bp TPart [.string NS, .int .u64 x0, .int .u64 x1, .int .u64 x2, .int .u64 x3, .int .i64 y0, .int .i64 y1, .int .i64 y2] := V6
              have hl6 := Box.lt hx6
              have f6 := R6.fields
              have had := hadd m1 (c.parts.map (·.name)) w6.drew (show SMap w6.drew m1 (c.parts.map (·.name)) from R6.s1)
              have hbl6 := f6.2.2.2
              have hm6 := R6.s1.lt
              have hqm : bp ≠ m1 := box_map hx6 R6.s1
              clear hna hop hro p6 l6 V6 hadd z hR1
              by_cases hsk : sk = 0
              · subst hsk
                have hR2 := fhid (hR0.out.trans (if_neg (by simp)))
                by_cases hin : n ∈ c.parts.map (·.name)
                · rw [decide_eq_false (by simpa using hin), if_pos hin] at had
                  have hE := fhid (hR2.out.trans (if_pos hin))
                  clear hwr
                  replace hin := fhid hin
                  have z : w6.drew.cell? ⟨b, 13, none⟩ = some (.map (some m1)) ∧ w6.drew.cell? ⟨bp, 0, none⟩ = some (.string NS) := ⟨f6.2.1.2.1, Box.cell hx6 0⟩
                  go_upto_region 9 with fail
                  go_region_held3 (fun w' => w'.cell? ⟨b, 13, none⟩ = some (.map (some m1)) ∧ w'.cell? ⟨bp, 0, none⟩ = some (.string NS)) (first | exact z | fail)
                    (first
                      | (go_at_call 131
                         (with_reducible refine had.mono ?_)
                         rintro e w7 ⟨rfl, s7, a7'⟩
                         have a7 : Aft m1 w6 w7 := ⟨a7'.os, a7'.tape, a7'.output, a7'.size, a7'.block⟩
                         have z : w7.cell? ⟨b, 13, none⟩ = some (.map (some m1)) ∧ w7.cell? ⟨bp, 0, none⟩ = some (.string NS) := ⟨(RG.fields (R6.map1 a7 s7)).2.1.2.1, Box.cell (Box.grown hx6 a7 (by intro e; injection e with e; exact hqm e)) 0⟩))
                  go_wp2_with fail
                  exact hbad.out 7 _ hE.out ((B6.mono hBw).trans (a7.below R6.b1 (Nat.le_trans hBw B6.size))) ((FX.of B6).aft a7 (.inl (hOX.out _ (.inr (.inr (.inl rfl))))))
                · rw [decide_eq_true (by simpa using hin), if_neg hin] at had
                  have hR3 := fhid (hR2.out.trans (if_neg hin))
                  replace hin := fhid hin
                  have z : w6.drew.cell? ⟨b, 13, none⟩ = some (.map (some m1)) ∧ w6.drew.cell? ⟨bp, 0, none⟩ = some (.string NS) := ⟨f6.2.1.2.1, Box.cell hx6 0⟩
                  go_upto_region 9 with fail
                  go_region_held3 (fun w' => w'.cell? ⟨b, 13, none⟩ = some (.map (some m1)) ∧ w'.cell? ⟨bp, 0, none⟩ = some (.string NS)) (first | exact z | fail)
                    (first
                      | (go_at_call 131
                         (with_reducible refine had.mono ?_)
                         rintro e w7 ⟨rfl, s7, a7'⟩
                         have a7 : Aft m1 w6 w7 := ⟨a7'.os, a7'.tape, a7'.output, a7'.size, a7'.block⟩
                         have z : w7.cell? ⟨b, 13, none⟩ = some (.map (some m1)) ∧ w7.cell? ⟨bp, 0, none⟩ = some (.string NS) := ⟨(RG.fields (R6.map1 a7 s7)).2.1.2.1, Box.cell (Box.grown hx6 a7 (by intro e; injection e with e; exact hqm e)) 0⟩))
                  have R7 := R6.map1 a7 s7
                  have x7 := Box.grown hx6 a7 (by intro e; injection e with e; exact hqm e)
                  have B7 : Below B w w7 := (B6.mono hBw).trans (a7.below R6.b1 (Nat.le_trans hBw B6.size))
                  have X7 : FX X w w7 := (FX.of B6).aft a7 (.inl (hOX.out _ (.inr (.inr (.inl rfl)))))
                  replace X7 := fhid X7
                  have hl7 := fun T => SMap.len s7 T
                  have f7 := R7.fields
                  have k8 := Box.eight x7
                  obtain ⟨⟨k0, -⟩, ⟨k1, -⟩, ⟨k2, -⟩, ⟨k3, -⟩, ⟨k4, -⟩, ⟨k5, -⟩, ⟨k6, -⟩, ⟨k7, -⟩, hql7⟩ := k8
                  have hbl7 := f7.2.2.2
                  have z13 := f7.2.1.2.1
                  have hln : (c.parts.map (·.name) ++ [n]).length = nP + 1 := by rw [List.length_append, List.length_map, hnP.out]; rfl
                  rw [hln] at hl7
                  have hw7 := hwr y0 y1 y2
                  clear hwr had z f6 hl6 hbl6 hm6 f7
                  replace R7 := fhid R7
                  replace R6 := fhid R6
                  replace x7 := fhid x7
                  replace hx6 := fhid hx6
                  replace s7 := fhid s7
                  replace hln := fhid hln
                  by_cases h16 : 16 < nP + 1
                  · have hE := fhid (hR3.out.trans (if_pos h16))
                    have j1 : ((nP : Int) + 1) > 16 := by omega
                    have j2 : (((nP + 1 : Nat) : Int)) > 16 := by omega
                    clear hw7
                    go_wp2_with fail
                    exact hbad.out 5 _ hE.out B7 X7.out
                  · have hR4 := fhid (hR3.out.trans (if_neg h16))
                    have j1 : ¬ ((nP : Int) + 1) > 16 := by omega
                    have j2 : ¬ (((nP + 1 : Nat) : Int)) > 16 := by omega
                    generalize hqw : partWrong ⟨n, sp, y0, y1, y2⟩ = QW at *
                    replace hqw := fhid hqw
                    cases QW with
                    | true =>
                      have hE := fhid (hR4.out.trans (if_pos rfl))
                      go_wp2_with (go_at_call 95; (with_reducible refine (hw7 _).mono ?_); rintro e w8 ⟨rfl, b8⟩)
                      exact hbad.out 12 _ hE.out (B7.trans (b8.mono (Nat.le_trans hBw B7.size))) (X7.out.on b8)
                    | false =>
                      have hE := fhid (hR4.out.trans (if_neg (by simp)))
                      go_upto_region 15 with (go_at_call 95; (with_reducible refine (hw7 _).mono ?_); rintro e w8 ⟨rfl, b8⟩)
                      have hBw7 := Nat.le_trans hBw B7.size
                      have B8 := B7.trans (b8.mono hBw7)
                      have R8 := R7.out.below b8
                      have x8 := Box.below x7.out b8 hql7
                      have k8 := Box.eight x8
                      obtain ⟨⟨k0, -⟩, ⟨k1, -⟩, ⟨k2, -⟩, ⟨k3, -⟩, ⟨k4, -⟩, ⟨k5, -⟩, ⟨k6, -⟩, ⟨k7, -⟩, hql8⟩ := k8
                      have f8 := R8.fields
                      have z2 := f8.1.2.2.1
                      have hbl8 := f8.2.2.2
                      have hBw8 := Nat.le_trans hBw B8.size
                      obtain ⟨AP', cP', w9, hap, hO9, hg9, ho9⟩ := app_part (W := (w8.alloc (.cells #[.string NS, .int .u64 x0, .int .u64 x1, .int .u64 x2, .int .u64 x3, .int .i64 y0, .int .i64 y1, .int .i64 y2] TPart)).drew) (q := ⟨n, sp, y0, y1, y2⟩) (R8.pt.alloc _) (by have := hnP.out; omega) (Nat.le_trans hBw8 (by simp)) w8.heap.size (by
                        unfold partV
                        simp only
                        rw [hNS.out, hx0.out, hx1.out, hx2.out, hx3.out]
                        exact Box.new w8 TPart [.string NS, .int .u64 x0, .int .u64 x1, .int .u64 x2, .int .u64 x3, .int .i64 y0, .int .i64 y1, .int .i64 y2]) 25
                      have R9 : RG B ((w8.alloc (.cells #[.string NS, .int .u64 x0, .int .u64 x1, .int .u64 x2, .int .u64 x3, .int .i64 y0, .int .i64 y1, .int .i64 y2] TPart)).drew) b c.names c.vecs c.parts c.qos c.vals c.names (c.parts.map (·.name) ++ [n]) (c.qos.map (·.name)) _ _ _ _ m0 m1 m2 := R8.below ((Below.refl _ _).alloc (Nat.le_refl _) _).drew
                      have x9 := Box.grown R9.box hg9 (own_tag R9.pt R9.box (by decide))
                      have z9 : w9.cell? ⟨b, 2, none⟩ = some (.slice AP nP cP) := Box.cell x9 2
                      have y9 : w9.frozen? ⟨b, 2, none⟩ = false := Box.free x9 2
                      have hbl9 := Box.lt x9
                      have R10 := fhid (R9.rowP hg9 hO9)
                      have hs9 : B ≤ ((w8.alloc (.cells #[.string NS, .int .u64 x0, .int .u64 x1, .int .u64 x2, .int .u64 x3, .int .i64 y0, .int .i64 y1, .int .i64 y2] TPart)).drew).heap.size := Nat.le_trans hBw8 (by simp)
                      have B9 : Below B w w9 := (B8.trans ((Below.refl B w8).alloc hBw8 (.cells #[.string NS, .int .u64 x0, .int .u64 x1, .int .u64 x2, .int .u64 x3, .int .i64 y0, .int .i64 y1, .int .i64 y2] TPart)).drew).grown hg9 hs9 (fun k hk => ownsRow_ge R9.pt k hk)
                      have X9 : FX X w w9 := ((X7.out.on b8).on ((Below.refl _ _).alloc (Nat.le_refl _) _).drew).step hg9 (fun k e => .inl (hOX.out _ (.inr (.inr (.inr (.inr (.inr (.inr (.inl e)))))))))
                      have O9 := own_newP (X := X) (k0 := w.heap.size) hOX.out ho9 (Nat.le_trans B8.size (by simp))
                      replace X9 := fhid X9
                      replace O9 := fhid O9
                      clear ho9
                      replace B9 := fhid B9
                      replace R9 := fhid R9
                      replace x9 := fhid x9
                      replace R8 := fhid R8
                      replace x8 := fhid x8
                      replace hap := fhid hap
                      go_region_law (refine step_app 25 rfl (.tmp 66) (.tmp 68) rfl (.slice AP nP cP) (.slice (some ⟨w8.heap.size, 0, none⟩) 1 1) (by simp [Act.eval]) (by simp [Act.eval]) (.slice AP' (c.parts.length + 1) cP') w9 hap.out ?_)
                      all_goals
                        go_wp2_with fail
                        exact hokk.out _ _ hE.out (B9.out.setCell (p := ⟨b, 2, none⟩) R10.out.bb _) (X9.out.set (hOX.out _ (.inl rfl)) _ _) _ _ _ _ _ _ _ (by
                          have := R10.out
                          unfold Rdr
                          simp only [List.map_append, List.map_cons, List.map_nil]
                          exact this) O9.out
              · have hE := fhid (hR0.out.trans (if_pos hsk))
                have j1 : ((sk : Int) != 0) = true := by simp; omega
                have j2 : ¬ (sk : Int) = 0 := by omega
                clear hwr had
                go_wp2_with fail
                exact hbad.out sk _ hE.out (B6.mono hBw) (FX.of B6)
end Go.Proofs.YtghnpkpmgpbmcaaGreatDoor
