/-
  Parts: KRNode KLine KRLine KSplit KSeq KNewR KLinesM KParseM KParse0 KCases.
-/
import Derived.Test.YtghnpkpmgpbmcaaGreatDoorK4
import Derived.RangeFuncNested
import Derived.RangeFuncBound
import Derived.RangeFuncCalls
import Derived.RangeFuncLeaves
import Derived.RangeFuncBox
import Derived.Shelf.Abstract
import Derived.Shelf.RegionOpen
import Derived.WalkKit
import Derived.OwnWalkIn
import Derived.TacticsInMore
import Derived.LoopNIn
import Derived.LoopIn
import Derived.RegionIn
import Derived.Sort.QuietIn
set_option linter.unusedSimpArgs false
set_option linter.unusedVariables false
/-
  A line that tells nodes.
-/
namespace Go.Proofs.YtghnpkpmgpbmcaaGreatDoor
open Go.RowKit Go.Shelf Vs

theorem nodeP_len {c : Cfg} {ws : List Str} (h : ws.length ≠ 2) : nodeP c ws = .error 3 := by
  match ws, h with
  | [], _ => rfl
  | [_], _ => rfl
  | [_, _], h => exact absurd rfl h
  | _ :: _ :: _ :: _, _ => rfl
theorem nodeP_two (c : Cfg) (l v : Str) : nodeP c [l, v] = if (Hs.expand l).2.1 ≠ 0 ∨ (Vs.parseP v).2 ≠ 0 then .error 3
    else if ¬ (Hs.expand l).1.all nodeNameP = true then .error 3
    else if ¬ (c.names ++ (Hs.expand l).1).Nodup then .error 7
    else if 256 < c.names.length + (Hs.expand l).1.length then .error 5
    else .ok { c with names := c.names ++ (Hs.expand l).1, vecs := c.vecs ++ List.replicate (Hs.expand l).1.length (Vs.parseP v).1 } := rfl
theorem nodup_more {l m : List Str} {k : Nat} (hk : k < m.length) (h : (l ++ m.take k).Nodup) (hn : m[k] ∉ l ++ m.take k) : (l ++ m.take (k + 1)).Nodup := by
  rw [List.take_succ_eq_append_getElem hk, ← List.append_assoc, List.nodup_append]
  exact ⟨h, by simp, fun a ha b hb => by simp at hb; subst hb; exact fun e => hn (e ▸ ha)⟩
theorem nodup_less {l m : List Str} {k : Nat} (hk : k < m.length) (hn : m[k] ∈ l ++ m.take k) : ¬ (l ++ m).Nodup := by
  intro h
  have h2 : (l ++ m.take (k + 1)).Nodup := h.sublist (List.Sublist.append (List.Sublist.refl l) (List.take_sublist _ _))
  rw [List.take_succ_eq_append_getElem hk, ← List.append_assoc, List.nodup_append] at h2
  exact h2.2.2 _ hn _ (by simp) rfl
abbrev TStrs : TypeId := 23
/-- An append that is known, as one step of the walk. -/
theorem wp_app {w : World} {ops : Array Oper} {rest : List Oper} {o : Oper} {a : Act} {Q : Exit → Act → World → Prop} (T : TypeId) (hgd : o.guard = none) (s x : Operand) (ho : o.op = .call { callee := .builtin .append, args := #[s, x], argTypes := #[T, T] })
    (vs vx : Value) (hs : a.eval s = vs) (hx : a.eval x = vx) (v' : Value) (w' : World) (hrun : (Builtin.append_ #[T, T] o.type #[vs, vx]).run Tryz.prog w = .ok v' w') (h : wpList Tryz.prog ops Q rest (a.put o.dst v') w') : wpList Tryz.prog ops Q (o :: rest) a w := by
  refine wpList_plain hgd fun K hK => ?_
  unfold Oper.wp execOp
  simp only [ho, resolve, invoke, builtin, Sem.run_bind, Sem.run_pure, Result.andThen_ok, List.map_toArray, List.map_cons, List.map_nil, hs, hx, hrun]
  exact hK _ _ h
theorem box_box {w : World} {b1 b2 : Nat} {T1 T2 : TypeId} {c1 c2 : List Value} (h1 : Box w b1 T1 c1) (h2 : Box w b2 T2 c2) (hT : T1 ≠ T2) : b1 ≠ b2 := by
  intro e
  subst e
  unfold Box at h1 h2
  rw [h1] at h2
  injection h2 with h2
  injection h2 with _ h3
  exact hT h3
/-- Names put behind a row of names. -/
theorem app_strs {W : World} {B : Nat} {vN : Value} {l : List Str} (h : OwnS W B vN l) (hl : l.length ≤ 1000) (hB : B ≤ W.heap.size) (A : Option Addr) (m cap : Nat) (ns : List Str) (hm : m = ns.length) (hA : Strs W W.heap.size A ns) (hn : m ≤ 1000) (ty : TypeId) :
    ∃ A' c' w', (Builtin.append_ #[TStrs, TStrs] ty #[vN, .slice A m cap]).run Tryz.prog W = .ok (.slice A' (l.length + m) c') w' ∧ OwnS w' B (.slice A' (l.length + m) c') (l ++ ns) ∧ W.grownBy w' vN.ownBlock ∧ ((Value.slice A' (l.length + m) c').ownBlock = vN.ownBlock ∨ (Value.slice A' (l.length + m) c').ownBlock = some W.heap.size) := by
  subst hm
  obtain ⟨v', w', h1, h2, h3, h4⟩ := app_run (w := W) TStrs TStr _ 1 16 Tryz.underlying23 infoString rfl (by decide) ty B vN l.length (SV l) h W.heap.size A ns.length cap (SV ns) hA (by rw [SV_len]; omega) (SV_one ns) (by omega) (by omega) hB
  obtain ⟨A', c', rfl, -, -, -⟩ := ownsRow_shape h2
  exact ⟨A', c', w', h1, by unfold OwnS; rw [SV_app, List.length_append]; exact h2, h3, h4⟩
abbrev TVecs2 : TypeId := 24
/-- Vectors put behind a row of vectors. -/
theorem app_vecs {W : World} {B : Nat} {vV : Value} {l : List V3} (h : OwnV W B vV l) (hl : l.length ≤ 1000) (hB : B ≤ W.heap.size) (g N : Nat) (x : V3) (hg : Reps W g x N N) (hn : N ≤ 256) (ty : TypeId) :
    ∃ A' c' w', (Builtin.append_ #[TVecs2, TVecs2] ty #[vV, .slice (some ⟨g, 0, none⟩) N N]).run Tryz.prog W = .ok (.slice A' (l.length + N) c') w' ∧ OwnV w' B (.slice A' (l.length + N) c') (l ++ List.replicate N x) ∧ W.grownBy w' vV.ownBlock ∧ ((Value.slice A' (l.length + N) c').ownBlock = vV.ownBlock ∨ (Value.slice A' (l.length + N) c').ownBlock = some W.heap.size) := by
  obtain ⟨Z, hZ, hb⟩ := hg
  have hz : Z = [] := List.eq_nil_of_length_eq_zero (by rw [hZ]; omega)
  subst hz
  rw [List.append_nil] at hb
  obtain ⟨v', w', h1, h2, h3, h4⟩ := app_run (w := W) TVecs2 TVec _ 3 24 Tryz.underlying24 infoVec rfl (by decide) ty B vV l.length (VVs l) h W.heap.size (some ⟨g, 0, none⟩) N N (VVs (List.replicate N x)) (fun _ => ⟨g, 0, rfl, Box.lt hb, fun j hj => by rw [Nat.zero_add, Box.cell hb]; exact List.getElem?_eq_getElem hj⟩) (by rw [VVs_len, List.length_replicate]) (VVs_one _) (by omega) (by omega) hB
  obtain ⟨A', c', rfl, -, -, -⟩ := ownsRow_shape h2
  exact ⟨A', c', w', h1, by unfold OwnV; rw [VVs_app, List.length_append, List.length_replicate]; exact h2, h3, h4⟩
theorem own_newN {X : Nat → Prop} {b : Nat} {vN vN' vV vP vQ : Value} {m0 m1 m2 k0 s : Nat} (h : ∀ k, Own b vN vV vP vQ m0 m1 m2 k → X k) (ho : vN'.ownBlock = vN.ownBlock ∨ vN'.ownBlock = some s) (hs : k0 ≤ s) : ∀ k, Own b vN' vV vP vQ m0 m1 m2 k → X k ∨ k0 ≤ k := by
  rintro k (e | e | e | e | e | e | e | e)
  · exact .inl (h k (.inl e))
  · exact .inl (h k (.inr (.inl e)))
  · exact .inl (h k (.inr (.inr (.inl e))))
  · exact .inl (h k (.inr (.inr (.inr (.inl e)))))
  · rcases ho with q | q
    · exact .inl (h k (.inr (.inr (.inr (.inr (.inl (q ▸ e)))))))
    · rw [q] at e
      injection e with e
      exact .inr (e ▸ hs)
  · exact .inl (h k (.inr (.inr (.inr (.inr (.inr (.inl e)))))))
  · exact .inl (h k (.inr (.inr (.inr (.inr (.inr (.inr (.inl e))))))))
  · exact .inl (h k (.inr (.inr (.inr (.inr (.inr (.inr (.inr e))))))))
theorem own_newV {X : Nat → Prop} {b : Nat} {vN vV vV' vP vQ : Value} {m0 m1 m2 k0 s : Nat} (h : ∀ k, Own b vN vV vP vQ m0 m1 m2 k → X k) (ho : vV'.ownBlock = vV.ownBlock ∨ vV'.ownBlock = some s) (hs : k0 ≤ s) : ∀ k, Own b vN vV' vP vQ m0 m1 m2 k → X k ∨ k0 ≤ k := by
  rintro k (e | e | e | e | e | e | e | e)
  · exact .inl (h k (.inl e))
  · exact .inl (h k (.inr (.inl e)))
  · exact .inl (h k (.inr (.inr (.inl e))))
  · exact .inl (h k (.inr (.inr (.inr (.inl e)))))
  · exact .inl (h k (.inr (.inr (.inr (.inr (.inl e))))))
  · rcases ho with q | q
    · exact .inl (h k (.inr (.inr (.inr (.inr (.inr (.inl (q ▸ e))))))))
    · rw [q] at e
      injection e with e
      exact .inr (e ▸ hs)
  · exact .inl (h k (.inr (.inr (.inr (.inr (.inr (.inr (.inl e))))))))
  · exact .inl (h k (.inr (.inr (.inr (.inr (.inr (.inr (.inr e))))))))
set_option maxRecDepth 100000 in
set_option maxHeartbeats 4000000 in
theorem readNode_any (B b : Nat) (c : Cfg) (vN vV vP vQ : Value) (m0 m1 m2 : Nat) (A : Option Addr) (cap : Nat) (ws : List Str) (w : World) (h : Rdr B w b c vN vV vP vQ m0 m1 m2) (hw : EnvAt B w) (hA : Strs w w.heap.size A ws) (hL : ∀ x ∈ ws, x.length ≤ 65536) (hnd : c.names.Nodup) (hnl : c.names.length ≤ 256) (hvl : c.vecs.length ≤ 256) :
    Calls Tryz.prog 115 #[.pointer (some ⟨b, 0, none⟩), .slice A ws.length cap] w (LineP B b (Own b vN vV vP vQ m0 m1 m2) (nodeP c ws) w) := by
  obtain ⟨X, hX⟩ : ∃ X, X = Own b vN vV vP vQ m0 m1 m2 := ⟨_, rfl⟩
  rw [← hX]
  have hOX : ∀ k, Own b vN vV vP vQ m0 m1 m2 k → X k := fun k hk => by rw [hX]; exact hk
  clear hX
  replace hOX := fhid hOX
  have hBw : B ≤ w.heap.size := Nat.le_trans h.bb (Nat.le_of_lt (Box.lt h.box))
  have hbad := fhid (fun k (W : World) (hs : nodeP c ws = .error k) (hb : Below B w W) (hx : FX X w W) => line_bad (b := b) hs hb hx)
  have hokk := fhid (fun c' (W : World) (hs : nodeP c ws = .ok c') (hb : Below B w W) (hx : FX X w W) vN' vV' vP' vQ' m0' m1' m2' (hr : Rdr B W b c' vN' vV' vP' vQ' m0' m1' m2') (ho : ∀ k, Own b vN' vV' vP' vQ' m0' m1' m2' k → X k ∨ w.heap.size ≤ k) => line_ok (b := b) hs hb hx hr ho)
  by_cases h2 : ws.length = 2
  · obtain ⟨l, v, rfl⟩ : ∃ l v, ws = [l, v] := by
      match ws, h2 with
      | [l, v], _ => exact ⟨l, v, rfl⟩
    obtain ⟨bb, oo, rfl, hbb, d0⟩ := Strs.at_ hA (k := 0) (by simp)
    obtain ⟨bb', oo', he, _, d1⟩ := Strs.at_ hA (k := 1) (by simp)
    injection he with he
    injection he with he1 he2
    subst he1
    subst he2
    simp only [List.getElem_cons_zero, List.getElem_cons_succ, Nat.add_zero] at d0 d1
    have hll := hL l (by simp)
    have hvl2 := hL v (by simp)
    have hex := fun W (hW : Hs.Tab W) => Hs.Expand_any (str l) W hW (by rw [str_size]; omega)
    unfold Hs.ExpPost at hex
    rw [show Hs.bl (str l) = l from bl_str l] at hex
    have hpa := fun W (hW : Env W) => Vs.Parse_any (str v) (by rw [str_size]; omega) W hW
    unfold VP at hpa
    rw [bl_str] at hpa
    have hR := nodeP_two c l v
    have hE256 := (Hs.expand_facts l).2.1
    have hEn : ∀ x ∈ (Hs.expand l).1, True := fun _ _ => trivial
    rw [show ([l, v] : List Str).length = 2 from rfl] at *
    generalize nodeP c [l, v] = R at *
    generalize LineP B b X R w = P at *
    generalize Hs.expand l = E at *
    generalize Vs.parseP v = PV at *
    obtain ⟨ns, f1, f2⟩ := E
    obtain ⟨⟨q0, q1, q2⟩, pe⟩ := PV
    simp only [vv] at hex hpa hR hE256
    generalize str l = LS at *
    generalize str v = VS at *
    have hbl := Box.lt h.box
    replace hR := fhid hR
    replace h := fhid h
    replace hw := fhid hw
    replace hA := fhid hA
    replace hL := fhid hL
    replace hnd := fhid hnd
    clear hEn
    go_enter Tryz.func115, Tryz.ntmps115
    go_upto_region 5 with (first
      | (go_at_call 25; (with_reducible refine (hex _ (hs_tab (hw.out.env))).mono ?_); rintro e w1 ⟨v1, rfl, own, b1⟩
         obtain ⟨AX, cX, rfl, hx1, hx2, sg⟩ := own.shape
         have e1 := (b1.cell (p := ⟨bb, oo + 1, none⟩) hbb).trans d1
         have hbb1 := Nat.lt_of_lt_of_le hbb b1.size
         have F1 := Box.new w1 31 [.int .i64 (f1 : Int), .int .i64 (f2 : Int)]
         have B1 := b1.trans (((Below.refl w1.heap.size w1).alloc (Nat.le_refl _) (.cells #[.int .i64 (f1 : Int), .int .i64 (f2 : Int)] 31)).mono b1.size))
      | (go_at_call 146; (with_reducible refine (hpa _ ((hw.out.below (B1.mono hBw)).env)).mono ?_); rintro e w2 ⟨rfl, b2⟩))
    have bA := (Below.refl w1.heap.size w1).alloc (Nat.le_refl _) (.cells #[.int .i64 (f1 : Int), .int .i64 (f2 : Int)] 31)
    have bV := (Below.refl w2.heap.size w2).alloc (Nat.le_refl _) (.cells #[.int .i64 q0, .int .i64 q1, .int .i64 q2] TVec)
    have F2 := Box.below F1 b2 (Box.lt F1)
    have F3 := Box.below F2 bV (Box.lt F2)
    have X3 := Box.new w2 TVec [.int .i64 q0, .int .i64 q1, .int .i64 q2]
    have N3 := strs_below (strs_below (strs_below sg bA (show w1.heap.size ≤ _ from bA.size)) b2 (show (w1.alloc (.cells #[.int .i64 (f1 : Int), .int .i64 (f2 : Int)] 31)).heap.size ≤ w2.heap.size from b2.size)) bV bV.size
    have B2 := B1.trans (b2.mono B1.size)
    have B3 := B2.trans (bV.mono B2.size)
    generalize w1.heap.size = bf at *
    generalize w2.heap.size = bv at *
    generalize w2.alloc _ = w3 at *
    clear F1 F2 b2 bA bV B1 B2 b1 own sg e1 hbb1 d0 d1 hex hpa
    have f0 : w3.cell? ⟨bf, 0, none⟩ = some (.int .i64 (f1 : Int)) := Box.cell F3 0
    have fl := Box.lt F3
    generalize hFI : (f1 : Int) = FI at *
    by_cases h1 : f1 = 0
    · obtain rfl : FI = 0 := by omega
      replace hFI := fhid hFI
      by_cases hp : pe = 0
      · subst hp
        have hR1 := fhid (hR.out.trans (if_neg (by rw [h1]; simp)))
        replace h1 := fhid h1
        have R3 := fhid (h.out.below B3)
        replace X3 := fhid X3
        replace N3 := fhid N3
        replace F3 := fhid F3
        have hnn := fun (x : Str) (W : World) (hb : Below w3.heap.size w3 W) => isNodeName_any (str x) W ((hw.out.below ((B3.trans (hb.mono B3.size)).mono hBw)).env)
        simp only [bl_str] at hnn
        unfold BoolP at hnn
        have hadd := fun (m : Nat) (l : List Str) (s : Str) (W : World) (h : SMap W m l) => add_any m l s W h
        unfold AddP at hadd
        go_wp2_with fail
        go_loopw [39] (fun i wr => ∃ k : Nat, k ≤ ns.length ∧ i = .int .i64 k ∧ Hid ((ns.take k).all nodeNameP = true) ∧ Below w3.heap.size w3 wr) (fun i _ => ns.length - (intOf i).toNat)
        case atStart => exact ⟨0, Nat.zero_le _, rfl, fhid (by simp), Below.refl _ _⟩
        case round =>
          obtain ⟨k, hk, rfl, hN, hB⟩ := hrel
          have i0 : (0 : Int) ≤ k := by omega
          have i2 : (ns.length : Int) ≤ 256 := by omega
          by_cases hlt : k < ns.length
          · have i1 : (k : Int) < ns.length := by omega
            obtain ⟨nb, no, rfl, hnb, hc⟩ := Strs.at_ N3.out hlt
            have hcell := (hB.cell (p := ⟨nb, no + k, none⟩) hnb).trans hc
            have hnb2 := Nat.lt_of_lt_of_le hnb hB.size
            have hst := all_step (f := nodeNameP) hlt
            have hbd := @all_bad Str ns k nodeNameP hlt
            have hn1 := hnn ns[k]
            generalize nodeNameP ns[k] = N1 at *
            generalize str ns[k] = NS at *
            replace hst := fhid hst
            replace hN := fhid hN.out
            replace hlt := fhid hlt
            clear hnn hadd hc
            cases N1 with
            | false =>
              have hE := fhid (hR1.out.trans (if_pos (by rw [hbd rfl]; simp)))
              clear hbd
              go_wp2_with (go_at_call 90; (with_reducible refine (hn1 _ hB).mono ?_); rintro e w4 ⟨rfl, b4⟩)
              exact hbad.out 3 _ hE.out ((B3.trans ((hB.trans (b4.mono hB.size)).mono B3.size)).mono hBw) (FX.of (B3.trans ((hB.trans (b4.mono hB.size)).mono B3.size)))
            | true =>
              clear hbd
              go_wp2_with (go_at_call 90; (with_reducible refine (hn1 _ hB).mono ?_); rintro e w4 ⟨rfl, b4⟩)
              go_roundw
              case rel => exact ⟨k + 1, hlt.out, by go_num, fhid (by rw [hst.out, hN.out]; rfl), hB.trans (b4.mono hB.size)⟩
              case measure => have := hlt.out; simp [intOf]; omega
          · obtain rfl : k = ns.length := by omega
            have hall : ns.all nodeNameP = true := by have := hN.out; rwa [List.take_of_length_le (Nat.le_refl _)] at this
            have hR2 := fhid (hR1.out.trans (if_neg (by rw [hall]; simp)))
            obtain ⟨w4, rfl⟩ : ∃ w4 : World, w4 = wr := ⟨_, rfl⟩
            have B4 := B3.trans (hB.mono B3.size)
            have R4 := R3.out.below hB
            have X4 := Box.below X3.out hB (Box.lt X3.out)
            have N4 := strs_below N3.out hB hB.size
            have hs0 := R4.s0
            have m0l := hs0.lt
            clear hnn hN hall i0
            replace R4 := fhid R4
            replace X4 := fhid X4
            replace N4 := fhid N4
            go_wp2_with fail
            go_loopw [49] (fun i wr => ∃ k : Nat, k ≤ ns.length ∧ i = .int .i64 k ∧ Hid ((c.names ++ ns.take k).Nodup) ∧ SMap wr m0 (c.names ++ ns.take k) ∧ Aft m0 w4 wr) (fun i _ => ns.length - (intOf i).toNat)
            case atStart => exact ⟨0, Nat.zero_le _, rfl, fhid (by simpa using hnd.out), by simpa using hs0, Aft.of (Below.refl _ _)⟩
            case round =>
              obtain ⟨k, hk, rfl, hN, hS, hA4⟩ := hrel
              have i0 : (0 : Int) ≤ k := by omega
              have R5 := R4.out.map0 hA4 hS
              have f5 := R5.fields
              have z12 := f5.2.1.1
              have hbl5 := f5.2.2.2
              clear f5
              have hBl : Below B w wr := (B4.mono hBw).trans (hA4.below R5.b0 (Nat.le_trans hBw B4.size))
              have XL : FX X w wr := (FX.of B4).aft hA4 (.inl (hOX.out _ (.inr (.inl rfl))))
              replace XL := fhid XL
              by_cases hlt : k < ns.length
              · have i1 : (k : Int) < ns.length := by omega
                obtain ⟨nb, no, rfl, hnb, hc⟩ := Strs.at_ N4.out hlt
                have hne : nb ≠ m0 := by
                  intro e
                  obtain ⟨es, ck, hm, _⟩ := hs0
                  have hc2 := hc
                  simp only [World.cell?, e, hm] at hc2
                  cases hc2
                have hcell := (hA4.cell (p := ⟨nb, no + k, none⟩) hnb hne).trans hc
                have hnb2 := Nat.lt_of_lt_of_le hnb hA4.size
                have hyes := nodup_more (l := c.names) hlt hN.out
                have hnot := nodup_less (l := c.names) (m := ns) (k := k) hlt
                have htk : c.names ++ ns.take (k + 1) = (c.names ++ ns.take k) ++ [ns[k]] := by rw [List.take_succ_eq_append_getElem hlt, List.append_assoc]
                have had := hadd m0 (c.names ++ ns.take k) ns[k] wr hS
                generalize hT : c.names ++ ns.take k = TK at *
                generalize ns[k] = NM at *
                generalize str NM = NS at *
                replace hT := fhid hT
                replace hyes := fhid hyes
                replace hnot := fhid hnot
                replace htk := fhid htk
                replace hN := fhid hN.out
                replace hS := fhid hS
                replace R5 := fhid R5
                replace hlt := fhid hlt
                clear hadd hc hs0
                by_cases hin : NM ∈ TK
                · rw [decide_eq_false (by simpa using hin)] at had
                  have hE := fhid (hR2.out.trans (if_pos (hnot.out hin)))
                  replace hin := fhid hin
                  go_wp2_with (go_at_call 131; (with_reducible refine had.mono ?_); rintro e w6 ⟨rfl, s6, a6⟩)
                  exact hbad.out 7 _ hE.out (hBl.trans (a6.below R5.out.b0 (Nat.le_trans hBw hBl.size))) (XL.out.aft a6 (.inl (hOX.out _ (.inr (.inl rfl)))))
                · rw [decide_eq_true (by simpa using hin), if_neg hin] at had
                  have hN2 := fhid (hyes.out hin)
                  replace hin := fhid hin
                  go_wp2_with (go_at_call 131; (with_reducible refine had.mono ?_); rintro e w6 ⟨rfl, s6, a6⟩)
                  go_roundw
                  case rel => exact ⟨k + 1, hlt.out, by go_num, hN2, by rw [htk.out]; exact s6, hA4.trans a6⟩
                  case measure => have := hlt.out; simp [intOf]; omega
              · obtain rfl : k = ns.length := by omega
                rw [List.take_of_length_le (Nat.le_refl _)] at hN hS R5
                have hR3 := fhid (hR2.out.trans (if_neg (by simpa using hN.out)))
                obtain ⟨w6, rfl⟩ : ∃ w6 : World, w6 = wr := ⟨_, rfl⟩
                have X6 : Box w6 bv TVec [.int .i64 q0, .int .i64 q1, .int .i64 q2] := Box.grown X4.out hA4 (fun e => box_map X4.out hs0 (by injection e))
                have N6 : Strs w6 w6.heap.size AX ns := by
                  intro h0
                  obtain ⟨nb, no, e, hnb, hc⟩ := N4.out h0
                  have hne : nb ≠ m0 := by
                    intro e2
                    obtain ⟨es, ck, hm, _⟩ := hs0
                    have hc2 := hc 0 h0
                    simp only [World.cell?, e2, hm] at hc2
                    cases hc2
                  exact ⟨nb, no, e, Nat.lt_of_lt_of_le hnb hA4.size, fun j hj => (hA4.cell (p := ⟨nb, no + j, none⟩) hnb hne).trans (hc j hj)⟩
                have hl6 := fun T => SMap.len hS T
                rw [List.length_append] at hl6
                have hwB := Nat.le_trans hBw hBl.size
                clear hadd hs0 hN i0 m0l
                by_cases h256 : 256 < c.names.length + ns.length
                · have hE := fhid (hR3.out.trans (if_pos h256))
                  have j1 : ((c.names.length : Int) + ns.length) > 256 := by omega
                  have j2 : (((c.names.length + ns.length : Nat) : Int)) > 256 := by omega
                  replace R5 := fhid R5
                  go_wp2_with fail
                  exact hbad.out 5 _ hE.out hBl XL.out
                · have hE := fhid (hR3.out.trans (if_neg h256))
                  have j1 : ¬ ((c.names.length : Int) + ns.length) > 256 := by omega
                  have j2 : ¬ (((c.names.length + ns.length : Nat) : Int)) > 256 := by omega
                  obtain ⟨AN', cN', w7, hap, hO7, hg7, ho7⟩ := app_strs (W := w6) R5.nm (by omega) hwB AX ns.length cX ns rfl N6 (by omega) TStrs
                  have x7 := Box.grown R5.box hg7 (own_tag R5.nm R5.box (by decide))
                  have v7 := Box.grown X6 hg7 (own_tag R5.nm X6 (by decide))
                  have z7 : w7.cell? ⟨b, 0, none⟩ = some vN := Box.cell x7 0
                  have y7 : w7.frozen? ⟨b, 0, none⟩ = false := Box.free x7 0
                  have z6 : w6.cell? ⟨b, 0, none⟩ = some vN := R5.fields.1.1
                  have hbl7 := Box.lt x7
                  have hvb : b ≠ bv := box_box x7 v7 (by decide)
                  have R8 := R5.rowN hg7 hO7
                  have X8 : Box (w7.setCell ⟨b, 0, none⟩ (.slice AN' (c.names.length + ns.length) cN')) bv TVec [.int .i64 q0, .int .i64 q1, .int .i64 q2] := Box.other v7 (a := ⟨b, 0, none⟩) (fun e => hvb e.symm) _
                  have B8 : Below B w (w7.setCell ⟨b, 0, none⟩ (.slice AN' (c.names.length + ns.length) cN')) := (hBl.grown hg7 hwB (fun k hk => ownsRow_ge R5.nm k hk)).setCell (p := ⟨b, 0, none⟩) R5.bb _
                  have X8r : FX X w (w7.setCell ⟨b, 0, none⟩ (.slice AN' (c.names.length + ns.length) cN')) := (XL.out.step hg7 (fun k e => .inl (hOX.out _ (.inr (.inr (.inr (.inr (.inl e)))))))).set (hOX.out _ (.inl rfl)) _ _
                  have O8 := own_newN (X := X) (k0 := w.heap.size) hOX.out ho7 XL.out.size
                  replace X8r := fhid X8r
                  replace O8 := fhid O8
                  clear ho7
                  replace R8 := fhid R8
                  replace X8 := fhid X8
                  replace B8 := fhid B8
                  replace R5 := fhid R5
                  replace x7 := fhid x7
                  replace v7 := fhid v7
                  replace X6 := fhid X6
                  replace N6 := fhid N6
                  replace hap := fhid hap
                  go_upto_region 22 with (at_builtin; refine wp_app TStrs rfl (.tmp 72) (.tmp 73) rfl vN (.slice AX ns.length cX) rfl rfl (.slice AN' (c.names.length + ns.length) cN') w7 hap.out ?_)
                  clear z7 y7 z6 hbl7 hl6 hg7 hO7
                  generalize w7.setCell _ _ = w8 at *
                  have f8 := R8.out.fields
                  have z1 := f8.1.2.1
                  have hbl8 := f8.2.2.2
                  obtain ⟨k0, k1, k2⟩ : w8.cell? ⟨bv, 0, none⟩ = some (.int .i64 q0) ∧ w8.cell? ⟨bv, 1, none⟩ = some (.int .i64 q1) ∧ w8.cell? ⟨bv, 2, none⟩ = some (.int .i64 q2) := ⟨Box.cell X8.out 0, Box.cell X8.out 1, Box.cell X8.out 2⟩
                  have hvl8 := Box.lt X8.out
                  have hB8 := Nat.le_trans hBw B8.out.size
                  have hrp := Repeat_any w8.heap.size (q0, q1, q2) ns.length hE256 (w8.alloc (.cells #[.int .i64 q0, .int .i64 q1, .int .i64 q2] TVec)).drew (show Box (w8.alloc (.cells #[.int .i64 q0, .int .i64 q1, .int .i64 q2] TVec)).drew w8.heap.size TVec _ from Box.new w8 TVec [.int .i64 q0, .int .i64 q1, .int .i64 q2])
                  have bA : Below w8.heap.size w8 (w8.alloc (.cells #[.int .i64 q0, .int .i64 q1, .int .i64 q2] TVec)).drew := ((Below.refl _ _).alloc (Nat.le_refl _) _).drew
                  go_region_law (first
                    | (refine step_app TVecs2 rfl (.tmp 83) (.tmp 88) rfl vV (.slice (some ⟨g9, 0, none⟩) ns.length ns.length) (by simp [Act.eval]) (by simp [Act.eval]) (.slice AV' (c.vecs.length + ns.length) cV') w10 hap9.out ?_)
                    | (go_simp; go_at_call 147; (with_reducible refine hrp.mono ?_); rintro e w9 ⟨g9, rfl, hg9, P9, b9'⟩
                       have b9 : Below w8.heap.size w8 w9 := bA.trans (b9'.mono bA.size)
                       have R9 := R8.out.below b9
                       have f9 := R9.fields
                       have z1' := f9.1.2.1
                       have hbl9 := f9.2.2.2
                       obtain ⟨AV', cV', w10, hap9, hO10, hg10, ho10⟩ := app_vecs (W := w9) R9.vc (by omega) (Nat.le_trans hB8 b9.size) g9 ns.length (q0, q1, q2) P9 hE256 TVecs2
                       have x10 := Box.grown R9.box hg10 (own_tag R9.vc R9.box (by decide))
                       have z10 : w10.cell? ⟨b, 1, none⟩ = some vV := Box.cell x10 1
                       have y10 : w10.frozen? ⟨b, 1, none⟩ = false := Box.free x10 1
                       have hbl10 := Box.lt x10
                       have R10 := fhid (R9.rowV hg10 hO10)
                       have B10 := fhid ((B8.out.trans (b9.mono hB8)).grown hg10 (Nat.le_trans hB8 b9.size) (fun k hk => ownsRow_ge R9.vc k hk))
                       have X10 := fhid ((X8r.out.on b9).step hg10 (fun k e => .inl (hOX.out _ (.inr (.inr (.inr (.inr (.inr (.inl e)))))))))
                       have O10 := fhid (own_newV (X := fun k => X k ∨ w.heap.size ≤ k) (k0 := w.heap.size) O8.out ho10 (Nat.le_trans X8r.out.size b9.size))
                       replace hap9 := fhid hap9
                       replace x10 := fhid x10
                       replace R9 := fhid R9
                       replace P9 := fhid P9
                       clear f9 hg10 hO10 b9' ho10))
                  all_goals
                    go_wp2_with fail
                    exact hokk.out _ _ hE.out (B10.out.setCell (p := ⟨b, 1, none⟩) R10.out.bb _) (X10.out.set (hOX.out _ (.inl rfl)) _ _) _ _ _ _ _ _ _ R10.out (fun k hk => by rcases O10.out k hk with (h | h) | h; exact .inl h; exact .inr h; exact .inr h)
      · have hE := fhid (hR.out.trans (if_pos (.inr hp)))
        replace h1 := fhid h1
        have j1 : (pe != 0) = true := by simpa using hp
        go_wp2_with fail
        exact hbad.out 3 _ hE.out (B3.mono hBw) (FX.of B3)
    · have hE := fhid (hR.out.trans (if_pos (.inl h1)))
      have j2 : ¬ FI = 0 := by omega
      have j1 : (FI != 0) = true := by simpa using j2
      replace hFI := fhid hFI
      go_wp2_with fail
      exact hbad.out 3 _ hE.out (B3.mono hBw) (FX.of B3)
  · have hE := fhid (nodeP_len (c := c) h2)
    have i2 : ((ws.length : Int) != 2) = true := by simp; omega
    have i3 : ¬ (ws.length : Int) = 2 := by omega
    generalize nodeP c ws = R at *
    generalize LineP B b X R w = P at *
    replace h := fhid h
    go_enter Tryz.func115, Tryz.ntmps115
    go_wp2_with fail
    exact hbad.out 3 _ hE.out (Below.refl _ _) (FX.of (Below.refl _ _))
end Go.Proofs.YtghnpkpmgpbmcaaGreatDoor
/-
  What a line's words are, and how they are read.
-/
namespace Go.Proofs.YtghnpkpmgpbmcaaGreatDoor
open Go.RowKit Go.Shelf Vs

def cut35 (l : Str) : Value := .tuple #[.string (str (Vs.upTo 35 l)), .string (str (Vs.behind 35 l)), .bool (decide (35 ∈ l))]
set_option maxRecDepth 100000 in
set_option maxHeartbeats 1000000 in
theorem cut350_any (s : ByteArray) (hs : s.size ≤ 140737488355328) (w : World) : Calls Tryz.prog 114 #[.string s, .string ⟨#[35]⟩] w fun e w' => e = .returned (cut35 (bl s)) ∧ Grew w w' := by
  have hi := fun W => Tryz.stringslite_Index_one s 35 W
  by_cases h : 35 ∈ bl s
  · obtain ⟨h1, h2⟩ := idx_some h
    have h1' : Lib.indexByte s.data.toList 35 = ((Vs.upTo 35 (bl s)).length : Int) := h1
    rw [h1'] at hi
    rw [bl_len] at h2
    have e1 : s.extract 0 (Vs.upTo 35 (bl s)).length = str (Vs.upTo 35 (bl s)) := by rw [ext_to, ← upTo_take]
    have e2 : s.extract ((Vs.upTo 35 (bl s)).length + 1) s.size = str (Vs.behind 35 (bl s)) := by rw [ext_from]; rfl
    have hE := fhid (show cut35 (bl s) = .tuple #[.string (str (Vs.upTo 35 (bl s))), .string (str (Vs.behind 35 (bl s))), .bool true] by unfold cut35; rw [decide_eq_true h])
    clear h h1 h1'
    generalize str (Vs.upTo 35 (bl s)) = A1 at *
    generalize str (Vs.behind 35 (bl s)) = A2 at *
    generalize (Vs.upTo 35 (bl s)).length = k at *
    have i1 : (0 : Int) ≤ k := by omega
    have i2 : (k : Int) < s.size := by omega
    have i3 : (s.size : Int) ≤ 140737488355328 := by omega
    have i4 : ((k : Int) + 1).toNat = k + 1 := by omega
    have i5 : (k : Int) + 1 ≤ s.size := by omega
    go_enter Tryz.func114, Tryz.ntmps114
    go_wp2_with (go_at_call 145; (with_reducible refine (hi _).mono ?_); rintro e w1 ⟨rfl, rfl⟩)
    go_quiet (fail)
    go_wp2_with fail
    exact bodyPost_ret (v := .tuple #[.string A1, .string A2, .bool true]) (by simp [results, Tryz.results114, go_sem]) rfl ⟨by rw [hE.out], (Grew.refl _).drewN _⟩
  · have h1' : Lib.indexByte s.data.toList 35 = -1 := idx_none h
    rw [h1'] at hi
    have hE := fhid (show cut35 (bl s) = .tuple #[.string s, .string ⟨#[]⟩, .bool false] by
      unfold cut35
      rw [decide_eq_false h, upTo_no h, str_bl]
      unfold Vs.behind
      rw [upTo_no h, List.drop_of_length_le (by omega)]
      rfl)
    clear h1' h
    go_enter Tryz.func114, Tryz.ntmps114
    go_wp2_with (go_at_call 145; (with_reducible refine (hi _).mono ?_); rintro e w1 ⟨rfl, rfl⟩)
    exact bodyPost_ret (v := .tuple #[.string s, .string ⟨#[]⟩, .bool false]) (by simp [results, Tryz.results114, go_sem]) rfl ⟨by rw [hE.out], Grew.refl _⟩
set_option maxRecDepth 100000 in
set_option maxHeartbeats 1000000 in
theorem cut35_any (s : ByteArray) (hs : s.size ≤ 140737488355328) (w : World) : Calls Tryz.prog 67 #[.string s, .string ⟨#[35]⟩] w fun e w' => e = .returned (cut35 (bl s)) ∧ Grew w w' := by
  have h := fun W => cut350_any s hs W
  have hE := fhid (show cut35 (bl s) = .tuple #[.string (str (Vs.upTo 35 (bl s))), .string (str (Vs.behind 35 (bl s))), .bool (decide (35 ∈ bl s))] from rfl)
  simp only [hE.out] at h ⊢
  generalize str (Vs.upTo 35 (bl s)) = A1 at *
  generalize str (Vs.behind 35 (bl s)) = A2 at *
  generalize decide (35 ∈ bl s) = A3 at *
  clear hE
  go_enter Tryz.func67, Tryz.ntmps67
  go_wp2_with (go_at_call 114; (with_reducible refine (h _).mono ?_); rintro e w1 ⟨rfl, g1⟩)
  exact bodyPost_ret (v := .tuple #[.string A1, .string A2, .bool A3]) (by simp [results, Tryz.results67, go_sem]) rfl ⟨rfl, g1⟩
theorem spans_len (p : Nat → Bool) (s : ByteArray) : ∀ (f pos : Nat) (st : Option Nat) (acc : List (Nat × Nat)), (Lib.spansFromP p s f pos st acc).1.length ≤ acc.length + f
  | 0, _, _, _ => by simp [Lib.spansFromP]
  | f + 1, pos, st, acc => by
    unfold Lib.spansFromP
    split
    · split
      · cases st with
        | none => have := spans_len p s f (pos + (Utf8.decode s pos).2) none acc; simp only; omega
        | some a => have := spans_len p s f (pos + (Utf8.decode s pos).2) none (acc ++ [(a, pos)]); simp at this ⊢; omega
      · cases st with
        | none => have := spans_len p s f (pos + (Utf8.decode s pos).2) (some pos) acc; simp only; omega
        | some a => have := spans_len p s f (pos + (Utf8.decode s pos).2) (some a) acc; simp only; omega
    · simp
theorem words_count (l : Str) : (words l).length ≤ l.length + 1 := by
  unfold words Lib.goFieldsP Lib.spansOfP
  rw [List.length_map, List.length_map]
  have h := spans_len isBlankP ⟨l.toArray⟩ (ByteArray.size ⟨l.toArray⟩) 0 none []
  have hz : (⟨l.toArray⟩ : ByteArray).size = l.length := str_size l
  rw [hz] at h ⊢
  generalize Lib.spansFromP isBlankP ⟨l.toArray⟩ l.length 0 none [] = R at *
  obtain ⟨r1, r2⟩ := R
  unfold Lib.closeSpans
  cases r2 <;> simp at h ⊢ <;> omega
theorem words_len (l : Str) : ∀ x ∈ words l, x.length ≤ l.length := by
  intro x hx
  unfold words Lib.goFieldsP at hx
  rw [List.map_map] at hx
  obtain ⟨y, _, rfl⟩ := List.mem_map.1 hx
  show (bl (ByteArray.extract _ _ _)).length ≤ _
  rw [bl_len, ByteArray.size_extract, show (⟨l.toArray⟩ : ByteArray).size = l.length from str_size l]
  omega
theorem fields_words (l : Str) : (Lib.goFieldsP isBlankP (str l)).map Value.string = SV (words l) := by
  unfold SV words
  rw [List.map_map]
  refine List.map_congr_left fun x _ => ?_
  show Value.string x = Value.string (str (bl x))
  rw [str_bl]
theorem fields_len (l : Str) : (Lib.goFieldsP isBlankP (str l)).length = (words l).length := by unfold words; rw [List.length_map]; rfl
theorem fields_any (l : Str) (w : World) (hl : l.length ≤ 65536) : Calls Tryz.prog 68 #[.string (str l), .func (.func 69) #[] #[]] w fun e w' => ∃ A, e = .returned (.slice (some ⟨A, 0, none⟩) (words l).length (words l).length) ∧ w.heap.size ≤ A ∧ OwnS w' w.heap.size (.slice (some ⟨A, 0, none⟩) (words l).length (words l).length) (words l) ∧ Below w.heap.size w w' := by
  have h := Tryz.strings_FieldsFunc_grows 69 #[] (enters_of Tryz.func69 (by kernel_rfl) rfl) isBlankP (str l) w (by rw [str_size]; omega) (fun W x _ _ => by
    refine (isBlank_any (x : Int) W).mono ?_
    rintro e w' ⟨rfl, q, rfl⟩
    refine ⟨?_, Vs.below_drewN (Below.refl _ _) _⟩
    have e1 : ((x : Int) == 32) = (x == 32) := by rw [Bool.eq_iff_iff]; simp; omega
    have e2 : ((x : Int) == 9) = (x == 9) := by rw [Bool.eq_iff_iff]; simp; omega
    rw [e1, e2]
    rfl)
  rw [fields_words, fields_len] at h
  exact h
end Go.Proofs.YtghnpkpmgpbmcaaGreatDoor
/-
  A line is read.
-/
namespace Go.Proofs.YtghnpkpmgpbmcaaGreatDoor
open Go.RowKit Go.Shelf Vs

/-- How the words behind a first one are read. -/
def wayV (b : Nat) (k : Str) : Value :=
  if k = kNode then .func (.func 115) #[.pointer (some ⟨b, 0, none⟩)] #[]
  else if k = kPart then .func (.func 116) #[.pointer (some ⟨b, 0, none⟩)] #[]
  else if k = kQos then .func (.func 117) #[.pointer (some ⟨b, 0, none⟩)] #[]
  else if k = kSet then .func (.func 118) #[.pointer (some ⟨b, 0, none⟩)] #[]
  else .nilFunc
set_option maxRecDepth 100000 in
set_option maxHeartbeats 2000000 in
theorem way_any (b : Nat) (k : Str) (w : World) : Calls Tryz.prog 70 #[.pointer (some ⟨b, 0, none⟩), .string (str k)] w fun e w' => e = .returned (wayV b k) ∧ w = w' := by
  have q1 : ((str k).toList == ([110, 111, 100, 101] : List UInt8)) = decide (k = kNode) := by
    have := str_eq (str k) (str kNode)
    rwa [bl_str, bl_str, show (str kNode).toList = ([110, 111, 100, 101] : List UInt8) from by rw [ByteArray.toList_eq]; rfl] at this
  have q2 : ((str k).toList == ([112, 97, 114, 116] : List UInt8)) = decide (k = kPart) := by
    have := str_eq (str k) (str kPart)
    rwa [bl_str, bl_str, show (str kPart).toList = ([112, 97, 114, 116] : List UInt8) from by rw [ByteArray.toList_eq]; rfl] at this
  have q3 : ((str k).toList == ([113, 111, 115] : List UInt8)) = decide (k = kQos) := by
    have := str_eq (str k) (str kQos)
    rwa [bl_str, bl_str, show (str kQos).toList = ([113, 111, 115] : List UInt8) from by rw [ByteArray.toList_eq]; rfl] at this
  have q4 : ((str k).toList == ([115, 101, 116] : List UInt8)) = decide (k = kSet) := by
    have := str_eq (str k) (str kSet)
    rwa [bl_str, bl_str, show (str kSet).toList = ([115, 101, 116] : List UInt8) from by rw [ByteArray.toList_eq]; rfl] at this
  unfold wayV
  generalize str k = KS at *
  by_cases h1 : k = kNode
  · rw [decide_eq_true h1] at q1
    rw [if_pos h1]
    clear h1 q2 q3 q4
    go_enter Tryz.func70, Tryz.ntmps70
    go_wp2
    go_ret
    exact ⟨rfl, rfl⟩
  · rw [decide_eq_false h1] at q1
    rw [if_neg h1]
    clear h1
    by_cases h2 : k = kPart
    · rw [decide_eq_true h2] at q2
      rw [if_pos h2]
      clear h2 q3 q4
      go_enter Tryz.func70, Tryz.ntmps70
      go_wp2
      go_ret
      exact ⟨rfl, rfl⟩
    · rw [decide_eq_false h2] at q2
      rw [if_neg h2]
      clear h2
      by_cases h3 : k = kQos
      · rw [decide_eq_true h3] at q3
        rw [if_pos h3]
        clear h3 q4
        go_enter Tryz.func70, Tryz.ntmps70
        go_wp2
        go_ret
        exact ⟨rfl, rfl⟩
      · rw [decide_eq_false h3] at q3
        rw [if_neg h3]
        clear h3
        by_cases h4 : k = kSet
        · rw [decide_eq_true h4] at q4
          rw [if_pos h4]
          clear h4
          go_enter Tryz.func70, Tryz.ntmps70
          go_wp2
          go_ret
          exact ⟨rfl, rfl⟩
        · rw [decide_eq_false h4] at q4
          rw [if_neg h4]
          clear h4
          go_enter Tryz.func70, Tryz.ntmps70
          go_wp2
          go_ret
          exact ⟨rfl, rfl⟩
theorem line_out {B b : Nat} {X : Nat → Prop} {r : Line} {W W2 : World} {e : Ending} (h : LineP B b X r W e W2) : ∃ x : Int, e = .returned (.int .i64 x) ∧ LineP B b X r W (.returned (.int .i64 x)) W2 := by
  cases r with
  | error k =>
    obtain ⟨h1, hx, rfl⟩ := h
    exact ⟨_, rfl, h1, hx, rfl⟩
  | ok c' =>
    obtain ⟨h1, hx, rfl, h2⟩ := h
    exact ⟨_, rfl, h1, hx, rfl, h2⟩
theorem line_later {B b : Nat} {X : Nat → Prop} {r : Line} {w W W2 : World} {e : Ending} (hB : B ≤ w.heap.size) (h : Below w.heap.size w W) (hl : LineP B b X r W e W2) : LineP B b X r w e W2 := by
  obtain ⟨h1, hx, h2⟩ := hl
  refine ⟨(h.mono hB).trans h1, ⟨hx.os.trans h.os, hx.tape.trans h.tape, hx.output.trans h.output, Nat.le_trans h.size hx.size, fun k hk hn => (hx.block k (Nat.lt_of_lt_of_le hk h.size) hn).trans (h.block k hk)⟩, ?_⟩
  cases r with
  | error k => exact h2
  | ok c' =>
    obtain ⟨h3, vN, vV, vP, vQ, m0, m1, m2, h4, h5⟩ := h2
    exact ⟨h3, vN, vV, vP, vQ, m0, m1, m2, h4, fun k hk => (h5 k hk).imp id fun q => Nat.le_trans h.size q⟩
/-- What a config has while it is read. -/
def Inv (c : Cfg) : Prop := c.names.Nodup ∧ c.names.length ≤ 256 ∧ c.vecs.length = c.names.length ∧ c.parts.length ≤ 16 ∧ c.qos.length ≤ 16
theorem fn_not_nil (f : Nat) (vs : Array Value) (w : World) : (binOp .eql 132 (.func (.func f) vs #[]) .nilFunc).run Tryz.prog w = .ok (.bool false) w := by kernel_rfl
theorem nil_is_nil (w : World) : (binOp .eql 132 .nilFunc .nilFunc).run Tryz.prog w = .ok (.bool true) w := by kernel_rfl
/-- Which call reads the words behind a first one, and what it comes to. -/
theorem read_case (B b : Nat) (c : Cfg) (vN vV vP vQ : Value) (m0 m1 m2 : Nat) (k : Str) (os : List Str) (hi : Inv c) (hL : ∀ x ∈ os, x.length ≤ 65536) (hws : os.length ≤ 65536) :
    (wayV b k = .nilFunc ∧ wordsP c (k :: os) = .error 3) ∨ ∃ f, wayV b k = .func (.func f) #[.pointer (some ⟨b, 0, none⟩)] #[] ∧ (∀ args w, (callFunc f args).run Tryz.prog w = .ok (.enter f args) w) ∧
      ∀ (W : World) (A : Option Addr) (cap : Nat), Rdr B W b c vN vV vP vQ m0 m1 m2 → EnvAt B W → Strs W W.heap.size A os → Apart A b → os.length ≤ cap → cap ≤ 9223372036854775807 → Calls Tryz.prog f #[.pointer (some ⟨b, 0, none⟩), .slice A os.length cap] W (LineP B b (Own b vN vV vP vQ m0 m1 m2) (wordsP c (k :: os)) W) := by
  obtain ⟨i1, i2, i3, i4, i5⟩ := hi
  have hwp : wordsP c (k :: os) = if k = kNode then nodeP c os else if k = kPart then partP c os else if k = kQos then qosP c os else if k = kSet then setP c os else .error 3 := rfl
  rw [hwp]
  unfold wayV
  by_cases h1 : k = kNode
  · rw [if_pos h1, if_pos h1]
    exact .inr ⟨_, rfl, enters_of Tryz.func115 (by kernel_rfl) rfl, fun W A cap h hw hA _ _ _ => readNode_any B b c vN vV vP vQ m0 m1 m2 A cap os W h hw hA hL i1 i2 (by omega)⟩
  · rw [if_neg h1, if_neg h1]
    by_cases h2 : k = kPart
    · rw [if_pos h2, if_pos h2]
      exact .inr ⟨_, rfl, enters_of Tryz.func116 (by kernel_rfl) rfl, fun W A cap h hw hA _ hc hm => readPart_any B b c vN vV vP vQ m0 m1 m2 A cap os W h hw hA hL hws hc hm i4⟩
    · rw [if_neg h2, if_neg h2]
      by_cases h3 : k = kQos
      · rw [if_pos h3, if_pos h3]
        exact .inr ⟨_, rfl, enters_of Tryz.func117 (by kernel_rfl) rfl, fun W A cap h hw hA _ hc hm => readQos_any B b c vN vV vP vQ m0 m1 m2 A cap os W h hw hA hL hws hc hm i5⟩
      · rw [if_neg h3, if_neg h3]
        by_cases h4 : k = kSet
        · rw [if_pos h4, if_pos h4]
          exact .inr ⟨_, rfl, enters_of Tryz.func118 (by kernel_rfl) rfl, fun W A cap h hw hA hAb hc _ => readSet_any B b c vN vV vP vQ m0 m1 m2 A cap os W h hw hA hL hc hAb⟩
        · rw [if_neg h4, if_neg h4]
          exact .inl ⟨rfl, rfl⟩
set_option maxRecDepth 100000 in
set_option maxHeartbeats 4000000 in
theorem readLine_any (B b : Nat) (c : Cfg) (vN vV vP vQ : Value) (m0 m1 m2 : Nat) (l : Str) (w : World) (h : Rdr B w b c vN vV vP vQ m0 m1 m2) (hw : EnvAt B w) (hl : l.length ≤ 65536) (hi : Inv c) :
    Calls Tryz.prog 33 #[.pointer (some ⟨b, 0, none⟩), .string (str l)] w (LineP B b (Own b vN vV vP vQ m0 m1 m2) (lineP c l) w) := by
  have hBw : B ≤ w.heap.size := Nat.le_trans h.bb (Nat.le_of_lt (Box.lt h.box))
  have hcut := fun W => cut35_any (str l) (by rw [str_size]; omega) W
  rw [bl_str] at hcut
  unfold cut35 at hcut
  have hul := Vs.upTo_le 35 l
  have hlp : lineP c l = wordsP c (words (Vs.upTo 35 l)) := rfl
  rw [hlp]
  generalize Vs.upTo 35 l = u at *
  generalize str (Vs.behind 35 l) = BH at *
  generalize decide (35 ∈ l) = D at *
  have hfi := fun W => fields_any u W (by omega)
  have hwc := words_count u
  have hwl := words_len u
  generalize words u = ws at *
  generalize str u = US at *
  generalize str l = LS at *
  have hby : ∀ x ∈ ws, x.length ≤ 65536 := fun x hx => Nat.le_trans (hwl x hx) (by omega)
  clear hlp hwl
  have hway := fun k W => way_any b k W
  have hpost := fhid (show ∀ (r : Line) (W W2 : World) (e : Ending), wordsP c ws = r → Below w.heap.size w W → LineP B b (Own b vN vV vP vQ m0 m1 m2) r W e W2 → LineP B b (Own b vN vV vP vQ m0 m1 m2) (wordsP c ws) w e W2 from fun r W W2 e h1 h2 h3 => by
    rw [h1]
    exact line_later hBw h2 h3)
  have hz := fhid (show ∀ (W : World), wordsP c ws = .ok c → Below w.heap.size w W → Rdr B W b c vN vV vP vQ m0 m1 m2 → LineP B b (Own b vN vV vP vQ m0 m1 m2) (wordsP c ws) w (.returned (.int .i64 0)) W from fun W h1 h2 h3 => line_ok h1 (h2.mono hBw) (FX.of h2) h3 (fun k hk => .inl hk))
  have hb3 := fhid (show ∀ (W : World), wordsP c ws = .error 3 → Below w.heap.size w W → LineP B b (Own b vN vV vP vQ m0 m1 m2) (wordsP c ws) w (.returned (.int .i64 3)) W from fun W h1 h2 => line_bad (k := 3) h1 (h2.mono hBw) (FX.of h2))
  cases ws with
  | nil =>
    have hE := fhid (show wordsP c [] = .ok c from rfl)
    generalize wordsP c [] = R at *
    generalize LineP B b (Own b vN vV vP vQ m0 m1 m2) R w = P at *
    rw [show ([] : List Str).length = 0 from rfl] at *
    replace h := fhid h
    replace hw := fhid hw
    go_enter Tryz.func33, Tryz.ntmps33
    go_wp2_with (first
      | (go_at_call 67; (with_reducible refine (hcut _).mono ?_); rintro e w1 ⟨rfl, g1⟩)
      | (go_at_call 68; (with_reducible refine (hfi _).mono ?_); rintro e w2 ⟨A, rfl, hA, own, b2⟩))
    have q := g1.below.trans (b2.mono g1.below.size)
    exact hz.out _ hE.out q (h.out.below q)
  | cons k os =>
    simp only [List.length_cons] at hwc
    have hos : ∀ x ∈ os, x.length ≤ 65536 := fun x hx => hby x (by simp [hx])
    have hcase := read_case B b c vN vV vP vQ m0 m1 m2 k os hi hos (by omega)
    have hbl := Box.lt h.box
    have hlen1 : (k :: os).length = os.length + 1 := rfl
    rw [hlen1] at hfi
    generalize wordsP c (k :: os) = R at *
    have hfin : ∀ (W W2 : World) (e : Ending), Below w.heap.size w W → LineP B b (Own b vN vV vP vQ m0 m1 m2) R W e W2 → LineP B b (Own b vN vV vP vQ m0 m1 m2) R w e W2 := fun W W2 e h1 h2 => hpost.out R W W2 e rfl h1 h2
    replace hfin := fhid hfin
    generalize LineP B b (Own b vN vV vP vQ m0 m1 m2) R w = P at *
    generalize hm : os.length = m at *
    have i0 : ((m : Int) + 1 == 0) = false := by simp; omega
    have i00 : ¬ ((m : Int) + 1 = 0) := by omega
    have i1 : (0 : Int) < (m : Int) + 1 := by omega
    have i2 : (1 : Int) ≤ (m : Int) + 1 := by omega
    replace h := fhid h
    replace hw := fhid hw
    replace hm := fhid hm
    replace hby := fhid hby
    replace hos := fhid hos
    clear hpost hz hlen1
    go_enter Tryz.func33, Tryz.ntmps33
    go_upto_region 5 with (first
      | (go_at_call 67; (with_reducible refine (hcut _).mono ?_); rintro e w1 ⟨rfl, g1⟩)
      | (go_at_call 68; (with_reducible refine (hfi _).mono ?_); rintro e w2 ⟨A, rfl, hA, own, b2⟩))
    have q := fhid (g1.below.trans (b2.mono g1.below.size))
    obtain ⟨A2, c2, e2, hc1, hc2, sg⟩ := ownsRow_shape own
    injection e2 with e21 e22 e23
    subst e21
    have sg' : Strs w2 w2.heap.size (some ⟨A, 0, none⟩) (k :: os) := sg
    obtain ⟨bb, oo, he, hbb, d0⟩ := Strs.at_ sg' (k := 0) (by simp)
    injection he with he
    injection he with he1 he2
    subst he1
    subst he2
    simp only [List.getElem_cons_zero, Nat.add_zero] at d0
    obtain ⟨oq, hdr, hoq⟩ := strs_rest (cap := m + 1) sg' (by have := hm.out; simp; omega)
    have hAb : A ≠ b := by have := g1.below.size; omega
    clear sg e22 e23 hc1 hc2 own
    rcases hcase with ⟨e1, e2⟩ | ⟨f, e1, eg, hrd⟩
    · have hw1 := hway k
      have hnf := fn_not_nil
      have hnn := nil_is_nil
      rw [e1] at hw1
      generalize str k = KS at *
      replace e1 := fhid e1
      go_wp2_with (go_at_call 70; (with_reducible refine (hw1 _).mono ?_); rintro e w3 ⟨rfl, rfl⟩)
      exact hb3.out _ e2 q.out
    · have hw1 := hway k
      have hnf := fn_not_nil
      have hnn := nil_is_nil
      rw [e1] at hw1
      generalize str k = KS at *
      replace e1 := fhid e1
      have hr2 := h.out.below q.out
      have he2 := hw.out.below (q.out.mono hBw)
      rcases hoq with ⟨hm0, rfl⟩ | ⟨hm0, rfl⟩
      · obtain rfl : m = 0 := by omega
        have hcall := (hrd w2 (some ⟨A, 0, none⟩) 0 hr2 he2 hdr (apart_of hAb) (by omega) (by omega)).mono fun _ _ h => line_out h
        replace hr2 := fhid hr2
        replace he2 := fhid he2
        replace hdr := fhid hdr
        clear hrd
        go_wp2_with (first
          | (go_at_call 70; (with_reducible refine (hw1 _).mono ?_); rintro e w3 ⟨rfl, rfl⟩)
          | (go_at_fn f; (with_reducible refine hcall.mono ?_); rintro e w4 ⟨xx, rfl, hlp4⟩))
        exact hfin.out _ _ _ q.out hlp4
      · have hcall := (hrd w2 (some ⟨A, 0 + 1, none⟩) m hr2 he2 hdr (apart_of hAb) (Nat.le_refl _) (by omega)).mono fun _ _ h => line_out h
        have hm1 : ¬ m = 0 := by omega
        have hmi : ¬ (m : Int) = 0 := by omega
        replace hr2 := fhid hr2
        replace he2 := fhid he2
        replace hdr := fhid hdr
        clear hrd
        go_wp2_with (first
          | (go_at_call 70; (with_reducible refine (hw1 _).mono ?_); rintro e w3 ⟨rfl, rfl⟩)
          | (go_at_fn f; go_loud ((with_reducible refine hcall.mono ?_); rintro e w4 ⟨xx, rfl, hlp4⟩)))
        exact hfin.out _ _ _ q.out hlp4
end Go.Proofs.YtghnpkpmgpbmcaaGreatDoor
/-
  strings.SplitSeq at the byte 10: the iterator, which keeps what is left in a cell of its own.
-/
namespace Go.Proofs.YtghnpkpmgpbmcaaGreatDoor.Ls
open Go.RowKit Go.Shelf Vs
attribute [local go_sem] Oper.semAt_some

theorem lines_step (l : List UInt8) : lines l = Vs.upTo 10 l :: (if 10 ∈ l then lines (Vs.behind 10 l) else []) := by
  induction l with
  | nil => rfl
  | cons c r ih =>
    by_cases h : c = 10
    · subst h
      rw [if_pos (by simp)]
      simp [lines, Vs.upTo, Vs.behind]
    · have hm : (10 ∈ c :: r) ↔ 10 ∈ r := by
        simp only [List.mem_cons]
        exact ⟨fun hh => hh.resolve_left (fun e => h e.symm), .inr⟩
      have hu : Vs.upTo 10 (c :: r) = c :: Vs.upTo 10 r := by rw [upTo_cons, if_neg h]
      have hb : Vs.behind 10 (c :: r) = Vs.behind 10 r := by unfold Vs.behind; rw [hu]; rfl
      conv => lhs; unfold lines
      rw [if_neg h, ih, hu, hb]
      by_cases h2 : 10 ∈ r
      · rw [if_pos h2, if_pos (hm.2 h2)]
      · rw [if_neg h2, if_neg (fun e => h2 (hm.1 e))]
/-- A piece: no longer than a string may be. -/
abbrev Pc := { x : List UInt8 // x.length ≤ 140737488355328 }
def raw (l : List Pc) : List (List UInt8) := l.map (·.1)
theorem raw_snoc (l : List Pc) (x : Pc) : raw (l ++ [x]) = raw l ++ [x.1] := by simp [raw]
def pcV (x : Pc) : Value := .string (str x.1)
/-- How much is left. -/
def leftLen (Bs : Nat) (W : World) : Nat := match W.cell? ⟨Bs, 0, none⟩ with
  | some (.string s) => s.size
  | _ => 0
theorem leftLen_boxed {W : World} {Bs : Nat} {T : TypeId} {s : ByteArray} (h : Boxed W Bs T (.string s)) : leftLen Bs W = s.size := by
  unfold leftLen; rw [h.cell]
set_option maxRecDepth 100000 in
set_option maxHeartbeats 2000000 in
theorem split1_in (n : Nat) (hn : 1 ≤ n) (lp Bp Bs Bk : Nat) (_hps : Bp ≠ Bs) (_hks : Bk ≠ Bs) (l : List UInt8) (hlen : l.length ≤ 140737488355328)
    (J : List Pc → World → Prop) (Jx : World → Prop)
    (_hJd : ∀ pre W k, J pre W → J pre (World.drewN W k)) (hJs : ∀ pre W v, J pre W → J pre (World.setCell W ⟨Bs, 0, none⟩ v))
    (hJb : ∀ pre W, J pre W → Boxed W Bp 9 (.string ⟨#[10]⟩) ∧ Boxed W Bk 3 (.int .i64 0))
    (hY : ∀ pre x W, raw (pre ++ [x]) <+: lines l → J pre W → YieldAt Fence.wide (n - 1) Tryz.prog lp #[pcV x] W fun e W' =>
      (e = .returned (.bool true) ∧ J (pre ++ [x]) W' ∧ W'.heap[Bs]? = W.heap[Bs]?) ∨ (e = .returned (.bool false) ∧ Jx W'))
    (W : World) (hBs : Boxed W Bs 9 (.string (str l))) (h0 : J [] W) :
    CallsIn Fence.wide n Tryz.prog 111 #[.func (.yield lp) #[] #[], .pointer (some ⟨Bp, 0, none⟩), .pointer (some ⟨Bs, 0, none⟩), .pointer (some ⟨Bk, 0, none⟩)] W fun e W' => (∃ v, e = .returned v) ∧
      ((∃ ys : List Pc, raw ys = lines l ∧ J ys W') ∨ Jx W') := by
  obtain ⟨bP0, bK0⟩ := hJb [] W h0
  have cP0 := bP0.cell
  refine callsIn_of_wp Tryz.func111 rfl trivial ?_ rfl
  simp only [Tryz.ntmps111, List.size_toArray, List.length_cons, List.length_nil, Nat.reduceAdd, Nat.reduceSub, Array.replicate_succ, Array.replicate_zero, List.push_toArray, List.append_toArray, List.nil_append, List.cons_append]
  have hd : 1 ≤ n := hn
  gi_wp2
  clear cP0 bP0 bK0
  gi_loopw [] (fun wr => ∃ (pre : List Pc) (r : List UInt8), r.length ≤ 140737488355328 ∧ lines l = raw pre ++ lines r ∧ J pre wr ∧ Boxed wr Bs 9 (.string (str r)))
    (fun wr => leftLen Bs wr)
  case atStart => exact ⟨[], l, hlen, rfl, h0, hBs⟩
  case round =>
    obtain ⟨pre, r, hr, hpre, hJr, bS⟩ := hrel
    obtain ⟨bP, bK⟩ := hJb pre wr hJr
    have cP := bP.cell
    have cK := bK.cell
    have cS := bS.cell
    have fS := bS.frozen
    have hi := fun W => Tryz.strings_Index_one (str r) 10 W
    have hbl : (str r).data.toList = r := bl_str r
    rw [hbl] at hi
    have hsz := str_size r
    have hst := lines_step r
    by_cases h : 10 ∈ r
    · obtain ⟨h1, h2⟩ := idx_some h
      rw [h1] at hi
      rw [if_pos h] at hst
      have e1 : (str r).extract 0 (upTo 10 r).length = str (upTo 10 r) := by rw [ext_to, bl_str, ← upTo_take]
      have e2 : (str r).extract ((upTo 10 r).length + 1) (str r).size = str (behind 10 r) := by rw [ext_from, bl_str]; rfl
      have e3 : (str r).extract ((upTo 10 r).length + 1) r.length = str (behind 10 r) := by rw [← e2, str_size]
      have hms := fhid (show (str (behind 10 r)).size < (str r).size by rw [str_size, str_size]; unfold behind; rw [List.length_drop]; omega)
      have hb := fhid (show (behind 10 r).length ≤ 140737488355328 from Nat.le_trans (behind_le 10 r) hr)
      have hu : (upTo 10 r).length ≤ 140737488355328 := by omega
      obtain ⟨x, hx⟩ : ∃ x : Pc, x.1 = upTo 10 r := ⟨⟨upTo 10 r, hu⟩, rfl⟩
      have hpc := fhid (show lines l = raw (pre ++ [x]) ++ lines (behind 10 r) by rw [raw_snoc, hpre, hst, hx]; simp)
      obtain ⟨fn, tmps, assign, body, hy, hR⟩ := hY pre x wr ⟨_, hpc.out.symm⟩ hJr
      simp only [pcV, hx] at hy
      generalize hk : (upTo 10 r).length = k at *
      generalize str (upTo 10 r) = F1 at *
      have hS2 := fhid (show str (behind 10 r) = str (behind 10 r) from rfl)
      generalize hF2 : str (behind 10 r) = F2 at *
      replace hF2 := fhid hF2
      generalize hS : str r = S at *
      replace hk := fhid hk
      have i0 : (0 : Int) ≤ k := by omega
      have i1 : ¬ (k : Int) < 0 := by omega
      have i2 : (k : Int) ≤ S.size := by omega
      have i3 : (k : Int) + 1 ≤ S.size := by omega
      have i4 : (S.size : Int) ≤ 140737488355328 := by omega
      have i5 : ((k : Int) + 1).toNat = k + 1 := by omega
      clear hst hpre hbl h h1 h2 hS hS2 hx hu
      gi_wp2_with (first
        | (refine ⟨trivial, ?_⟩; gi_at_call 113; refine (callsIn_wide.2 (hi _)).mono ?_; rintro e w1 ⟨rfl, rfl⟩))
      refine hR.mono ?_
      rintro e W3 (⟨rfl, hJ3, hk3⟩ | ⟨rfl, hJx3⟩)
      · have b3 : Boxed W3 Bs 9 (.string S) := hk3.trans bS
        obtain ⟨bP3, bK3⟩ := hJb _ W3 hJ3
        have c3 := b3.cell
        have f3 := b3.frozen
        have p3 := bP3.cell
        have q3 := bK3.cell
        have bF := b3.set (.string F2)
        have hJ4 := hJs _ W3 (.string F2) hJ3
        have hml := fhid (show leftLen Bs (W3.setCell ⟨Bs, 0, none⟩ (.string F2)) < leftLen Bs w1 by
          rw [leftLen_boxed bF, leftLen_boxed bS]; exact hms.out)
        replace hJ4 := fhid hJ4
        replace bF := fhid bF
        clear hJ3 hk3 hR hy
        gi_wp2
        go_roundw
        case rel => exact ⟨_, _, hb.out, hpc.out, hJ4.out, by rw [hF2.out]; exact bF.out⟩
        case measure => exact hml.out
      · gi_wp2
        refine bodyPost_ret (results_none rfl _ _ _) rfl ?_
        exact ⟨⟨_, rfl⟩, .inr hJx3⟩
    · have h1 := idx_none h
      rw [h1] at hi
      rw [if_neg h, upTo_no h] at hst
      have hpc := fhid (show raw (pre ++ [⟨r, hr⟩]) = lines l by rw [raw_snoc, hpre, hst])
      obtain ⟨fn, tmps, assign, body, hy, hR⟩ := hY pre ⟨r, hr⟩ wr ⟨[], by rw [List.append_nil]; exact hpc.out⟩ hJr
      simp only [pcV] at hy
      generalize str r = S at *
      clear hst hpre hbl h h1
      gi_wp2_with (first
        | (refine ⟨trivial, ?_⟩; gi_at_call 113; refine (callsIn_wide.2 (hi _)).mono ?_; rintro e w1 ⟨rfl, rfl⟩))
      refine hR.mono ?_
      rintro e W3 (⟨rfl, hJ3, hk3⟩ | ⟨rfl, hJx3⟩)
      · gi_wp2
        go_end0
        exact ⟨⟨_, rfl⟩, .inl ⟨_, hpc.out, hJ3⟩⟩
      · gi_wp2
        go_end0
        exact ⟨⟨_, rfl⟩, .inr hJx3⟩
end Go.Proofs.YtghnpkpmgpbmcaaGreatDoor.Ls
/-
  A range over strings.SplitSeq, whose body may return: the loop's invariant speaks of what lay ahead of the loop, and bears the iterator's own cell.
-/
namespace Go.Proofs.YtghnpkpmgpbmcaaGreatDoor.Ls
open Go.RowKit Go.Shelf Vs
attribute [local go_sem] Oper.semAt_some

set_option maxRecDepth 100000 in
theorem splitSeq0_any (s : ByteArray) (w : World) : Calls Tryz.prog 66 #[.string s, .string ⟨#[10]⟩, .int .i64 0] w fun e w' => e = .returned (.func (.func 111) #[] #[.pointer (some ⟨w.heap.size + 1, 0, none⟩), .pointer (some ⟨w.heap.size, 0, none⟩), .pointer (some ⟨w.heap.size + 2, 0, none⟩)]) ∧
    w' = ((w.alloc (.cells #[.string s] 9)).alloc (.cells #[.string ⟨#[10]⟩] 9)).alloc (.cells #[.int .i64 0] 3) := by
  go_enter Tryz.func66, Tryz.ntmps66
  go_wp2
  go_ret
  exact ⟨rfl, rfl⟩
set_option maxRecDepth 100000 in
theorem splitSeq_any (s : ByteArray) (w : World) : Calls Tryz.prog 32 #[.string s, .string ⟨#[10]⟩] w fun e w' => e = .returned (.func (.func 111) #[] #[.pointer (some ⟨w.heap.size + 1, 0, none⟩), .pointer (some ⟨w.heap.size, 0, none⟩), .pointer (some ⟨w.heap.size + 2, 0, none⟩)]) ∧
    w' = ((w.alloc (.cells #[.string s] 9)).alloc (.cells #[.string ⟨#[10]⟩] 9)).alloc (.cells #[.int .i64 0] 3) := by
  have h := splitSeq0_any s w
  go_enter Tryz.func32, Tryz.ntmps32
  go_wp2_with (go_at_call 66; (with_reducible refine h.mono ?_); rintro e w1 ⟨rfl, rfl⟩)
  go_ret
  exact ⟨rfl, rfl⟩

/-- A block put anew at or beyond B. -/
theorem below_put {B : Nat} {W : World} {b : Nat} (o : Obj) (h : B ≤ b) (hs : B ≤ W.heap.size) : Below B W (W.putObj b o) :=
  (Below.refl B W).grown (grownBy_putObj' W b o) hs (fun k e => by cases e; exact h)
/-- What a round leaves of the loop's own blocks, and of the iterator's cell. -/
def Kept (n₀ : Nat) (W W' : World) : Prop := W'.heap[n₀]? = W.heap[n₀]? ∧ W'.heap[n₀ + 1]? = W.heap[n₀ + 1]?
/-- How a round's body may be left. -/
def roundP (n₀ Bs : Nat) (I : List Pc → World → Prop) (Ix : World → Prop) (pre : List Pc) (W : World) : Exit → Act → World → Prop
  | .normal, _, W' => Kept n₀ W W' ∧ W'.heap[Bs]? = W.heap[Bs]? ∧ I pre W'
  | .ret, _, W' => Kept n₀ W W' ∧ Ix W'
  | _, _, _ => False
abbrev onHeap (a : Act) (n₀ : Nat) : Act := { a with defers := { target := .collected n₀, args := #[] } :: a.defers }
set_option maxHeartbeats 1000000 in
theorem range_pieces {n : Nat} (hn : 2 ≤ n) {g : Operand} {ps : Array Tmp} {assign body : Code} {Q : Exit → Act → World → Prop} {a : Act} {w : World} {Bp Bs Bk : Nat} (hp : Bp ≠ Bs) (hk : Bk ≠ Bs) (hBs : Bs < w.heap.size)
    (hg : a.eval g = .func (.func 111) #[] #[.pointer (some ⟨Bp, 0, none⟩), .pointer (some ⟨Bs, 0, none⟩), .pointer (some ⟨Bk, 0, none⟩)]) (hps : ps.size = 1)
    (l : List UInt8) (hlen : l.length ≤ 140737488355328) (hbx : Boxed w Bs 9 (.string (str l)))
    (I : List Pc → World → Prop) (Ix : World → Prop)
    (hI : ∀ pre W W', I pre W → Aft (w.heap.size + 1) W W' → I pre W') (hIx : ∀ W W', Ix W → Aft (w.heap.size + 1) W W' → Ix W')
    (hIs : ∀ pre W v, I pre W → I pre (World.setCell W ⟨Bs, 0, none⟩ v))
    (hIb : ∀ pre W, I pre W → Boxed W Bp 9 (.string ⟨#[10]⟩) ∧ Boxed W Bk 3 (.int .i64 0))
    (h0 : I [] w) (a₁ : Pc → Act)
    (hassign : ∀ (lp : Nat) (x : Pc) (W : World) (K : Act → World → Prop), K (a₁ x) W → assign.wpIn (Fence.wide.inRound lp) (n - 1 - 1) Tryz.prog (Exit.then K (fun _ _ _ => False)) { tmps := (ps.zip #[pcV x]).foldl (fun t (p, v) => t.setIfInBounds p v) a.tmps, defers := [] } W)
    (hbody : ∀ (lp : Nat) (pre : List Pc) (x : Pc) (W : World), w.heap.size + 1 < W.heap.size → raw (pre ++ [x]) <+: lines l → I pre W → body.wpIn (Fence.wide.inRound lp) (n - 1 - 1) Tryz.prog (roundP w.heap.size Bs I Ix (pre ++ [x]) W) (a₁ x) W)
    (hdone : ∀ (ys : List Pc) (W : World), raw ys = lines l → I ys W → W.heap[w.heap.size]? = some (.deferred (some [])) → Q .normal (onHeap a w.heap.size) W)
    (hstop : ∀ (W : World), Ix W → W.heap[w.heap.size]? = some (.deferred (some [])) → Code.ret.wpIn Fence.wide n Tryz.prog Q (onHeap a w.heap.size) W) :
    (Code.rangeFunc g ps assign body).wpIn Fence.wide n Tryz.prog Q a w := by
  refine wpIn_rangeFunc fun fn hfn => ?_
  let R : LoopState → Option Code → Loop := fun st pe => { state := st, pending := pe, fn, tmps := a.tmps, params := ps, assign, body, defers := w.heap.size }
  let w1 := (w.alloc (.deferred (some []))).alloc (.loop (R .ready none))
  have hw1 : Below w.heap.size w w1 := ((Below.refl _ w).alloc (Nat.le_refl _) _).alloc (by simp) _
  have q0 : w1.heap[w.heap.size]? = some (.deferred (some [])) := (Below.heap_alloc _ _ _ (by simp)).trans (heap_alloc_new w _)
  have q1 : w1.heap[w.heap.size + 1]? = some (.loop (R .ready none)) := by
    have := heap_alloc_new (w.alloc (.deferred (some []))) (.loop (R .ready none))
    rwa [World.size_alloc] at this
  refine ⟨w.heap.size + 1, [{ target := .collected w.heap.size, args := #[] }], w1, { target := .fn (.func 111) #[.pointer (some ⟨Bp, 0, none⟩), .pointer (some ⟨Bs, 0, none⟩), .pointer (some ⟨Bk, 0, none⟩)], args := #[.func (.yield (w.heap.size + 1)) #[] #[]] }, w1, 111,
    #[.func (.yield (w.heap.size + 1)) #[] #[], .pointer (some ⟨Bp, 0, none⟩), .pointer (some ⟨Bs, 0, none⟩), .pointer (some ⟨Bk, 0, none⟩)], w1, run_enterLoop_outer _ _ _ _ _, ?_, fun _ _ => trivial, ?_, fun _ => by omega, ?_⟩
  · simp only [resolve, hg]
    simp [go_sem]
  · simp [invoke, go_sem]
  refine (split1_in (n - 1) (by omega) (w.heap.size + 1) Bp Bs Bk hp hk l hlen
    (fun pre W => I pre W ∧ W.heap[w.heap.size]? = some (.deferred (some [])) ∧ W.heap[w.heap.size + 1]? = some (.loop (R .ready none)))
    (fun W => Ix W ∧ W.heap[w.heap.size]? = some (.deferred (some [])) ∧ W.heap[w.heap.size + 1]? = some (.loop (R .done (some .ret))))
    (fun pre W k h => ⟨hI _ _ _ h.1 (Aft.of (Vs.below_drewN (Below.refl _ _) k)), h.2.1, h.2.2⟩)
    (fun pre W v h => ⟨hIs _ _ v h.1, (Below.heap_setCell W ⟨Bs, 0, none⟩ v _ (by show w.heap.size ≠ Bs; omega)).trans h.2.1, (Below.heap_setCell W ⟨Bs, 0, none⟩ v _ (by show w.heap.size + 1 ≠ Bs; omega)).trans h.2.2⟩)
    (fun pre W h => hIb _ _ h.1) ?round w1 ((hw1.block Bs hBs).trans hbx) ⟨hI _ _ _ h0 (Aft.of hw1), q0, q1⟩).mono ?_
  case round =>
    rintro pre x W hpf ⟨hi, hd, hl⟩
    have hlt := lt_of_block hl
    have hb : ∀ o, Aft (w.heap.size + 1) W (W.putObj (w.heap.size + 1) o) := fun o => grownBy_putObj' W (w.heap.size + 1) o
    have hl2 : (W.putObj (w.heap.size + 1) (.loop (R .busy none))).heap[w.heap.size + 1]? = some (.loop (R .busy none)) := World.putObj_heap_same hlt
    have hd2 : (W.putObj (w.heap.size + 1) (.loop (R .busy none))).heap[w.heap.size]? = some (.deferred (some [])) := (World.putObj_heap_other (by omega)).trans hd
    have hs2 : (W.putObj (w.heap.size + 1) (.loop (R .busy none))).heap[Bs]? = W.heap[Bs]? := World.putObj_heap_other (by omega)
    have hz2 : w.heap.size + 1 < (W.putObj (w.heap.size + 1) (.loop (R .busy none))).heap.size := Nat.lt_of_lt_of_le hlt (hb (.loop (R .busy none))).size
    refine ⟨fn, _, assign, body, run_yield (r := R .ready none) hl (by rw [hps]; rfl), roundIn_of_wpIn hfn (hassign _ x W _ ⟨_, run_beginRound (r := R .ready none) hl rfl, ?_⟩)⟩
    refine wpIn_mono (hbody _ pre x _ hz2 hpf (hI _ _ _ hi (hb _))) ?_
    rintro e a3 W3 hq
    match e, hq with
    | .normal, ⟨⟨k0, k1⟩, ks, hi3⟩ =>
      have hl3 := k1.trans hl2
      have hlt3 := lt_of_block hl3
      exact ⟨_, _, run_endRound (r := R .busy none) none hl3, .inl ⟨rfl, ⟨hI _ _ _ hi3 (grownBy_putObj' _ _ _), (World.putObj_heap_other (by omega)).trans (k0.trans hd2), World.putObj_heap_same hlt3⟩, (World.putObj_heap_other (by omega)).trans (ks.trans hs2)⟩⟩
    | .ret, ⟨⟨k0, k1⟩, hi3⟩ =>
      have hl3 := k1.trans hl2
      have hlt3 := lt_of_block hl3
      exact ⟨_, _, run_endRound (r := R .busy none) (some .ret) hl3, .inr ⟨rfl, hIx _ _ hi3 (grownBy_putObj' _ _ _), (World.putObj_heap_other (by omega)).trans (k0.trans hd2), World.putObj_heap_same hlt3⟩⟩
  rintro e W2 ⟨⟨v, rfl⟩, (⟨ys, hys, hi, hd, hl⟩ | ⟨hi, hd, hl⟩)⟩
  · have hlt := lt_of_block hl
    exact ⟨none, _, run_endLoop (r := R .ready none) hl (by simp [R]), hdone ys _ hys (hI _ _ _ hi (grownBy_putObj' _ _ _)) ((World.putObj_heap_other (by omega)).trans hd)⟩
  · have hlt := lt_of_block hl
    exact ⟨some .ret, _, run_endLoop (r := R .done (some .ret)) hl (by simp [R]), hstop _ (hIx _ _ hi (grownBy_putObj' _ _ _)) ((World.putObj_heap_other (by omega)).trans hd)⟩
end Go.Proofs.YtghnpkpmgpbmcaaGreatDoor.Ls
/-
  A reader that has read nothing.
-/
namespace Go.Proofs.YtghnpkpmgpbmcaaGreatDoor
open Go.RowKit Go.Shelf Vs

abbrev mapAt (k : Nat) : Value := .map (some k)
/-- The cells of a reader, as they are at first. -/
abbrev cells0 (n : Nat) : List Value := [.slice none 0 0, .slice none 0 0, .slice none 0 0, .slice none 0 0, .int .i64 0, .int .i64 0, .int .i64 0, .int .i64 0, .int .i64 0, .int .i64 0, .int .i64 0, .int .i64 0, .map (some n), .map (some (n + 1)), .map (some (n + 1 + 1))]
abbrev world4 (w : World) : World := (((w.alloc (.map #[] 0)).alloc (.map #[] 0)).alloc (.map #[] 0)).alloc (.cells (cells0 w.heap.size).toArray TReader)
theorem first_reader (w : World) : RG w.heap.size (world4 w) (w.heap.size + 1 + 1 + 1) [] [] [] [] [0, 0, 0, 0, 0, 0, 0, 0] [] [] [] (.slice none 0 0) (.slice none 0 0) (.slice none 0 0) (.slice none 0 0) w.heap.size (w.heap.size + 1) (w.heap.size + 1 + 1) := by
  have z1 : (w.alloc (.map #[] 0)).heap.size = w.heap.size + 1 := by simp
  have z2 : ((w.alloc (.map #[] 0)).alloc (.map #[] 0)).heap.size = w.heap.size + 1 + 1 := by simp
  have z3 : (((w.alloc (.map #[] 0)).alloc (.map #[] 0)).alloc (.map #[] 0)).heap.size = w.heap.size + 1 + 1 + 1 := by simp
  have a0 := SMap.new w
  have a1 := SMap.new (w.alloc (.map #[] 0))
  have a2 := SMap.new ((w.alloc (.map #[] 0)).alloc (.map #[] 0))
  rw [z1] at a1
  rw [z2] at a2
  have hb := Box.new (((w.alloc (.map #[] 0)).alloc (.map #[] 0)).alloc (.map #[] 0)) TReader (cells0 w.heap.size)
  rw [z3] at hb
  have g1 := (Below.refl (w.alloc (.map #[] 0)).heap.size (w.alloc (.map #[] 0))).alloc (Nat.le_refl _) (.map #[] 0)
  have g2 := (Below.refl ((w.alloc (.map #[] 0)).alloc (.map #[] 0)).heap.size ((w.alloc (.map #[] 0)).alloc (.map #[] 0))).alloc (Nat.le_refl _) (.map #[] 0)
  have g3 := (Below.refl (((w.alloc (.map #[] 0)).alloc (.map #[] 0)).alloc (.map #[] 0)).heap.size (((w.alloc (.map #[] 0)).alloc (.map #[] 0)).alloc (.map #[] 0))).alloc (Nat.le_refl _) (.cells (cells0 w.heap.size).toArray TReader)
  exact {
    box := hb, len := rfl
    nm := ownsRow_nil _ _ _ _, vc := ownsRow_nil _ _ _ _, pt := ownsRow_nil _ _ _ _, qs := ownsRow_nil _ _ _ _
    s0 := ((a0.below g1 (by omega)).below g2 (by omega)).below g3 (by omega)
    s1 := (a1.below g2 (by omega)).below g3 (by omega)
    s2 := a2.below g3 (by omega)
    bb := by omega, b0 := Nat.le_refl _, b1 := by omega, b2 := by omega
    n01 := by omega, n02 := by omega, n12 := by omega }
theorem world4_below (w : World) : Below w.heap.size w (world4 w) := ((((Below.refl _ _).alloc (Nat.le_refl _) _).alloc (by simp) _).alloc (by simp; omega) _).alloc (by simp; omega) _
set_option maxRecDepth 100000 in
set_option maxHeartbeats 4000000 in
theorem newReader_any (w : World) : Calls Tryz.prog 31 #[] w fun e w' => ∃ b vN vV vP vQ m0 m1 m2, e = .returned (.pointer (some ⟨b, 0, none⟩)) ∧ Rdr w.heap.size w' b startC vN vV vP vQ m0 m1 m2 ∧ Below w.heap.size w w' := by
  have hmm := @run_makeMap Tryz.prog
  have hva := fun b W => values_any b W
  unfold MadeN at hva
  have hlu := fun g b m0 m1 m2 (W : World) hN (hV : VBox W b TReader [.slice none 0 0, .slice none 0 0, .slice none 0 0, .slice none 0 0] [0, 0, 0, 0, 0, 0, 0, 0] [mapAt m0, mapAt m1, mapAt m2]) (hgb : g ≠ b) => leaveUntold_any g b valS 4 TReader _ [0, 0, 0, 0, 0, 0, 0, 0] [mapAt m0, mapAt m1, mapAt m2] W hN hV rfl rfl hgb (by decide)
  unfold UntoldP at hlu
  rw [show valS.length = 8 from rfl] at hva hlu
  go_enter Tryz.func31, Tryz.ntmps31
  go_upto_region 2 with fail
  have R4 := first_reader w
  have B4 := world4_below w
  unfold world4 cells0 at R4 B4
  generalize (((w.alloc _).alloc _).alloc _).alloc _ = w4 at *
  have hl4 := Box.lt R4.box
  have hB4 := fhid B4
  have hR4 := fhid R4
  have hV4 := fhid R4.box
  clear R4 B4
  go_wp2_with (first
    | (go_at_call 53; (with_reducible refine (hva _ _).mono ?_); rintro e w5 ⟨g, rfl, hgs, hN, b5⟩
       have V5 := VBox.below hV4.out b5 hl4
       have hgb : g ≠ w.heap.size + 1 + 1 + 1 := by omega)
    | (go_at_call 65; (with_reducible refine (hlu _ _ _ _ _ _ hN V5 hgb).mono ?_); rintro e w6 ⟨⟨vv6, rfl⟩, V6, a6⟩))
  go_ret
  have R5 := hR4.out.below b5
  have R6 := R5.values a6 V6 rfl
  exact ⟨_, _, _, _, _, _, _, _, rfl, R6, (hB4.out.trans (b5.mono hB4.out.size)).trans (a6.below (by omega) (Nat.le_trans hB4.out.size b5.size))⟩
end Go.Proofs.YtghnpkpmgpbmcaaGreatDoor
/-
  Lines one behind the other, as plain functions: what is kept.
-/
namespace Go.Proofs.YtghnpkpmgpbmcaaGreatDoor
open Go.RowKit Go.Shelf Vs

theorem linesP_nil (k : Nat) (c : Cfg) : linesP k c [] = .ok c := by unfold linesP; rfl
theorem linesP_cons (k : Nat) (c : Cfg) (l : Str) (ls : List Str) : linesP k c (l :: ls) = match lineP c l with
  | .error e => .error (e, k)
  | .ok c' => linesP (k + 1) c' ls := by rw [linesP]; rfl
theorem linesP_app : ∀ (a : List Str) (k : Nat) (c c' : Cfg) (b : List Str), linesP k c a = .ok c' → linesP k c (a ++ b) = linesP (k + a.length) c' b
  | [], k, c, c', b, h => by
    rw [linesP_nil] at h
    injection h with h
    rw [List.nil_append, h]; rfl
  | x :: a, k, c, c', b, h => by
    rw [List.cons_append, linesP_cons]
    rw [linesP_cons] at h
    cases hx : lineP c x with
    | error e => rw [hx] at h; cases h
    | ok c2 =>
      rw [hx] at h
      simp only at h ⊢
      rw [linesP_app a (k + 1) c2 c' b h, List.length_cons, Nat.add_assoc, Nat.add_comm 1]
theorem linesP_snoc {a : List Str} {k : Nat} {c c' : Cfg} {x : Str} (h : linesP k c a = .ok c') : linesP k c (a ++ [x]) = match lineP c' x with
  | .error e => .error (e, k + a.length)
  | .ok c2 => .ok c2 := by
  rw [linesP_app a k c c' [x] h, linesP_cons]
  cases lineP c' x with
  | error e => rfl
  | ok c2 => exact linesP_nil _ _
theorem linesP_pre : ∀ (a : List Str) (k : Nat) (c : Cfg) (e : Nat × Nat) (b : List Str), linesP k c a = .error e → linesP k c (a ++ b) = .error e
  | [], k, c, e, b, h => by rw [linesP_nil] at h; cases h
  | x :: a, k, c, e, b, h => by
    rw [List.cons_append, linesP_cons]
    rw [linesP_cons] at h
    cases hx : lineP c x with
    | error e2 => rw [hx] at h; exact h
    | ok c2 =>
      rw [hx] at h
      simp only at h ⊢
      exact linesP_pre a (k + 1) c2 e b h
theorem name_len {n : Str} (h : isNameP n = true) : n.length ≤ 65536 := by
  unfold isNameP isOfP at h
  simp only [Bool.and_eq_true, decide_eq_true_eq] at h
  omega
theorem optsP_len : ∀ (ss : List Spec) (ws came : List Str) (vs r : List Int), optsP ss ws came vs = some r → r.length = vs.length
  | ss, [], came, vs, r, h => by rw [opts_nil] at h; injection h with h; rw [h]
  | ss, w :: ws, came, vs, r, h => by
    by_cases hw : Vs.upTo 61 w ∈ came
    · rw [opts_there hw] at h; cases h
    · cases hp : putP ss vs (Vs.upTo 61 w) (Vs.behind 61 w) with
      | none => rw [opts_none hw hp] at h; cases h
      | some v2 =>
        rw [opts_some hw hp] at h
        rw [optsP_len ss ws _ v2 r h, putP_len hp]
def Good (c : Cfg) : Prop := Inv c ∧ Short c
theorem start_good : Good startC := ⟨⟨List.nodup_nil, Nat.zero_le _, rfl, Nat.zero_le _, Nat.zero_le _⟩, ⟨fun p hp => absurd hp (by simp [startC]), fun p hp => absurd hp (by simp [startC])⟩⟩
theorem wordsP_good {c c' : Cfg} (h : Good c) (ws : List Str) (hw : wordsP c ws = .ok c') : Good c' := by
  obtain ⟨⟨i1, i2, i3, i4, i5⟩, s1, s2⟩ := h
  cases ws with
  | nil =>
    injection hw with hw
    subst hw
    exact ⟨⟨i1, i2, i3, i4, i5⟩, s1, s2⟩
  | cons k os =>
    have hwp : wordsP c (k :: os) = if k = kNode then nodeP c os else if k = kPart then partP c os else if k = kQos then qosP c os else if k = kSet then setP c os else .error 3 := rfl
    rw [hwp] at hw
    split at hw
    · by_cases h2 : os.length = 2
      · obtain ⟨l, v, rfl⟩ : ∃ l v, os = [l, v] := by
          match os, h2 with
          | [l, v], _ => exact ⟨l, v, rfl⟩
        rw [nodeP_two] at hw
        split at hw
        · cases hw
        · split at hw
          · cases hw
          · split at hw
            · cases hw
            · split at hw
              · cases hw
              · rename_i hn hl
                injection hw with hw
                subst hw
                refine ⟨⟨by simpa using hn, by simp; omega, by simp [i3], i4, i5⟩, s1, s2⟩
      · rw [nodeP_len h2] at hw; cases hw
    · split at hw
      · by_cases h2 : os.length < 2
        · rw [partP_few h2] at hw; cases hw
        · obtain ⟨n, l, os, rfl⟩ : ∃ n l os', os = n :: l :: os' := by
            match os, h2 with
            | [], h => simp at h
            | [_], h => simp at h
            | n :: l :: os, _ => exact ⟨_, _, _, rfl⟩
          cases hn : isNameP n with
          | false => rw [partP_name hn] at hw; cases hw
          | true =>
            cases ho : optsP partS os [] (untold partS) with
            | none => rw [partP_opts ho] at hw; cases hw
            | some r =>
              rw [partP_ok hn ho] at hw
              have hrl := optsP_len _ _ _ _ _ ho
              obtain ⟨x, y, z, rfl⟩ : ∃ x y z, r = [x, y, z] := by
                match r, hrl with
                | [x, y, z], _ => exact ⟨_, _, _, rfl⟩
              split at hw
              · cases hw
              · split at hw
                · cases hw
                · split at hw
                  · cases hw
                  · split at hw
                    · cases hw
                    · injection hw with hw
                      subst hw
                      refine ⟨⟨i1, i2, i3, by simp; omega, i5⟩, fun p hp => ?_, s2⟩
                      rcases List.mem_append.1 hp with hp | hp
                      · exact s1 p hp
                      · rw [List.mem_singleton] at hp
                        subst hp
                        exact name_len hn
      · split at hw
        · cases os with
          | nil => cases hw
          | cons n os =>
            cases hn : isNameP n with
            | false => rw [qosP_name hn] at hw; cases hw
            | true =>
              cases ho : optsP qosS os [] (untold qosS) with
              | none => rw [qosP_opts ho] at hw; cases hw
              | some r =>
                rw [qosP_ok hn ho] at hw
                have hrl := optsP_len _ _ _ _ _ ho
                obtain ⟨x, y, rfl⟩ : ∃ x y, r = [x, y] := by
                  match r, hrl with
                  | [x, y], _ => exact ⟨_, _, rfl⟩
                split at hw
                · cases hw
                · split at hw
                  · cases hw
                  · split at hw
                    · cases hw
                    · injection hw with hw
                      subst hw
                      refine ⟨⟨i1, i2, i3, i4, by simp; omega⟩, s1, fun p hp => ?_⟩
                      rcases List.mem_append.1 hp with hp | hp
                      · exact s2 p hp
                      · rw [List.mem_singleton] at hp
                        subst hp
                        exact name_len hn
        · split at hw
          · by_cases h2 : os.length = 2
            · obtain ⟨l, v, rfl⟩ : ∃ l v, os = [l, v] := by
                match os, h2 with
                | [l, v], _ => exact ⟨l, v, rfl⟩
              cases hp : putP valS c.vals l v with
              | none => rw [setP_none hp] at hw; cases hw
              | some vs =>
                rw [setP_some hp] at hw
                split at hw
                · injection hw with hw
                  subst hw
                  exact ⟨⟨i1, i2, i3, i4, i5⟩, s1, s2⟩
                · cases hw
            · rw [setP_len h2] at hw; cases hw
          · cases hw
theorem lineP_good {c c' : Cfg} (h : Good c) (l : Str) (hw : lineP c l = .ok c') : Good c' := wordsP_good h _ hw
end Go.Proofs.YtghnpkpmgpbmcaaGreatDoor
/-
  Parse: what lies in memory between two lines.
-/
namespace Go.Proofs.YtghnpkpmgpbmcaaGreatDoor
open Go.RowKit Go.Shelf Vs

section
variable {B : Nat} {w w' : World} {b : Nat} {ns : List Str} {vs : List V3} {ps : List PartC} {qs : List QosC} {vals : List Int} {l0 l1 l2 : List Str} {vN vV vP vQ : Value} {m0 m1 m2 : Nat}
/-- What is none of the reader's own may turn. -/
theorem RG.off (h : RG B w b ns vs ps qs vals l0 l1 l2 vN vV vP vQ m0 m1 m2) {x : Nat} (ha : Aft x w w') (hx : ¬ Own b vN vV vP vQ m0 m1 m2 x) : RG B w' b ns vs ps qs vals l0 l1 l2 vN vV vP vQ m0 m1 m2 :=
  { h with
    box := Box.grown h.box ha (fun e => hx (.inl (by injection e with e; exact e.symm)))
    nm := own_grown h.nm ha fun k hk e => hx (.inr (.inr (.inr (.inr (.inl (by injection e with e; exact e ▸ hk))))))
    vc := own_grown h.vc ha fun k hk e => hx (.inr (.inr (.inr (.inr (.inr (.inl (by injection e with e; exact e ▸ hk)))))))
    pt := own_grown h.pt ha fun k hk e => hx (.inr (.inr (.inr (.inr (.inr (.inr (.inl (by injection e with e; exact e ▸ hk))))))))
    qs := own_grown h.qs ha fun k hk e => hx (.inr (.inr (.inr (.inr (.inr (.inr (.inr (by injection e with e; exact e ▸ hk))))))))
    s0 := h.s0.grown ha fun e => hx (.inr (.inl (by injection e with e; exact e.symm)))
    s1 := h.s1.grown ha fun e => hx (.inr (.inr (.inl (by injection e with e; exact e.symm))))
    s2 := h.s2.grown ha fun e => hx (.inr (.inr (.inr (.inl (by injection e with e; exact e.symm))))) }
end
abbrev zeros12 : List Value := [.slice none 0 0, .slice none 0 0, .slice none 0 0, .slice none 0 0, .int .i64 0, .int .i64 0, .int .i64 0, .int .i64 0, .int .i64 0, .int .i64 0, .int .i64 0, .int .i64 0]
abbrev TFault : TypeId := 31
abbrev TInt : TypeId := 3
abbrev TPtr : TypeId := 79
/-- The blocks of the call that are not the reader's. -/
structure Around (w : World) (p b : Nat) (n : Nat) (W : World) : Prop where
  rc : Box W w.heap.size TConf zeros12
  rf : Box W (w.heap.size + 1) TFault [.int .i64 0, .int .i64 0]
  ptr : Box W p TPtr [.pointer (some ⟨b, 0, none⟩)]
  num : Box W (p + 1) TInt [.int .i64 (n : Int)]
  sep : Boxed W (p + 3) TStr (.string ⟨#[10]⟩)
  cnt : Boxed W (p + 4) TInt (.int .i64 0)
  env : EnvAt (w.heap.size + 2) W
  old : Below w.heap.size w W
/-- A block that a reader may have. -/
def Away (w : World) (p k : Nat) : Prop := w.heap.size + 2 ≤ k ∧ (k < p ∨ p + 7 ≤ k)
/-- Between two lines. -/
def PI (w : World) (p b : Nat) (pre : List Ls.Pc) (W : World) : Prop := ∃ c vN vV vP vQ m0 m1 m2, linesP 1 startC (Ls.raw pre) = .ok c ∧ Good c ∧ Rdr (w.heap.size + 2) W b c vN vV vP vQ m0 m1 m2 ∧ (∀ k, Own b vN vV vP vQ m0 m1 m2 k → Away w p k) ∧ Around w p b pre.length W
/-- Behind a line that may not be. -/
def PX (w : World) (s : Str) (W : World) : Prop := ∃ e k, linesP 1 startC (lines s) = .error (e, k) ∧ Box W w.heap.size TConf zeros12 ∧ Box W (w.heap.size + 1) TFault [.int .i64 (e : Int), .int .i64 (k : Int)] ∧ Below w.heap.size w W
theorem Around.grown {w W W' : World} {p b n x : Nat} (h : Around w p b n W) (ha : Aft x W W') (hx : w.heap.size + 2 ≤ x) (hp : x ≠ p) (h1 : x ≠ p + 1) (h3 : x ≠ p + 3) (h4 : x ≠ p + 4) : Around w p b n W' where
  rc := Box.grown h.rc ha (by intro e; injection e with e; omega)
  rf := Box.grown h.rf ha (by intro e; injection e with e; omega)
  ptr := Box.grown h.ptr ha (by intro e; injection e with e; omega)
  num := Box.grown h.num ha (by intro e; injection e with e; omega)
  sep := (ha.block _ (lt_of_block h.sep) (by intro e; injection e with e; omega)).trans h.sep
  cnt := (ha.block _ (lt_of_block h.cnt) (by intro e; injection e with e; omega)).trans h.cnt
  env := h.env.below (ha.below (by omega) (by have := Box.lt h.rf; omega))
  old := h.old.trans (ha.below (by omega) h.old.size)
theorem PI.grown {w W W' : World} {p b x : Nat} {pre : List Ls.Pc} (h : PI w p b pre W) (ha : Aft x W W') (hx : w.heap.size + 2 ≤ x) (hp : x = p + 2 ∨ x = p + 6) : PI w p b pre W' := by
  obtain ⟨c, vN, vV, vP, vQ, m0, m1, m2, h1, h2, h3, h4, h5⟩ := h
  exact ⟨c, vN, vV, vP, vQ, m0, m1, m2, h1, h2, h3.off ha (fun ho => by have := (h4 x ho).2; omega), h4, h5.grown ha hx (by omega) (by omega) (by omega) (by omega)⟩
theorem PX.grown {w W W' : World} {s : Str} {x : Nat} (h : PX w s W) (ha : Aft x W W') (hx : w.heap.size + 2 ≤ x) : PX w s W' := by
  obtain ⟨e, k, h1, h2, h3, h4⟩ := h
  exact ⟨e, k, h1, Box.grown h2 ha (by intro e; injection e with e; omega), Box.grown h3 ha (by intro e; injection e with e; omega), h4.trans (ha.below (by omega) h4.size)⟩
/-- A block that is none of these, behind a line. -/
theorem fx_at {X : Nat → Prop} {W W' : World} {k : Nat} {o : Obj} (h : FX X W W') (hk : W.heap[k]? = some o) (hx : ¬ X k) : W'.heap[k]? = some o := (h.block k (lt_of_block hk) hx).trans hk
theorem Around.line {w W W' : World} {p b n : Nat} {X : Nat → Prop} (h : Around w p b n W) (hx : ∀ k, X k → Away w p k) (hf : FX X W W') (hB : Below (w.heap.size + 2) W W') : Around w p b n W' where
  rc := fx_at hf h.rc fun e => by have := (hx _ e).1; omega
  rf := fx_at hf h.rf fun e => by have := (hx _ e).1; omega
  ptr := fx_at hf h.ptr fun e => by have := (hx _ e).2; omega
  num := fx_at hf h.num fun e => by have := (hx _ e).2; omega
  sep := fx_at hf h.sep fun e => by have := (hx _ e).2; omega
  cnt := fx_at hf h.cnt fun e => by have := (hx _ e).2; omega
  env := h.env.below hB
  old := h.old.trans (hB.mono (by omega))
end Go.Proofs.YtghnpkpmgpbmcaaGreatDoor
/-
  Parse: how it begins; lines are short.
-/
namespace Go.Proofs.YtghnpkpmgpbmcaaGreatDoor
open Go.RowKit Go.Shelf Vs

theorem lines_len : ∀ (l : Str), (lines l).length ≤ l.length + 1 ∧ ∀ x ∈ lines l, x.length ≤ l.length
  | [] => ⟨by simp [lines], fun x hx => by simp [lines] at hx; simp [hx]⟩
  | c :: r => by
    obtain ⟨h1, h2⟩ := lines_len r
    unfold lines
    by_cases h : c = 10
    · rw [if_pos h]
      refine ⟨by simp; omega, fun x hx => ?_⟩
      rcases List.mem_cons.1 hx with hx | hx
      · subst hx; simp
      · have := h2 x hx; simp; omega
    · rw [if_neg h]
      cases hl : lines r with
      | nil => exact ⟨by simp, fun x hx => by simp at hx; simp [hx]⟩
      | cons y ys =>
        rw [hl] at h1 h2
        refine ⟨by simp at h1 ⊢; omega, fun x hx => ?_⟩
        rcases List.mem_cons.1 hx with hx | hx
        · subst hx
          have := h2 y (by simp)
          simp; omega
        · have := h2 x (by simp [hx])
          simp; omega
theorem wordsP_ne {c : Cfg} {ws : List Str} {k : Nat} (h : wordsP c ws = .error k) : k ≠ 0 := by
  cases ws with
  | nil => cases h
  | cons n os =>
    have hwp : wordsP c (n :: os) = if n = kNode then nodeP c os else if n = kPart then partP c os else if n = kQos then qosP c os else if n = kSet then setP c os else .error 3 := rfl
    rw [hwp] at h
    have e3 : ∀ {a b : Nat}, (Except.error a : Line) = .error b → a = b := fun e => by injection e
    split at h
    · by_cases h2 : os.length = 2
      · obtain ⟨l, v, rfl⟩ : ∃ l v, os = [l, v] := by
          match os, h2 with
          | [l, v], _ => exact ⟨l, v, rfl⟩
        rw [nodeP_two] at h
        repeat' split at h
        all_goals first | (cases h; done) | (have := e3 h; omega)
      · rw [nodeP_len h2] at h
        have := e3 h; omega
    · split at h
      · by_cases h2 : os.length < 2
        · rw [partP_few h2] at h
          have := e3 h; omega
        · obtain ⟨n, l, os, rfl⟩ : ∃ n l os', os = n :: l :: os' := by
            match os, h2 with
            | [], h => simp at h
            | [_], h => simp at h
            | n :: l :: os, _ => exact ⟨_, _, _, rfl⟩
          cases hn : isNameP n with
          | false => rw [partP_name hn] at h; have := e3 h; omega
          | true =>
            cases ho : optsP partS os [] (untold partS) with
            | none => rw [partP_opts ho] at h; have := e3 h; omega
            | some r =>
              rw [partP_ok hn ho] at h
              split at h
              · rename_i hs
                have := e3 h
                omega
              · repeat' split at h
                all_goals first | (cases h; done) | (have := e3 h; omega)
      · split at h
        · cases os with
          | nil => have := e3 (show (Except.error 3 : Line) = .error k from h); omega
          | cons n os =>
            cases hn : isNameP n with
            | false => rw [qosP_name hn] at h; have := e3 h; omega
            | true =>
              cases ho : optsP qosS os [] (untold qosS) with
              | none => rw [qosP_opts ho] at h; have := e3 h; omega
              | some r =>
                rw [qosP_ok hn ho] at h
                repeat' split at h
                all_goals first | (cases h; done) | (have := e3 h; omega)
        · split at h
          · by_cases h2 : os.length = 2
            · obtain ⟨l, v, rfl⟩ : ∃ l v, os = [l, v] := by
                match os, h2 with
                | [l, v], _ => exact ⟨l, v, rfl⟩
              cases hp : putP valS c.vals l v with
              | none => rw [setP_none hp] at h; have := e3 h; omega
              | some vs =>
                rw [setP_some hp] at h
                split at h
                · cases h
                · have := e3 h; omega
            · rw [setP_len h2] at h; have := e3 h; omega
          · have := e3 h; omega
theorem lineP_ne {c : Cfg} {l : Str} {k : Nat} (h : lineP c l = .error k) : k ≠ 0 := wordsP_ne h
theorem RG.own_range {B : Nat} {w : World} {b : Nat} {ns : List Str} {vs : List V3} {ps : List PartC} {qs : List QosC} {vals : List Int} {l0 l1 l2 : List Str} {vN vV vP vQ : Value} {m0 m1 m2 : Nat} (h : RG B w b ns vs ps qs vals l0 l1 l2 vN vV vP vQ m0 m1 m2) : ∀ k, Own b vN vV vP vQ m0 m1 m2 k → B ≤ k ∧ k < w.heap.size := by
  rintro k (e | e | e | e | e | e | e | e)
  · exact e ▸ ⟨h.bb, Box.lt h.box⟩
  · exact e ▸ ⟨h.b0, h.s0.lt⟩
  · exact e ▸ ⟨h.b1, h.s1.lt⟩
  · exact e ▸ ⟨h.b2, h.s2.lt⟩
  · exact World.ownsRow.lt h.nm k e
  · exact World.ownsRow.lt h.vc k e
  · exact World.ownsRow.lt h.pt k e
  · exact World.ownsRow.lt h.qs k e
abbrev world5 (w1 : World) (b : Nat) (s : ByteArray) : World :=
  ((((w1.alloc (.cells #[.pointer (some ⟨b, 0, none⟩)] TPtr)).alloc (.cells #[.int .i64 0] TInt)).alloc (.cells #[.string s] TStr)).alloc (.cells #[.string ⟨#[10]⟩] TStr)).alloc (.cells #[.int .i64 0] TInt)
theorem start_PI (w w1 : World) (b : Nat) (s : ByteArray) (vN vV vP vQ : Value) (m0 m1 m2 : Nat) (hw : Env w) (R1 : Rdr (w.heap.size + 2) w1 b startC vN vV vP vQ m0 m1 m2)
    (b1 : Below (w.heap.size + 2) ((w.alloc (.cells zeros12.toArray TConf)).alloc (.cells #[.int .i64 0, .int .i64 0] TFault)) w1) :
    PI w w1.heap.size b [] (world5 w1 b s) ∧ Boxed (world5 w1 b s) (w1.heap.size + 2) TStr (.string s) ∧ (world5 w1 b s).heap.size = w1.heap.size + 5 := by
  have hn : ∀ (u : World) (o : Obj) (k : Nat), u.heap.size = k → (u.alloc o).heap[k]? = some o ∧ (u.alloc o).heap.size = k + 1 := fun u o k h => by subst h; exact ⟨heap_alloc_new u o, by simp⟩
  have ho : ∀ (u : World) (o : Obj) (k : Nat) (c : Option Obj), k < u.heap.size → u.heap[k]? = c → (u.alloc o).heap[k]? = c := fun u o k c hk h => (Below.heap_alloc u o k hk).trans h
  obtain ⟨a1, z1⟩ := hn w1 (.cells #[.pointer (some ⟨b, 0, none⟩)] TPtr) _ rfl
  obtain ⟨a2, z2⟩ := hn _ (.cells #[.int .i64 0] TInt) _ z1
  obtain ⟨a3, z3⟩ := hn _ (.cells #[.string s] TStr) _ z2
  obtain ⟨a4, z4⟩ := hn _ (.cells #[.string ⟨#[10]⟩] TStr) _ z3
  obtain ⟨a5, z5⟩ := hn _ (.cells #[.int .i64 0] TInt) _ z4
  have hB : Below w1.heap.size w1 (world5 w1 b s) := (((((Below.refl _ _).alloc (Nat.le_refl _) _).alloc (by omega) _).alloc (by omega) _).alloc (by omega) _).alloc (by omega) _
  have r0 : Box ((w.alloc (.cells zeros12.toArray TConf)).alloc (.cells #[.int .i64 0, .int .i64 0] TFault)) w.heap.size TConf zeros12 := ho _ _ _ _ (by simp) (heap_alloc_new w _)
  have r1 : Box ((w.alloc (.cells zeros12.toArray TConf)).alloc (.cells #[.int .i64 0, .int .i64 0] TFault)) (w.heap.size + 1) TFault [.int .i64 0, .int .i64 0] := by
    have := Box.new (w.alloc (.cells zeros12.toArray TConf)) TFault [.int .i64 0, .int .i64 0]
    rwa [World.size_alloc] at this
  have q0 := Box.below r0 b1 (by omega)
  have q1 := Box.below r1 b1 (by omega)
  have hBw : Below w.heap.size w w1 := (((Below.refl _ _).alloc (Nat.le_refl _) _).alloc (by simp) _).trans (b1.mono (by omega))
  have hsz : w.heap.size + 2 ≤ w1.heap.size := Nat.le_trans R1.bb (Nat.le_of_lt (Box.lt R1.box))
  refine ⟨⟨startC, vN, vV, vP, vQ, m0, m1, m2, rfl, start_good, R1.below hB, fun k hk => ?_, ?_⟩, ?_, z5⟩
  · obtain ⟨h1, h2⟩ := R1.own_range k hk
    exact ⟨h1, .inl h2⟩
  · exact {
      rc := Box.below q0 hB (Box.lt q0)
      rf := Box.below q1 hB (Box.lt q1)
      ptr := ho _ _ _ _ (by omega) (ho _ _ _ _ (by omega) (ho _ _ _ _ (by omega) (ho _ _ _ _ (by omega) a1)))
      num := ho _ _ _ _ (by omega) (ho _ _ _ _ (by omega) (ho _ _ _ _ (by omega) a2))
      sep := ho _ _ _ _ (by omega) a4
      cnt := a5
      env := ((EnvAt.of hw).below (hBw.trans (hB.mono hBw.size))).mono (by omega)
      old := hBw.trans (hB.mono hBw.size) }
  · exact ho _ _ _ _ (by omega) (ho _ _ _ _ (by omega) a3)
end Go.Proofs.YtghnpkpmgpbmcaaGreatDoor
/-
  A text is refused, or its config may be: plain facts.
-/
namespace Go.Proofs.YtghnpkpmgpbmcaaGreatDoor
open Go.RowKit Go.Shelf Vs

theorem linesP_good : ∀ (ls : List Str) (k : Nat) (c c' : Cfg), Good c → linesP k c ls = .ok c' → Good c'
  | [], k, c, c', hg, h => by
    rw [linesP_nil] at h
    injection h with h
    exact h ▸ hg
  | l :: ls, k, c, c', hg, h => by
    rw [linesP_cons] at h
    cases hx : lineP c l with
    | error e => rw [hx] at h; cases h
    | ok c2 =>
      rw [hx] at h
      exact linesP_good ls (k + 1) c2 c' (lineP_good hg l hx) h
theorem linesP_err : ∀ (ls : List Str) (k : Nat) (c : Cfg) (e : Nat × Nat), linesP k c ls = .error e → e.1 ≠ 0
  | [], k, c, e, h => by rw [linesP_nil] at h; cases h
  | l :: ls, k, c, e, h => by
    rw [linesP_cons] at h
    cases hx : lineP c l with
    | error e2 =>
      rw [hx] at h
      injection h with h
      rw [← h]
      exact lineP_ne hx
    | ok c2 =>
      rw [hx] at h
      exact linesP_err ls (k + 1) c2 e h
/-- A text is refused, or its config may be. -/
theorem parseC_cases (s : Str) : (∃ e k, e ≠ 0 ∧ parseC s = (noCfg, e, k)) ∨ (∃ c, Good c ∧ rightC c = true ∧ parseC s = (c, 0, 0)) := by
  unfold parseC
  by_cases hb : 65536 < s.length
  · rw [if_pos hb]
    exact .inl ⟨5, 0, by decide, rfl⟩
  · rw [if_neg hb]
    cases hl : linesP 1 startC (lines s) with
    | error e => exact .inl ⟨e.1, e.2, linesP_err _ _ _ _ hl, rfl⟩
    | ok c =>
      simp only
      cases hr : rightC c with
      | false => exact .inl ⟨12, 0, by decide, by rw [if_neg (by simp)]⟩
      | true => exact .inr ⟨c, linesP_good _ _ _ _ start_good hl, hr, by rw [if_pos rfl]⟩
theorem rightC_some {c : Cfg} (h : rightC c = true) : 0 < c.names.length ∧ 0 < c.parts.length := by
  unfold rightC rightNodesP rightPartsP at h
  simp only [Bool.and_eq_true, Bool.not_eq_true', List.isEmpty_eq_false_iff] at h
  obtain ⟨⟨⟨⟨⟨⟨⟨⟨h1, _⟩, _⟩, _⟩, _⟩, ⟨⟨⟨h2, _⟩, _⟩, _⟩⟩, _⟩, _⟩, _⟩ := h
  exact ⟨List.length_pos_iff.2 h1, List.length_pos_iff.2 h2⟩
end Go.Proofs.YtghnpkpmgpbmcaaGreatDoor
