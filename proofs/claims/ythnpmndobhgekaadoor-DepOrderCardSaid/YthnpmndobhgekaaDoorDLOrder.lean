/-
  DepOrder, walked: the dependency turned round.
-/
import Derived.Test.YthnpmndobhgekaaDoorDAlive
import Derived.BigRegion
import Derived.Deep.DeepCutAuto
import Derived.Deep.RegionLaw
namespace Go.Proofs.YthnpmndobhgekaaDoor
open Go.RowKit

/-- An item with its jobs turned round. -/
abbrev revI (x : Itm) : Itm := (x.1, x.2.reverse)
/-- One number more, inside a region that draws its order. -/
theorem step_int {w : World} {ops : Array Oper} {o : Oper} {a : Act} {K : Act → World → Prop} {Q : Exit → Act → World → Prop} {E : Prop} (hgd : o.guard = none) (s x : Operand) (ho : o.op = .call { callee := .builtin .append, args := #[s, x], argTypes := #[34, 34] })
    (base : Nat) (v : Value) (ns : List Int) (n : Int) (w0 : World) (hs : a.eval s = v) (hown : OwnI w0 base v ns)
    (hw : w = w0.alloc (.cells #[.int .i64 n] 3)) (g : Nat) (hg : g = w0.heap.size) (hx : a.eval x = .slice (some ⟨g, 0, none⟩) 1 1) (hlen : ns.length ≤ 1048576) (hbase : base ≤ w0.heap.size)
    (h : ∀ v' w', OwnI w' base v' (ns ++ [n]) → Below base w0 w' → K (a.put o.dst v') w') : if Region.wanted o (yielded ops a.tmps) = true then Oper.wp Tryd.prog o a w K Q else E := by
  have hwt : Region.wanted o (yielded ops a.tmps) = true := by simp [Region.wanted, hgd]
  rw [if_pos hwt]
  subst hw
  subst hg
  obtain ⟨i0, hi, hz0, hz1, hz2⟩ := info_parts infoInt
  obtain ⟨v', w', hrun, h2, h3, _, _⟩ := run_append_own_at (P := Tryd.prog) (w0.alloc (.cells #[.int .i64 n] 3)) base 34 o.type 3 i0 (.int .i64 0) 1 8 Tryd.underlying34 hi hz0 hz1 hz2 rfl (by decide) v ns.length (IV ns) (World.ownsRow.alloc hown _) ⟨w0.heap.size, 0, none⟩ 1 1 [.int .i64 n] rfl
    (fun j u hj => by
      cases j with
      | zero =>
        have : u = .int .i64 n := by simpa using hj.symm
        subst this
        show (w0.alloc _).cell? ⟨w0.heap.size, 0, none⟩ = _
        simp
      | succ j => simp at hj)
    (fun u hu => by simp at hu; subst hu; rfl) (by unfold maxLen; omega) (by omega) (by rw [World.size_alloc]; omega)
  have hb : Below base w0 w' := ((Below.refl _ _).alloc hbase _).trans ((Below.refl _ _).grown h3 (by rw [World.size_alloc]; omega) (fun k hk => ownsRow_ge hown k hk))
  unfold Oper.wp
  simp [execOp, ho, resolve, invoke, builtin, hs, hx, hrun, Result.andThen]
  refine h v' w' ?_ hb
  unfold OwnI
  rw [IV_app, List.length_append]
  exact h2
theorem drop_rev {α : Type} (l : List α) (m : Nat) (h : m < l.length) : (l.drop m).reverse = (l.drop (m + 1)).reverse ++ [l[m]] := by
  rw [List.drop_eq_getElem_cons h, List.reverse_cons]
theorem drop_revM (l : List Itm) (m : Nat) (h : m < l.length) : (l.drop m).reverse.map revI = (l.drop (m + 1)).reverse.map revI ++ [revI l[m]] := by
  rw [drop_rev l m h, List.map_append]
  rfl
/-- Where the loop over an item's jobs is. -/
def InRel (wo : World) (k : Int) (js : List Int) (e : Value) (wr : World) : Prop := ∃ (q : Nat) (iv : Int) (u : Value), q ≤ js.length ∧ iv + 1 = (q : Int) ∧ e = .int .i64 iv ∧ OwnI wr (wo.heap.size + 1) u (js.drop q).reverse ∧ IB wr wo.heap.size TRIt k u ∧ Below wo.heap.size wo wr
/-- Where the loop over the items is. -/
def OutRel (w w2 : World) (any : Bool) (l : List Itm) (A : Option Addr) (cap : Nat) (e : Value) (wr : World) : Prop := ∃ (m : Nat) (iv : Int) (v : Value), m ≤ l.length ∧ iv + 1 = (m : Int) ∧ e = .int .i64 iv ∧ OwnT wr TRIt (w2.heap.size + 1) v ((l.drop m).reverse.map revI) ∧ DB wr w2.heap.size TRDep any v ∧ DB wr w.heap.size TRDep any (.slice A l.length cap) ∧ Below w2.heap.size w2 wr
theorem tag_RDep_int : TRDep ≠ 3 := by decide
theorem tag_RDep_RIt : TRDep ≠ TRIt := by decide
set_option maxRecDepth 100000 in
set_option maxHeartbeats 16000000 in
theorem order_go (any : Bool) (l : List Itm) (A : Option Addr) (cap : Nat) (st : List (Int × Int)) (A2 : Option Addr) (cap2 : Nat) (alone : Bool) (w : World) (hT : Tab w) (hs : Its w w.heap.size A l) (hc : l.length ≤ cap) (hcm : cap ≤ maxLen) (hm : Prs w w.heap.size A2 st) (hst : st.length ≤ maxLen) (hgo : muchB l = false ∧ ¬ 200 < st.length) :
    Calls Tryd.prog 8 #[.agg #[.bool any, .slice A l.length cap], .slice A2 st.length cap2, .bool alone] w (BoolPost w true) := by
  have hll : l.length ≤ 9223372036854775807 := by unfold maxLen at hcm; omega
  have hsl : st.length ≤ 9223372036854775807 := by unfold maxLen at hst; omega
  have hmu1 := much_any any l A cap (w.alloc (.cells #[.bool any, .slice A l.length cap] TRDep)) ((hs.below ((Below.refl _ _).alloc (Nat.le_refl _) _)).more (by rw [World.size_alloc]; omega)) hll hc
  have hal := fun W (hW : Below w.heap.size w W) => alive_any W (tab_below hT hW)
  have hth := fun W (hW : Below w.heap.size w W) => theirs_any any l A cap W ((hs.below hW).more hW.size)
  have hsta := fun W (hW : Below w.heap.size w W) => states_any st A2 cap2 W ((SegC.below hm hW).more hW.size)
  replace hs := fhid hs
  clear hm
  have g0 : Below w.heap.size w (w.alloc (.cells #[.bool any, .slice A l.length cap] TRDep)) := (Below.refl _ _).alloc (Nat.le_refl _) _
  have hi : DB (w.alloc (.cells #[.bool any, .slice A l.length cap] TRDep)) w.heap.size TRDep any (.slice A l.length cap) := heap_alloc_new w _
  replace hT := fhid hT
  replace hi := fhid hi
  obtain ⟨hR, h200⟩ := hgo
  obtain ⟨s1, s2⟩ := much_small hR
  rw [hR] at hmu1
  clear hR
  have i1 : ¬ (200 : Int) < st.length := by omega
  have hd : decide ((200 : Int) < st.length) = false := decide_eq_false i1
  have hth' := fun W (hW : Below w.heap.size w W) => hth W hW (by omega)
  have hst' := fun W (hW : Below w.heap.size w W) => hsta W hW (by omega)
  clear hth hsta
  replace s2 := fhid s2
  go_enter Tryd.func8, Tryd.ntmps8
  go_upto_region 1 with fail
  generalize w.alloc _ = w1 at *
  obtain ⟨c0, c1, _, _, hz⟩ := hi.out.facts
  go_upto_region 3 with (go_at_call 10; (with_reducible refine hmu1.mono ?_); rintro e w2 ⟨rfl, b2⟩
                         have hi2 := fhid (hi.out.below b2 hz)
                         clear c0 c1
                         obtain ⟨c0, c1, _, _, _⟩ := hi2.out.facts)
  have g2 := g0.trans (b2.mono g0.size)
  have hz2 : w.heap.size < w2.heap.size := by have := b2.size; omega
  clear hmu1 hi g0 b2
  go_upto_region 5 with fail
  have q7 : DB (w2.alloc (.cells #[.bool any, .slice none 0 0] TRDep)) w2.heap.size TRDep any (.slice none 0 0) := heap_alloc_new w2 _
  have bA : Below w2.heap.size w2 (w2.alloc (.cells #[.bool any, .slice none 0 0] TRDep)) := (Below.refl _ _).alloc (Nat.le_refl _) _
  have q3 := hi2.out.below bA hz2
  clear c0 c1
  generalize w2.alloc _ = w3 at *
  replace q7 := fhid q7
  replace q3 := fhid q3
  go_loopw [8] (fun i wr => OutRel w w2 any l A cap i wr) (fun i _ => (intOf i + 1).toNat)
  case atStart => exact ⟨l.length, (l.length : Int) - 1, .slice none 0 0, Nat.le_refl _, by omega, rfl, by rw [List.drop_length]; exact OwnIt.nil _ _ _ _, q7.out, q3.out, bA⟩
  case round =>
    obtain ⟨m, iv, v, hml, hiv, rfl, hO, q7, q3, hB⟩ := hrel
    have hBs := hB.size
    have gB := g2.trans (hB.mono g2.size)
    have z7 := q7.facts.2.2.2.2
    rename World => wo
    by_cases hm0 : m = 0
    · subst hm0
      obtain rfl : iv = -1 := by omega
      rw [List.drop_zero] at hO
      obtain ⟨Av, cv, rfl, _, _, hIv⟩ := hO.shape
      have hat := ask_turned any l (stOf st) alone
      have hx4 : ∀ x ∈ l, x.2.length ≤ 1048576 := fun x hx => by have := s2.out x hx; omega
      have hLl : (l.reverse.map revI).length = l.length := by rw [List.length_map, List.length_reverse]
      have hx5 : ∀ x ∈ l.reverse.map revI, x.2.length ≤ 1048576 := fun x hx => by
        obtain ⟨y, hy, rfl⟩ := List.mem_map.1 hx
        show y.2.reverse.length ≤ _
        rw [List.length_reverse]
        exact hx4 y (List.mem_reverse.1 hy)
      have hask := fun A' c b W (h : Its W W.heap.size A' l) hm' => Ask_any any l A' c b (stP st) alone W h (by omega) hx4 hm'
      have hask2 := fun A' c b W (h : Its W W.heap.size A' (l.reverse.map revI)) hm' => Ask_any any (l.reverse.map revI) A' c b (stP st) alone W h (by omega) hx5 hm'
      have hth2 := fun c W (h : Its W W.heap.size Av (l.reverse.map revI)) => theirs_any any (l.reverse.map revI) Av c W h (by omega)
      rw [stOf_stP] at hask hask2
      rw [show (l.reverse.map revI) = l.reverse.map fun x => (x.1, x.2.reverse) from rfl] at hask2 hIv hLl hth2 hO q7
      rw [hat] at hask2
      clear hx4 hx5 hat
      generalize askP any l (stOf st) alone = K at *
      generalize hLR : (l.reverse.map fun x => ((x.1, x.2.reverse) : Itm)) = LR at *
      rw [hLl] at q7
      replace hLR := fhid hLR
      replace hO := fhid hO
      obtain ⟨c0, c1, _, _, _⟩ := q3.facts
      obtain ⟨c2, c3, _, _, _⟩ := q7.facts
      replace q3 := fhid q3
      replace q7 := fhid q7
      go_upto_region 13 with fail
      have zz : Below wo.heap.size wo wo.drew := (Below.refl _ _).drew
      have t7 := (hIv.below zz).more zz.size
      clear c0 c1 c2 c3 hIv
      obtain ⟨c0, c1, _, _, _⟩ := (q3.out.below zz (by omega)).facts
      obtain ⟨c2, c3, _, _, _⟩ := (q7.out.below zz z7).facts
      go_region_with (first
        | (go_at_call 13
           (with_reducible refine (hth' _ (gB.trans (zz.mono gB.size))).mono ?_)
           rintro e u1 ⟨v1, rfl, o1, b1⟩
           obtain ⟨A3, x3, rfl, _, _, t1⟩ := o1.shape
           replace o1 := fhid o1
           have t7 := (t7.below b1).more b1.size
           have zz := zz.trans (b1.mono zz.size)
           obtain ⟨c0, c1, _, _, _⟩ := (q3.out.below zz (by omega)).facts
           obtain ⟨c2, c3, _, _, _⟩ := (q7.out.below zz z7).facts)
        | (go_at_call 23
           (with_reducible refine (hst' _ (gB.trans (zz.mono gB.size))).mono ?_)
           rintro e u2 ⟨k1, rfl, _, m1, b1⟩
           (try (have t1 := (t1.below b1).more b1.size))
           (try (have t9 := (t9.below b1).more b1.size))
           (try (have t7 := (t7.below b1).more b1.size))
           have zz := zz.trans (b1.mono zz.size)
           obtain ⟨c0, c1, _, _, _⟩ := (q3.out.below zz (by omega)).facts
           obtain ⟨c2, c3, _, _, _⟩ := (q7.out.below zz z7).facts)
        | (go_at_call 22
           (with_reducible refine (hask _ _ _ _ t1 m1).mono ?_)
           rintro e u3 ⟨rfl, b1⟩
           have t7 := (t7.below b1).more b1.size
           have zz := zz.trans (b1.mono zz.size)
           obtain ⟨c0, c1, _, _, _⟩ := (q3.out.below zz (by omega)).facts
           obtain ⟨c2, c3, _, _, _⟩ := (q7.out.below zz z7).facts)
        | (go_at_call 13
           have ht2 := hth2 cv _ t7
           rw [hLl] at ht2
           (with_reducible refine ht2.mono ?_)
           rintro e u4 ⟨v1, rfl, o1, b1⟩
           obtain ⟨A5, x5, rfl, _, _, t9⟩ := o1.shape
           rw [hLl]
           replace o1 := fhid o1
           have zz := zz.trans (b1.mono zz.size)
           obtain ⟨c0, c1, _, _, _⟩ := (q3.out.below zz (by omega)).facts
           obtain ⟨c2, c3, _, _, _⟩ := (q7.out.below zz z7).facts)
        | (go_at_call 22
           have ha2 := hask2 A5 x5 _ _ t9 m1
           rw [hLl] at ha2
           (with_reducible refine ha2.mono ?_)
           rintro e u5 ⟨rfl, b1⟩
           have zz := zz.trans (b1.mono zz.size)
           obtain ⟨c0, c1, _, _, _⟩ := (q3.out.below zz (by omega)).facts
           obtain ⟨c2, c3, _, _, _⟩ := (q7.out.below zz z7).facts)
        | (go_at_call 11
           (with_reducible refine (hal _ (gB.trans (zz.mono gB.size))).mono ?_)
           rintro e u6 ⟨rfl, b1⟩
           have zz := zz.trans (b1.mono zz.size)))
      all_goals
        go_wp2_with fail
        go_ret
        exact ⟨rfl, gB.trans (zz.mono gB.size)⟩
    · obtain ⟨m', rfl⟩ : ∃ m', m = m' + 1 := ⟨m - 1, by omega⟩
      obtain rfl : iv = (m' : Int) := by omega
      have hlt : m' < l.length := by omega
      obtain ⟨bb, o, rfl, hbb, hc1, A', cp, hc2, hjc, hcmj, hjs⟩ := (hs.out.below gB).at_ hlt
      have hsx := s2.out l[m'] (List.getElem_mem hlt)
      have hrv := fhid (drop_revM l m' hlt)
      have i2 : (0 : Int) ≤ m' := by omega
      have i3 : (m' : Int) < l.length := by omega
      generalize l[m'] = x at *
      obtain ⟨k, js⟩ := x
      simp only at hc1 hc2 hjc hjs hsx
      replace hO := fhid hO
      replace hjs := fhid hjs
      obtain ⟨c0, c1, _, _, _⟩ := q3.facts
      clear hth' hst'
      go_upto_region 8 with fail
      have q9 : IB (wo.alloc (.cells #[.int .i64 k, .slice none 0 0] TRIt)) wo.heap.size TRIt k (.slice none 0 0) := heap_alloc_new wo _
      have bX : Below wo.heap.size wo (wo.alloc (.cells #[.int .i64 k, .slice none 0 0] TRIt)) := (Below.refl _ _).alloc (Nat.le_refl _) _
      have k2 := (bX.cell (p := ⟨bb, o + m' * 2 + 1, none⟩) (show bb < wo.heap.size by omega)).trans hc2
      have kk := q3.below bX (by omega)
      generalize wo.alloc _ = wx at *
      replace q9 := fhid q9
      replace q3 := fhid q3
      replace q7 := fhid q7
      have hc1' := fhid hc1
      have hc2' := fhid hc2
      clear c0 c1 hc1 hc2
      obtain ⟨c0, c1, _, _, _⟩ := kk.facts
      replace kk := fhid kk
      go_upto_region 9 with fail
      clear c0 c1 k2
      go_loopw [10] (fun e wr => InRel wo k js e wr) (fun e _ => (intOf e + 1).toNat)
      case atStart => exact ⟨js.length, (js.length : Int) - 1, .slice none 0 0, Nat.le_refl _, by omega, rfl, by rw [List.drop_length]; exact OwnI.nil _ _, q9.out, bX⟩
      case round =>
        obtain ⟨q, iw, u, hql, hiw, rfl, hO2, p9, hB2⟩ := hrel
        have hB2s := hB2.size
        have z9 := p9.facts.2.2.2.2
        by_cases hq0 : q = 0
        · subst hq0
          obtain rfl : iw = -1 := by omega
          rw [List.drop_zero] at hO2
          obtain ⟨Au, cu, rfl, hu1, hu2, hus⟩ := hO2.tag
          obtain ⟨Av, nv, cv, rfl⟩ : ∃ A n c, v = .slice A n c := by obtain ⟨A, cap, e, _⟩ := hO.out.shape; exact ⟨A, _, cap, e⟩
          have r7 := q7.out.below hB2 z7
          have r3 := q3.out.below hB2 (by omega)
          have o7 := fhid (OwnIt.below hO.out hB2)
          have hln : ((l.drop (m' + 1)).reverse.map revI).length ≤ 1000 := by rw [List.length_map, List.length_reverse, List.length_drop]; omega
          replace hO2 := fhid hO2
          obtain ⟨c0, c1, _, _, _⟩ := r7.facts
          obtain ⟨c2, c3, _, _, _⟩ := p9.facts
          generalize hJR : js.reverse = JR at *
          replace hJR := fhid hJR
          replace hus := fhid hus
          replace r7 := fhid r7
          replace r3 := fhid r3
          generalize (l.drop (m' + 1)).reverse.map revI = pre at *
          replace hln := fhid hln
          go_wp2_with (first
            | (at_builtin; (refine app_it 22 TRIt Tryd.underlying22 infoRIt rfl _ _ rfl (w2.heap.size + 1) (TagI wr) _ pre k JR Au cu hu1 hu2 wr rfl o7.out (fun b hb => ⟨hb.lt, OwnIt.ne o7.out tag_RIt_int hb⟩) hus.out rfl _ rfl rfl (by have := hln.out; omega) (by omega) ?_; intro v3 w3 o3 hk3 b3)
               obtain ⟨A3, n3, cap3, rfl⟩ : ∃ A n c, v3 = .slice A n c := (by obtain ⟨A, cap, e, _⟩ := o3.shape; exact ⟨A, _, cap, e⟩)
               replace o3 := fhid o3
               have t7 := r7.out.below b3 (by omega)
               obtain ⟨_, _, g4, g5, _⟩ := t7.facts))
          go_roundw
          case rel =>
            refine ⟨m', (m' : Int) - 1, _, by omega, by omega, rfl, ?_, block_set 1 _ t7, block_other _ _ (r3.out.below b3 (by omega)) (by omega), (((hB.trans (hB2.mono hBs)).trans (b3.mono (by omega))).setCell (Nat.le_refl _) _)⟩
            rw [hrv.out, show revI (k, js) = (k, JR) by rw [← hJR.out]]
            exact OwnIt.set (o3.out.tags fun b _ h => h.same (hk3 b h)) t7 tag_RDep_int tag_RDep_RIt _ _
          case measure => simp [intOf]
        · obtain ⟨q', rfl⟩ : ∃ q', q = q' + 1 := ⟨q - 1, by omega⟩
          obtain rfl : iw = (q' : Int) := by omega
          have hqlt : q' < js.length := by omega
          obtain ⟨b3, o3, rfl, hb3, hc3⟩ := Ints.at_ hjs.out hqlt
          have hrq := fhid (drop_rev js q' hqlt)
          have j2 : (0 : Int) ≤ q' := by omega
          have j3 : (q' : Int) < js.length := by omega
          have hln : (js.drop (q' + 1)).reverse.length ≤ 1000 := by rw [List.length_reverse, List.length_drop]; omega
          generalize js[q'] = n at *
          generalize (js.drop (q' + 1)).reverse = pre at *
          have zz : Below wr.heap.size wr wr.drew := (Below.refl _ _).drew
          obtain ⟨Au, nu, cu, rfl⟩ : ∃ A n c, u = .slice A n c := by obtain ⟨A, cap, e, _⟩ := hO2.shape; exact ⟨A, _, cap, e⟩
          have hB3 := hB2.trans (zz.mono hB2s)
          obtain ⟨c0, c1, _, _, _⟩ := (q3.out.below hB3 (by omega)).facts
          obtain ⟨c2, c3, _, _, _⟩ := (p9.below zz z9).facts
          have zn : Below wr.heap.size wr (wr.alloc (.cells #[.int .i64 n] 3)).drew := ((Below.refl _ _).alloc (Nat.le_refl _) _).drew
          obtain ⟨d2, d3, _, _, _⟩ := (p9.below zn z9).facts
          have k2 := (hB3.cell (p := ⟨bb, o + m' * 2 + 1, none⟩) (by show bb < _; omega)).trans hc2'.out
          have k3 := (hB3.cell (p := ⟨b3, o3 + q', none⟩) (by show b3 < _; omega)).trans hc3
          replace hO2 := fhid hO2
          replace hln := fhid hln
          replace p9 := fhid p9
          go_upto_region 11 with fail
          go_region_law (first
            | (refine step_int rfl _ _ rfl (wo.heap.size + 1) _ pre n _ rfl (hO2.out.below zz) rfl _ (by first | rfl | simp) rfl (by have := hln.out; omega) (by have := zz.size; omega) ?_
               intro v3 w3 o4 b4
               obtain ⟨A4, n4, cap4, rfl⟩ : ∃ A n c, v3 = .slice A n c := (by obtain ⟨A, cap, e, _⟩ := o4.shape; exact ⟨A, _, cap, e⟩)
               have p10 := (p9.out.below zz z9).below b4 (by omega)
               obtain ⟨_, _, g4, g5, _⟩ := p10.facts))
          all_goals
            go_wp2_with fail
            go_roundw
            case rel => exact ⟨q', (q' : Int) - 1, _, by omega, by omega, rfl, by rw [hrq.out]; exact OwnI.setCell o4 p10 tag_RIt_int _ _, block_set 1 _ p10, ((hB2.trans (zz.mono hB2s)).trans (b4.mono (by omega))).setCell (Nat.le_refl _) _⟩
            case measure => simp [intOf]
end Go.Proofs.YthnpmndobhgekaaDoor
