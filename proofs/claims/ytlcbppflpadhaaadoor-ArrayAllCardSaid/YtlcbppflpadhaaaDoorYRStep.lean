/-
  The document's own Step.
-/
import Derived.Test.YtlcbppflpadhaaaDoorYStep
namespace Go.Proofs.YtlcbppflpadhaaaDoor
open Go.RowKit

theorem take_one {P : List Int} {R : Nat} {x : Int} : ((P.take R).length < R → (P ++ [x]).take R = P.take R ++ [x]) ∧ (¬ (P.take R).length < R → (P ++ [x]).take R = P.take R) := by
  rw [List.length_take]
  constructor
  · intro h
    have h1 : P.length < R := by omega
    rw [List.take_of_length_le (by rw [List.length_append, List.length_singleton]; omega), List.take_of_length_le (by omega)]
  · intro h
    rw [List.take_append_of_le_length (by omega)]
set_option maxRecDepth 100000 in
set_option maxHeartbeats 8000000 in
theorem rStep_no (l : List Int) (A : Option Addr) (cap : Nat) (lim running : Int) (v : Value) (w : World) (hs : Ints w w.heap.size A l) (hr : right l lim = false ∨ running < 0) :
    Calls Tryd.prog 16 #[.agg #[.slice A l.length cap, .int .i64 lim], .int .i64 running, v] w (IntsPost w []) := by
  have p0 : AB (w.alloc (.cells #[.slice A l.length cap, .int .i64 lim] TRAr)) w.heap.size TRAr (.slice A l.length cap) lim := heap_alloc_new w _
  have b0 : Below w.heap.size w (w.alloc (.cells #[.slice A l.length cap, .int .i64 lim] TRAr)) := (Below.refl _ _).alloc (Nat.le_refl _) _
  have hri := rRight_any l A cap lim (w.alloc (.cells #[.slice A l.length cap, .int .i64 lim] TRAr)) ((hs.below b0).more b0.size)
  clear hs
  have hr' : right l lim = false ∨ (right l lim = true ∧ running < 0) := by
    cases h : right l lim with
    | false => exact .inl rfl
    | true =>
      rcases hr with hr | hr
      · rw [h] at hr; cases hr
      · exact .inr ⟨rfl, hr⟩
  clear hr
  rcases hr' with hr | ⟨hr, h0⟩
  all_goals
    rw [hr] at hri
    clear hr
    go_enter Tryd.func16, Tryd.ntmps16
    go_upto_region 1 with fail
    generalize w.alloc _ = w1 at *
    obtain ⟨c0, c1, _, _, _⟩ := p0.facts
    replace p0 := fhid p0
    go_wp2_with (go_at_call 12; (with_reducible refine hri.mono ?_); rintro e w2 ⟨rfl, b2⟩)
    go_ret
    exact ⟨_, rfl, OwnI.nil _ _, b0.trans (b2.mono b0.size)⟩
set_option maxRecDepth 100000 in
set_option maxHeartbeats 8000000 in
theorem rStep_yes (l : List Int) (A : Option Addr) (cap : Nat) (lim running : Int) (done : List Int) (A2 : Option Addr) (cap2 : Nat) (w : World) (hs : Ints w w.heap.size A l) (hd : Ints w w.heap.size A2 done) (hdl : done.length ≤ 1000) (hr : right l lim = true) (h0 : 0 ≤ running) (h1 : running ≤ 9223372036854775807) :
    Calls Tryd.prog 16 #[.agg #[.slice A l.length cap, .int .i64 lim], .int .i64 running, .slice A2 done.length cap2] w (IntsPost w ((l.filter (open_ done)).take (roomP l lim running))) := by
  have p0 : AB (w.alloc (.cells #[.slice A l.length cap, .int .i64 lim] TRAr)) w.heap.size TRAr (.slice A l.length cap) lim := heap_alloc_new w _
  have b0 : Below w.heap.size w (w.alloc (.cells #[.slice A l.length cap, .int .i64 lim] TRAr)) := (Below.refl _ _).alloc (Nat.le_refl _) _
  have zz := World.size_alloc w (.cells #[.slice A l.length cap, .int .i64 lim] TRAr)
  have hri := rRight_any l A cap lim (w.alloc (.cells #[.slice A l.length cap, .int .i64 lim] TRAr)) ((hs.below b0).more b0.size)
  rw [hr] at hri
  obtain ⟨⟨l1, l2⟩, _, m0, m1⟩ := (of_decide_eq_true hr : RightP l lim)
  obtain ⟨bb, o, rfl, hb, hcell⟩ := cells_of hs (by omega)
  have hend : (l.filter (open_ done)).take (roomP l lim running) = (pre l done l.length).take (roomP l lim running) := by rw [pre_all]
  obtain ⟨R, hR⟩ : ∃ R, roomP l lim running = R := ⟨_, rfl⟩
  have hRd : R = if lim = 0 then l.length else (lim - running).toNat := hR.symm
  rw [hR] at hend ⊢
  rw [hend]
  clear hend hR hs hr
  replace hcell := fhid hcell
  replace hd := fhid hd
  replace hRd := fhid hRd
  go_enter Tryd.func16, Tryd.ntmps16
  go_upto_region 1 with fail
  generalize w.alloc _ = w1 at *
  obtain ⟨c0, c1, _, _, _⟩ := p0.facts
  replace p0 := fhid p0
  go_upto_region 3 with (go_at_call 12; (with_reducible refine hri.mono ?_); rintro e w2 ⟨rfl, b2⟩)
  clear c0 c1 hri
  have q0 := AB.below p0.out b2 (by omega)
  have g2 := b0.trans (b2.mono b0.size)
  have hz2 := b2.size
  obtain ⟨c0, c1, _, _, _⟩ := q0.facts
  replace q0 := fhid q0
  clear b2
  have l1' : (l.length : Int) ≤ 256 := by omega
  go_wp2_with fail
  go_loopw [7, 8] (fun v i wr => ∃ j : Nat, j ≤ l.length ∧ i = .int .i64 (j : Int) ∧ OwnI wr (w.heap.size + 1) v ((pre l done j).take R) ∧ Below (w.heap.size + 1) w2 wr) (fun _ i _ => l.length - (intOf i).toNat)
  case atStart => exact ⟨0, Nat.zero_le _, rfl, by rw [pre_zero, List.take_nil]; exact OwnI.nil _ _, Below.refl _ _⟩
  case round =>
    clear c0 c1
    obtain ⟨j, hj, rfl, hO, hB⟩ := hrel
    have hzB := hB.size
    have hpl := pre_le l done j
    obtain ⟨Av, cv, rfl, hv1, hv2, _⟩ := hO.shape
    have qj := q0.out.below hB (by omega)
    obtain ⟨c0, c1, _, _, _⟩ := qj.facts
    rename World => wo
    replace qj := fhid qj
    by_cases hlt : j < l.length
    · have hc := (hB.cell (p := ⟨bb, o + j, none⟩) (show bb < w.heap.size + 1 by omega)).trans ((g2.cell (p := ⟨bb, o + j, none⟩) hb).trans (hcell.out j hlt))
      have hsn := pre_succ (done := done) hlt
      have hdo := fhid ((hd.out.below g2).below (hB.mono (by omega)))
      have j1 : (j : Int) < l.length := by omega
      have j0 : (0 : Int) ≤ j := by omega
      have hxj : (if lim = 0 then l.length else (lim - running).toNat) = R := hRd.out.symm
      generalize l.getD j 0 = x at *
      have hto := @take_one (pre l done j) R x
      have hQl : ((pre l done j).take R).length ≤ 256 := by rw [List.length_take]; omega
      have hQz : lim = 0 → ((pre l done j).take R).length < R := fun h => by rw [List.length_take]; rw [if_pos h] at hxj; omega
      replace hxj := fhid hxj
      replace hQz := fhid hQz
      replace hto := fhid hto
      replace hsn := fhid hsn
      generalize hQe : (pre l done j).take R = Q at *
      replace hQe := fhid hQe
      replace hO := fhid hO
      go_wp2_with fail
      go_loopw [9, 10] (fun s k wx => ∃ q : Nat, q ≤ done.length ∧ k = .int .i64 (q : Int) ∧ s = .bool (decide (x ∈ done.take q)) ∧ Below wo.heap.size wo wx) (fun _ k _ => done.length - (intOf k).toNat)
      case atStart => exact ⟨0, Nat.zero_le _, rfl, by simp, Below.refl _ _⟩
      case round =>
        obtain ⟨q, hq, rfl, rfl, hC⟩ := hrel
        have hzC := hC.size
        clear c0 c1
        obtain ⟨c0, c1, _, _, _⟩ := (qj.out.below hC (by omega)).facts
        have hcx := (hC.cell (p := ⟨bb, o + j, none⟩) (show bb < wo.heap.size by omega)).trans hc
        by_cases hqlt : q < done.length
        · obtain ⟨bd, od, rfl, hbd, hcd⟩ := Ints.at_ (hdo.out.below (hC.mono (by omega))) hqlt
          have hsd := fhid (List.take_succ_eq_append_getElem hqlt)
          have k1 : (q : Int) < done.length := by omega
          have k0 : (0 : Int) ≤ q := by omega
          generalize done[q] = y at *
          by_cases hin : x ∈ done.take q
          · rw [decide_eq_true hin]
            have hE := fhid (show decide (x ∈ done.take (q + 1)) = true from decide_eq_true (by rw [hsd.out]; simp [hin]))
            clear hin
            go_upto_region 11 with fail
            go_quiet (fail)
            go_wp2_with fail
            go_roundw
            case rel => exact ⟨q + 1, by omega, by go_num, by rw [hE.out], below_drewN hC _⟩
            case measure => simp [intOf]; omega
          · rw [decide_eq_false hin]
            by_cases hyx : y = x
            · have e1 : (y == x) = true := beq_iff_eq.2 hyx
              have hE := fhid (show decide (x ∈ done.take (q + 1)) = true from decide_eq_true (by rw [hsd.out, hyx]; simp))
              clear hin hyx
              go_upto_region 11 with fail
              go_quiet (fail)
              go_wp2_with fail
              go_roundw
              case rel => exact ⟨q + 1, by omega, by go_num, by rw [hE.out], below_drewN hC _⟩
              case measure => simp [intOf]; omega
            · have e1 : (y == x) = false := beq_eq_false_iff_ne.2 hyx
              have hE := fhid (show decide (x ∈ done.take (q + 1)) = false from decide_eq_false (by rw [hsd.out]; simp [hin, Ne.symm hyx]))
              clear hin hyx
              go_upto_region 11 with fail
              go_quiet (fail)
              go_wp2_with fail
              go_roundw
              case rel => exact ⟨q + 1, by omega, by go_num, by rw [hE.out], below_drewN hC _⟩
              case measure => simp [intOf]; omega
        · obtain rfl : q = done.length := by omega
          rw [List.take_length]
          have k1 : ¬ (done.length : Int) < done.length := by omega
          have hOC := fhid (hO.out.below hC)
          have gC := hB.trans (hC.mono (show w.heap.size + 1 ≤ wo.heap.size by omega))
          have hzr : w.heap.size + 1 ≤ wr.heap.size := by omega
          by_cases hin : x ∈ done
          · rw [decide_eq_true hin]
            have hE := fhid (show (pre l done (j + 1)).take R = Q by
              rw [hsn.out, if_neg (by unfold open_; simp [hin]), List.append_nil, hQe.out])
            clear hin
            go_wp2_with fail
            go_roundw
            case rel => exact ⟨j + 1, by omega, by go_num, by rw [hE.out]; exact hOC.out, gC⟩
            case measure => simp [intOf]; omega
          · rw [decide_eq_false hin]
            have hop : open_ done x = true := by unfold open_; simp [hin]
            have hE1 := fhid (fun (h : Q.length < R) => show (pre l done (j + 1)).take R = Q ++ [x] by
              rw [hsn.out, if_pos hop, hto.out.1 h])
            have hE0 := fhid (fun (h : ¬ Q.length < R) => show (pre l done (j + 1)).take R = Q by
              rw [hsn.out, if_pos hop, hto.out.2 h])
            clear hin hop
            by_cases hz : lim = 0
            · have e0 : (lim == 0) = true := beq_iff_eq.2 hz
              have hE := fhid (hE1.out (hQz.out hz))
              replace hz := fhid hz
              go_wp2_with (at_builtin; (refine app_int rfl _ _ rfl (w.heap.size + 1) _ Q x wr rfl hOC.out rfl wr.heap.size rfl rfl (by omega) hzr ?_; intro v3 w3 o3 _ b3))
              go_roundw
              case rel => exact ⟨j + 1, by omega, by go_num, by rw [hE.out]; exact o3, gC.trans b3⟩
              case measure => simp [intOf]; omega
            · have e0 : (lim == 0) = false := beq_eq_false_iff_ne.2 hz
              have hRe : (lim - running).toNat = R := by
                have := hxj.out
                rwa [if_neg hz] at this
              replace hz := fhid hz
              by_cases hrl : running < lim
              · by_cases hql : (Q.length : Int) < lim - running
                · have hE := fhid (hE1.out (by omega))
                  clear hRe
                  go_wp2_with (at_builtin; (refine app_int rfl _ _ rfl (w.heap.size + 1) _ Q x wr rfl hOC.out rfl wr.heap.size rfl rfl (by omega) hzr ?_; intro v3 w3 o3 _ b3))
                  go_roundw
                  case rel => exact ⟨j + 1, by omega, by go_num, by rw [hE.out]; exact o3, gC.trans b3⟩
                  case measure => simp [intOf]; omega
                · have hE := fhid (hE0.out (by omega))
                  clear hRe
                  go_wp2_with fail
                  go_roundw
                  case rel => exact ⟨j + 1, by omega, by go_num, by rw [hE.out]; exact hOC.out, gC⟩
                  case measure => simp [intOf]; omega
              · have hE := fhid (hE0.out (by omega))
                clear hRe
                go_wp2_with fail
                go_roundw
                case rel => exact ⟨j + 1, by omega, by go_num, by rw [hE.out]; exact hOC.out, gC⟩
                case measure => simp [intOf]; omega
    · obtain rfl : j = l.length := by omega
      have j1 : ¬ (l.length : Int) < l.length := by omega
      generalize (pre l done l.length).take R = Q at *
      replace hO := fhid hO
      go_wp2_with fail
      go_ret
      exact ⟨_, rfl, hO.out.base (by omega), g2.trans (hB.mono (by omega))⟩
theorem rStep_any (l : List Int) (A : Option Addr) (cap : Nat) (lim running : Int) (done : List Int) (A2 : Option Addr) (cap2 : Nat) (w : World) (hs : Ints w w.heap.size A l) (hd : Ints w w.heap.size A2 done) (hdl : done.length ≤ 1000) (h1 : running ≤ 9223372036854775807) :
    Calls Tryd.prog 16 #[.agg #[.slice A l.length cap, .int .i64 lim], .int .i64 running, .slice A2 done.length cap2] w (IntsPost w (stepP l lim running done)) := by
  by_cases h : right l lim = true ∧ 0 ≤ running
  · rw [stepP_yes h.1 h.2]
    exact rStep_yes l A cap lim running done A2 cap2 w hs hd hdl h.1 h.2 h1
  · rw [stepP_no h]
    refine rStep_no l A cap lim running _ w hs ?_
    by_cases hr : right l lim = true
    · exact .inr (by by_cases h0 : 0 ≤ running; exact absurd ⟨hr, h0⟩ h; omega)
    · exact .inl (by simpa using hr)
end Go.Proofs.YtlcbppflpadhaaaDoor
