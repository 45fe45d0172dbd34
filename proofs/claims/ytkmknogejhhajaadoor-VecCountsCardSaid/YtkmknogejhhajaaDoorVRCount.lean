/-
  Vectors counted, by the document.
-/
import Derived.Test.YtkmknogejhhajaaDoorVTal
import Derived.Test.YtkmknogejhhajaaDoorVSafe
import Derived.Test.YtkmknogejhhajaaDoorVAllR
import Derived.BigRegion
import Derived.Deep.DeepCutAuto
import Derived.Deep.CutBlock
import Derived.Deep.RegionLaw
import Derived.Lib.QuietBelow
namespace Go.Proofs.YtkmknogejhhajaaDoor
open Go.RowKit

abbrev TRTal : TypeId := 49
theorem infoTal : (Tryd.prog.info? TRTal).map (fun i => (i.zero, i.size, i.bytes)) = some (some (.agg #[.int .i64 0, .int .i64 0, .int .i64 0, .int .i64 0]), 4, 32) := by kernel_rfl
theorem SegC.drop4 {w : World} {B : Nat} {A : Option Addr} {t : Tal} (h : SegC w B A (TV t)) {k cap : Nat} (hk : k ≤ t.length) (hc : t.length ≤ cap) : SegC w B (if cap = k then A else A.map (·.add (k * 4))) (TV (t.drop k)) := fun h0 => by
  rw [TV_len, List.length_drop] at h0
  obtain ⟨b, o, rfl, hb, hcell⟩ := h (by rw [TV_len]; omega)
  rw [if_neg (by omega)]
  refine ⟨b, o + k * 4, ?_, hb, fun j hj => ?_⟩
  · show some (Addr.add _ _) = _
    unfold Addr.add
    by_cases h0 : k * 4 = 0
    · rw [if_pos h0, h0, Nat.add_zero]
    · rw [if_neg h0]
  · have hj2 := hj
    rw [TV_len, List.length_drop] at hj2
    have e : (TV (t.drop k))[j] = (TV t)[k * 4 + j]'(by rw [TV_len]; omega) := by
      simp only [← TV_drop t k hk]
      rw [List.getElem_drop]
    rw [e, Nat.add_assoc]
    exact hcell (k * 4 + j) (by rw [TV_len]; omega)
theorem tal_cells {w : World} {B : Nat} {A : Option Addr} {t : Tal} (h : SegC w B A (TV t)) {k : Nat} (hk : k < t.length) : ∃ b o, A = some ⟨b, o, none⟩ ∧ b < B ∧ w.cell? ⟨b, o + k * 4, none⟩ = some (.int .i64 t[k].1.1) ∧ w.cell? ⟨b, o + k * 4 + 1, none⟩ = some (.int .i64 t[k].1.2.1) ∧ w.cell? ⟨b, o + k * 4 + 2, none⟩ = some (.int .i64 t[k].1.2.2) ∧ w.cell? ⟨b, o + k * 4 + 3, none⟩ = some (.int .i64 (t[k].2 : Nat)) := by
  obtain ⟨b, o, e, hb, hc⟩ := h (by rw [TV_len]; omega)
  obtain ⟨g0, g1, g2, g3⟩ := TV_get t k hk
  refine ⟨b, o, e, hb, ?_, ?_, ?_, ?_⟩
  · obtain ⟨hj, e0⟩ := List.getElem?_eq_some_iff.1 g0
    rw [hc _ hj, e0]
  · obtain ⟨hj, e0⟩ := List.getElem?_eq_some_iff.1 g1
    rw [Nat.add_assoc, hc _ hj, e0]
  · obtain ⟨hj, e0⟩ := List.getElem?_eq_some_iff.1 g2
    rw [Nat.add_assoc, hc _ hj, e0]
  · obtain ⟨hj, e0⟩ := List.getElem?_eq_some_iff.1 g3
    rw [Nat.add_assoc, hc _ hj, e0]
theorem look_le {t : Tal} {y : V3 × Nat} (h : y ∈ t) : y.2 ≤ look t y.1 := by
  induction t with
  | nil => cases h
  | cons x r ih =>
    unfold look
    rcases List.mem_cons.1 h with rfl | h
    · rw [if_pos rfl]; omega
    · have := ih h; omega
theorem tally_few {l : List V3} {y : V3 × Nat} (h : y ∈ tally l) : y.2 ≤ l.length := by
  have h1 := look_le h
  rw [(tally_facts l).2] at h1
  exact Nat.le_trans h1 List.count_le_length
theorem less_lt (a b c d e f : Int) : less3 a b c d e f = lt3 (a, b, c) (d, e, f) := rfl
theorem run_tals {w : World} (rt : TypeId) (base : Nat) (v : Value) (ns js : Tal) (hown : OwnY w TRTal base v ns) (B : Nat) (A : Option Addr) (c : Nat) (hj : SegC w B A (TV js)) (hlen : ns.length + js.length ≤ 10000000) (hbase : base ≤ w.heap.size) :
    ∃ v' w', (Builtin.append_ #[45, 45] rt #[v, .slice A js.length c]).run Tryd.prog w = .ok v' w' ∧ OwnY w' TRTal base v' (ns ++ js) ∧ Below base w w' := by
  obtain ⟨i0, hi, hz0, hz1, hz2⟩ := info_parts infoTal
  have hl : (TV js).length = js.length * 4 := by rw [TV_len]
  have hrun : ∃ v' w', (Builtin.append_ #[45, 45] rt #[v, .slice A js.length c]).run Tryd.prog w = .ok v' w' ∧ w'.ownsRow base TRTal 4 v' (ns.length + js.length) (TV ns ++ TV js) ∧ w.grownBy w' v.ownBlock := by
    by_cases h0 : 0 < js.length
    · obtain ⟨b, of, rfl, _, hc⟩ := hj (by rw [TV_len]; omega)
      obtain ⟨v', w', hrun, h2, h3, _, _⟩ := run_append_own_at (P := Tryd.prog) w base 45 rt TRTal i0 (.agg #[.int .i64 0, .int .i64 0, .int .i64 0, .int .i64 0]) 4 32 Tryd.underlying45 hi hz0 hz1 hz2 rfl (by decide) v ns.length (TV ns) hown ⟨b, of, none⟩ js.length c (TV js) hl (fun j u hu => by
          obtain ⟨hj, rfl⟩ := List.getElem?_eq_some_iff.1 hu
          have := hc j hj
          unfold Addr.add
          by_cases hz : j = 0
          · subst hz; rw [if_pos rfl]; exact this
          · rw [if_neg hz]; exact this) (TV_one js) (by unfold maxLen; omega) (by omega) hbase
      exact ⟨v', w', hrun, h2, h3⟩
    · have hm : js.length = 0 := by omega
      obtain rfl : js = [] := List.eq_nil_of_length_eq_zero hm
      cases A with
      | none =>
        refine ⟨v, w, ?_, by simpa [TV, OwnY] using hown, ⟨rfl, rfl, rfl, Nat.le_refl _, fun _ _ _ => rfl⟩⟩
        rcases hown.2 with ⟨rfl, hn⟩ | ⟨g, cap, cur, rfl, _, _, hnc, _⟩
        · simp [Builtin.append_, run_underlying Tryd.underlying45, sizeOf, typeInfo, hi, Builtin.lenOf, Builtin.firstCells]
        · simp [Builtin.append_, run_underlying Tryd.underlying45, sizeOf, typeInfo, hi, Builtin.lenOf, Builtin.firstCells, hnc, storeCells]
      | some ad =>
        obtain ⟨v', w', hrun, h2, h3, _, _⟩ := run_append_own_at (P := Tryd.prog) w base 45 rt TRTal i0 (.agg #[.int .i64 0, .int .i64 0, .int .i64 0, .int .i64 0]) 4 32 Tryd.underlying45 hi hz0 hz1 hz2 rfl (by decide) v ns.length (TV ns) hown ad 0 c [] (by simp) (fun j u hu => by simp at hu) (fun u hu => by simp at hu) (by unfold maxLen; omega) (by simp only [List.length_nil, Nat.add_zero] at hlen; omega) hbase
        exact ⟨v', w', hrun, h2, h3⟩
  obtain ⟨v', w', hrun, h2, h3⟩ := hrun
  refine ⟨v', w', hrun, ?_, (Below.refl _ _).grown h3 hbase (fun k hk => ownsRow_ge hown k hk)⟩
  unfold OwnY
  rw [TV_app, List.length_append]
  exact h2
/-- Counted vectors put behind counted vectors, inside a region that draws its order. -/
theorem step_tals {w : World} {ops : Array Oper} {o : Oper} {a : Act} {K : Act → World → Prop} {Q : Exit → Act → World → Prop} {E : Prop} (hgd : o.guard = none) (s x : Operand) (ho : o.op = .call { callee := .builtin .append, args := #[s, x], argTypes := #[45, 45] })
    (base : Nat) (v : Value) (ns js : Tal) (m : Nat) (hm : m = js.length) (hs : a.eval s = v) (hown : OwnY w TRTal base v ns) (B : Nat) (A : Option Addr) (c : Nat) (hx : a.eval x = .slice A m c) (hj : SegC w B A (TV js)) (hlen : ns.length + js.length ≤ 10000000) (hbase : base ≤ w.heap.size)
    (h : ∀ v' w', OwnY w' TRTal base v' (ns ++ js) → Below base w w' → K (a.put o.dst v') w') : if Region.wanted o (yielded ops a.tmps) = true then Oper.wp Tryd.prog o a w K Q else E := by
  have hwt : Region.wanted o (yielded ops a.tmps) = true := by simp [Region.wanted, hgd]
  rw [if_pos hwt]
  subst hm
  obtain ⟨v', w', hrun, h2, h3⟩ := run_tals o.type base v ns js hown B A c hj hlen hbase
  unfold Oper.wp
  simp [execOp, ho, resolve, invoke, builtin, hs, hx, hrun, Result.andThen]
  exact h v' w' h2 h3
/-- Where the counting is. -/
def CRel (w : World) (l : List V3) (v i : Value) (wr : World) : Prop := ∃ j : Nat, j ≤ l.length ∧ i = .int .i64 (j : Int) ∧ OwnY wr TRTal w.heap.size v (tally (l.take j)) ∧ Below w.heap.size w wr
set_option maxRecDepth 100000 in
set_option maxHeartbeats 8000000 in
theorem rCount_any (l : List V3) (A : Option Addr) (cap : Nat) (w : World) (hs : SegV w w.heap.size A l) (hl : l.length ≤ 1000) :
    Calls Tryd.prog 30 #[.slice A l.length cap] w fun e w' => ∃ v, e = .returned v ∧ OwnY w' TRTal w.heap.size v (tally l) ∧ Below w.heap.size w w' := by
  replace hs := fhid hs
  go_enter Tryd.func30, Tryd.ntmps30
  go_wp2_with fail
  go_loopw [3, 4] (fun v i wr => CRel w l v i wr) (fun _ i _ => l.length - (intOf i).toNat)
  case atStart => exact ⟨0, Nat.zero_le _, rfl, OwnY.nil _ _ _, Below.refl _ _⟩
  case round =>
    obtain ⟨j, hjl, rfl, hO, hB⟩ := hrel
    have hsz := hB.size
    rename World => wo
    by_cases hlt : j < l.length
    · have i1 : (j : Int) < l.length := by omega
      have i0 : (0 : Int) ≤ j := by omega
      obtain ⟨bA, oA, rfl, hbA, hcA⟩ := SegV.below hs.out hB (by omega)
      obtain ⟨x0, x1, x2⟩ := hcA j hlt
      have hsn := fhid (show tally (l.take (j + 1)) = ins l[j] (tally (l.take j)) by rw [List.take_succ_eq_append_getElem hlt, tally_snoc])
      have hol : (tally (l.take j)).length ≤ j := Nat.le_trans (tally_len _) (by rw [List.length_take]; omega)
      have hfew := fhid (show ∀ y ∈ tally (l.take j), y.2 ≤ j from fun y hy => Nat.le_trans (tally_few hy) (by rw [List.length_take]; omega))
      clear hcA
      generalize l[j] = x at *
      obtain ⟨a, b, c⟩ := x
      simp only at x0 x1 x2
      generalize tally (l.take j) = out at *
      obtain ⟨Ao, co, hve, hoc, hocm, hoi⟩ := OwnY.shape hO
      subst hve
      replace hO := fhid hO
      replace hoi := fhid hoi
      go_upto_region 5 with fail
      go_upto_block 2 with fail
      go_cut [5] (fun t wx => ∃ k : Nat, k ≤ out.length ∧ t = .int .i64 (k : Int) ∧ (∀ i (h : i < out.length), i < k → lt3 out[i].1 (a, b, c) = true) ∧ (∀ h : k < out.length, lt3 out[k].1 (a, b, c) = false) ∧ Below wo.heap.size wo wx)
      case first =>
        go_wp2_with fail
        go_loopw [5] (fun t wx => ∃ k : Nat, k ≤ out.length ∧ t = .int .i64 (k : Int) ∧ (∀ i (h : i < out.length), i < k → lt3 out[i].1 (a, b, c) = true) ∧ Below wo.heap.size wo wx) (fun t _ => out.length - (intOf t).toNat)
        case atStart => exact ⟨0, Nat.zero_le _, rfl, fun i h h' => absurd h' (Nat.not_lt_zero _), Below.refl _ _⟩
        case round =>
          obtain ⟨k, hk, rfl, hlo, hB2⟩ := hrel
          rename World => wq
          have y0 := (hB2.cell (p := ⟨bA, oA + j * 3, none⟩) (show bA < wo.heap.size by omega)).trans x0
          have y1 := (hB2.cell (p := ⟨bA, oA + j * 3 + 1, none⟩) (show bA < wo.heap.size by omega)).trans x1
          have y2 := (hB2.cell (p := ⟨bA, oA + j * 3 + 2, none⟩) (show bA < wo.heap.size by omega)).trans x2
          clear x0 x1 x2
          have m0 := fun d os => cell_regrown y0 d os
          have m1 := fun d os => cell_regrown y1 d os
          have m2 := fun d os => cell_regrown y2 d os
          have k0 : (0 : Int) ≤ k := by omega
          by_cases hkl : k < out.length
          · have k1 : (k : Int) < out.length := by omega
            obtain ⟨bo, oo, rfl, hbo, u0, u1, u2, _⟩ := tal_cells hoi.out hkl
            have z0 := (hB2.cell (p := ⟨bo, oo + k * 4, none⟩) hbo).trans u0
            have z1 := (hB2.cell (p := ⟨bo, oo + k * 4 + 1, none⟩) hbo).trans u1
            have z2 := (hB2.cell (p := ⟨bo, oo + k * 4 + 2, none⟩) hbo).trans u2
            clear u0 u1 u2
            have m3 := fun d os => cell_regrown z0 d os
            have m4 := fun d os => cell_regrown z1 d os
            have m5 := fun d os => cell_regrown z2 d os
            have hls := fun W => rLess_any out[k].1.1 out[k].1.2.1 out[k].1.2.2 a b c W
            have hyes : lt3 out[k].1 (a, b, c) = true → Hid (∀ i (h : i < out.length), i < k + 1 → lt3 out[i].1 (a, b, c) = true) := fun e => fhid (fun i h h' => by
              by_cases he : i = k
              · subst he; exact e
              · exact hlo i h (by omega))
            have hno : lt3 out[k].1 (a, b, c) = false → Hid (∀ h : k < out.length, lt3 out[k].1 (a, b, c) = false) := fun e => fhid (fun _ => e)
            rw [less_lt] at hls
            generalize hR : lt3 out[k].1 (a, b, c) = R at *
            have hlb : ∀ W, Calls Tryd.prog 17 #[vec out[k].1.1 out[k].1.2.1 out[k].1.2.2, vec a b c] W fun e w' => e = .returned (.bool R) ∧ Below W.heap.size W w' := fun W => (hls W).mono fun _ _ ⟨he, hg⟩ => ⟨he, hg.below⟩
            have m6 := fun d os => Calls.regrown_of (hlb (Sort.grow (redrawn wq d) os))
            replace hlo := fhid hlo
            clear hls hlb hR
            generalize out[k].1.1 = p at *
            generalize out[k].1.2.1 = q at *
            generalize out[k].1.2.2 = r at *
            cases R with
            | true =>
              have hnx := hyes rfl
              clear hyes hno
              go_wp2_with fail
              clear y0 y1 y2 z0 z1 z2
              refine wp_region_quiet_below (by kernel_rfl) (by kernel_rfl) ?_
              repeat (first | go_big_quiet_step (exact m6 _ _) | quiet_step (exact m6 _ _))
              refine wpQuiet_nil ?_
              rintro w9 ⟨pq, rfl⟩
              have b9 := below_regrown wq pq.d pq.os
              generalize Sort.grow (redrawn wq pq.d) pq.os = w9 at *
              go_wp2_with fail
              go_roundw
              case rel => exact ⟨k + 1, by omega, by go_num, hnx.out, hB2.trans (b9.mono hB2.size)⟩
              case measure => simp [intOf]; omega
            | false =>
              have hnx := hno rfl
              clear hyes hno
              go_wp2_with fail
              clear y0 y1 y2 z0 z1 z2
              refine wp_region_quiet_below (by kernel_rfl) (by kernel_rfl) ?_
              repeat (first | go_big_quiet_step (exact m6 _ _) | quiet_step (exact m6 _ _))
              refine wpQuiet_nil ?_
              rintro w9 ⟨pq, rfl⟩
              have b9 := below_regrown wq pq.d pq.os
              generalize Sort.grow (redrawn wq pq.d) pq.os = w9 at *
              go_wp2_with fail
              go_meet
              exact ⟨k, hk, rfl, hlo.out, hnx.out, hB2.trans (b9.mono hB2.size)⟩
          · have k1 : ¬ (k : Int) < out.length := by omega
            replace hlo := fhid hlo
            go_wp2_with fail
            clear y0 y1 y2
            refine wp_region_quiet_below (by kernel_rfl) (by kernel_rfl) ?_
            repeat (first | go_big_quiet_step (fail) | quiet_step (fail))
            refine wpQuiet_nil ?_
            rintro w9 ⟨pq, rfl⟩
            have b9 := below_regrown wq pq.d pq.os
            generalize Sort.grow (redrawn wq pq.d) pq.os = w9 at *
            go_wp2_with fail
            go_meet
            exact ⟨k, hk, rfl, hlo.out, (fun h => absurd h hkl), hB2.trans (b9.mono hB2.size)⟩
      case rest =>
        obtain ⟨k, hk, rfl, hlo, hn, hB2⟩ := hcut
        rename World => wq
        have hbq := hB2.size
        have y0 := (hB2.cell (p := ⟨bA, oA + j * 3, none⟩) (show bA < wo.heap.size by omega)).trans x0
        have y1 := (hB2.cell (p := ⟨bA, oA + j * 3 + 1, none⟩) (show bA < wo.heap.size by omega)).trans x1
        have y2 := (hB2.cell (p := ⟨bA, oA + j * 3 + 2, none⟩) (show bA < wo.heap.size by omega)).trans x2
        have k0 : (0 : Int) ≤ k := by omega
        have hk1000 : k ≤ 1000 := by omega
        replace hlo := fhid hlo
        replace hn := fhid hn
        go_upto_region 8 with fail
        go_cut [45] (fun t wx => t = .bool (decide (∃ h : k < out.length, out[k].1 = (a, b, c))) ∧ Below wq.heap.size wq wx)
        case first =>
          clear x0 x1 x2
          have m0 := fun d os => cell_regrown y0 d os
          have m1 := fun d os => cell_regrown y1 d os
          have m2 := fun d os => cell_regrown y2 d os
          by_cases hkl : k < out.length
          · have k1 : (k : Int) < out.length := by omega
            obtain ⟨bo, oo, rfl, hbo, u0, u1, u2, _⟩ := tal_cells hoi.out hkl
            have z0 := (hB2.cell (p := ⟨bo, oo + k * 4, none⟩) hbo).trans u0
            have z1 := (hB2.cell (p := ⟨bo, oo + k * 4 + 1, none⟩) hbo).trans u1
            have z2 := (hB2.cell (p := ⟨bo, oo + k * 4 + 2, none⟩) hbo).trans u2
            clear u0 u1 u2
            have m3 := fun d os => cell_regrown z0 d os
            have m4 := fun d os => cell_regrown z1 d os
            have m5 := fun d os => cell_regrown z2 d os
            have hev := fun W => eql_vec out[k].1.1 out[k].1.2.1 out[k].1.2.2 a b c W
            have hiff : (out[k].1.1 = a ∧ out[k].1.2.1 = b ∧ out[k].1.2.2 = c) ↔ ∃ h : k < out.length, out[k].1 = (a, b, c) := by
              constructor
              · rintro ⟨e1, e2, e3⟩
                exact ⟨hkl, by rw [← e1, ← e2, ← e3]⟩
              · rintro ⟨_, e⟩
                rw [e]
                exact ⟨rfl, rfl, rfl⟩
            have hRR : (decide (out[k].1.1 = a) && (decide (out[k].1.2.1 = b) && decide (out[k].1.2.2 = c))) = decide (∃ h : k < out.length, out[k].1 = (a, b, c)) := by
              rw [← Bool.decide_and, ← Bool.decide_and]
              exact decide_eq_decide.2 hiff
            replace hRR := fhid hRR
            clear hiff
            generalize out[k].1.1 = p at *
            generalize out[k].1.2.1 = q at *
            generalize out[k].1.2.2 = r at *
            go_wp2_with fail
            clear y0 y1 y2 z0 z1 z2
            refine wp_region_quiet_below (by kernel_rfl) (by kernel_rfl) ?_
            repeat (first | go_big_quiet_step (fail) | quiet_step (fail))
            refine wpQuiet_nil ?_
            rintro w9 ⟨pq, rfl⟩
            have b9 := below_regrown wq pq.d pq.os
            generalize Sort.grow (redrawn wq pq.d) pq.os = w9 at *
            go_wp2_with fail
            go_meet
            exact ⟨congrArg Value.bool hRR.out, b9⟩
          · have k1 : ¬ (k : Int) < out.length := by omega
            have hRR : decide (∃ h : k < out.length, out[k].1 = (a, b, c)) = false := decide_eq_false fun ⟨h, _⟩ => hkl h
            replace hRR := fhid hRR
            go_wp2_with fail
            clear y0 y1 y2
            refine wp_region_quiet_below (by kernel_rfl) (by kernel_rfl) ?_
            repeat (first | go_big_quiet_step (fail) | quiet_step (fail))
            refine wpQuiet_nil ?_
            rintro w9 ⟨pq, rfl⟩
            have b9 := below_regrown wq pq.d pq.os
            generalize Sort.grow (redrawn wq pq.d) pq.os = w9 at *
            go_wp2_with fail
            go_meet
            exact ⟨by rw [hRR.out], b9⟩
        case rest =>
          obtain ⟨rfl, hB3⟩ := hcut
          rename World => wx
          have hbx := hB3.size
          have gx : Below wo.heap.size wo wx := hB2.trans (hB3.mono hbq)
          have gW : Below w.heap.size w wx := hB.trans (gx.mono hsz)
          have hOx := OwnY.below hO.out gx
          have v0 := (hB3.cell (p := ⟨bA, oA + j * 3, none⟩) (show bA < wq.heap.size by omega)).trans y0
          have v1 := (hB3.cell (p := ⟨bA, oA + j * 3 + 1, none⟩) (show bA < wq.heap.size by omega)).trans y1
          have v2 := (hB3.cell (p := ⟨bA, oA + j * 3 + 2, none⟩) (show bA < wq.heap.size by omega)).trans y2
          clear y0 y1 y2 x0 x1 x2
          by_cases he : ∃ h : k < out.length, out[k].1 = (a, b, c)
          · rw [decide_eq_true he]
            obtain ⟨hkl, hek⟩ := he
            have k1 : (k : Int) < out.length := by omega
            have hnw := ins_there hkl hlo.out hek
            rw [← hek] at hnw
            have hn2 := hfew.out out[k] (List.getElem_mem hkl)
            obtain ⟨g, _, hg, hgl, ⟨cp, hv⟩, hfz, hOn⟩ := OwnY.more hOx hkl (out[k].2 + 1)
            injection hv with hv1 _ hv3
            subst hv1 hv3
            have hsg : SegC wx wx.heap.size (some ⟨g, 0, none⟩) (TV out) := by
              obtain ⟨A9, c9, e9, _, _, s9⟩ := OwnY.shape hOx
              injection e9 with e1 _ _
              rw [e1]
              exact s9
            obtain ⟨b', o', e', _, _, _, _, u3⟩ := tal_cells hsg hkl
            injection e' with e'
            injection e' with e1 e2 _
            subst e1 e2
            rw [Nat.zero_add] at u3
            have hval : ((out[k].2 + 1 : Nat) : Int) = (out[k].2 : Int) + 1 := by omega
            rw [hval] at hOn
            have hres := fhid (show tally (l.take (j + 1)) = out.set k (out[k].1, out[k].2 + 1) from hsn.out.trans (by rw [← hek]; exact hnw))
            replace hOn := fhid hOn
            replace hOx := fhid hOx
            have n2 : (out[k].2 : Int) ≤ 1000 := by omega
            have n3 : (0 : Int) ≤ out[k].2 := by omega
            clear hnw hval hn2
            go_wp2_with fail
            go_roundw
            case rel => exact ⟨j + 1, by omega, by go_num, by rw [hres.out]; exact hOn.out, gW.setCell hg _⟩
            case measure => simp [intOf]; omega
          · rw [decide_eq_false he]
            have hput := fhid (show tally (l.take (j + 1)) = (([] ++ out.take k) ++ [((a, b, c), 1)]) ++ out.drop k from hsn.out.trans (ins_not hk hlo.out fun h => ⟨hn.out h, fun e => he ⟨h, e⟩⟩))
            obtain ⟨A9, c9, e9, _, _, hox⟩ := OwnY.shape hOx
            injection e9 with e1 _ e3
            subst e1 e3
            have zz : Below wx.heap.size wx wx.drew := (Below.refl _ _).drew
            have k2 : (k : Int) ≤ out.length := by omega
            have k3 : (k : Int) ≤ co := by omega
            have k4 : (out.length : Int) ≤ co := by omega
            have ht : SegC wx wx.heap.size Ao (TV (out.take k)) := by
              have := SegC.take hox (k * 4)
              rwa [TV_take out k hk] at this
            have hd : SegC wx wx.heap.size (if co = k then Ao else Ao.map (·.add (k * 4))) (TV (out.drop k)) := SegC.drop4 hox hk hoc
            have l1 : k = (out.take k).length := by rw [List.length_take]; omega
            have l2 : out.length - k = (out.drop k).length := List.length_drop.symm
            have l3 : ([] : Tal).length + (out.take k).length ≤ 10000000 := by rw [← l1, List.length_nil]; omega
            have l4 : (([] : Tal) ++ out.take k).length + [((a, b, c), 1)].length ≤ 10000000 := by rw [List.nil_append, ← l1, List.length_singleton]; omega
            have l5 : ((([] : Tal) ++ out.take k) ++ [((a, b, c), 1)]).length + (out.drop k).length ≤ 10000000 := by rw [List.length_append, List.nil_append, ← l1, ← l2, List.length_singleton]; omega
            replace ht := fhid ht
            replace hd := fhid hd
            replace hOx := fhid hOx
            clear hox he
            generalize out.take k = o1 at *
            generalize out.drop k = o2 at *
            replace l1 := fhid l1
            replace l2 := fhid l2
            replace l3 := fhid l3
            replace l4 := fhid l4
            replace l5 := fhid l5
            have hbA2 : bA < wx.heap.size := by omega
            have d0 := (zz.cell (p := ⟨bA, oA + j * 3, none⟩) hbA2).trans v0
            have d1 := (zz.cell (p := ⟨bA, oA + j * 3 + 1, none⟩) hbA2).trans v1
            have d2 := (zz.cell (p := ⟨bA, oA + j * 3 + 2, none⟩) hbA2).trans v2
            go_upto_region 10 with fail
            go_region_law (first
              | (refine step_tals rfl (.tmp 64) (.tmp 67) rfl wx.heap.size v4 (([] ++ o1) ++ [((a, b, c), 1)]) o2 (out.length - k) l2.out (by simp [Act.eval]) o4.out wx.heap.size (if co = k then Ao else Ao.map (·.add (k * 4))) (co - k) (by simp [Act.eval]) (SegC.below hd.out z4) l5.out z4.size ?_
                 intro v5 w5 o5 b5
                 have z5 : Below wx.heap.size wx w5 := z4.trans b5)
              | (refine step_tals rfl (.tmp 57) (.tmp 63) rfl wx.heap.size v3 ([] ++ o1) [((a, b, c), 1)] 1 rfl (by simp [Act.eval]) (by first | exact o3.out | exact OwnY.below o3.out ((Below.refl _ _).alloc (Nat.le_refl _) _)) _ _ 1 (by simp [Act.eval]; rfl) (by first | exact one_cells _ [.int .i64 a, .int .i64 b, .int .i64 c, .int .i64 (1 : Nat)] _ | exact SegC.below (one_cells _ [.int .i64 a, .int .i64 b, .int .i64 c, .int .i64 (1 : Nat)] _) (b3.mono (by rw [World.size_alloc]; exact Nat.le_refl _))) l4.out (by first | exact z3.size | exact (z3.alloc z3.size _).size) ?_
                 intro v4 w4 o4 b4
                 have z4 : Below wx.heap.size wx w4 := (by first | exact z3.trans b4 | exact (z3.alloc z3.size _).trans b4)
                 replace o4 := fhid o4)
              | (refine step_tals rfl (.const (.slice none 0 0)) (.tmp 56) rfl _ (.slice none 0 0) [] o1 k l1.out (by simp [Act.eval]) (OwnY.nil _ _ _) wx.heap.size Ao co (by simp [Act.eval, Act.put]) (by first | exact SegC.below ht.out zz | exact SegC.below ht.out (zz.alloc zz.size _)) l3.out (Nat.le_refl _) ?_
                 intro v3 w3 o3 b3
                 have z3 : Below wx.heap.size wx w3 := (by first | exact zz.trans (b3.mono zz.size) | exact (zz.alloc zz.size _).trans (b3.mono (zz.alloc zz.size _).size))
                 have f0 := (z3.cell (p := ⟨bA, oA + j * 3, none⟩) hbA2).trans v0
                 have f1 := (z3.cell (p := ⟨bA, oA + j * 3 + 1, none⟩) hbA2).trans v1
                 have f2 := (z3.cell (p := ⟨bA, oA + j * 3 + 2, none⟩) hbA2).trans v2
                 replace o3 := fhid (show OwnY w3 TRTal wx.heap.size v3 ([] ++ o1) from OwnY.lower o3 (by first | exact zz.size | exact (zz.alloc zz.size _).size)))
              | (refine step_tals rfl (.tmp 57) (.tmp 63) rfl wx.heap.size v3 ([] ++ o1) [((a, b, c), 1)] 1 rfl (by simp [Act.eval]) o3.out (wx.heap.size + 1) (some ⟨wx.heap.size, 0, none⟩) 1 (by simp [Act.eval]) (SegC.below (one_cells wx.drew [.int .i64 a, .int .i64 b, .int .i64 c, .int .i64 (1 : Nat)] TRTal) (b3.mono (by simp))) l4.out z3.size ?_
                 intro v4 w4 o4 b4
                 have z4 : Below wx.heap.size wx w4 := z3.trans b4
                 replace o4 := fhid o4))
            all_goals
              go_wp2_with fail
              go_roundw
              case rel => exact ⟨j + 1, by omega, by go_num, by rw [hput.out]; exact OwnY.lower o5 gW.size, gW.trans (z5.mono gW.size)⟩
              case measure => simp [intOf]; omega
    · obtain rfl : j = l.length := by omega
      rw [List.take_length] at hO
      have i1 : ¬ (l.length : Int) < l.length := by omega
      obtain ⟨Av, cv, rfl, _, _, _⟩ := OwnY.shape hO
      replace hO := fhid hO
      go_wp2_with fail
      go_ret
      exact ⟨_, rfl, hO.out, hB⟩
end Go.Proofs.YtkmknogejhhajaaDoor
