/-
  Parts: KRDSame.
-/
import Derived.Test.YtghnpkpmgpbmcaaGreatDoorD1
import Derived.Test.YtghnpkpmgpbmcaaGreatDoorH7
import Derived.Test.YtghnpkpmgpbmcaaGreatDoorK7
import Derived.Laws.StructEq
import Derived.ChangeKeysEq
set_option linter.unusedSimpArgs false
set_option linter.unusedVariables false
/-
  The document's Same of two configs that read as the same one.
-/
namespace Go.Proofs.YtghnpkpmgpbmcaaGreatDoor
open Go.RowKit Go.Shelf Vs

abbrev TVals8 : TypeId := 36
set_option maxRecDepth 100000 in
theorem eq_vals (a0 a1 a2 a3 a4 a5 a6 a7 : Int) (w : World) :
    (Op.equalIn 10000 TVals8 (.agg #[.int .i64 a0, .int .i64 a1, .int .i64 a2, .int .i64 a3, .int .i64 a4, .int .i64 a5, .int .i64 a6, .int .i64 a7]) (.agg #[.int .i64 a0, .int .i64 a1, .int .i64 a2, .int .i64 a3, .int .i64 a4, .int .i64 a5, .int .i64 a6, .int .i64 a7])).run Tryz.prog w = .ok true w := by
  obtain ⟨i, hi⟩ : ∃ i, Tryz.prog.info? 3 = some i := ⟨_, rfl⟩
  rw [run_equalIn_array w 9999 _ _ Tryz.underlying36 hi]
  have hc : Tryz.prog.cellsOf 3 = 1 := by kernel_rfl
  rw [hc, show List.range 8 = [0, 1, 2, 3, 4, 5, 6, 7] by rfl]
  have e := fun (a b : Int) (w : World) => run_equalIn_int (P := Tryz.prog) w 9998 3 .i64 .i64 a b Tryz.underlying3
  simp [Op.eqItems, go_sem, e]
set_option maxRecDepth 100000 in
theorem eq_same9 (x0 x1 x2 x3 : Int) (w : World) :
    (Op.equalIn 9999 TNodes (.agg #[.int .u64 x0, .int .u64 x1, .int .u64 x2, .int .u64 x3]) (.agg #[.int .u64 x0, .int .u64 x1, .int .u64 x2, .int .u64 x3])).run Tryz.prog w = .ok true w := by
  obtain ⟨i, hi⟩ : ∃ i, Tryz.prog.info? 56 = some i := ⟨_, rfl⟩
  rw [run_equalIn_array w 9998 _ _ Tryz.underlying58 hi]
  have hc : Tryz.prog.cellsOf 56 = 1 := by kernel_rfl
  rw [hc, show List.range 4 = [0, 1, 2, 3] by rfl]
  have e := fun (a b : Int) (w : World) => run_equalIn_int (P := Tryz.prog) w 9997 56 .u64 .u64 a b Tryz.underlying56
  simp [Op.eqItems, go_sem, e]
abbrev TDPartS : TypeId := 94
abbrev TDQosS : TypeId := 53
set_option maxRecDepth 100000 in
theorem neq_part (s : ByteArray) (x0 x1 x2 x3 a b c : Int) (w : World) :
    (binOp .neq TDPartS (.agg #[.string s, .int .u64 x0, .int .u64 x1, .int .u64 x2, .int .u64 x3, .int .i64 a, .int .i64 b, .int .i64 c]) (.agg #[.string s, .int .u64 x0, .int .u64 x1, .int .u64 x2, .int .u64 x3, .int .i64 a, .int .i64 b, .int .i64 c])).run Tryz.prog w = .ok (.bool false) w := by
  have hS : Tryz.prog.underlying TDPartS = some (.struct (Tryz.prog.fieldsOf TDPartS)) := by kernel_rfl
  have hp : Tryz.prog.stoodInHeld TDPartS = false := by kernel_rfl
  rw [run_neq_struct, show (10000 : Nat) = 9999 + 1 from rfl, run_equalIn_agg w 9999 TDPartS _ _ hS hp]
  simp only [Program.fieldsOf, Tryz.underlying94]
  go_simp
  rw [eq_same9]
  rfl
set_option maxRecDepth 100000 in
theorem neq_qos (s : ByteArray) (a b : Int) (w : World) :
    (binOp .neq TDQosS (.agg #[.string s, .int .i64 a, .int .i64 b]) (.agg #[.string s, .int .i64 a, .int .i64 b])).run Tryz.prog w = .ok (.bool false) w := by
  have hS : Tryz.prog.underlying TDQosS = some (.struct (Tryz.prog.fieldsOf TDQosS)) := by kernel_rfl
  have hp : Tryz.prog.stoodInHeld TDQosS = false := by kernel_rfl
  rw [run_neq_struct, show (10000 : Nat) = 9999 + 1 from rfl, run_equalIn_agg w 9999 TDQosS _ _ hS hp]
  simp only [Program.fieldsOf, Tryz.underlying53]
  go_simp
theorem neq_vec9 (a b c : Int) (w : World) : (binOp .neq 93 (.agg #[.int .i64 a, .int .i64 b, .int .i64 c]) (.agg #[.int .i64 a, .int .i64 b, .int .i64 c])).run Tryz.prog w = .ok (.bool false) w := by
  have hS : Tryz.prog.underlying 93 = some (.struct (Tryz.prog.fieldsOf 93)) := by kernel_rfl
  have hp : Tryz.prog.stoodInHeld 93 = false := by kernel_rfl
  rw [run_neq_struct, show (10000 : Nat) = 9999 + 1 from rfl, run_equalIn_agg w 9999 93 _ _ hS hp]
  simp only [Program.fieldsOf, Tryz.underlying93]
  go_simp
set_option maxRecDepth 100000 in
set_option maxHeartbeats 16000000 in
theorem rSame_true (va vb : Value) (c : Cfg) (w : World) (ha : CR w va c) (hb : CR w vb c) (hn : c.names.length ≤ 1000) (hv : c.vecs.length ≤ 1000) (hp : c.parts.length ≤ 1000) (hq : c.qos.length ≤ 1000) : Calls Tryz.prog 11 #[va, vb] w (BoolP w true) := by
  unfold BoolP
  obtain ⟨AN, cN, AV, cV, AP, cP, AQ, cQ, a0, a1, a2, a3, a4, a5, a6, a7, rfl, ev, r1, r2, r3, r4⟩ := ha
  obtain ⟨AN', cN', AV', cV', AP', cP', AQ', cQ', b0, b1, b2, b3, b4, b5, b6, b7, rfl, ev', s1, s2, s3, s4⟩ := hb
  rw [ev] at ev'
  simp only [List.cons.injEq, and_true] at ev'
  obtain ⟨rfl, rfl, rfl, rfl, rfl, rfl, rfl, rfl⟩ := ev'
  obtain ⟨W, hW, hx, hy, hB⟩ := two_new w TRConf9 TRConf9 [.slice AN c.names.length cN, .slice AV c.vecs.length cV, .slice AP c.parts.length cP, .slice AQ c.qos.length cQ, .int .i64 a0, .int .i64 a1, .int .i64 a2, .int .i64 a3, .int .i64 a4, .int .i64 a5, .int .i64 a6, .int .i64 a7] [.slice AN' c.names.length cN', .slice AV' c.vecs.length cV', .slice AP' c.parts.length cP', .slice AQ' c.qos.length cQ', .int .i64 a0, .int .i64 a1, .int .i64 a2, .int .i64 a3, .int .i64 a4, .int .i64 a5, .int .i64 a6, .int .i64 a7]
  have hsm := fun (X : World) (hb : Below w.heap.size w X) => Hs.Same_any AN AN' c.names c.names cN cN' X.heap.size X.heap.size X (r1.below hb).2.2 (s1.below hb).2.2 (by omega)
  rw [decide_eq_true rfl] at hsm
  obtain ⟨x0, x1, x2, x3, x4, x5, x6, x7, x8, x9, x10, x11⟩ := Box.twelve hx
  obtain ⟨y0, y1, y2, y3, y4, y5, y6, y7, y8, y9, y10, y11⟩ := Box.twelve hy
  have xl := hx.lt
  have yl := hy.lt
  have R2 := fhid (r2.below hB)
  have R3 := fhid (r3.below hB)
  have R4 := fhid (r4.below hB)
  have S2 := fhid (s2.below hB)
  have S3 := fhid (s3.below hB)
  have S4 := fhid (s4.below hB)
  have hsmW := hsm W hB
  have hvI : (c.vecs.length : Int) ≤ 1000 := by omega
  have hpI : (c.parts.length : Int) ≤ 1000 := by omega
  have hqI : (c.qos.length : Int) ≤ 1000 := by omega
  have hxh := fhid hx
  have hyh := fhid hy
  have hBh := fhid hB
  clear hx hy hB hsm r1 r2 r3 r4 s1 s2 s3 s4 ev
  generalize c.names.length = nN at *
  go_enter Tryz.func11, Tryz.ntmps11
  go_upto_region 1 with fail
  rw [show (w.alloc _).alloc _ = W from hW.symm]
  clear hW
  have hev := fun W => eq_vals a0 a1 a2 a3 a4 a5 a6 a7 W
  go_upto_region 3 with (go_at_call 37; (with_reducible refine hsmW.mono ?_); rintro e w1 ⟨rfl, n1, rfl⟩)
  have b1 : Below W.heap.size W (W.drewN n1) := Vs.below_drewN (Below.refl _ _) n1
  have X1 := fhid (hxh.out.below b1 xl)
  have Y1 := fhid (hyh.out.below b1 yl)
  generalize W.drewN n1 = W1 at *
  clear x0 x1 x2 x3 x4 x5 x6 x7 x8 x9 x10 x11 y0 y1 y2 y3 y4 y5 y6 y7 y8 y9 y10 y11 hev hsmW
  have xl1 := X1.out.lt
  have yl1 := Y1.out.lt
  have x1 : W1.cell? ⟨w.heap.size, 1, none⟩ = some (.slice AV c.vecs.length cV) := X1.out.cell 1
  have y1 : W1.cell? ⟨w.heap.size + 1, 1, none⟩ = some (.slice AV' c.vecs.length cV') := Y1.out.cell 1
  go_wp2_with fail
  go_loopw [5] (fun i wr => ∃ k : Nat, k ≤ c.vecs.length ∧ i = .int .i64 k ∧ Below W.heap.size W wr) (fun i _ => c.vecs.length - (intOf i).toNat)
  case atStart => exact ⟨0, Nat.zero_le _, rfl, b1⟩
  case round =>
    obtain ⟨k, hk, rfl, hBk⟩ := hrel
    have k0 : (0 : Int) ≤ k := by omega
    have x2 : wr.cell? ⟨w.heap.size, 1, none⟩ = some (.slice AV c.vecs.length cV) := (hxh.out.below hBk xl).cell 1
    have y2 : wr.cell? ⟨w.heap.size + 1, 1, none⟩ = some (.slice AV' c.vecs.length cV') := (hyh.out.below hBk yl).cell 1
    have xl2 := Nat.lt_of_lt_of_le xl hBk.size
    have yl2 := Nat.lt_of_lt_of_le yl hBk.size
    by_cases hlt : k < c.vecs.length
    · have i1 : (k : Int) < c.vecs.length := by omega
      obtain ⟨vb, vo, rfl, hvb, g0, g1, g2⟩ := RdS.vec R2.out hlt
      obtain ⟨ub, uo, rfl, hub, f0, f1, f2⟩ := RdS.vec S2.out hlt
      have q0 := (hBk.cell (p := ⟨vb, vo + k * 3, none⟩) hvb).trans g0
      have q1 := (hBk.cell (p := ⟨vb, vo + k * 3 + 1, none⟩) hvb).trans g1
      have q2 := (hBk.cell (p := ⟨vb, vo + k * 3 + 2, none⟩) hvb).trans g2
      have p0 := (hBk.cell (p := ⟨ub, uo + k * 3, none⟩) hub).trans f0
      have p1 := (hBk.cell (p := ⟨ub, uo + k * 3 + 1, none⟩) hub).trans f1
      have p2 := (hBk.cell (p := ⟨ub, uo + k * 3 + 2, none⟩) hub).trans f2
      have hvb2 := Nat.lt_of_lt_of_le hvb hBk.size
      have hub2 := Nat.lt_of_lt_of_le hub hBk.size
      have hnv := fun W => neq_vec9 c.vecs[k].1 c.vecs[k].2.1 c.vecs[k].2.2 W
      have hltI := fhid hlt
      clear g0 g1 g2 f0 f1 f2
      generalize c.vecs[k].1 = z1 at *
      generalize c.vecs[k].2.1 = z2 at *
      generalize c.vecs[k].2.2 = z3 at *
      go_wp2_with fail
      go_quiet (fail)
      go_wp2_with fail
      go_roundw
      case rel => exact ⟨k + 1, hltI.out, by go_num, hBk.trans ((Vs.below_drewN (Below.refl _ _) _).mono hBk.size)⟩
      case measure => have := hltI.out; simp [intOf]; omega
    · obtain rfl : k = c.vecs.length := by omega
      have i1 : ¬ (c.vecs.length : Int) < c.vecs.length := by omega
      obtain ⟨W2, rfl⟩ : ∃ W2 : World, W2 = wr := ⟨_, rfl⟩
      have b2 := hBk
      clear hBk
      go_wp2_with fail
      go_loopw [6] (fun i wr => ∃ k : Nat, k ≤ c.parts.length ∧ i = .int .i64 k ∧ Below W.heap.size W wr) (fun i _ => c.parts.length - (intOf i).toNat)
      case atStart => exact ⟨0, Nat.zero_le _, rfl, b2⟩
      case round =>
        obtain ⟨k, hk, rfl, hBk⟩ := hrel
        have k0 : (0 : Int) ≤ k := by omega
        have x3 : wr.cell? ⟨w.heap.size, 2, none⟩ = some (.slice AP c.parts.length cP) := (hxh.out.below hBk xl).cell 2
        have y3 : wr.cell? ⟨w.heap.size + 1, 2, none⟩ = some (.slice AP' c.parts.length cP') := (hyh.out.below hBk yl).cell 2
        have xl3 := Nat.lt_of_lt_of_le xl hBk.size
        have yl3 := Nat.lt_of_lt_of_le yl hBk.size
        by_cases hlt : k < c.parts.length
        · have i3 : (k : Int) < c.parts.length := by omega
          obtain ⟨vb, vo, rfl, hvb, g0, g1, g2, g3, g4, g5, g6, g7⟩ := RdS.part R3.out hlt
          obtain ⟨ub, uo, rfl, hub, f0, f1, f2, f3, f4, f5, f6, f7⟩ := RdS.part S3.out hlt
          have q0 := (hBk.cell (p := ⟨vb, vo + k * 8, none⟩) hvb).trans g0
          have q1 := (hBk.cell (p := ⟨vb, vo + k * 8 + 1, none⟩) hvb).trans g1
          have q2 := (hBk.cell (p := ⟨vb, vo + k * 8 + 2, none⟩) hvb).trans g2
          have q3 := (hBk.cell (p := ⟨vb, vo + k * 8 + 3, none⟩) hvb).trans g3
          have q4 := (hBk.cell (p := ⟨vb, vo + k * 8 + 4, none⟩) hvb).trans g4
          have q5 := (hBk.cell (p := ⟨vb, vo + k * 8 + 5, none⟩) hvb).trans g5
          have q6 := (hBk.cell (p := ⟨vb, vo + k * 8 + 6, none⟩) hvb).trans g6
          have q7 := (hBk.cell (p := ⟨vb, vo + k * 8 + 7, none⟩) hvb).trans g7
          have p0 := (hBk.cell (p := ⟨ub, uo + k * 8, none⟩) hub).trans f0
          have p1 := (hBk.cell (p := ⟨ub, uo + k * 8 + 1, none⟩) hub).trans f1
          have p2 := (hBk.cell (p := ⟨ub, uo + k * 8 + 2, none⟩) hub).trans f2
          have p3 := (hBk.cell (p := ⟨ub, uo + k * 8 + 3, none⟩) hub).trans f3
          have p4 := (hBk.cell (p := ⟨ub, uo + k * 8 + 4, none⟩) hub).trans f4
          have p5 := (hBk.cell (p := ⟨ub, uo + k * 8 + 5, none⟩) hub).trans f5
          have p6 := (hBk.cell (p := ⟨ub, uo + k * 8 + 6, none⟩) hub).trans f6
          have p7 := (hBk.cell (p := ⟨ub, uo + k * 8 + 7, none⟩) hub).trans f7
          have hvb2 := Nat.lt_of_lt_of_le hvb hBk.size
          have hub2 := Nat.lt_of_lt_of_le hub hBk.size
          have hnv := fun W => neq_part (str c.parts[k].name) (Bs.word c.parts[k].nodes 0 : Int) (Bs.word c.parts[k].nodes 1 : Int) (Bs.word c.parts[k].nodes 2 : Int) (Bs.word c.parts[k].nodes 3 : Int) c.parts[k].max c.parts[k].time c.parts[k].prio W
          have hltI := fhid hlt
          clear g0 g1 g2 g3 g4 g5 g6 g7 f0 f1 f2 f3 f4 f5 f6 f7
          generalize str c.parts[k].name = z0 at *
          generalize (Bs.word c.parts[k].nodes 0 : Int) = z1 at *
          generalize (Bs.word c.parts[k].nodes 1 : Int) = z2 at *
          generalize (Bs.word c.parts[k].nodes 2 : Int) = z3 at *
          generalize (Bs.word c.parts[k].nodes 3 : Int) = z4 at *
          generalize c.parts[k].max = z5 at *
          generalize c.parts[k].time = z6 at *
          generalize c.parts[k].prio = z7 at *
          go_wp2_with fail
          go_quiet (fail)
          go_wp2_with fail
          go_roundw
          case rel => exact ⟨k + 1, hltI.out, by go_num, hBk.trans ((Vs.below_drewN (Below.refl _ _) _).mono hBk.size)⟩
          case measure => have := hltI.out; simp [intOf]; omega
        · obtain rfl : k = c.parts.length := by omega
          have i3 : ¬ (c.parts.length : Int) < c.parts.length := by omega
          obtain ⟨W3, rfl⟩ : ∃ W3 : World, W3 = wr := ⟨_, rfl⟩
          have b3 := hBk
          clear hBk
          go_wp2_with fail
          go_loopw [7] (fun i wr => ∃ k : Nat, k ≤ c.qos.length ∧ i = .int .i64 k ∧ Below W.heap.size W wr) (fun i _ => c.qos.length - (intOf i).toNat)
          case atStart => exact ⟨0, Nat.zero_le _, rfl, b3⟩
          case round =>
            obtain ⟨k, hk, rfl, hBk⟩ := hrel
            have k0 : (0 : Int) ≤ k := by omega
            have x4 : wr.cell? ⟨w.heap.size, 3, none⟩ = some (.slice AQ c.qos.length cQ) := (hxh.out.below hBk xl).cell 3
            have y4 : wr.cell? ⟨w.heap.size + 1, 3, none⟩ = some (.slice AQ' c.qos.length cQ') := (hyh.out.below hBk yl).cell 3
            have xl4 := Nat.lt_of_lt_of_le xl hBk.size
            have yl4 := Nat.lt_of_lt_of_le yl hBk.size
            by_cases hlt : k < c.qos.length
            · have i4 : (k : Int) < c.qos.length := by omega
              obtain ⟨vb, vo, rfl, hvb, g0, g1, g2⟩ := RdS.qos R4.out hlt
              obtain ⟨ub, uo, rfl, hub, f0, f1, f2⟩ := RdS.qos S4.out hlt
              have q0 := (hBk.cell (p := ⟨vb, vo + k * 3, none⟩) hvb).trans g0
              have q1 := (hBk.cell (p := ⟨vb, vo + k * 3 + 1, none⟩) hvb).trans g1
              have q2 := (hBk.cell (p := ⟨vb, vo + k * 3 + 2, none⟩) hvb).trans g2
              have p0 := (hBk.cell (p := ⟨ub, uo + k * 3, none⟩) hub).trans f0
              have p1 := (hBk.cell (p := ⟨ub, uo + k * 3 + 1, none⟩) hub).trans f1
              have p2 := (hBk.cell (p := ⟨ub, uo + k * 3 + 2, none⟩) hub).trans f2
              have hvb2 := Nat.lt_of_lt_of_le hvb hBk.size
              have hub2 := Nat.lt_of_lt_of_le hub hBk.size
              have hnv := fun W => neq_qos (str c.qos[k].name) c.qos[k].prio c.qos[k].max W
              have hltI := fhid hlt
              clear g0 g1 g2 f0 f1 f2
              generalize str c.qos[k].name = z1 at *
              generalize c.qos[k].prio = z2 at *
              generalize c.qos[k].max = z3 at *
              go_wp2_with fail
              go_quiet (fail)
              go_wp2_with fail
              go_roundw
              case rel => exact ⟨k + 1, hltI.out, by go_num, hBk.trans ((Vs.below_drewN (Below.refl _ _) _).mono hBk.size)⟩
              case measure => have := hltI.out; simp [intOf]; omega
            · obtain rfl : k = c.qos.length := by omega
              have i4 : ¬ (c.qos.length : Int) < c.qos.length := by omega
              have hpost := fhid (hBh.out.trans (hBk.mono hBh.out.size))
              clear hBk
              go_wp2_with fail
              go_ret
              exact ⟨rfl, hpost.out⟩
end Go.Proofs.YtghnpkpmgpbmcaaGreatDoor
