/-
  Parts: KRDRight.
-/
import Derived.Test.YtmnmcikbbfcjcaaGreatDoorD4
import Derived.Test.YtmnmcikbbfcjcaaGreatDoorD6
import Derived.Test.YtmnmcikbbfcjcaaGreatDoorK7
import Derived.Test.YtmnmcikbbfcjcaaGreatDoorB1
import Derived.Lib.QuietBelow
set_option linter.unusedSimpArgs false
set_option linter.unusedVariables false
/-
  The document's Right of a config that a text's lines have made.
-/
namespace Go.Proofs.YtmnmcikbbfcjcaaGreatDoor
open Go.RowKit Go.Shelf Vs

theorem one_new (w : World) (T : TypeId) (c1 : List Value) : ∃ W, W = w.alloc (.cells c1.toArray T) ∧ Box W w.heap.size T c1 ∧ Below w.heap.size w W := ⟨_, rfl, Box.new w T c1, (Below.refl _ _).alloc (Nat.le_refl _) _⟩
theorem minCap_is {vals : List Int} {a0 a1 a2 a3 a4 a5 a6 a7 : Int} (h : vals = [a0, a1, a2, a3, a4, a5, a6, a7]) : minCap vals = decide (a4 ≤ a5) := by subst h; rfl
theorem rightV_at {vals : List Int} (h : rightV valS vals = true) (hl : vals.length = 8) {i : Nat} (hi : i < vals.length) : rightK i vals[i] = true := by
  have := rightV_set h hl (show i < 8 by omega) vals[i]
  rw [List.set_getElem_self] at this
  rw [← this, h]
/-- A set that has one is not the empty one. -/
theorem words_some {p : Nat → Bool} (h : hasOne p = true) : same4 (Bs.word p 0) (Bs.word p 1) (Bs.word p 2) (Bs.word p 3) 0 0 0 0 = false := by
  rw [Bool.eq_false_iff]
  intro he
  unfold same4 at he
  simp only [Bool.and_eq_true, beq_iff_eq] at he
  obtain ⟨h0, h1, h2, h3⟩ := he
  unfold hasOne at h
  rw [List.any_eq_true] at h
  obtain ⟨j, hj, hp⟩ := h
  rw [List.mem_range] at hj
  have hw := Bs.word_at p j
  have hz : Bs.word p (j / 64) = 0 := by
    rcases (show j / 64 = 0 ∨ j / 64 = 1 ∨ j / 64 = 2 ∨ j / 64 = 3 by omega) with e | e | e | e <;> rw [e] <;> omega
  rw [hz, hp] at hw
  simp at hw
theorem not_within {n : Nat} {p : Nat → Bool} (h : within n p = true) (hn : 1 ≤ n) : Bs.nodes (fun j => p j && !Bs.spanP 0 ((n : Int) - 1) j) = .agg #[.int .u64 0, .int .u64 0, .int .u64 0, .int .u64 0] := by
  rw [← words_none]
  refine Bs.nodes_congr fun j hj => ?_
  unfold within at h
  rw [List.all_eq_true] at h
  have := h j (List.mem_range.2 hj)
  unfold Bs.spanP memL
  cases hp : p j with
  | false => simp
  | true =>
    rw [hp] at this
    simp at this
    simp
    omega
def noq (qs : List QosC) : Cfg := ⟨[], [], [], qs, [0, 0, 0, 0, 0, 0, 0, 0]⟩
theorem cr_noq {W : World} {A : Option Addr} {i cap : Nat} {qs : List QosC} (h : RdS W A i cap (QVs qs)) (hi : i = qs.length) : CR W (.agg #[.slice none 0 0, .slice none 0 0, .slice none 0 0, .slice A i cap, .int .i64 0, .int .i64 0, .int .i64 0, .int .i64 0, .int .i64 0, .int .i64 0, .int .i64 0, .int .i64 0]) (noq qs) := by
  subst hi
  exact ⟨none, 0, none, 0, none, 0, A, cap, 0, 0, 0, 0, 0, 0, 0, 0, rfl, rfl, ⟨Nat.le_refl _, Nat.zero_le _, SegC.nil _ _ _⟩, ⟨Nat.le_refl _, Nat.zero_le _, SegC.nil _ _ _⟩, ⟨Nat.le_refl _, Nat.zero_le _, SegC.nil _ _ _⟩, h⟩
theorem rds_front {W : World} {A : Option Addr} {cap : Nat} {qs : List QosC} (h : RdS W A qs.length cap (QVs qs)) (i : Nat) (hi : i ≤ qs.length) : RdS W A i cap (QVs (qs.take i)) := by
  refine ⟨Nat.le_trans hi h.1, h.2.1, fun h0 => ?_⟩
  rw [QVs_len, List.length_take, Nat.min_eq_left hi] at h0
  obtain ⟨b, o, e, hb, hc⟩ := h.2.2 (by rw [QVs_len]; omega)
  refine ⟨b, o, e, hb, fun j hj => ?_⟩
  have hj' : j < (QVs qs).length := by rw [QVs_len, List.length_take] at hj; rw [QVs_len]; have := Nat.min_le_right i qs.length; exact Nat.lt_of_lt_of_le hj (Nat.mul_le_mul_right 3 this)
  rw [hc j hj']
  congr 1
  have he : QVs qs = QVs (qs.take i) ++ QVs (qs.drop i) := by
    unfold QVs
    rw [← List.flatMap_append, List.take_append_drop]
  have : (QVs qs)[j]? = (QVs (qs.take i))[j]? := by rw [he, List.getElem?_append_left hj]
  rw [List.getElem?_eq_getElem hj', List.getElem?_eq_getElem hj] at this
  exact Option.some.inj this
theorem qual_none {qs : List QosC} {n : Str} (hn : n ≠ []) (h : n ∉ qs.map (·.name)) : qualP qs n = (noQos, false) := by
  unfold qualP
  rw [if_neg hn, place_no (fun x hx e => h (by rw [← e]; exact hx))]
theorem nodup_at {l : List Str} (h : l.Nodup) {k : Nat} (hk : k < l.length) : place l l[k] = some k :=
  place_at hk rfl fun x hx e => by
    subst e
    obtain ⟨j, hj, hjk⟩ := List.mem_take_iff_getElem.1 hx
    have := (List.getElem_inj h).1 hjk
    omega
theorem nodup_front {l : List Str} (h : l.Nodup) {k : Nat} (hk : k < l.length) : l[k] ∉ l.take k := fun hx => by
  obtain ⟨j, hj, hjk⟩ := List.mem_take_iff_getElem.1 hx
  have := (List.getElem_inj h).1 hjk
  omega
theorem part_right {p : PartC} (h : partWrong p = false) : isNameP p.name = true ∧ hasOne p.nodes = true ∧ rightV partS p.vals = true := by
  unfold partWrong at h
  simpa [and_assoc] using h
theorem qos_right {q : QosC} (h : qosWrong q = false) : isNameP q.name = true ∧ rightV qosS q.vals = true := by
  unfold qosWrong at h
  simpa using h
theorem rec_new3 {T : TypeId} {w w1 : World} {s y0 y1 : Value} (b1 : Below w.heap.size w w1) : RecAt T w [s, y0, y1] (.pointer (some ⟨w1.heap.size, 0, none⟩)) (w1.alloc (.cells #[s, y0, y1] T)) := rec_new b1
set_option maxRecDepth 100000 in
set_option maxHeartbeats 32000000 in
theorem rRight_gd (v : Value) (c : Cfg) (w : World) (h : CR w v c) (hg : GD c) : Calls Tryz.prog 56 #[v] w (BoolP w (rightC c)) := by
  rw [rightC_gd hg]
  unfold BoolP
  have hcr0 := h
  obtain ⟨AN, cN, AV, cV, AP, cP, AQ, cQ, a0, a1, a2, a3, a4, a5, a6, a7, rfl, ev, r1, r2, r3, r4⟩ := h
  rw [minCap_is ev]
  obtain ⟨W, hW, hx, hB⟩ := one_new w TRConf9 [.slice AN c.names.length cN, .slice AV c.vecs.length cV, .slice AP c.parts.length cP, .slice AQ c.qos.length cQ, .int .i64 a0, .int .i64 a1, .int .i64 a2, .int .i64 a3, .int .i64 a4, .int .i64 a5, .int .i64 a6, .int .i64 a7]
  obtain ⟨x0, x1, x2, x3, x4, x5, x6, x7, x8, x9, x10, x11⟩ := Box.twelve hx
  have xl := hx.lt
  have hnl := hg.nl
  have hpl := hg.pl
  have hql := hg.ql
  have hvl := hg.vl
  have hnI : (c.names.length : Int) ≤ 256 := by omega
  have hpI : (c.parts.length : Int) ≤ 16 := by omega
  have hqI : (c.qos.length : Int) ≤ 16 := by omega
  have i1 := fun W => in_any c.names.length 1 256 W
  have i2 := fun W => in_any c.parts.length 1 16 W
  rw [decide_eq_true hnI, Bool.and_true] at i1
  rw [decide_eq_true hpI, Bool.and_true] at i2
  by_cases n0 : c.names = []
  · have z0 : c.names.length = 0 := by rw [n0]; rfl
    rw [decide_eq_false (show ¬ (1 : Int) ≤ (c.names.length : Int) by omega)] at i1
    replace z0 := fhid z0
    have hxh := fhid hx
    have hE := fhid (show false = (!c.names.isEmpty && !c.parts.isEmpty && decide (a4 ≤ a5)) by rw [n0]; rfl)
    replace hg := fhid hg
    replace hcr0 := fhid hcr0
    have hBh := fhid hB
    clear hx hB hvl hnl hpl hql ev n0 z0 r1 r2 r3 r4 i2
    go_enter Tryz.func56, Tryz.ntmps56
    go_upto_region 1 with fail
    rw [show w.alloc _ = W from hW.symm]
    clear hW
    go_wp2_with (go_at_call 94; (with_reducible refine (i1 _).mono ?_); rintro e w1 ⟨rfl, rfl⟩)
    go_ret
    exact ⟨fretb hE.out, hBh.out⟩
  · have n1 : 1 ≤ c.names.length := by have := List.length_pos_iff.2 n0; omega
    have n1I : (1 : Int) ≤ (c.names.length : Int) := by omega
    rw [decide_eq_true n1I] at i1
    by_cases p0 : c.parts = []
    · have z0 : c.parts.length = 0 := by rw [p0]; rfl
      rw [decide_eq_false (show ¬ (1 : Int) ≤ (c.parts.length : Int) by omega)] at i2
      have v1 : ((c.vecs.length : Int) != (c.names.length : Int)) = false := by simp; omega
      replace z0 := fhid z0
      have hxh := fhid hx
      have hE := fhid (show false = (!c.names.isEmpty && !c.parts.isEmpty && decide (a4 ≤ a5)) by rw [p0]; simp)
      replace hg := fhid hg
      replace hcr0 := fhid hcr0
      have hBh := fhid hB
      clear hx hB hnl hpl hql ev n0 z0 p0 r1 r2 r3 r4
      replace hvl := fhid hvl
      go_enter Tryz.func56, Tryz.ntmps56
      go_upto_region 1 with fail
      rw [show w.alloc _ = W from hW.symm]
      clear hW
      go_wp2_with (first
        | (go_at_call 94; (with_reducible refine (i1 _).mono ?_); rintro e w1 ⟨rfl, rfl⟩)
        | (go_at_call 94; (with_reducible refine (i2 _).mono ?_); rintro e w1 ⟨rfl, rfl⟩))
      go_ret
      exact ⟨fretb hE.out, hBh.out⟩
    · have p1 : 1 ≤ c.parts.length := by have := List.length_pos_iff.2 p0; omega
      have p1I : (1 : Int) ≤ (c.parts.length : Int) := by omega
      rw [decide_eq_true p1I] at i2
      have R1 := fhid (r1.below hB)
      have R2 := fhid (r2.below hB)
      have R3 := fhid (r3.below hB)
      have R4 := fhid (r4.below hB)
      have hcrW := fhid (hcr0.below hB)
      have hxh := fhid hx
      have hBh := fhid hB
      have hgh := fhid hg
      have hev := fhid ev
      have n0h := fhid n0
      have p0h := fhid p0
      have hvI : (c.vecs.length : Int) = (c.names.length : Int) := by omega
      have hvIh := fhid hvI
      have v1 : ((c.vecs.length : Int) != (c.names.length : Int)) = false := by simp; omega
      have v2 : ¬ (c.qos.length : Int) > 16 := by omega
      have v3 : ¬ (16 : Int) < (c.qos.length : Int) := by omega
      clear hx hB hg hcr0 ev n0 p0 r1 r2 r3 r4 hvI
      replace hvl := fhid hvl
      by_cases h45 : a4 ≤ a5
      · have v4 : ¬ a4 > a5 := by omega
        have v5 : ¬ a5 < a4 := by omega
        have hE := fhid (show true = (!c.names.isEmpty && !c.parts.isEmpty && decide (a4 ≤ a5)) by rw [decide_eq_true h45]; have e1 := n0h.out; have e2 := p0h.out; simp [e1, e2])
        have hE2 := fhid (show true = (!c.names.isEmpty && !c.parts.isEmpty) by have e1 := n0h.out; have e2 := p0h.out; simp [e1, e2])
        have hpost := fhid (show ∀ W', Below w.heap.size w W' → (Ending.returned (.bool true) = Ending.returned (.bool (!c.names.isEmpty && !c.parts.isEmpty && decide (a4 ≤ a5))) ∧ Below w.heap.size w W') from fun W' hb => ⟨fretb hE.out, hb⟩)
        go_enter Tryz.func56, Tryz.ntmps56
        go_upto_region 1 with fail
        rw [show w.alloc _ = W from hW.symm]
        clear hW
        go_wp2_with (first
          | (go_at_call 94; (with_reducible refine (i1 _).mono ?_); rintro e w1 ⟨rfl, rfl⟩)
          | (go_at_call 94; (with_reducible refine (i2 _).mono ?_); rintro e w1 ⟨rfl, rfl⟩))
        clear i1 i2 v1 v2 v3 v4 v5
        go_loopw [3] (fun i wr => ∃ k : Nat, k ≤ c.names.length ∧ i = .int .i64 k ∧ Below W.heap.size W wr) (fun i _ => c.names.length - (intOf i).toNat)
        case atStart => exact ⟨0, Nat.zero_le _, rfl, Below.refl _ _⟩
        case round =>
          obtain ⟨k, hk, rfl, hBk⟩ := hrel
          have k0 : (0 : Int) ≤ k := by omega
          have q0 := (hBk.cell (p := ⟨w.heap.size, 0, none⟩) xl).trans x0
          have q1 := (hBk.cell (p := ⟨w.heap.size, 1, none⟩) xl).trans x1
          have xl1 := Nat.lt_of_lt_of_le xl hBk.size
          by_cases hlt : k < c.names.length
          · have i3 : (k : Int) < c.names.length := by omega
            have i4 : (k : Int) < c.vecs.length := by have := hvIh.out; omega
            obtain ⟨nb, no, rfl, hnb, hc⟩ := RdS.name R1.out hlt
            obtain ⟨vb, vo, rfl, hvb, g0, g1, g2⟩ := RdS.vec R2.out (show k < c.vecs.length by omega)
            have q2 := (hBk.cell (p := ⟨nb, no + k, none⟩) hnb).trans hc
            have q3 := (hBk.cell (p := ⟨vb, vo + k * 3, none⟩) hvb).trans g0
            have q4 := (hBk.cell (p := ⟨vb, vo + k * 3 + 1, none⟩) hvb).trans g1
            have q5 := (hBk.cell (p := ⟨vb, vo + k * 3 + 2, none⟩) hvb).trans g2
            have hnb1 := Nat.lt_of_lt_of_le hnb hBk.size
            have hvb1 := Nat.lt_of_lt_of_le hvb hBk.size
            have hnN := hgh.out.nn _ (List.getElem_mem hlt)
            have hn32 : c.names[k].length ≤ 32 := by
              unfold nodeNameP at hnN
              simp only [Bool.and_eq_true, decide_eq_true_eq] at hnN
              exact hnN.1.1
            have hnn := fun W' => rnodeName_any (str c.names[k]) W' (by rw [str_size]; omega)
            rw [bl_str, hnN] at hnn
            unfold BoolP at hnn
            have hat := fun W' (hb : Below W.heap.size W W') => at_any (some ⟨nb, no, none⟩) cN k c.names c.names[k] W' (R1.out.below hb) (by omega)
            rw [place_no (fun x hx e => nodup_front hgh.out.nd hlt (by rw [← e]; exact hx))] at hat
            simp only [placeI] at hat
            have hvrt := hgh.out.vr _ (List.getElem_mem (show k < c.vecs.length by omega))
            unfold recRight at hvrt
            have hvr := fun W' => Vs.rRight_any c.vecs[k].1 c.vecs[k].2.1 c.vecs[k].2.2 W'
            rw [hvrt] at hvr
            unfold BP at hvr
            have hkc : (k : Int) ≤ cN := by have := go_le9 R1.out; omega
            have hcN : (cN : Int) ≤ 9223372036854775807 := by have := go_le9 R1.out; omega
            have hltI := fhid hlt
            clear hc g0 g1 g2 hnN hn32 hvrt
            generalize c.vecs[k].1 = z1 at *
            generalize c.vecs[k].2.1 = z2 at *
            generalize c.vecs[k].2.2 = z3 at *
            generalize str c.names[k] = NS at *
            go_upto_region 6 with fail
            have cz0 := fun d os => cell_regrown q0 d os
            have cz1 := fun d os => cell_regrown q1 d os
            have cz2 := fun d os => cell_regrown q2 d os
            have cz3 := fun d os => cell_regrown q3 d os
            have cz4 := fun d os => cell_regrown q4 d os
            have cz5 := fun d os => cell_regrown q5 d os
            have cm1 := fun d os => Calls.regrown_of (hnn (Sort.grow (redrawn wr d) os))
            have cm2 := fun d os => Calls.regrown_of ((hat _ (hBk.trans ((below_regrown wr d os).mono hBk.size))).mono fun e w' h => ⟨h.1, by rw [← h.2]; exact Below.refl _ _⟩)
            have cm3 := fun d os => Calls.regrown_of ((hvr (Sort.grow (redrawn wr d) os)).mono fun e w' h => ⟨h.1, h.2.below⟩)
            clear q0 q1 q2 q3 q4 q5 hnn hat hvr
            refine wp_region_quiet_below (by kernel_rfl) (by kernel_rfl) ?_
            repeat (first | go_big_quiet_step ((first | (with_reducible exact cm1 _ _) | (with_reducible exact cm2 _ _) | (with_reducible exact cm3 _ _))) | quiet_step ((first | (with_reducible exact cm1 _ _) | (with_reducible exact cm2 _ _) | (with_reducible exact cm3 _ _))))
            refine wpQuiet_nil ?_
            rintro w9 ⟨pq, rfl⟩
            have b9 := below_regrown wr pq.d pq.os
            go_wp2_with fail
            go_roundw
            case rel => exact ⟨k + 1, hltI.out, by go_num, hBk.trans (b9.mono hBk.size)⟩
            case measure => have := hltI.out; simp [intOf]; omega
          · obtain rfl : k = c.names.length := by omega
            have i3 : ¬ (c.names.length : Int) < c.names.length := by omega
            obtain ⟨w2, rfl⟩ : ∃ w2 : World, w2 = wr := ⟨_, rfl⟩
            have hsp := fun W' => Bs.rspan_any 0 ((c.names.length : Int) - 1) W'
            simp only [Bs.nodes] at hsp
            have hnot := fun (p : Nat → Bool) (W' : World) => Bs.rnot_any p (Bs.spanP 0 ((c.names.length : Int) - 1)) W'
            have hnw := fun (p : Nat → Bool) (hp : within c.names.length p = true) => not_within hp n1
            generalize hu0 : (Bs.word (Bs.spanP 0 ((c.names.length : Int) - 1)) 0 : Int) = u0 at *
            generalize hu1 : (Bs.word (Bs.spanP 0 ((c.names.length : Int) - 1)) 1 : Int) = u1 at *
            generalize hu2 : (Bs.word (Bs.spanP 0 ((c.names.length : Int) - 1)) 2 : Int) = u2 at *
            generalize hu3 : (Bs.word (Bs.spanP 0 ((c.names.length : Int) - 1)) 3 : Int) = u3 at *
            replace hu0 := fhid hu0
            replace hu1 := fhid hu1
            replace hu2 := fhid hu2
            replace hu3 := fhid hu3
            replace hnot := fhid hnot
            replace hnw := fhid hnw
            go_upto_region 9 with (go_at_call 98; (with_reducible refine (hsp _).mono ?_); rintro e w3 ⟨rfl, b3⟩)
            have X3 := Box.below (Box.below hxh.out hBk xl) b3 xl1
            have N4 := Box.new w3 TNodes [.int .u64 u0, .int .u64 u1, .int .u64 u2, .int .u64 u3]
            have bN := (Below.refl w3.heap.size w3).alloc (Nat.le_refl _) (.cells #[.int .u64 u0, .int .u64 u1, .int .u64 u2, .int .u64 u3] TNodes)
            have X4 := Box.below X3 bN (Box.lt X3)
            have B4 := (hBk.trans (b3.mono hBk.size)).trans (bN.mono (Nat.le_trans hBk.size b3.size))
            have hga : W.heap.size ≤ w3.heap.size := Nat.le_trans hBk.size b3.size
            generalize w3.heap.size = ga at *
            generalize w3.alloc _ = w4 at *
            have X4l := Box.lt X4
            have N4l := Box.lt N4
            have y2 : w4.cell? ⟨w.heap.size, 2, none⟩ = some (.slice AP c.parts.length cP) := Box.cell X4 2
            clear x0 x1 x2 x3 x4 x5 x6 x7 x8 x9 x10 x11 X3 bN b3 q0 q1 xl1 hsp i3
            replace X4 := fhid X4
            replace N4 := fhid N4
            replace B4 := fhid B4
            go_wp2_with fail
            go_loopw [5] (fun i wr => ∃ k : Nat, k ≤ c.parts.length ∧ i = .int .i64 k ∧ Below w4.heap.size w4 wr) (fun i _ => c.parts.length - (intOf i).toNat)
            case atStart => exact ⟨0, Nat.zero_le _, rfl, Below.refl _ _⟩
            case round =>
              obtain ⟨k, hk, rfl, hBk⟩ := hrel
              have k0 : (0 : Int) ≤ k := by omega
              have X5 := Box.below X4.out hBk X4l
              have X5l := Box.lt X5
              have B5 := fhid (B4.out.trans (hBk.mono B4.out.size))
              by_cases hlt : k < c.parts.length
              · have i3 : (k : Int) < c.parts.length := by omega
                obtain ⟨pb, po, rfl, hpb, e0, e1, e2, e3, e4, e5, e6, e7⟩ := RdS.part R3.out hlt
                have g0 := (B5.out.cell (p := ⟨pb, po + k * 8, none⟩) hpb).trans e0
                have g1 := (B5.out.cell (p := ⟨pb, po + k * 8 + 1, none⟩) hpb).trans e1
                have g2 := (B5.out.cell (p := ⟨pb, po + k * 8 + 2, none⟩) hpb).trans e2
                have g3 := (B5.out.cell (p := ⟨pb, po + k * 8 + 3, none⟩) hpb).trans e3
                have g4 := (B5.out.cell (p := ⟨pb, po + k * 8 + 4, none⟩) hpb).trans e4
                have g5 := (B5.out.cell (p := ⟨pb, po + k * 8 + 5, none⟩) hpb).trans e5
                have g6 := (B5.out.cell (p := ⟨pb, po + k * 8 + 6, none⟩) hpb).trans e6
                have g7 := (B5.out.cell (p := ⟨pb, po + k * 8 + 7, none⟩) hpb).trans e7
                have hpb5 := Nat.lt_of_lt_of_le hpb B5.out.size
                have y5 : wr.cell? ⟨w.heap.size, 2, none⟩ = some (.slice (some ⟨pb, po, none⟩) c.parts.length cP) := Box.cell X5 2
                obtain ⟨pr1, pr2, pr3⟩ := part_right (hgh.out.pw _ (List.getElem_mem hlt))
                have pr4 := hgh.out.pin _ (List.getElem_mem hlt)
                have hfi := fun W' (hb : Below W.heap.size W W') => rFind_any _ c c.parts[k].name W' (hcrW.out.below hb)
                have hmk : (c.parts.map (·.name))[k]'(by simpa using hlt) = c.parts[k].name := by simp
                have hpl := nodup_at hgh.out.pn (k := k) (by simpa using hlt)
                rw [hmk] at hpl
                rw [hpl] at hfi
                simp only [nodeV] at hfi
                have hnm := fun W' => rName_any (str c.parts[k].name) W' (wsz _ (name_len pr1))
                simp only [bl_str] at hnm
                rw [pr1] at hnm
                have hpr := fun W' => partRight_any c.parts[k] W'
                rw [pr3] at hpr
                unfold partV at hpr
                have hnt := hnot.out c.parts[k].nodes
                rw [hnw.out _ pr4] at hnt
                simp only [Bs.nodes] at hnt
                rw [hu0.out, hu1.out, hu2.out, hu3.out] at hnt
                have hws := words_some pr2
                have hq1 := eq_words (Bs.word c.parts[k].nodes 0 : Int) (Bs.word c.parts[k].nodes 1 : Int) (Bs.word c.parts[k].nodes 2 : Int) (Bs.word c.parts[k].nodes 3 : Int) 0 0 0 0
                rw [hws] at hq1
                have hq2 := eq_same 0 0 0 0
                have hltI := fhid hlt
                clear e0 e1 e2 e3 e4 e5 e6 e7 pr1 pr2 pr3 pr4 hmk hpl hws
                generalize str c.parts[k].name = NS at *
                generalize (Bs.word c.parts[k].nodes 0 : Int) = z0 at *
                generalize (Bs.word c.parts[k].nodes 1 : Int) = z1 at *
                generalize (Bs.word c.parts[k].nodes 2 : Int) = z2 at *
                generalize (Bs.word c.parts[k].nodes 3 : Int) = z3 at *
                generalize c.parts[k].max = z4 at *
                generalize c.parts[k].time = z5 at *
                generalize c.parts[k].prio = z6 at *
                replace X5 := fhid X5
                replace hBk := fhid hBk
                go_upto_region 13 with fail
                have P6 := Box.new wr 68 [.string NS, .int .u64 z0, .int .u64 z1, .int .u64 z2, .int .u64 z3, .int .i64 z4, .int .i64 z5, .int .i64 z6]
                have bP := (Below.refl wr.heap.size wr).alloc (Nat.le_refl _) (.cells #[.string NS, .int .u64 z0, .int .u64 z1, .int .u64 z2, .int .u64 z3, .int .i64 z4, .int .i64 z5, .int .i64 z6] 68)
                have X6 := Box.below X5.out bP X5l
                have B6 := B5.out.trans (bP.mono B5.out.size)
                have Bk6 := fhid (hBk.out.trans (bP.mono hBk.out.size))
                have N6 := Box.below (Box.below N4.out hBk.out N4l) bP (Nat.lt_of_lt_of_le N4l hBk.out.size)
                generalize wr.heap.size = gp at *
                generalize wr.alloc _ = w6 at *
                obtain ⟨y0, y1, y2, y3, y4, y5, y6, y7, y8, y9, y10, y11⟩ := Box.twelve X6
                have X6l := Box.lt X6
                have P6l := Box.lt P6
                have N6l := Box.lt N6
                have p0 : w6.cell? ⟨gp, 0, none⟩ = some (.string NS) := Box.cell P6 0
                have hfi6 := hfi w6 B6
                clear g0 g1 g2 g3 g4 g5 g6 g7 bP hfi
                replace X6 := fhid X6
                replace P6 := fhid P6
                replace N6 := fhid N6
                replace B6 := fhid B6
                go_wp2_with (first
                  | (go_at_call 99; (with_reducible refine hfi6.mono ?_); rintro e w7 ⟨rfl, b7⟩
                     have P7 := Box.below P6.out b7 P6l
                     have N7 := Box.below N6.out b7 N6l
                     have P7l := Box.lt P7
                     have N7l := Box.lt N7
                     have p7 : w7.cell? ⟨gp, 0, none⟩ = some (.string NS) := Box.cell P7 0
                     obtain ⟨⟨s0, -⟩, ⟨s1, -⟩, ⟨s2, -⟩, ⟨s3, -⟩, ⟨s4, -⟩, ⟨s5, -⟩, ⟨s6, -⟩, ⟨s7, -⟩, -⟩ := Box.eight P7
                     replace P7 := fhid P7
                     replace N7 := fhid N7)
                  | (go_at_call 100; (with_reducible refine (hnm _).mono ?_); rintro e w8 ⟨rfl, rfl⟩)
                  | (go_at_call 101; (with_reducible refine (hpr _).mono ?_); rintro e w9 ⟨rfl, b9⟩
                     have P9 := Box.below P7.out b9 P7l
                     have N9 := Box.below N7.out b9 N7l
                     have P9l := Box.lt P9
                     have N9l := Box.lt N9
                     obtain ⟨⟨t0, -⟩, ⟨t1, -⟩, ⟨t2, -⟩, ⟨t3, -⟩, ⟨t4, -⟩, ⟨t5, -⟩, ⟨t6, -⟩, ⟨t7, -⟩, -⟩ := Box.eight P9
                     obtain ⟨⟨r0, r1, r2, r3⟩, -, -, -, -⟩ := Box.four N9
                     replace P9 := fhid P9
                     replace N9 := fhid N9)
                  | (go_at_call 102; (with_reducible refine (hnt _).mono ?_); rintro e w10 ⟨rfl, b10⟩))
                go_roundw
                case rel => exact ⟨k + 1, hltI.out, by go_num, Bk6.out.trans (((b7.trans (b9.mono b7.size)).trans (b10.mono (Nat.le_trans b7.size b9.size))).mono Bk6.out.size)⟩
                case measure => have := hltI.out; simp [intOf]; omega
              · obtain rfl : k = c.parts.length := by omega
                have i3 : ¬ (c.parts.length : Int) < c.parts.length := by omega
                obtain ⟨w5, rfl⟩ : ∃ w5 : World, w5 = wr := ⟨_, rfl⟩
                have y2 : w5.cell? ⟨w.heap.size, 2, none⟩ = some (.slice AP c.parts.length cP) := Box.cell X5 2
                clear hnot hnw
                replace X5 := fhid X5
                replace hBk := fhid hBk
                go_wp2_with fail
                clear y2 i3
                go_loopw [9] (fun i wr => ∃ k : Nat, k ≤ c.qos.length ∧ i = .int .i64 k ∧ Below w5.heap.size w5 wr) (fun i _ => c.qos.length - (intOf i).toNat)
                case atStart => exact ⟨0, Nat.zero_le _, rfl, Below.refl _ _⟩
                case round =>
                  obtain ⟨k, hk, rfl, hBq⟩ := hrel
                  have k0 : (0 : Int) ≤ k := by omega
                  have X6 := Box.below X5.out hBq X5l
                  have X6l := Box.lt X6
                  have B6 := fhid (B5.out.trans (hBq.mono B5.out.size))
                  have y3 : wr.cell? ⟨w.heap.size, 3, none⟩ = some (.slice AQ c.qos.length cQ) := Box.cell X6 3
                  by_cases hlt : k < c.qos.length
                  · have i3 : (k : Int) < c.qos.length := by omega
                    obtain ⟨pb, po, rfl, hpb, e0, e1, e2⟩ := RdS.qos R4.out hlt
                    have g0 := (B6.out.cell (p := ⟨pb, po + k * 3, none⟩) hpb).trans e0
                    have g1 := (B6.out.cell (p := ⟨pb, po + k * 3 + 1, none⟩) hpb).trans e1
                    have g2 := (B6.out.cell (p := ⟨pb, po + k * 3 + 2, none⟩) hpb).trans e2
                    have hpb6 := Nat.lt_of_lt_of_le hpb B6.out.size
                    obtain ⟨pr1, pr3⟩ := qos_right (hgh.out.qw _ (List.getElem_mem hlt))
                    have hne := name_ne pr1
                    have hmk : (c.qos.map (·.name))[k]'(by simpa using hlt) = c.qos[k].name := by simp
                    have hfr := nodup_front hgh.out.qn (k := k) (by simpa using hlt)
                    rw [hmk, ← List.map_take] at hfr
                    have hqu := fun W' (hb : Below W.heap.size W W') => rQuality_any _ (noq (c.qos.take k)) c.qos[k].name W' (cr_noq (rds_front (R4.out.below hb) k (by omega)) (by rw [List.length_take]; omega))
                    rw [show (noq (c.qos.take k)).qos = c.qos.take k from rfl, qual_none hne hfr] at hqu
                    unfold qualV qosV noQos at hqu
                    have hs0 : str [] = (⟨#[]⟩ : ByteArray) := rfl
                    simp only [hs0] at hqu
                    have hnm := fun W' => rName_any (str c.qos[k].name) W' (wsz _ (name_len pr1))
                    simp only [bl_str] at hnm
                    rw [pr1] at hnm
                    have hqr := fun W' => qosRight_any c.qos[k] W'
                    rw [pr3] at hqr
                    unfold qosV at hqr
                    have hse := str_eq (str []) (str c.qos[k].name)
                    rw [bl_str, bl_str, decide_eq_false (show ¬ ([] : Str) = c.qos[k].name from fun e => hne e.symm)] at hse
                    rw [hs0] at hse
                    have hnl1 : ¬ (str c.qos[k].name).toList = [] := by rw [ByteArray.toList_eq]; exact fun e => hne ((bl_str _).symm.trans e)
                    have hnl2 : (str c.qos[k].name).toList.isEmpty = false := by simpa using hnl1
                    clear hs0
                    have hkc : (k : Int) ≤ cQ := by have := go_le9 R4.out; omega
                    have hcQ : (cQ : Int) ≤ 9223372036854775807 := by have := go_le9 R4.out; omega
                    have hltI := fhid hlt
                    clear e0 e1 e2 pr1 pr3 hmk hfr hne
                    generalize str c.qos[k].name = NS at *
                    generalize c.qos[k].prio = z1 at *
                    generalize c.qos[k].max = z2 at *
                    replace X6 := fhid X6
                    replace hBq := fhid hBq
                    go_upto_region 20 with fail
                    have P7 := Box.new wr TDQos [.string NS, .int .i64 z1, .int .i64 z2]
                    have bP := (Below.refl wr.heap.size wr).alloc (Nat.le_refl _) (.cells #[.string NS, .int .i64 z1, .int .i64 z2] TDQos)
                    have X7 := Box.below X6.out bP X6l
                    have B7 := B6.out.trans (bP.mono B6.out.size)
                    have Bq7 := fhid (hBq.out.trans (bP.mono hBq.out.size))
                    generalize wr.heap.size = gp at *
                    generalize wr.alloc _ = w7 at *
                    have y7 : w7.cell? ⟨w.heap.size, 3, none⟩ = some (.slice (some ⟨pb, po, none⟩) c.qos.length cQ) := Box.cell X7 3
                    have X7l := Box.lt X7
                    have P7l := Box.lt P7
                    have p0 : w7.cell? ⟨gp, 0, none⟩ = some (.string NS) := Box.cell P7 0
                    have hqu7 := fun (W' : World) (hb : Below w7.heap.size w7 W') => hqu W' (B7.trans (hb.mono B7.size))
                    clear hqu g0 g1 g2 bP y3
                    replace X7 := fhid X7
                    replace P7 := fhid P7
                    replace B7 := fhid B7
                    go_cut [11] (fun s11 wx => RecAt TDQos w7 [.string ⟨#[]⟩, .int .i64 0, .int .i64 0] s11 wx)
                    case first =>
                      go_region_law (go_simp; go_at_call 103; (with_reducible refine (hqu7 _ (by first | exact (Below.refl _ _).drew | exact ((Below.refl _ _).alloc (Nat.le_refl _) _).drew | exact (Below.refl _ _).drew.alloc (Nat.le_refl _) _)).mono ?_); rintro e w8 ⟨rfl, b8⟩
                                     (first
                                       | (have bs : Below (w7.alloc (.cells #[.string ⟨#[]⟩, .int .i64 0, .int .i64 0] TDQos)).heap.size (w7.alloc (.cells #[.string ⟨#[]⟩, .int .i64 0, .int .i64 0] TDQos)) w8 := ⟨b8.os, b8.tape, b8.output, b8.size, b8.block⟩
                                          have kz : Box w8 w7.heap.size TDQos [.string ⟨#[]⟩, .int .i64 0, .int .i64 0] := Box.below (Box.new w7 TDQos [.string ⟨#[]⟩, .int .i64 0, .int .i64 0]) bs (by simp)
                                          have kl := Box.lt kz
                                          obtain ⟨y0, y1, y2⟩ : w8.cell? ⟨w7.heap.size, 0, none⟩ = some (.string ⟨#[]⟩) ∧ w8.cell? ⟨w7.heap.size, 1, none⟩ = some (.int .i64 0) ∧ w8.cell? ⟨w7.heap.size, 2, none⟩ = some (.int .i64 0) := ⟨Box.cell kz 0, Box.cell kz 1, Box.cell kz 2⟩
                                          have kf := Box.free kz)
                                       | (have bn : Below w7.heap.size w7 w8 := ⟨b8.os, b8.tape, b8.output, b8.size, b8.block⟩)))
                      all_goals
                        go_wp2_with fail
                        go_meet
                        first
                          | (with_reducible exact rec_new3 bn)
                          | (with_reducible exact rec_set3 (Below.refl _ _) bs)
                    case rest =>
                      clear hqu7 y7
                      obtain ⟨bx, rfl, Q8, hbx8, B8⟩ := hcut
                      obtain ⟨w8, rfl⟩ : ∃ w8 : World, w8 = wc := ⟨_, rfl⟩
                      have P8 := Box.below P7.out B8 P7l
                      have p8 : w8.cell? ⟨gp, 0, none⟩ = some (.string NS) := Box.cell P8 0
                      have p81 : w8.cell? ⟨gp, 1, none⟩ = some (.int .i64 z1) := Box.cell P8 1
                      have p82 : w8.cell? ⟨gp, 2, none⟩ = some (.int .i64 z2) := Box.cell P8 2
                      have P8l := Box.lt P8
                      have q8 : w8.cell? ⟨bx, 0, none⟩ = some (.string ⟨#[]⟩) := Box.cell Q8 0
                      have Q8l := Box.lt Q8
                      clear p0
                      replace P8 := fhid P8
                      replace Q8 := fhid Q8
                      replace B8 := fhid B8
                      go_wp2_with (first
                        | (go_at_call 100; (with_reducible refine (hnm _).mono ?_); rintro e w9 ⟨rfl, rfl⟩)
                        | (go_at_call 104; (with_reducible refine (hqr _).mono ?_); rintro e w10 ⟨rfl, b10⟩))
                      go_roundw
                      case rel => exact ⟨k + 1, hltI.out, by go_num, Bq7.out.trans ((B8.out.trans (b10.mono B8.out.size)).mono Bq7.out.size)⟩
                      case measure => have := hltI.out; simp [intOf]; omega
                  · obtain rfl : k = c.qos.length := by omega
                    have i3 : ¬ (c.qos.length : Int) < c.qos.length := by omega
                    obtain ⟨w6, rfl⟩ : ∃ w6 : World, w6 = wr := ⟨_, rfl⟩
                    replace X6 := fhid X6
                    replace hBq := fhid hBq
                    go_wp2_with fail
                    clear y3 i3
                    go_loopw [13] (fun i wr => ∃ k : Nat, k ≤ 8 ∧ i = .int .i64 k ∧ Below w6.heap.size w6 wr) (fun i _ => 8 - (intOf i).toNat)
                    case atStart => exact ⟨0, Nat.zero_le _, rfl, Below.refl _ _⟩
                    case round =>
                      obtain ⟨k, hk, rfl, hBv⟩ := hrel
                      have k0 : (0 : Int) ≤ k := by omega
                      have X7 := Box.below X6.out hBv X6l
                      have X7l := Box.lt X7
                      have B7 := fhid (B6.out.trans (hBv.mono B6.out.size))
                      by_cases hlt : k < 8
                      · have i3 : (k : Int) < 8 := by omega
                        have hkl : k < c.vals.length := by rw [hgh.out.vlen]; exact hlt
                        have hvr := fun W' => valueRight_any k hlt k c.vals[k] rfl W'
                        rw [rightV_at hgh.out.vv hgh.out.vlen hkl] at hvr
                        have hck : wr.cell? ⟨w.heap.size, 4 + k, none⟩ = some (.int .i64 c.vals[k]) := by
                          have hb : VBox wr w.heap.size TRConf9 [.slice AN c.names.length cN, .slice AV c.vecs.length cV, .slice AP c.parts.length cP, .slice AQ c.qos.length cQ] c.vals [] := by
                            unfold VBox
                            rw [hev.out]
                            exact X7
                          exact VBox.cell hb hkl rfl
                        generalize c.vals[k] = z1 at *
                        replace X7 := fhid X7
                        replace hBv := fhid hBv
                        have hltI := fhid hlt
                        go_wp2_with (go_at_call 105; (with_reducible refine (hvr _).mono ?_); rintro e w8 ⟨rfl, b8⟩)
                        go_roundw
                        case rel => exact ⟨k + 1, hltI.out, by go_num, hBv.out.trans (b8.mono hBv.out.size)⟩
                        case measure => have := hltI.out; simp [intOf]; omega
                      · obtain rfl : k = 8 := by omega
                        have i3 : ¬ ((8 : Nat) : Int) < 8 := by omega
                        have hfin := fhid (hpost.out _ (hBh.out.trans (B7.out.mono hBh.out.size)))
                        clear X7 hBv
                        go_wp2_with fail
                        go_ret
                        first | exact ⟨fretb hE.out, hfin.out.2⟩ | exact ⟨fretb hE2.out, hfin.out.2⟩
      · have v4 : a4 > a5 := by omega
        have v5 : a5 < a4 := by omega
        have hE := fhid (show false = (!c.names.isEmpty && !c.parts.isEmpty && decide (a4 ≤ a5)) by rw [decide_eq_false h45, Bool.and_false])
        go_enter Tryz.func56, Tryz.ntmps56
        go_upto_region 1 with fail
        rw [show w.alloc _ = W from hW.symm]
        clear hW
        go_wp2_with (first
          | (go_at_call 94; (with_reducible refine (i1 _).mono ?_); rintro e w1 ⟨rfl, rfl⟩)
          | (go_at_call 94; (with_reducible refine (i2 _).mono ?_); rintro e w1 ⟨rfl, rfl⟩))
        go_ret
        exact ⟨fretb hE.out, hBh.out⟩
end Go.Proofs.YtmnmcikbbfcjcaaGreatDoor
