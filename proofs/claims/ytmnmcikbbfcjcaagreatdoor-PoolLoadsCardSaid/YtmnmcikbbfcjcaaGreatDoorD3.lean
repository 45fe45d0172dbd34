/-
  Parts: KRDNode.
-/
import Derived.Test.YtmnmcikbbfcjcaaGreatDoorD2
import Derived.Test.YtmnmcikbbfcjcaaGreatDoorV2
import Derived.Lib.QuietBelow
set_option linter.unusedSimpArgs false
set_option linter.unusedVariables false
/-
  The document's reader of a line that tells nodes.
-/
namespace Go.Proofs.YtmnmcikbbfcjcaaGreatDoor
open Go.RowKit Go.Shelf Vs

/-- What the last loop knows at its head. -/
structure NI (B b : Nat) (c : Cfg) (ns : List Str) (x : V3) (AX : Option Addr) (bv : Nat) (vP vQ : Value) (w : World) (k : Nat) (wr : World) (AN : Option Addr) (cN : Nat) (AV : Option Addr) (cV : Nat) : Prop where
  doc : DG B wr b (c.names ++ ns.take k) (c.vecs ++ List.replicate k x) c.parts c.qos c.vals (.slice AN (c.names.length + k) cN) (.slice AV (c.vecs.length + k) cV) vP vQ
  nm : Strs wr wr.heap.size AX ns
  ap : ∀ g o, AX = some ⟨g, o, none⟩ → (Value.slice AN (c.names.length + k) cN).ownBlock ≠ some g
  vx : Box wr bv TVec [.int .i64 x.1, .int .i64 x.2.1, .int .i64 x.2.2]
  av : (Value.slice AV (c.vecs.length + k) cV).ownBlock ≠ some bv
  apv : ∀ g o, AX = some ⟨g, o, none⟩ → (Value.slice AV (c.vecs.length + k) cV).ownBlock ≠ some g
  bl : Below B w wr
theorem rds_own {w : World} {B : Nat} {A : Option Addr} {n cap : Nat} {l : List Str} (h : OwnS w B (.slice A n cap) l) (hn : n = l.length) : RdS w A l.length cap (SV l) := by
  obtain ⟨A', c', e, p1, p2, p3⟩ := ownsRow_shape h
  injection e with e1 e2 e3
  subst e1
  subst e3
  exact ⟨p1, p2, p3⟩
theorem strs_set {w : World} {b i : Nat} {v : Value} {A : Option Addr} {ns : List Str} (h : Strs w w.heap.size A ns) (hr : ∀ g o, A = some ⟨g, o, none⟩ → g ≠ b) : Strs (w.setCell ⟨b, i, none⟩ v) (w.setCell ⟨b, i, none⟩ v).heap.size A ns :=
  strs_grown h (row := some b) (Aft.set (Aft.of (Below.refl _ _)) i v) (fun g o e e2 => hr g o e (Option.some.inj e2).symm)
theorem short_size (x : Str) : shortP x = decide (((str x).size : Int) ≤ 32) := by
  unfold shortP
  rw [str_size, Bool.eq_iff_iff]
  simp only [decide_eq_true_eq]
  omega
set_option maxRecDepth 100000 in
set_option maxHeartbeats 16000000 in
theorem rnode_any (B b : Nat) (c : Cfg) (vN vV vP vQ : Value) (A : Option Addr) (cap : Nat) (k0 : Str) (os : List Str) (w : World) (h : Doc B w b c vN vV vP vQ) (hg : GD c) (hA : Strs w w.heap.size A (k0 :: os)) (hL : ∀ x ∈ os, x.length ≤ 65536) :
    Calls Tryz.prog 90 #[.pointer (some ⟨b, 0, none⟩), .slice A (k0 :: os).length cap] w (LineD B b (nodeP c os) w) := by
  have hBw : B ≤ w.heap.size := Nat.le_trans h.bb (Nat.le_of_lt h.lt)
  have hbad := fhid (fun k (W : World) (hs : nodeP c os = .error k) (hb : Below B w W) => lined_bad (b := b) hs hb)
  have hokk := fhid (fun c' (W : World) (hs : nodeP c os = .ok c') (hb : Below B w W) vN' vV' vP' vQ' (hr : Doc B W b c' vN' vV' vP' vQ') => lined_ok (b := b) hs hb hr)
  by_cases h2 : os.length = 2
  · obtain ⟨l, v, rfl⟩ : ∃ l v, os = [l, v] := by
      match os, h2 with
      | [l, v], _ => exact ⟨l, v, rfl⟩
    obtain ⟨bb, oo, rfl, hbb, d0⟩ := Strs.at_ hA (k := 1) (by simp)
    obtain ⟨bb', oo', he, _, d1⟩ := Strs.at_ hA (k := 2) (by simp)
    injection he with he
    injection he with he1 he2
    subst he1
    subst he2
    simp only [List.getElem_cons_zero, List.getElem_cons_succ] at d0 d1
    have hll := hL l (by simp)
    have hex := fun W => Hs.rexpand_ex (str l) W (by rw [str_size]; omega)
    rw [show Hs.bl (str l) = l from bl_str l] at hex
    have hpa := fun W => Vs.rParse_any (str v) W
    unfold VP at hpa
    rw [bl_str] at hpa
    have hR := nodeP_two c l v
    rw [names_short] at hR
    have hE256 := (Hs.expand_facts l).2.1
    obtain ⟨AN, cN, AV, cV, AP, cP, AQ, cQ, a0, a1, a2, a3, a4, a5, a6, a7, rfl, rfl, rfl, rfl, ev, hbx, hcr⟩ := doc_cr h
    rw [show (k0 :: [l, v] : List Str).length = 3 from rfl] at *
    generalize nodeP c [l, v] = R at *
    generalize LineD B b R w = P at *
    generalize Hs.expand l = E at *
    generalize Vs.parseP v = PV at *
    obtain ⟨ns, f1, f2⟩ := E
    obtain ⟨⟨q0, q1, q2⟩, pe⟩ := PV
    simp only [vv] at hex hpa hR hE256
    unfold Hs.EPostX at hex
    simp only at hex
    generalize str l = LS at *
    generalize str v = VS at *
    have hbl := h.lt
    replace hR := fhid hR
    replace h := fhid h
    replace hg := fhid hg
    replace hA := fhid hA
    replace hL := fhid hL
    clear hcr hbx ev
    by_cases h1 : f1 = 0
    · subst h1
      have hex0 : ∀ W, Calls Tryz.prog 117 #[.string LS] W fun e w' => ∃ v, e = .returned (.tuple #[v, .agg #[.int .i64 0, .int .i64 0]]) ∧ Hs.OwnS w' W.heap.size v ns ∧ Below W.heap.size W w' := fun W => (hex W).mono fun e w' h => by
        rcases h with ⟨_, v, h1, h2, h3⟩ | ⟨h, _⟩
        · exact ⟨v, h1, h2, h3⟩
        · exact absurd rfl h
      clear hex
      go_enter Tryz.func90, Tryz.ntmps90
      go_upto_region 5 with (first
        | (go_at_call 117; (with_reducible refine (hex0 _).mono ?_); rintro e w1 ⟨v1, rfl, own, b1⟩
           have ge1 := fhid (fun k => Hs.ownsRow_ge own k)
           obtain ⟨AX, cX, rfl, hx1, hx2, sg⟩ := own.shape
           have e1 := (b1.cell (p := ⟨bb, oo + 2, none⟩) hbb).trans d1
           have hbb1 := Nat.lt_of_lt_of_le hbb b1.size
           have F1 := Box.new w1 77 [.int .i64 0, .int .i64 0]
           have B1 := b1.trans (((Below.refl w1.heap.size w1).alloc (Nat.le_refl _) (.cells #[.int .i64 0, .int .i64 0] 77)).mono b1.size))
        | (go_at_call 118; (with_reducible refine (hpa _).mono ?_); rintro e w2 ⟨rfl, b2⟩))
      have bA := (Below.refl w1.heap.size w1).alloc (Nat.le_refl _) (.cells #[.int .i64 0, .int .i64 0] 77)
      have bV := (Below.refl w2.heap.size w2).alloc (Nat.le_refl _) (.cells #[.int .i64 q0, .int .i64 q1, .int .i64 q2] TVec)
      have F2 := Box.below F1 b2 (Box.lt F1)
      have F3 := Box.below F2 bV (Box.lt F2)
      have X3 := Box.new w2 TVec [.int .i64 q0, .int .i64 q1, .int .i64 q2]
      have N3 := strs_below (strs_below (strs_below sg bA (show w1.heap.size ≤ _ from bA.size)) b2 (show (w1.alloc (.cells #[.int .i64 0, .int .i64 0] 77)).heap.size ≤ w2.heap.size from b2.size)) bV bV.size
      have B2 := B1.trans (b2.mono B1.size)
      have B3 := B2.trans (bV.mono B2.size)
      have hvw : w.heap.size ≤ w2.heap.size := B2.size
      generalize w1.heap.size = bf at *
      generalize w2.heap.size = bv at *
      generalize w2.alloc _ = w3 at *
      clear F1 F2 b2 bA bV B1 B2 b1 sg e1 hbb1 d0 d1 hpa
      have f0 : w3.cell? ⟨bf, 0, none⟩ = some (.int .i64 0) := Box.cell F3 0
      have fl := Box.lt F3
      by_cases hp : pe = 0
      · subst hp
        have hR1 := fhid (hR.out.trans (if_neg (by simp)))
        have D3 := fhid (h.out.below B3)
        replace X3 := fhid X3
        replace N3 := fhid N3
        replace F3 := fhid F3
        have i2 : (ns.length : Int) ≤ 256 := by omega
        go_wp2_with fail
        go_loop [9] (fun i => ∃ k : Nat, k ≤ ns.length ∧ i = .int .i64 k ∧ Hid ((ns.take k).all shortP = true)) (fun i => ns.length - (intOf i).toNat)
        case atStart => exact ⟨0, Nat.zero_le _, rfl, fhid (by simp)⟩
        case round =>
          obtain ⟨k, hk, rfl, hN⟩ := hrel
          have i0 : (0 : Int) ≤ k := by omega
          by_cases hlt : k < ns.length
          · have i1 : (k : Int) < ns.length := by omega
            obtain ⟨nb, no, rfl, hnb, hc⟩ := Strs.at_ N3.out hlt
            have hst := all_step (f := shortP) hlt
            have hbd := @all_bad Str ns k shortP hlt
            have hsz := short_size ns[k]
            generalize shortP ns[k] = N1 at *
            generalize str ns[k] = NS at *
            replace hst := fhid hst
            replace hN := fhid hN.out
            replace hlt := fhid hlt
            cases N1 with
            | false =>
              have hE := fhid (hR1.out.trans (if_pos (by rw [hbd rfl]; simp)))
              have j1 : (32 : Int) < NS.size := by simpa using hsz.symm
              clear hbd hsz
              go_wp2_with fail
              exact hbad.out 3 _ hE.out (B3.mono hBw)
            | true =>
              have j1 : ¬ (32 : Int) < NS.size := by have := hsz.symm; simp at this; omega
              clear hbd hsz
              go_wp2_with fail
              go_round
              case rel => exact ⟨k + 1, hlt.out, by go_num, fhid (by rw [hst.out, hN.out]; rfl)⟩
              case measure => have := hlt.out; simp [intOf]; omega
          · obtain rfl : k = ns.length := by omega
            have i1 : ¬ (ns.length : Int) < ns.length := by omega
            have hall : ns.all shortP = true := by have := hN.out; rwa [List.take_of_length_le (Nat.le_refl _)] at this
            have hR2 := fhid (hR1.out.trans (if_neg (by rw [hall]; simp)))
            clear hN hall i0
            have hat1 := fun (x : Str) (W : World) (hb : Below w3.heap.size w3 W) => at_any AN cN c.names.length c.names x W ((rds_own D3.out.nm rfl).below hb) (Nat.le_refl _)
            have hat2 := fun (k : Nat) (hk : k ≤ ns.length) (x : Str) (W : World) (hb : Below w3.heap.size w3 W) => at_any AX cX k ns x W ((show RdS w3 AX ns.length cX (SV ns) from ⟨hx1, hx2, N3.out⟩).below hb) hk
            simp only [List.take_length] at hat1
            have z3 := D3.out.fields
            have zN := z3.1.1
            have zl := z3.2.2
            clear z3
            go_wp2_with fail
            go_loopw [10] (fun i wr => ∃ k : Nat, k ≤ ns.length ∧ i = .int .i64 k ∧ Hid ((c.names ++ ns.take k).Nodup) ∧ Below w3.heap.size w3 wr) (fun i _ => ns.length - (intOf i).toNat)
            case atStart => exact ⟨0, Nat.zero_le _, rfl, fhid (by simpa using hg.out.nd), Below.refl _ _⟩
            case round =>
              obtain ⟨k, hk, rfl, hN, hB⟩ := hrel
              have i0 : (0 : Int) ≤ k := by omega
              by_cases hlt : k < ns.length
              · have i1 : (k : Int) < ns.length := by omega
                obtain ⟨nb, no, rfl, hnb, hc⟩ := Strs.at_ N3.out hlt
                have hcell := (hB.cell (p := ⟨nb, no + k, none⟩) hnb).trans hc
                have hnb2 := Nat.lt_of_lt_of_le hnb hB.size
                have zN2 := (hB.cell (p := ⟨b, 0, none⟩) zl).trans zN
                have zl2 := Nat.lt_of_lt_of_le zl hB.size
                have hyes := nodup_more (l := c.names) hlt hN.out
                have hnot := nodup_less (l := c.names) (m := ns) (k := k) hlt
                have h1 := hat1 ns[k]
                have h2 := hat2 k hk ns[k]
                have hkc : (k : Int) ≤ cX := by omega
                have hBd : Below w3.heap.size w3 wr.drew := hB.drew
                clear hat1 hat2 hc
                have cz0 := fun d os => cell_regrown zN2 d os
                have cz1 := fun d os => cell_regrown hcell d os
                by_cases hin : ns[k] ∈ c.names
                · obtain ⟨p, hp⟩ := place_mem9 hin
                  rw [hp] at h1
                  have hE := fhid (hR2.out.trans (if_pos (hnot (List.mem_append_left _ hin))))
                  simp only [placeI] at h1
                  have p0 : (p : Int) ≥ 0 := by omega
                  have p2 : (0 : Int) ≤ (p : Int) := by omega
                  clear hyes hnot hp h2
                  replace hin := fhid hin
                  generalize ns[k] = NM at *
                  generalize str NM = NS at *
                  go_upto_region 15 with fail
                  have cm1 := fun d os => Calls.regrown_of ((h1 _ (hB.trans ((below_regrown wr d os).mono hB.size))).mono fun e w' h => ⟨h.1, by rw [← h.2]; exact Below.refl _ _⟩)
                  clear hcell zN2 h1
                  refine wp_region_quiet_below (by kernel_rfl) (by kernel_rfl) ?_
                  repeat (first | go_big_quiet_step ((first | (with_reducible exact cm1 _ _))) | quiet_step ((first | (with_reducible exact cm1 _ _))))
                  refine wpQuiet_nil ?_
                  rintro w9 ⟨pq, rfl⟩
                  have b9 := hB.trans ((below_regrown wr pq.d pq.os).mono hB.size)
                  go_wp2_with fail
                  exact hbad.out 7 _ hE.out ((B3.trans (b9.mono B3.size)).mono hBw)
                · rw [place_no (fun x hx e => hin (by rw [← e]; exact hx))] at h1
                  simp only [placeI] at h1
                  by_cases hin2 : ns[k] ∈ ns.take k
                  · obtain ⟨p, hp⟩ := place_mem9 hin2
                    rw [hp] at h2
                    have hE := fhid (hR2.out.trans (if_pos (hnot (List.mem_append_right _ hin2))))
                    simp only [placeI] at h2
                    have p0 : (p : Int) ≥ 0 := by omega
                    have p2 : (0 : Int) ≤ (p : Int) := by omega
                    clear hyes hnot hp
                    replace hin := fhid hin
                    replace hin2 := fhid hin2
                    generalize ns[k] = NM at *
                    generalize str NM = NS at *
                    go_upto_region 15 with fail
                    have cm1 := fun d os => Calls.regrown_of ((h1 _ (hB.trans ((below_regrown wr d os).mono hB.size))).mono fun e w' h => ⟨h.1, by rw [← h.2]; exact Below.refl _ _⟩)
                    have cm2 := fun d os => Calls.regrown_of ((h2 _ (hB.trans ((below_regrown wr d os).mono hB.size))).mono fun e w' h => ⟨h.1, by rw [← h.2]; exact Below.refl _ _⟩)
                    clear hcell zN2 h1 h2
                    refine wp_region_quiet_below (by kernel_rfl) (by kernel_rfl) ?_
                    repeat (first | go_big_quiet_step ((first | (with_reducible exact cm1 _ _) | (with_reducible exact cm2 _ _))) | quiet_step ((first | (with_reducible exact cm1 _ _) | (with_reducible exact cm2 _ _))))
                    refine wpQuiet_nil ?_
                    rintro w9 ⟨pq, rfl⟩
                    have b9 := hB.trans ((below_regrown wr pq.d pq.os).mono hB.size)
                    go_wp2_with fail
                    exact hbad.out 7 _ hE.out ((B3.trans (b9.mono B3.size)).mono hBw)
                  · rw [place_no (fun x hx e => hin2 (by rw [← e]; exact hx))] at h2
                    simp only [placeI] at h2
                    have hny := fhid (hyes (fun hm => (List.mem_append.1 hm).elim hin hin2))
                    have hltI := fhid hlt
                    clear hyes hnot
                    replace hin := fhid hin
                    replace hin2 := fhid hin2
                    generalize ns[k] = NM at *
                    generalize str NM = NS at *
                    go_upto_region 15 with fail
                    have cm1 := fun d os => Calls.regrown_of ((h1 _ (hB.trans ((below_regrown wr d os).mono hB.size))).mono fun e w' h => ⟨h.1, by rw [← h.2]; exact Below.refl _ _⟩)
                    have cm2 := fun d os => Calls.regrown_of ((h2 _ (hB.trans ((below_regrown wr d os).mono hB.size))).mono fun e w' h => ⟨h.1, by rw [← h.2]; exact Below.refl _ _⟩)
                    clear hcell zN2 h1 h2
                    refine wp_region_quiet_below (by kernel_rfl) (by kernel_rfl) ?_
                    repeat (first | go_big_quiet_step ((first | (with_reducible exact cm1 _ _) | (with_reducible exact cm2 _ _))) | quiet_step ((first | (with_reducible exact cm1 _ _) | (with_reducible exact cm2 _ _))))
                    refine wpQuiet_nil ?_
                    rintro w9 ⟨pq, rfl⟩
                    have b9 := hB.trans ((below_regrown wr pq.d pq.os).mono hB.size)
                    go_wp2_with fail
                    go_roundw
                    case rel => exact ⟨k + 1, hltI.out, by go_num, hny, b9⟩
                    case measure => have := hltI.out; simp [intOf]; omega
              · obtain rfl : k = ns.length := by omega
                rw [List.take_of_length_le (Nat.le_refl _)] at hN
                have hR3 := fhid (hR2.out.trans (if_neg (by simpa using hN.out)))
                obtain ⟨w4, rfl⟩ : ∃ w4 : World, w4 = wr := ⟨_, rfl⟩
                have B4 := B3.trans (hB.mono B3.size)
                have D4 := D3.out.below hB
                have X4 := Box.below X3.out hB (Box.lt X3.out)
                have N4 := strs_below N3.out hB hB.size
                have z4 := D4.fields
                have zN4 := z4.1.1
                have zl4 := z4.2.2
                have gl := hg.out.nl
                have ngI : (c.names.length : Int) ≤ 256 := by omega
                have gv := hg.out.vl
                have hap : ∀ g o, AX = some ⟨g, o, none⟩ → (Value.slice AN c.names.length cN).ownBlock ≠ some g := by
                  intro g o e1 e2
                  have q1 := World.ownsRow.lt h.out.nm g e2
                  have q2 := ge1.out g (by rw [e1]; rfl)
                  omega
                have hapv : ∀ g o, AX = some ⟨g, o, none⟩ → (Value.slice AV c.vecs.length cV).ownBlock ≠ some g := by
                  intro g o e1 e2
                  have q1 := World.ownsRow.lt h.out.vc g e2
                  have q2 := ge1.out g (by rw [e1]; rfl)
                  omega
                have hgeX : ∀ g o, AX = some ⟨g, o, none⟩ → g ≠ b := by
                  intro g o e1
                  have q2 := ge1.out g (by rw [e1]; rfl)
                  omega
                have hav : (Value.slice AV c.vecs.length cV).ownBlock ≠ some bv := by
                  intro e2
                  have q1 := World.ownsRow.lt h.out.vc bv e2
                  omega
                clear hat1 hat2 hN i0 z4
                by_cases h256 : 256 < c.names.length + ns.length
                · have hE := fhid (hR3.out.trans (if_pos h256))
                  have j1 : ((c.names.length : Int) + ns.length) > 256 := by omega
                  replace D4 := fhid D4
                  replace X4 := fhid X4
                  replace N4 := fhid N4
                  replace gv := fhid gv
                  go_wp2_with fail
                  exact hbad.out 5 _ hE.out (B4.mono hBw)
                · have hE := fhid (hR3.out.trans (if_neg h256))
                  have j1 : ¬ ((c.names.length : Int) + ns.length) > 256 := by omega
                  have j2 : ¬ (256 : Int) < ((c.names.length : Int) + ns.length) := by omega
                  have hst := fhid (show NI B b c ns (q0, q1, q2) AX bv (.slice AP c.parts.length cP) (.slice AQ c.qos.length cQ) w 0 w4 AN cN AV cV from
                    ⟨by simpa using D4, N4, hap, X4, hav, hapv, B4.mono hBw⟩)
                  have hbv : b ≠ bv := by omega
                  clear D4 X4 N4 hap hav hapv
                  replace gv := fhid gv
                  replace hgeX := fhid hgeX
                  have hW4 := B4.size
                  go_wp2_with fail
                  clear zN4 zl4
                  go_loopw [11] (fun i wr => ∃ (k : Nat) (AN' : Option Addr) (cN' : Nat) (AV' : Option Addr) (cV' : Nat), k ≤ ns.length ∧ i = .int .i64 k ∧ NI B b c ns (q0, q1, q2) AX bv (.slice AP c.parts.length cP) (.slice AQ c.qos.length cQ) w k wr AN' cN' AV' cV') (fun i _ => ns.length - (intOf i).toNat)
                  case atStart => exact ⟨0, AN, cN, AV, cV, Nat.zero_le _, rfl, hst.out⟩
                  case round =>
                    obtain ⟨k, AN', cN', AV', cV', hk, rfl, hI⟩ := hrel
                    have i0 : (0 : Int) ≤ k := by omega
                    by_cases hlt : k < ns.length
                    · have i1 : (k : Int) < ns.length := by omega
                      obtain ⟨nb, no, hAX, hnb, hc⟩ := Strs.at_ hI.nm hlt
                      have hvl256 : c.vecs.length ≤ 256 := by have := gv.out; omega
                      have hln : (c.names ++ ns.take k).length = c.names.length + k := by rw [List.length_append, List.length_take, Nat.min_eq_left hk]
                      have hlv : (c.vecs ++ List.replicate k ((q0, q1, q2) : V3)).length = c.vecs.length + k := by rw [List.length_append, List.length_replicate]
                      have htk : (c.names ++ ns.take k) ++ [ns[k]] = c.names ++ ns.take (k + 1) := by rw [List.take_succ_eq_append_getElem hlt, List.append_assoc]
                      have hrk : (c.vecs ++ List.replicate k ((q0, q1, q2) : V3)) ++ [(q0, q1, q2)] = c.vecs ++ List.replicate (k + 1) ((q0, q1, q2) : V3) := by rw [List.replicate_succ', List.append_assoc]
                      have hBr : B ≤ wr.heap.size := Nat.le_trans hBw hI.bl.size
                      have zN : wr.cell? ⟨b, 0, none⟩ = some (.slice AN' (c.names.length + k) cN') := hI.doc.fields.1.1
                      have bl5 := hI.doc.lt
                      have bAl : Below wr.heap.size wr ((wr.alloc (.cells #[.string (str ns[k])] 9)).drew) := ((Below.refl _ _).alloc (Nat.le_refl _) _).drew
                      obtain ⟨AN2, cN2, w6, hap6, hO6, hg6, ho6⟩ := app_one (W := (wr.alloc (.cells #[.string (str ns[k])] 9)).drew) (hI.doc.nm.alloc _) (by omega) (Nat.le_trans hBr (by simp)) wr.heap.size ns[k] (Box.new wr 9 [.string (str ns[k])]) TStrs
                      rw [hln] at hap6 hO6 ho6
                      rw [htk] at hO6
                      have D6 := hI.doc.below bAl
                      have N6 := strs_below hI.nm bAl bAl.size
                      have X6 := Box.below hI.vx bAl (Box.lt hI.vx)
                      have hz6 : ((wr.alloc (.cells #[.string (str ns[k])] 9)).drew).heap.size = wr.heap.size + 1 := by simp
                      have x6 := Box.grown D6.box hg6 (own_tag D6.nm D6.box (by decide))
                      have z6 : w6.cell? ⟨b, 0, none⟩ = some (.slice AN' (c.names.length + k) cN') := Box.cell x6 0
                      have y6 : w6.frozen? ⟨b, 0, none⟩ = false := Box.free x6 0
                      have bl6 := Box.lt x6
                      have D8 := D6.rowN hg6 hO6
                      have X8 : Box (w6.setCell ⟨b, 0, none⟩ (.slice AN2 (c.names.length + k + 1) cN2)) bv TVec [.int .i64 q0, .int .i64 q1, .int .i64 q2] := Box.other (Box.grown X6 hg6 (own_tag D6.nm X6 (by decide))) (a := ⟨b, 0, none⟩) (fun e => hbv e.symm) _
                      have N8 := strs_set (b := b) (i := 0) (v := .slice AN2 (c.names.length + k + 1) cN2) (strs_grown N6 hg6 (fun g o e e2 => hI.ap g o e e2)) hgeX.out
                      have B8 : Below B w (w6.setCell ⟨b, 0, none⟩ (.slice AN2 (c.names.length + k + 1) cN2)) := ((hI.bl.trans (bAl.mono hBr)).grown hg6 (by rw [hz6]; omega) (fun q hq => ownsRow_ge D6.nm q hq)).setCell (p := ⟨b, 0, none⟩) D6.bb _
                      have ap8 : ∀ g o, AX = some ⟨g, o, none⟩ → (Value.slice AN2 (c.names.length + (k + 1)) cN2).ownBlock ≠ some g := by
                        intro g o e1 e2
                        have e3 : g = nb := by rw [hAX] at e1; injection e1 with e1; injection e1 with e1 _; exact e1.symm
                        rcases ho6 with q | q
                        · exact hI.ap g o e1 (q.symm.trans e2)
                        · have := q.symm.trans e2
                          injection this with this
                          omega
                      have hs8 : wr.heap.size + 1 ≤ (w6.setCell ⟨b, 0, none⟩ (.slice AN2 (c.names.length + k + 1) cN2)).heap.size := by rw [World.size_setCell]; have := hg6.size; omega
                      have av8 := hI.av
                      have apv8 := hI.apv
                      have hvl8 := Box.lt hI.vx
                      have hltI := fhid hlt
                      clear hI ho6 hg6 hO6 N6 X6 bAl
                      generalize hNS : str ns[k] = NS at *
                      replace hNS := fhid hNS
                      replace D8 := fhid D8
                      replace X8 := fhid X8
                      replace N8 := fhid N8
                      replace B8 := fhid B8
                      replace D6 := fhid D6
                      replace x6 := fhid x6
                      replace ap8 := fhid ap8
                      replace av8 := fhid av8
                      replace apv8 := fhid apv8
                      replace hap6 := fhid hap6
                      replace hln := fhid hln
                      replace hlv := fhid hlv
                      replace htk := fhid htk
                      replace hrk := fhid hrk
                      replace hz6 := fhid hz6
                      subst hAX
                      go_upto_region 22 with fail
                      go_region_law (refine step_app TStrs rfl (.tmp 94) (.tmp 99) rfl (.slice AN' (c.names.length + k) cN') (.slice (some ⟨wr.heap.size, 0, none⟩) 1 1) (by simp [Act.eval]) (by simp [Act.eval]) (.slice AN2 (c.names.length + k + 1) cN2) w6 hap6.out ?_)
                      all_goals
                        go_upto_region 23 with fail
                        generalize w6.setCell _ _ = w8 at *
                        have f8 := D8.out.fields
                        have zV : w8.cell? ⟨b, 1, none⟩ = some (.slice AV' (c.vecs.length + k) cV') := f8.1.2.1
                        have bl8 := f8.2.2
                        clear f8
                        obtain ⟨k0, k1, k2⟩ : w8.cell? ⟨bv, 0, none⟩ = some (.int .i64 q0) ∧ w8.cell? ⟨bv, 1, none⟩ = some (.int .i64 q1) ∧ w8.cell? ⟨bv, 2, none⟩ = some (.int .i64 q2) := ⟨Box.cell X8.out 0, Box.cell X8.out 1, Box.cell X8.out 2⟩
                        have hvl8' := Box.lt X8.out
                        have hB8 : B ≤ w8.heap.size := Nat.le_trans hBw B8.out.size
                        have bAl8 : Below w8.heap.size w8 ((w8.alloc (.cells #[.int .i64 q0, .int .i64 q1, .int .i64 q2] TVec)).drew) := ((Below.refl _ _).alloc (Nat.le_refl _) _).drew
                        have hz8 : ((w8.alloc (.cells #[.int .i64 q0, .int .i64 q1, .int .i64 q2] TVec)).drew).heap.size = w8.heap.size + 1 := by simp
                        have hlv' := hlv.out
                        obtain ⟨AV2, cV2, w10, hap10, hO10, hg10, ho10⟩ := app_vec1 (W := (w8.alloc (.cells #[.int .i64 q0, .int .i64 q1, .int .i64 q2] TVec)).drew) (D8.out.vc.alloc _) (by omega) (by rw [hz8]; omega) w8.heap.size (q0, q1, q2) (Box.new w8 TVec [.int .i64 q0, .int .i64 q1, .int .i64 q2]) TVecs2
                        rw [hlv'] at hap10 hO10 ho10
                        rw [hrk.out] at hO10
                        have D10 := D8.out.below bAl8
                        have N10 := strs_below N8.out bAl8 bAl8.size
                        have X10 := Box.below X8.out bAl8 hvl8'
                        have x10 := Box.grown D10.box hg10 (own_tag D10.vc D10.box (by decide))
                        have z10 : w10.cell? ⟨b, 1, none⟩ = some (.slice AV' (c.vecs.length + k) cV') := Box.cell x10 1
                        have y10 : w10.frozen? ⟨b, 1, none⟩ = false := Box.free x10 1
                        have bl10 := Box.lt x10
                        have hnx := fhid (show NI B b c ns (q0, q1, q2) (some ⟨nb, no, none⟩) bv (.slice AP c.parts.length cP) (.slice AQ c.qos.length cQ) w (k + 1) (w10.setCell ⟨b, 1, none⟩ (.slice AV2 (c.vecs.length + k + 1) cV2)) AN2 cN2 AV2 cV2 from
                          ⟨D10.rowV hg10 hO10, strs_set (b := b) (i := 1) (v := .slice AV2 (c.vecs.length + k + 1) cV2) (strs_grown N10 hg10 (fun g o e e2 => apv8.out g o e e2)) hgeX.out, ap8.out,
                            Box.other (Box.grown X10 hg10 (fun e => av8.out e.symm)) (a := ⟨b, 1, none⟩) (fun e => hbv e.symm) _,
                            by
                              intro e2
                              rcases ho10 with q | q
                              · exact av8.out (q.symm.trans e2)
                              · have := q.symm.trans e2
                                injection this with this
                                omega,
                            by
                              intro g o e1 e2
                              have e3 : g = nb := by injection e1 with e1; injection e1 with e1 _; exact e1.symm
                              rcases ho10 with q | q
                              · exact apv8.out g o e1 (q.symm.trans e2)
                              · have := q.symm.trans e2
                                injection this with this
                                omega,
                            ((B8.out.trans (bAl8.mono hB8)).grown hg10 (by rw [hz8]; omega) (fun q hq => ownsRow_ge D10.vc q hq)).setCell (p := ⟨b, 1, none⟩) D10.bb _⟩)
                        clear hg10 hO10 ho10 N10 X10 bAl8 hlv'
                        replace D10 := fhid D10
                        replace x10 := fhid x10
                        replace hz8 := fhid hz8
                        replace hap10 := fhid hap10
                        go_region_law (refine step_app TVecs2 rfl (.tmp 107) (.tmp 109) rfl (.slice AV' (c.vecs.length + k) cV') (.slice (some ⟨w8.heap.size, 0, none⟩) 1 1) (by simp [Act.eval]) (by simp [Act.eval]) (.slice AV2 (c.vecs.length + k + 1) cV2) w10 hap10.out ?_)
                        all_goals
                          go_wp2_with fail
                          go_roundw
                          case rel => exact ⟨k + 1, AN2, cN2, AV2, cV2, hltI.out, by go_num, hnx.out⟩
                          case measure => have := hltI.out; simp [intOf]; omega
                    · obtain rfl : k = ns.length := by omega
                      have i1 : ¬ (ns.length : Int) < ns.length := by omega
                      have hDD := hI.doc
                      rw [List.take_of_length_le (Nat.le_refl _)] at hDD
                      have hend := fhid (hokk.out _ _ hE.out hI.bl _ _ _ _ hDD)
                      clear hI hDD
                      go_wp2_with fail
                      exact hend.out
      · have hE := fhid (hR.out.trans (if_pos (.inr hp)))
        have j1 : (pe != 0) = true := by simpa using hp
        have j2 : ¬ pe = 0 := hp
        go_wp2_with fail
        exact hbad.out 3 _ hE.out (B3.mono hBw)
    · have hE := fhid (hR.out.trans (if_pos (.inl h1)))
      have hexn : ∀ W, Calls Tryz.prog 117 #[.string LS] W fun e w' => ∃ ev av : Int, ev ≠ 0 ∧ e = .returned (.tuple #[.slice none 0 0, .agg #[.int .i64 ev, .int .i64 av]]) ∧ Below W.heap.size W w' := fun W => (hex W).mono fun e w' h => by
        rcases h with ⟨h, _⟩ | ⟨_, h⟩
        · exact absurd h h1
        · exact h
      clear hex
      go_enter Tryz.func90, Tryz.ntmps90
      go_upto_region 5 with (first
        | (go_at_call 117; (with_reducible refine (hexn _).mono ?_); rintro e w1 ⟨ev, av, hev, rfl, b1⟩
           have e1 := (b1.cell (p := ⟨bb, oo + 2, none⟩) hbb).trans d1
           have hbb1 := Nat.lt_of_lt_of_le hbb b1.size
           have F1 := Box.new w1 77 [.int .i64 ev, .int .i64 av]
           have B1 := b1.trans (((Below.refl w1.heap.size w1).alloc (Nat.le_refl _) (.cells #[.int .i64 ev, .int .i64 av] 77)).mono b1.size))
        | (go_at_call 118; (with_reducible refine (hpa _).mono ?_); rintro e w2 ⟨rfl, b2⟩))
      have bV := (Below.refl w2.heap.size w2).alloc (Nat.le_refl _) (.cells #[.int .i64 q0, .int .i64 q1, .int .i64 q2] TVec)
      have F2 := Box.below F1 b2 (Box.lt F1)
      have F3 := Box.below F2 bV (Box.lt F2)
      have B2 := B1.trans (b2.mono B1.size)
      have B3 := B2.trans (bV.mono B2.size)
      generalize w1.heap.size = bf at *
      generalize w2.alloc _ = w3 at *
      clear F1 F2 b2 bV B1 B2 b1 e1 hbb1 d0 d1 hpa
      have f0 : w3.cell? ⟨bf, 0, none⟩ = some (.int .i64 ev) := Box.cell F3 0
      have fl := Box.lt F3
      have j1 : (ev != 0) = true := by simpa using hev
      have j2 : ¬ ev = 0 := hev
      go_wp2_with fail
      exact hbad.out 3 _ hE.out (B3.mono hBw)
  · have hE := fhid (nodeP_len (c := c) h2)
    have i2 : (((k0 :: os).length : Int) != 3) = true := by simp; omega
    have i3 : ¬ ((k0 :: os).length : Int) = 3 := by simp; omega
    generalize (k0 :: os).length = N at *
    generalize nodeP c os = R at *
    generalize LineD B b R w = P at *
    replace h := fhid h
    replace hg := fhid hg
    go_enter Tryz.func90, Tryz.ntmps90
    go_wp2_with fail
    exact hbad.out 3 _ hE.out (Below.refl _ _)
end Go.Proofs.YtmnmcikbbfcjcaaGreatDoor
