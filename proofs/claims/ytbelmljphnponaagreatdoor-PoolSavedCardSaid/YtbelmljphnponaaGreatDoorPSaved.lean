/-
  PROVED: PoolSaved: what was saved and loaded is the same, and goes on as what was not, for every config and two scripts.
  Conditions: the library's tables read as the program's text lays them (the card ties them); nothing else.
-/
import Derived.Test.YtbelmljphnponaaGreatDoorPRefused
import Derived.Test.YtbelmljphnponaaGreatDoorZ4
import Derived.Test.YtbelmljphnponaaGreatDoorZ3
set_option linter.unusedSimpArgs false
set_option linter.unusedVariables false
/-
  A pool loaded from its own bytes; two pools side by side.
-/
namespace Go.Proofs.YtbelmljphnponaaGreatDoor.Ps
open Go.RowKit Go.Shelf Vs Ns

/-- A region's walk under a stronger condition is one under the weaker. -/
theorem wpAnyH_strong {P : Program} {md : Region.Mode} {ops : Array Oper} {Q : Exit → Act → World → Prop} {S T : World → Prop} (hST : ∀ w, T w → S w) : ∀ (fuel : Nat) (listed : Array Bool) (a : Act) (w : World), wpAnyH P md ops Q T fuel listed a w → wpAnyH P md ops Q S fuel listed a w
  | 0, _, _, _, h => h
  | fuel + 1, _, _, _, h => ⟨h.1, fun i hi => wpOp_mono (fun a' w' h' => ⟨hST _ h'.1, wpAnyH_strong hST fuel _ a' w' h'.2⟩) (h.2 i hi)⟩
theorem save_len {P : Pl} (hG : Good P) : (saveP P).length ≤ 7690 := by
  have hn0 := hG.n0
  have hn1 := hG.n1
  have hl := hG.l2
  have h1 := Cs.nb_ten P.now (by omega) (by omega)
  have h2 := flat_len (L := P.L) hn1 hG.ns
  unfold saveP
  rw [List.length_append]
  omega
/-- What a pool's own bytes are loaded to. -/
theorem load_own {c : Cfg} {P : Pl} (hP : Good P) (hl : P.L.length = (newP c).L.length) (hb : P.boot = (newP c).boot) (hs : P.stop = (newP c).stop) (hr : P.retry = (newP c).retry) (hN : (newP c).L.length = c.names.length) (hR : rightC c = true) {w w' : World} {e : Ending}
    (h : LoadPost w c (saveP P) e w') : ∃ q, e = .returned (.tuple #[.pointer (some ⟨q, 0, none⟩), .int .i64 0]) ∧ w.heap.size ≤ q ∧ PB w' q P ∧ Below w.heap.size w w' := by
  obtain ⟨k1, k2, k3⟩ := load_save hP
  rw [hl, hN] at k2 k3
  obtain ⟨h0, ⟨h1, _⟩ | ⟨_, h2, _⟩ | ⟨_, _, _, q, h3, h4, h5⟩⟩ := h
  · rw [hR] at h1; cases h1
  · rw [k3] at h2; exact absurd rfl h2
  · rw [k1, k2] at h5
    obtain ⟨L, now, bt, st, rt⟩ := P
    simp only at hb hs hr h5
    subst hb hs hr
    exact ⟨q, h3, h4, h5, h0⟩
/-- Two pools, one of them turned. -/
theorem two_fx {w w' : World} {p q : Nat} {P Q : Pl} (hq : PB w q Q) (hp : PB w p P) (hne : p ≠ q) (hf : FX (At3 p) w w') : PB w' q Q := by
  obtain ⟨cs, hb⟩ := hp.box
  exact hq.fx hf (Ne.symm hne) (.inl ⟨_, _, hb, by decide⟩)
end Go.Proofs.YtbelmljphnponaaGreatDoor.Ps
/-
  PoolSaved, walked.
-/
namespace Go.Proofs.YtbelmljphnponaaGreatDoor.Ps
open Go.RowKit Go.Shelf Vs Ns

set_option maxRecDepth 100000 in
set_option maxHeartbeats 32000000 in
theorem saved_walk (v : Value) (c : Cfg) (A : Option Addr) (l : List ActC) (cp : Nat) (A2 : Option Addr) (l2 : List ActC) (cp2 : Nat) (w : World) (hw : Env12 w) (hc : CR w v c) (hr : RdS w A l.length cp (AVs l)) (ok : ∀ a ∈ l, okA a) (hr2 : RdS w A2 l2.length cp2 (AVs l2)) (ok2 : ∀ a ∈ l2, okA a) :
    Calls Tryz.prog 5 #[v, .slice A l.length cp, .slice A2 l2.length cp2] w (BoolP w true) := by
  have hal := fun W (hb : Below w.heap.size w W) => alive_any W (hw.below hb)
  have hfar := fun W (hb : Below w.heap.size w W) => far_any v c W (hc.below hb)
  have hth := fun (hp : c.parts.length ≤ 60) (hq : c.qos.length ≤ 60) W (hb : Below w.heap.size w W) => theirs_any v c W (hc.below hb) hp hq
  have hno := fun v W (hb : Below w.heap.size w W) h hr => New_no v c W h (hw.below hb).env hr
  have hyes := fun v W (hb : Below w.heap.size w W) h hr => New_yes v c W h (hw.below hb).env hr
  have hlo := fun v A l cp W (hb : Below w.heap.size w W) h hs hl => Load_any v c A l cp W h (hw.below hb).env hs hl
  have hsh := fun W (hb : Below w.heap.size w W) => short_any A l cp W (hr.below hb)
  have hsh2 := fun W (hb : Below w.heap.size w W) => short_any A2 l2 cp2 W (hr2.below hb)
  have hgd := good_of hc
  have ok' : ∀ x ∈ shortL l, okA x := fun x hx => ok x (List.mem_of_mem_take hx)
  have ok2' : ∀ x ∈ shortL l2, okA x := fun x hx => ok2 x (List.mem_of_mem_take hx)
  unfold BoolP at hal hfar ⊢
  unfold ConfP at hth
  have hds := fun p W a (oka : okA a) (hb : Below w.heap.size w W) P (hP : PB W p P) (hg : Good P) => Does_any p P a W hP hg (hw.below hb).tab (hw.below hb).bit oka
  have hsv := fun p W P (hP : PB W p P) (hg : Good P) => Save_any p P W hP hg
  unfold SavePost at hsv
  obtain ⟨AN, cN, AV, cV, AP, cP, AQ, cQ, a0, a1, a2, a3, a4, a5, a6, a7, rfl, ev, -, -, -, -⟩ := hc
  clear ev
  have q0 := Box.new w TRConf [.slice AN c.names.length cN, .slice AV c.vecs.length cV, .slice AP c.parts.length cP, .slice AQ c.qos.length cQ, .int .i64 a0, .int .i64 a1, .int .i64 a2, .int .i64 a3, .int .i64 a4, .int .i64 a5, .int .i64 a6, .int .i64 a7]
  have bA : Below w.heap.size w (w.alloc (.cells ([.slice AN c.names.length cN, .slice AV c.vecs.length cV, .slice AP c.parts.length cP, .slice AQ c.qos.length cQ, .int .i64 a0, .int .i64 a1, .int .i64 a2, .int .i64 a3, .int .i64 a4, .int .i64 a5, .int .i64 a6, .int .i64 a7] : List Value).toArray TRConf)) := (Below.refl _ _).alloc (Nat.le_refl _) _
  have hz : (w.alloc (.cells ([.slice AN c.names.length cN, .slice AV c.vecs.length cV, .slice AP c.parts.length cP, .slice AQ c.qos.length cQ, .int .i64 a0, .int .i64 a1, .int .i64 a2, .int .i64 a3, .int .i64 a4, .int .i64 a5, .int .i64 a6, .int .i64 a7] : List Value).toArray TRConf)).heap.size = w.heap.size + 1 := World.size_alloc _ _
  have hw0 := fhid hw
  have hSR := short_rds hr
  have hSR2 := short_rds hr2
  have hL200 : (shortL l).length ≤ 200 := by unfold shortL; rw [List.length_take]; omega
  have hL2200 : (shortL l2).length ≤ 200 := by unfold shortL; rw [List.length_take]; omega
  clear hr hr2
  cases hF : farP c with
  | true =>
    rw [hF] at hfar
    clear hth hno hyes hsh hds hsv hgd hF hsh2 hlo
    go_enter Tryz.func5, Tryz.ntmps5
    go_upto_region 1 with fail
    generalize w.alloc _ = w1 at *
    obtain ⟨c0, c1, c2, c3, c4, c5, c6, c7, c8, c9, c10, c11⟩ := Box.twelve q0
    have xl := Box.lt q0
    replace q0 := fhid q0
    go_wp2_with (first
      | (go_at_call 8; (with_reducible refine (hfar _ bA).mono ?_); rintro e w2 ⟨rfl, b2⟩; have B2 := bA.trans (b2.mono bA.size))
      | (go_at_call 9; (with_reducible refine (hal _ B2).mono ?_); rintro e w3 ⟨rfl, b3⟩))
    go_ret
    exact ⟨rfl, B2.trans (b3.mono B2.size)⟩
  | false =>
    rw [hF] at hfar
    obtain ⟨_, _, hp60, hq60⟩ := far_small hF
    have hth := hth hp60 hq60
    clear hp60 hq60 hF
    cases hR : rightC c with
    | false =>
      have hno := fun v W hb h => hno v W hb h hR
      clear hyes hsh hds hsv hgd hR hsh2 hlo
      go_enter Tryz.func5, Tryz.ntmps5
      go_upto_region 1 with fail
      generalize w.alloc _ = w1 at *
      obtain ⟨c0, c1, c2, c3, c4, c5, c6, c7, c8, c9, c10, c11⟩ := Box.twelve q0
      have xl := Box.lt q0
      replace q0 := fhid q0
      go_wp2_with (first
        | (go_at_call 8; (with_reducible refine (hfar _ bA).mono ?_); rintro e w2 ⟨rfl, b2⟩; have B2 := bA.trans (b2.mono bA.size)
           clear c0 c1 c2 c3 c4 c5 c6 c7 c8 c9 c10 c11
           obtain ⟨c0, c1, c2, c3, c4, c5, c6, c7, c8, c9, c10, c11⟩ := Box.twelve (Box.below q0.out b2 xl)
           have xl := Nat.lt_of_lt_of_le xl b2.size)
        | (go_at_call 11; (with_reducible refine (hth _ B2).mono ?_); rintro e w3 ⟨v3, rfl, hcr3, b3⟩; have B3 := B2.trans (b3.mono B2.size))
        | (go_at_call 10; (with_reducible refine (hno _ _ B3 hcr3).mono ?_); rintro e w4 ⟨rfl, b4⟩; have B4 := B3.trans (b4.mono B3.size))
        | (go_at_call 9; (with_reducible refine (hal _ B4).mono ?_); rintro e w5 ⟨rfl, b5⟩))
      go_ret
      exact ⟨rfl, B4.trans (b5.mono B4.size)⟩
    | true =>
      have hyes := fun v W hb h => hyes v W hb h hR
      have hG := hgd hR
      clear hno hgd
      go_enter Tryz.func5, Tryz.ntmps5
      go_upto_region 1 with fail
      generalize w.alloc _ = w1 at *
      obtain ⟨c0, c1, c2, c3, c4, c5, c6, c7, c8, c9, c10, c11⟩ := Box.twelve q0
      have xl := Box.lt q0
      replace q0 := fhid q0
      go_upto_region 6 with (first
        | (go_at_call 8; (with_reducible refine (hfar _ bA).mono ?_); rintro e w2 ⟨rfl, b2⟩; have B2 := bA.trans (b2.mono bA.size)
           clear c0 c1 c2 c3 c4 c5 c6 c7 c8 c9 c10 c11
           obtain ⟨c0, c1, c2, c3, c4, c5, c6, c7, c8, c9, c10, c11⟩ := Box.twelve (Box.below q0.out b2 xl)
           have xl := Nat.lt_of_lt_of_le xl b2.size)
        | (go_at_call 11; (with_reducible refine (hth _ B2).mono ?_); rintro e w3 ⟨v3, rfl, hcr3, b3⟩; have B3 := B2.trans (b3.mono B2.size))
        | (go_at_call 10; (with_reducible refine (hyes _ _ B3 hcr3).mono ?_); rintro e w4 ⟨p, rfl, hp4, b4⟩; have B4 := B3.trans (b4.mono B3.size)))
      have hwp := Nat.le_trans B3.size hp4.1
      have P4 := hp4.pb
      have hne : ¬ At3 p w.heap.size := fun hj => by
        have hj : w.heap.size = p := hj
        have := hp4.1; have := b2.size; have := b3.size; omega
      have T1 := (b2.trans (b3.mono b2.size)).trans (b4.mono (Nat.le_trans b2.size b3.size))
      have X4 := Box.below q0.out T1 (Box.lt q0.out)
      clear c0 c1 c2 c3 c4 c5 c6 c7 c8 c9 c10 c11 hfar hyes hp4 hcr3 xl
      replace P4 := fhid P4
      replace X4 := fhid X4
      go_wp2_with (go_at_call 12; (with_reducible refine (hsh _ B4).mono ?_); rintro e w5 ⟨c5, rfl, r5, rfl⟩)
      have hstep := fun W k hk hb hP => script_step (p := p) (P0 := newP c) (L := shortL l) (W := W) hw hwp hG ok' k hk hb hP
      have hgG := play_good hG (shortL l)
      clear r5 hsh b2 b3 b4 T1 B2 B3
      generalize shortL l = L at *
      replace hstep := fhid hstep
      replace hSR := fhid hSR
      go_loopw [39] (fun i wr => ∃ k : Nat, k ≤ L.length ∧ i = .int .i64 (k : Nat) ∧ PB wr p (playP (newP c) (L.take k)) ∧ Below w.heap.size w wr ∧ Box wr w.heap.size TRConf [.slice AN c.names.length cN, .slice AV c.vecs.length cV, .slice AP c.parts.length cP, .slice AQ c.qos.length cQ, .int .i64 a0, .int .i64 a1, .int .i64 a2, .int .i64 a3, .int .i64 a4, .int .i64 a5, .int .i64 a6, .int .i64 a7]) (fun i _ => L.length - (intOf i).toNat)
      case atStart => exact ⟨0, Nat.zero_le _, rfl, P4.out, B4, X4.out⟩
      case round =>
        obtain ⟨k, hk, rfl, hPk, hB, hX⟩ := hrel
        have k0 : (0 : Int) ≤ k := by omega
        by_cases hlt : k < L.length
        · have k1 : (k : Int) < L.length := by omega
          obtain ⟨b, o, rfl, hb, d0, d1, d2, d3, d4, d5, d6⟩ := RdS.act (hSR.out.below hB) hlt
          have hst := fun W hb hP => hstep.out W k hlt hb hP
          unfold actV at hst
          generalize hak : L[k] = ak at *
          obtain ⟨z0, z1, z2, zq⟩ := ak
          simp only at d0 d1 d2 d3 d4 d5 d6 hst
          generalize (Bs.word zq 0 : Int) = u0 at *
          generalize (Bs.word zq 1 : Int) = u1 at *
          generalize (Bs.word zq 2 : Int) = u2 at *
          generalize (Bs.word zq 3 : Int) = u3 at *
          clear hak
          replace hst := fhid hst
          go_upto_region 9 with fail
          have m1 := (Below.refl wr.heap.size wr).alloc (Nat.le_refl _) (.cells #[.int .u8 z0, .int .i64 z1, .int .i64 z2, .int .u64 u0, .int .u64 u1, .int .u64 u2, .int .u64 u3] TAct)
          have Y1 := Box.new wr TAct [.int .u8 z0, .int .i64 z1, .int .i64 z2, .int .u64 u0, .int .u64 u1, .int .u64 u2, .int .u64 u3]
          have P1 := hPk.below m1
          have X1 := Box.below hX m1 (Box.lt hX)
          have B1 := hB.trans (m1.mono hB.size)
          clear d0 d1 d2 d3 d4 d5 d6 hPk hX m1 hb
          generalize wr.alloc _ = W1 at *
          generalize wr.heap.size = bb at *
          obtain ⟨d0, d1, d2, d3, d4, d5, d6, xl⟩ := seven Y1
          clear Y1
          replace P1 := fhid P1
          replace X1 := fhid X1
          go_wp2_with (go_at_call 13; (with_reducible refine (hst.out _ B1 P1.out).mono ?_); rintro e w6 ⟨⟨s, er, rfl⟩, P6, f6, B6⟩)
          go_roundw
          case rel => exact ⟨k + 1, by omega, by go_num, P6, B6, f6.box X1.out hne⟩
          case measure => simp [intOf]; omega
        · have k2 : k = L.length := by omega
          subst k2
          rw [List.take_length] at hPk
          have k1 : ¬ (L.length : Int) < L.length := by omega
          clear hstep hSR hlt hk
          obtain ⟨hG2, hl2, hb2, hs2, ht2⟩ := hgG
          generalize playP (newP c) L = P1 at *
          have hs1 := hsv p wr P1 hPk hG2
          have hN : (newP c).L.length = c.names.length := by unfold newP; simp
          have hld := fun (W W' : World) (e : Ending) h => load_own (w := W) (w' := W') (e := e) hG2 hl2 hb2 hs2 ht2 hN hR h
          have hln := save_len hG2
          have hs0 := fun p W hP => hsv p W P1 hP hG2
          generalize saveP P1 = SB at *
          go_upto_region 12 with (go_at_call 20; (with_reducible refine hs1.mono ?_); rintro e w6 ⟨v6, rfl, o6, b6⟩)
          obtain ⟨A6, k6, rfl, _, _, s6⟩ := o6.shape
          have B6 := hB.trans (b6.mono hB.size)
          have P6 := hPk.below b6
          have X6 := Box.below hX b6 (Box.lt hX)
          obtain ⟨c0, c1, c2, c3, c4, c5, c6, c7, c8, c9, c10, c11⟩ := Box.twelve X6
          have xl := Box.lt X6
          clear hX X6 hPk hs1 hB b6 hl2 hb2 hs2 ht2 hN hR o6
          replace P6 := fhid P6
          replace s6 := fhid s6
          replace hld := fhid hld
          have hlo2 := fun v W hb h hs => hlo v A6 SB k6 W hb h hs (by omega)
          clear hlo
          go_upto_region 13 with (first
            | (go_at_call 11; (with_reducible refine (hth _ B6).mono ?_); rintro e w7 ⟨v7, rfl, hcr7, b7⟩; have B7 := B6.trans (b7.mono B6.size))
            | (go_at_call 21; (with_reducible refine (hlo2 _ _ B7 hcr7 ((s6.out.below b7).more b7.size)).mono ?_); rintro e w8 hpo; obtain ⟨q, rfl, hq, Q8, b8⟩ := hld.out _ _ _ hpo))
          have B8 := B7.trans (b8.mono B7.size)
          have P8 := (P6.out.below b7).below (b8.mono (Nat.le_refl _))
          have s8 := ((s6.out.below b7).below (b8.mono b7.size)).more (Nat.le_trans b7.size b8.size)
          have hwq : w.heap.size ≤ q := by have := B6.size; have := b7.size; omega
          have hpq : p ≠ q := by have := P6.out.lt; have := b7.size; omega
          have hcv := fhid (fun w9 B A9 k9 s9 => Cs.conv_seg w9 B A9 SB k9 s9)
          have hsq := fhid (fun W hP => hs0 q W hP)
          clear hs0
          clear c0 c1 c2 c3 c4 c5 c6 c7 c8 c9 c10 c11 xl hlo2 hth hld b7 b8 hcr7 hln
          go_cut [69] (fun s69 wx => s69 = .bool false ∧ PB wx p P1 ∧ PB wx q P1 ∧ Below w.heap.size w wx)
          case first =>
            have tt := (Below.refl w8.heap.size w8).drew
            have r6 := hcv.out w8.drew _ A6 k6 (s8.below tt)
            have hqq : ((Cs.str SB).toList == (Cs.str SB).toList) = true := by simp
            generalize Cs.str SB = ST at *
            replace s8 := fhid s8
            replace P8 := fhid P8
            replace Q8 := fhid Q8
            refine wp_region_noPanic ?_
            refine wp_region_held_drew (S := (fun W => (convert 55 9 (.slice A6 SB.length k6)).run Tryz.prog W = .ok (.string ST) W)) (by kernel_rfl) r6 (fun hHeld => ?_)
            refine wpAnyH_take (i := 0) (v := ?_) (by (rw [List.getElem?_toArray]; exact rfl)) (by kernel_rfl) (by kernel_rfl) (by kernel_rfl) (fun _ _ _ h => h) (Or.inl ⟨by rfl, ?_⟩) (by assumption) ?_
            rotate_left
            · (intro W hSw; (try dsimp only at hSw); go_simp <;> with_reducible rfl)
            try simp only [Act.put, List.setIfInBounds_toArray, List.set_cons_zero, List.set_cons_succ]
            refine wpAnyH_take (i := 1) (v := ?_) (by (rw [List.getElem?_toArray]; exact rfl)) (by kernel_rfl) (by kernel_rfl) (by kernel_rfl) (fun _ _ _ h => h) (Or.inl ⟨by rfl, ?_⟩) (by assumption) ?_
            rotate_left
            · (intro W hSw; (try dsimp only at hSw); go_simp <;> with_reducible rfl)
            try simp only [Act.put, List.setIfInBounds_toArray, List.set_cons_zero, List.set_cons_succ]
            refine wpAnyH_take (i := 2) (v := ?_) (by (rw [List.getElem?_toArray]; exact rfl)) (by kernel_rfl) (by kernel_rfl) (by kernel_rfl) (fun _ _ _ h => h) (Or.inl ⟨by rfl, ?_⟩) (by assumption) ?_
            rotate_left
            · (intro W hSw; (try dsimp only at hSw); go_simp <;> with_reducible rfl)
            try simp only [Act.put, List.setIfInBounds_toArray, List.set_cons_zero, List.set_cons_succ]
            refine wpAnyH_take (i := 3) (v := ?_) (by (rw [List.getElem?_toArray]; exact rfl)) (by kernel_rfl) (by kernel_rfl) (by kernel_rfl) (fun _ _ _ h => h) (Or.inl ⟨by rfl, ?_⟩) (by assumption) ?_
            rotate_left
            · (intro W hSw; (try dsimp only at hSw); go_simp <;> with_reducible rfl)
            try simp only [Act.put, List.setIfInBounds_toArray, List.set_cons_zero, List.set_cons_succ]
            refine wpAnyH_take (i := 4) (v := ?_) (by (rw [List.getElem?_toArray]; exact rfl)) (by kernel_rfl) (by kernel_rfl) (by kernel_rfl) (fun _ _ _ h => h) (Or.inl ⟨by rfl, ?_⟩) (by assumption) ?_
            rotate_left
            · (intro W hSw; (try dsimp only at hSw); go_simp <;> with_reducible rfl)
            try simp only [Act.put, List.setIfInBounds_toArray, List.set_cons_zero, List.set_cons_succ]
            refine wpAnyH_take (i := 5) (v := ?_) (by (rw [List.getElem?_toArray]; exact rfl)) (by kernel_rfl) (by kernel_rfl) (by kernel_rfl) (fun _ _ _ h => h) (Or.inl ⟨by rfl, ?_⟩) (by assumption) ?_
            rotate_left
            · (intro W hSw; (try dsimp only at hSw); go_simp <;> with_reducible rfl)
            try simp only [Act.put, List.setIfInBounds_toArray, List.set_cons_zero, List.set_cons_succ]
            refine wpAnyH_take (i := 6) (v := ?_) (by (rw [List.getElem?_toArray]; exact rfl)) (by kernel_rfl) (by kernel_rfl) (by kernel_rfl) (fun _ _ _ h => h) (Or.inl ⟨by rfl, ?_⟩) (by assumption) ?_
            rotate_left
            · (intro W hSw; (try dsimp only at hSw); go_simp <;> with_reducible rfl)
            try simp only [Act.put, List.setIfInBounds_toArray, List.set_cons_zero, List.set_cons_succ]
            refine wpAnyH_take (i := 7) (v := ?_) (by (rw [List.getElem?_toArray]; exact rfl)) (by kernel_rfl) (by kernel_rfl) (by kernel_rfl) (fun _ _ _ h => h) (Or.inl ⟨by rfl, ?_⟩) (by assumption) ?_
            rotate_left
            · (intro W hSw; (try dsimp only at hSw); go_simp <;> with_reducible rfl)
            try simp only [Act.put, List.setIfInBounds_toArray, List.set_cons_zero, List.set_cons_succ]
            refine wpAnyH_take (i := 10) (v := ?_) (by (rw [List.getElem?_toArray]; exact rfl)) (by kernel_rfl) (by kernel_rfl) (by kernel_rfl) (fun _ _ _ h => h) (Or.inl ⟨by rfl, ?_⟩) (by assumption) ?_
            rotate_left
            · (intro W hSw; (try dsimp only at hSw); go_simp <;> with_reducible rfl)
            try simp only [Act.put, List.setIfInBounds_toArray, List.set_cons_zero, List.set_cons_succ]
            refine wpAnyH_take (i := 11) (v := ?_) (by (rw [List.getElem?_toArray]; exact rfl)) (by kernel_rfl) (by kernel_rfl) (by kernel_rfl) (fun _ _ _ h => h) (Or.inl ⟨by rfl, ?_⟩) (by assumption) ?_
            rotate_left
            · (intro W hSw; (try dsimp only at hSw); go_simp <;> with_reducible rfl)
            try simp only [Act.put, List.setIfInBounds_toArray, List.set_cons_zero, List.set_cons_succ]
            refine wpAnyH_ready (rs := [8]) (by kernel_rfl) (by simp) (AllReadyH.cons (by (rw [List.getElem?_toArray]; exact rfl)) (fun K hK => ?_) AllReadyH.nil)
            go_simp
            go_at_call 20
            with_reducible refine (hsq.out _ (Q8.out.below tt)).mono ?_
            rintro e w9 ⟨v9, rfl, o9, b9⟩
            obtain ⟨A9, k9, rfl, _, _, s9⟩ := o9.shape
            have tt := tt.trans (b9.mono tt.size)
            have r9 := hcv.out w9 _ A9 k9 s9
            have r6 := hcv.out w9 _ A6 k6 (s8.out.below tt)
            go_simp
            refine hK.out _ _ r6 (fun hHeld => ?_)
            clear hK K
            try simp only [Act.put, List.setIfInBounds_toArray, List.set_cons_zero, List.set_cons_succ]
            refine wpAnyH_ready (rs := [9]) (by kernel_rfl) (by simp) (AllReadyH.cons (by (rw [List.getElem?_toArray]; exact rfl)) (fun K hK => ?_) AllReadyH.nil)
            go_simp
            refine hK.out _ _ r6 (fun hHeld => ?_)
            clear hK K
            try simp only [Act.put, List.setIfInBounds_toArray, List.set_cons_zero, List.set_cons_succ]
            refine wpAnyH_take (i := 12) (v := ?_) (by (rw [List.getElem?_toArray]; exact rfl)) (by kernel_rfl) (by kernel_rfl) (by kernel_rfl) (fun _ _ _ h => h) (Or.inl ⟨by rfl, ?_⟩) (by assumption) ?_
            rotate_left
            · (intro W hSw; (try dsimp only at hSw); go_simp <;> with_reducible rfl)
            try simp only [Act.put, List.setIfInBounds_toArray, List.set_cons_zero, List.set_cons_succ]
            refine wpAnyH_take (i := 13) (v := ?_) (by (rw [List.getElem?_toArray]; exact rfl)) (by kernel_rfl) (by kernel_rfl) (by kernel_rfl) (fun _ _ _ h => h) (Or.inl ⟨by rfl, ?_⟩) (by assumption) ?_
            rotate_left
            · (intro W hSw; (try dsimp only at hSw); go_simp <;> with_reducible rfl)
            try simp only [Act.put, List.setIfInBounds_toArray, List.set_cons_zero, List.set_cons_succ]
            refine wpAnyH_done (by kernel_rfl) ?_ _
            refine NoPanic.normal ?_
            go_wp2_with fail
            go_meet
            exact ⟨rfl, P8.out.below tt, Q8.out.below tt, B8.trans (tt.mono B8.size)⟩
          case rest =>
            obtain ⟨rfl, P9, Q9, B9⟩ := hcut
            clear P8 Q8 B8 s8 s6 P6
            replace P9 := fhid P9
            replace Q9 := fhid Q9
            go_wp2_with (go_at_call 12; (with_reducible refine (hsh2 _ B9).mono ?_); rintro e w5 ⟨c5, rfl, r5, rfl⟩)
            have hG9 := fhid hG2
            clear hsq hcv
            generalize shortL l2 = L2 at *
            replace hSR2 := fhid hSR2
            have hss := fun x0 x1 x2 x3 w => eq_same x0 x1 x2 x3 w
            replace hss := fhid hss
            go_loopw [73] (fun i wr => ∃ (k : Nat) (Pk : Pl), k ≤ L2.length ∧ i = .int .i64 (k : Nat) ∧ Good Pk ∧ PB wr p Pk ∧ PB wr q Pk ∧ Below w.heap.size w wr) (fun i _ => L2.length - (intOf i).toNat)
            case atStart => exact ⟨0, P1, Nat.zero_le _, rfl, hG2, P9.out, Q9.out, B9⟩
            case round =>
              obtain ⟨k, Pk, hk, rfl, hGk, hPp, hPq, hB⟩ := hrel
              have k0 : (0 : Int) ≤ k := by omega
              by_cases hlt : k < L2.length
              · have k1 : (k : Int) < L2.length := by omega
                obtain ⟨b, o, rfl, hb, d0, d1, d2, d3, d4, d5, d6⟩ := RdS.act (hSR2.out.below hB) hlt
                have hd := fun p W hb hP => hds p W L2[k] (ok2' _ (List.getElem_mem hlt)) hb Pk hP hGk
                have hGQ := (act_facts hGk L2[k]).1
                obtain ⟨⟨Q, s, er⟩, hR⟩ : ∃ x, actP Pk L2[k] = x := ⟨_, rfl⟩
                rw [hR] at hd hGQ
                unfold TickPost actV at hd
                have hs9 := fhid (fun p W hP => hsv p W Q hP hGQ)
                have hcv2 := fhid (fun w9 B A9 k9 s9 => Cs.conv_seg w9 B A9 (saveP Q) k9 s9)
                have hqq : ((Cs.str (saveP Q)).toList == (Cs.str (saveP Q)).toList) = true := by simp
                replace hGQ := fhid hGQ
                generalize saveP Q = SB2 at *
                generalize Cs.str SB2 = ST at *
                generalize hak : L2[k] = ak at *
                obtain ⟨z0, z1, z2, zq⟩ := ak
                simp only [Bs.nodes] at d0 d1 d2 d3 d4 d5 d6 hd
                generalize (Bs.word zq 0 : Int) = x0 at *
                generalize (Bs.word zq 1 : Int) = x1 at *
                generalize (Bs.word zq 2 : Int) = x2 at *
                generalize (Bs.word zq 3 : Int) = x3 at *
                generalize (Bs.word s 0 : Int) = u0 at *
                generalize (Bs.word s 1 : Int) = u1 at *
                generalize (Bs.word s 2 : Int) = u2 at *
                generalize (Bs.word s 3 : Int) = u3 at *
                clear hak hR hds
                go_upto_region 18 with fail
                have m1 := (Below.refl wr.heap.size wr).alloc (Nat.le_refl _) (.cells #[.int .u8 z0, .int .i64 z1, .int .i64 z2, .int .u64 x0, .int .u64 x1, .int .u64 x2, .int .u64 x3] TAct)
                have Y1 := Box.new wr TAct [.int .u8 z0, .int .i64 z1, .int .i64 z2, .int .u64 x0, .int .u64 x1, .int .u64 x2, .int .u64 x3]
                have Pp1 := hPp.below m1
                have Pq1 := hPq.below m1
                have hbp : ¬ At3 p wr.heap.size := fun hj => by have hj : wr.heap.size = p := hj; have := hPp.lt; omega
                have hbq : ¬ At3 q wr.heap.size := fun hj => by have hj : wr.heap.size = q := hj; have := hPq.lt; omega
                have B1 := hB.trans (m1.mono hB.size)
                clear d0 d1 d2 d3 d4 d5 d6 hPp hPq m1 hb
                generalize wr.alloc _ = W1 at *
                generalize wr.heap.size = bb at *
                obtain ⟨d0, d1, d2, d3, d4, d5, d6, xl⟩ := seven Y1
                replace Y1 := fhid Y1
                replace Pp1 := fhid Pp1
                replace Pq1 := fhid Pq1
                go_upto_region 19 with (go_at_call 13; (with_reducible refine (hd p _ B1 Pp1.out).mono ?_); rintro e w6 ⟨rfl, P6, f6⟩)
                have q6 := two_fx Pq1.out Pp1.out hpq f6
                have Y6 := f6.box Y1.out hbp
                have B6 := below_fx hwp B1 f6
                have m2 := (Below.refl w6.heap.size w6).alloc (Nat.le_refl _) (.cells #[.int .u64 u0, .int .u64 u1, .int .u64 u2, .int .u64 u3] TNodes)
                have Z7 := Box.new w6 TNodes [.int .u64 u0, .int .u64 u1, .int .u64 u2, .int .u64 u3]
                have P7 := P6.below m2
                have q7 := q6.below m2
                have Y7 := Box.below Y6 m2 (Box.lt Y6)
                have B7 := B6.trans (m2.mono B6.size)
                have hb2q : ¬ At3 q w6.heap.size := fun hj => by have hj : w6.heap.size = q := hj; have := q6.lt; omega
                clear d0 d1 d2 d3 d4 d5 d6 xl Pp1 Pq1 Y1 q6 Y6 B6 m2 P6 f6
                generalize w6.alloc _ = W2 at *
                generalize w6.heap.size = b2 at *
                obtain ⟨d0, d1, d2, d3, d4, d5, d6, xl⟩ := seven Y7
                clear Y7
                replace Z7 := fhid Z7
                replace P7 := fhid P7
                replace q7 := fhid q7
                go_upto_region 20 with (go_at_call 13; (with_reducible refine (hd q _ B7 q7.out).mono ?_); rintro e w8 ⟨rfl, q8, f8⟩)
                have p8 := two_fx P7.out q7.out (Ne.symm hpq) f8
                have Z8 := f8.box Z7.out hb2q
                have B8 := below_fx hwq B7 f8
                have m3 := (Below.refl w8.heap.size w8).alloc (Nat.le_refl _) (.cells #[.int .u64 u0, .int .u64 u1, .int .u64 u2, .int .u64 u3] TNodes)
                have X9 := Box.new w8 TNodes [.int .u64 u0, .int .u64 u1, .int .u64 u2, .int .u64 u3]
                have P9 := p8.below m3
                have Q9 := q8.below m3
                have Z9 := Box.below Z8 m3 (Box.lt Z8)
                have B9 := B8.trans (m3.mono B8.size)
                clear d0 d1 d2 d3 d4 d5 d6 xl P7 q7 p8 q8 f8 Z8 B8 m3 B7 Z7 hd
                generalize w8.alloc _ = W3 at *
                generalize w8.heap.size = b3 at *
                go_cut [105] (fun s105 wx => s105 = .bool false ∧ PB wx p Q ∧ PB wx q Q ∧ Below w.heap.size w wx)
                case first =>
                  have hss := hss.out u0 u1 u2 u3
                  have tt : Below W3.heap.size W3 W3.drew := (Below.refl _ _).drew
                  have zS := fhid (show ∀ W, Below W3.heap.size W3 W → W.cell? ⟨b2, 0, none⟩ = some (.int .u64 u0) ∧ W.cell? ⟨b2, 1, none⟩ = some (.int .u64 u1) ∧ W.cell? ⟨b2, 2, none⟩ = some (.int .u64 u2) ∧ W.cell? ⟨b2, 3, none⟩ = some (.int .u64 u3) ∧ W.cell? ⟨b3, 0, none⟩ = some (.int .u64 u0) ∧ W.cell? ⟨b3, 1, none⟩ = some (.int .u64 u1) ∧ W.cell? ⟨b3, 2, none⟩ = some (.int .u64 u2) ∧ W.cell? ⟨b3, 3, none⟩ = some (.int .u64 u3) from fun W h => by
                    obtain ⟨⟨y0, y1, y2, y3⟩, -, -, -, -⟩ := Box.four (Box.below Z9 h (Box.lt Z9))
                    obtain ⟨⟨g0, g1, g2, g3⟩, -, -, -, -⟩ := Box.four (Box.below X9 h (Box.lt X9))
                    exact ⟨y0, y1, y2, y3, g0, g1, g2, g3⟩)
                  have z := zS.out _ tt
                  clear Z9 X9
                  replace P9 := fhid P9
                  replace Q9 := fhid Q9
                  refine wp_region_noPanic ?_
                  refine wp_region_held_drew (S := (fun W => W.cell? ⟨b2, 0, none⟩ = some (.int .u64 u0) ∧ W.cell? ⟨b2, 1, none⟩ = some (.int .u64 u1) ∧ W.cell? ⟨b2, 2, none⟩ = some (.int .u64 u2) ∧ W.cell? ⟨b2, 3, none⟩ = some (.int .u64 u3) ∧ W.cell? ⟨b3, 0, none⟩ = some (.int .u64 u0) ∧ W.cell? ⟨b3, 1, none⟩ = some (.int .u64 u1) ∧ W.cell? ⟨b3, 2, none⟩ = some (.int .u64 u2) ∧ W.cell? ⟨b3, 3, none⟩ = some (.int .u64 u3))) (by kernel_rfl) z (fun hHeld => ?_)
                  refine wpAnyH_take (i := 0) (v := ?_) (by (rw [List.getElem?_toArray]; exact rfl)) (by kernel_rfl) (by kernel_rfl) (by kernel_rfl) (fun _ _ _ h => h) (Or.inl ⟨by rfl, ?_⟩) (by assumption) ?_
                  rotate_left
                  · (intro W hSw; (try dsimp only at hSw); go_simp <;> with_reducible rfl)
                  try simp only [Act.put, List.setIfInBounds_toArray, List.set_cons_zero, List.set_cons_succ]
                  refine wpAnyH_take (i := 1) (v := ?_) (by (rw [List.getElem?_toArray]; exact rfl)) (by kernel_rfl) (by kernel_rfl) (by kernel_rfl) (fun _ _ _ h => h) (Or.inl ⟨by rfl, ?_⟩) (by assumption) ?_
                  rotate_left
                  · (intro W hSw; (try dsimp only at hSw); go_simp <;> with_reducible rfl)
                  try simp only [Act.put, List.setIfInBounds_toArray, List.set_cons_zero, List.set_cons_succ]
                  refine wpAnyH_take (i := 2) (v := ?_) (by (rw [List.getElem?_toArray]; exact rfl)) (by kernel_rfl) (by kernel_rfl) (by kernel_rfl) (fun _ _ _ h => h) (Or.inl ⟨by rfl, ?_⟩) (by assumption) ?_
                  rotate_left
                  · (intro W hSw; (try dsimp only at hSw); go_simp <;> with_reducible rfl)
                  try simp only [Act.put, List.setIfInBounds_toArray, List.set_cons_zero, List.set_cons_succ]
                  refine wpAnyH_take (i := 3) (v := ?_) (by (rw [List.getElem?_toArray]; exact rfl)) (by kernel_rfl) (by kernel_rfl) (by kernel_rfl) (fun _ _ _ h => h) (Or.inl ⟨by rfl, ?_⟩) (by assumption) ?_
                  rotate_left
                  · (intro W hSw; (try dsimp only at hSw); go_simp <;> with_reducible rfl)
                  try simp only [Act.put, List.setIfInBounds_toArray, List.set_cons_zero, List.set_cons_succ]
                  refine wpAnyH_take (i := 4) (v := ?_) (by (rw [List.getElem?_toArray]; exact rfl)) (by kernel_rfl) (by kernel_rfl) (by kernel_rfl) (fun _ _ _ h => h) (Or.inl ⟨by rfl, ?_⟩) (by assumption) ?_
                  rotate_left
                  · (intro W hSw; (try dsimp only at hSw); go_simp <;> with_reducible rfl)
                  try simp only [Act.put, List.setIfInBounds_toArray, List.set_cons_zero, List.set_cons_succ]
                  refine wpAnyH_take (i := 5) (v := ?_) (by (rw [List.getElem?_toArray]; exact rfl)) (by kernel_rfl) (by kernel_rfl) (by kernel_rfl) (fun _ _ _ h => h) (Or.inl ⟨by rfl, ?_⟩) (by assumption) ?_
                  rotate_left
                  · (intro W hSw; (try dsimp only at hSw); go_simp <;> with_reducible rfl)
                  try simp only [Act.put, List.setIfInBounds_toArray, List.set_cons_zero, List.set_cons_succ]
                  refine wpAnyH_take (i := 6) (v := ?_) (by (rw [List.getElem?_toArray]; exact rfl)) (by kernel_rfl) (by kernel_rfl) (by kernel_rfl) (fun _ _ _ h => h) (Or.inl ⟨by rfl, ?_⟩) (by assumption) ?_
                  rotate_left
                  · (intro W hSw; (try dsimp only at hSw); go_simp <;> with_reducible rfl)
                  try simp only [Act.put, List.setIfInBounds_toArray, List.set_cons_zero, List.set_cons_succ]
                  refine wpAnyH_take (i := 7) (v := ?_) (by (rw [List.getElem?_toArray]; exact rfl)) (by kernel_rfl) (by kernel_rfl) (by kernel_rfl) (fun _ _ _ h => h) (Or.inl ⟨by rfl, ?_⟩) (by assumption) ?_
                  rotate_left
                  · (intro W hSw; (try dsimp only at hSw); go_simp <;> with_reducible rfl)
                  try simp only [Act.put, List.setIfInBounds_toArray, List.set_cons_zero, List.set_cons_succ]
                  refine wpAnyH_take (i := 8) (v := ?_) (by (rw [List.getElem?_toArray]; exact rfl)) (by kernel_rfl) (by kernel_rfl) (by kernel_rfl) (fun _ _ _ h => h) (Or.inl ⟨by rfl, ?_⟩) (by assumption) ?_
                  rotate_left
                  · (intro W hSw; (try dsimp only at hSw); go_simp <;> with_reducible rfl)
                  try simp only [Act.put, List.setIfInBounds_toArray, List.set_cons_zero, List.set_cons_succ]
                  refine wpAnyH_take (i := 9) (v := ?_) (by (rw [List.getElem?_toArray]; exact rfl)) (by kernel_rfl) (by kernel_rfl) (by kernel_rfl) (fun _ _ _ h => h) (Or.inl ⟨by rfl, ?_⟩) (by assumption) ?_
                  rotate_left
                  · (intro W hSw; (try dsimp only at hSw); go_simp <;> with_reducible rfl)
                  try simp only [Act.put, List.setIfInBounds_toArray, List.set_cons_zero, List.set_cons_succ]
                  refine wpAnyH_take (i := 12) (v := ?_) (by (rw [List.getElem?_toArray]; exact rfl)) (by kernel_rfl) (by kernel_rfl) (by kernel_rfl) (fun _ _ _ h => h) (Or.inl ⟨by rfl, ?_⟩) (by assumption) ?_
                  rotate_left
                  · (intro W hSw; (try dsimp only at hSw); go_simp <;> with_reducible rfl)
                  try simp only [Act.put, List.setIfInBounds_toArray, List.set_cons_zero, List.set_cons_succ]
                  refine wpAnyH_ready (rs := [10]) (by kernel_rfl) (by simp) (AllReadyH.cons (by (rw [List.getElem?_toArray]; exact rfl)) (fun K hK => ?_) AllReadyH.nil)
                  go_simp
                  go_at_call 20
                  with_reducible refine (hs9.out p _ (P9.out.below tt)).mono ?_
                  rintro e wa ⟨va, rfl, oa, ba⟩
                  obtain ⟨Aa, ka, rfl, _, _, sa⟩ := Cs.Own.shape oa
                  have tt := tt.trans (ba.mono tt.size)
                  have z := zS.out _ tt
                  have ra := hcv2.out wa _ Aa ka sa
                  go_simp
                  refine hK.out _ _ z (fun hHeld => ?_)
                  clear hK K
                  try simp only [Act.put, List.setIfInBounds_toArray, List.set_cons_zero, List.set_cons_succ]
                  refine wpAnyH_strong (T := (fun W => (W.cell? ⟨b2, 0, none⟩ = some (.int .u64 u0) ∧ W.cell? ⟨b2, 1, none⟩ = some (.int .u64 u1) ∧ W.cell? ⟨b2, 2, none⟩ = some (.int .u64 u2) ∧ W.cell? ⟨b2, 3, none⟩ = some (.int .u64 u3) ∧ W.cell? ⟨b3, 0, none⟩ = some (.int .u64 u0) ∧ W.cell? ⟨b3, 1, none⟩ = some (.int .u64 u1) ∧ W.cell? ⟨b3, 2, none⟩ = some (.int .u64 u2) ∧ W.cell? ⟨b3, 3, none⟩ = some (.int .u64 u3)) ∧ (convert 55 9 (.slice Aa SB2.length ka)).run Tryz.prog W = .ok (.string ST) W)) (fun W h => h.1) _ _ _ _ ?_
                  have hHeld := And.intro hHeld ra
                  refine wpAnyH_take (i := 11) (v := ?_) (by (rw [List.getElem?_toArray]; exact rfl)) (by kernel_rfl) (by kernel_rfl) (by kernel_rfl) (fun _ _ _ h => h) (Or.inl ⟨by rfl, ?_⟩) (by assumption) ?_
                  rotate_left
                  · (intro W hSw; (try dsimp only at hSw); go_simp <;> with_reducible rfl)
                  try simp only [Act.put, List.setIfInBounds_toArray, List.set_cons_zero, List.set_cons_succ]
                  refine wpAnyH_ready (rs := [13]) (by kernel_rfl) (by simp) (AllReadyH.cons (by (rw [List.getElem?_toArray]; exact rfl)) (fun K hK => ?_) AllReadyH.nil)
                  go_simp
                  go_at_call 20
                  with_reducible refine (hs9.out q _ (Q9.out.below tt)).mono ?_
                  rintro e wb ⟨vb, rfl, ob, bb⟩
                  obtain ⟨Ab, kb, rfl, _, _, sb⟩ := Cs.Own.shape ob
                  have tt := tt.trans (bb.mono tt.size)
                  have z := zS.out _ tt
                  have rb := hcv2.out wb _ Ab kb sb
                  have ra := hcv2.out wb _ Aa ka (sa.below bb)
                  go_simp
                  refine hK.out _ _ ⟨z, ra⟩ (fun hHeld => ?_)
                  clear hK K
                  try simp only [Act.put, List.setIfInBounds_toArray, List.set_cons_zero, List.set_cons_succ]
                  refine wpAnyH_strong (T := (fun W => ((W.cell? ⟨b2, 0, none⟩ = some (.int .u64 u0) ∧ W.cell? ⟨b2, 1, none⟩ = some (.int .u64 u1) ∧ W.cell? ⟨b2, 2, none⟩ = some (.int .u64 u2) ∧ W.cell? ⟨b2, 3, none⟩ = some (.int .u64 u3) ∧ W.cell? ⟨b3, 0, none⟩ = some (.int .u64 u0) ∧ W.cell? ⟨b3, 1, none⟩ = some (.int .u64 u1) ∧ W.cell? ⟨b3, 2, none⟩ = some (.int .u64 u2) ∧ W.cell? ⟨b3, 3, none⟩ = some (.int .u64 u3)) ∧ (convert 55 9 (.slice Aa SB2.length ka)).run Tryz.prog W = .ok (.string ST) W) ∧ (convert 55 9 (.slice Ab SB2.length kb)).run Tryz.prog W = .ok (.string ST) W)) (fun W h => h.1) _ _ _ _ ?_
                  have hHeld := And.intro hHeld rb
                  refine wpAnyH_take (i := 14) (v := ?_) (by (rw [List.getElem?_toArray]; exact rfl)) (by kernel_rfl) (by kernel_rfl) (by kernel_rfl) (fun _ _ _ h => h) (Or.inl ⟨by rfl, ?_⟩) (by assumption) ?_
                  rotate_left
                  · (intro W hSw; (try dsimp only at hSw); go_simp <;> with_reducible rfl)
                  try simp only [Act.put, List.setIfInBounds_toArray, List.set_cons_zero, List.set_cons_succ]
                  refine wpAnyH_take (i := 15) (v := ?_) (by (rw [List.getElem?_toArray]; exact rfl)) (by kernel_rfl) (by kernel_rfl) (by kernel_rfl) (fun _ _ _ h => h) (Or.inl ⟨by rfl, ?_⟩) (by assumption) ?_
                  rotate_left
                  · (intro W hSw; (try dsimp only at hSw); go_simp <;> with_reducible rfl)
                  try simp only [Act.put, List.setIfInBounds_toArray, List.set_cons_zero, List.set_cons_succ]
                  refine wpAnyH_take (i := 16) (v := ?_) (by (rw [List.getElem?_toArray]; exact rfl)) (by kernel_rfl) (by kernel_rfl) (by kernel_rfl) (fun _ _ _ h => h) (Or.inl ⟨by rfl, ?_⟩) (by assumption) ?_
                  rotate_left
                  · (intro W hSw; (try dsimp only at hSw); go_simp <;> with_reducible rfl)
                  try simp only [Act.put, List.setIfInBounds_toArray, List.set_cons_zero, List.set_cons_succ]
                  refine wpAnyH_done (by kernel_rfl) ?_ _
                  refine NoPanic.normal ?_
                  go_wp2_with fail
                  go_meet
                  exact ⟨rfl, P9.out.below tt, Q9.out.below tt, B9.trans (tt.mono B9.size)⟩
                case rest =>
                  obtain ⟨rfl, P10, Q10, B10⟩ := hcut
                  clear P9 Q9 Z9 X9 B9
                  replace P10 := fhid P10
                  replace Q10 := fhid Q10
                  go_wp2_with fail
                  go_roundw
                  case rel => exact ⟨k + 1, Q, by omega, by go_num, hGQ.out, P10.out, Q10.out, B10⟩
                  case measure => simp [intOf]; omega
              · have k1 : ¬ (k : Int) < L2.length := by omega
                clear hSR2 hPp hPq
                go_wp2_with (go_at_call 9; (with_reducible refine (hal _ hB).mono ?_); rintro e w9 ⟨rfl, b9⟩)
                go_ret
                exact ⟨rfl, hB.trans (b9.mono hB.size)⟩
end Go.Proofs.YtbelmljphnponaaGreatDoor.Ps
/-
  PROVED: PoolSaved: what was saved and loaded is the same, and goes on as what was not, for every config and two scripts.
  Conditions: the library's tables read as the program's text lays them (the card ties them); nothing else.
-/
namespace Go.Proofs.YtbelmljphnponaaGreatDoor.Ps
open Go.ChangeShapes Go.WideShapes Go.ChangeAt Go.WideMaps Go.WideElems Go.RowKit
set_option maxRecDepth 100000 in
theorem poolsaved_lifted (os : Os) (started : os.Started) (H : Type) (enc : TypeId × Value → H) :
    ReturnsInHanded {} Tryz.checked os 5 .any (fun w args => (Rows.poolSavedSpec.pre enc Tryz.prog Tryz.f5 [] false w args ∧ laidMetH Tryz.prog laidList w) ∧ sizedMet enc Tryz.prog Tryz.f5 (OpenSpec.ofChange Rows.poolSavedSpec) false w args)
      (Rows.poolSavedSpec.post enc Tryz.prog Tryz.f5 false true false false) := by
  refine returnsInHanded_of_change_and (C := Tryz.checked) (X := fun w _ => laidMetH Tryz.prog laidList w) (fun _ _ _ hh h => h.of_heap hh) own started (by kernel_rfl) Tryz.func5
    (ChangeSpec.witness_shaped (enc := enc) (C := Tryz.checked) (os := os) (X := fun w _ => laidMetH Tryz.prog laidList w) false (World.laidAll Tryz.prog os laidList) #[.agg #[.slice none 0 0, .slice none 0 0, .slice none 0 0, .slice none 0 0, .int .i64 0, .int .i64 0, .int .i64 0, .int .i64 0, .int .i64 0, .int .i64 0, .int .i64 0, .int .i64 0], .slice none 0 0, .slice none 0 0] 8 (World.laidAll_os _ _ _) (World.shaped_of_ZipB (by kernel_rfl) (by kernel_rfl)) (by kernel_rfl) (by kernel_rfl) (by kernel_rfl) (lay_met os _)) ?_
  intro W base args ds gs before hval0 hW _ _ hL _
  have hval : ∀ (j : Nat) t v, Tryz.f5.params[j]? = some t → args[j]? = some v → Value.okWide Tryz.prog W .any base t v := hval0
  have hW' := hW
  obtain ⟨p, q, hA0, hV, rfl, hfz, hnd⟩ := hW
  have hA : DataW.TrodAll enc Tryz.prog W 0 (fun _ => true) true Tryz.f5.params.toList args.toList ds p := hA0
  rw [Tryz.params5] at hA hval
  obtain ⟨v0, v1, v2, d0, d1, d2, p0, p1, p2, rfl, rfl, rfl, h0, h1, h2⟩ := trodAll_three hA
  obtain ⟨rfl, rfl⟩ := trodVars_none hV
  have hT := tab_of hL
  obtain ⟨c0, cr0⟩ := open_conf (hval 0 28 v0 rfl rfl) h0
  obtain ⟨A1, l1, cp1, rfl, rd1, ok1⟩ := open_acts (hval 1 29 v1 rfl rfl) h1
  obtain ⟨A2, l2, cp2, rfl, rd2, ok2⟩ := open_acts (hval 2 29 v2 rfl rfl) h2
  have hlt : ∀ z ∈ p0 ++ (p1 ++ p2), z.block < W.heap.size := fun z hz => hW'.lt z (by simp [hz])
  clear hA0 hval0
  simp only [List.append_nil, List.append_assoc] at hW'
  refine (saved_walk v0 c0 A1 l1 cp1 A2 l2 cp2 W hT cr0 rd1 ok1 rd2 ok2).mono fun e W' ⟨he, hb⟩ => ?_
  subst he
  refine ⟨_, rfl, ⟨_, _, _, [], p0 ++ (p1 ++ p2), [], hW', trodAll_mk1 (shut_bool Tryz.underlying4 _), ?_, rfl, hb.frame _, fun h => by cases h⟩⟩
  exact trodAll_mk3 (Below.trod laidOut (by kernel_rfl) (of_decide_eq_true (by kernel_rfl)) h0 hb (fun z hz => hlt z (by simp [hz]))) (Below.trod laidOut (by kernel_rfl) (of_decide_eq_true (by kernel_rfl)) h1 hb (fun z hz => hlt z (by simp [hz]))) (Below.trod laidOut (by kernel_rfl) (of_decide_eq_true (by kernel_rfl)) h2 hb (fun z hz => hlt z (by simp [hz])))

theorem poolsaved_holds : Rows.PoolSavedSaid :=
  OpenClaim.holds_of_wide 5 Tryz.f5 rfl rfl rfl rfl rfl rfl rfl ⟨rfl, rfl, rfl, rfl, rfl⟩ rfl rfl rfl rfl rfl (by kernel_rfl) Tryz.func5 (by kernel_rfl)
    (of_decide_eq_true (by kernel_rfl)) (by unfold Func.isWrapper; rw [if_neg (of_decide_eq_false (by kernel_rfl))]; exact ⟨rfl, rfl⟩)
    (fun os started H enc _ => poolsaved_lifted os started H enc)
theorem poolsaved_card : Rows.PoolSavedCardSaid :=
  Claim7.holds_tied_plain_at .later [] [.data, .data, .data, .data, .data, .pinned] true Rows.poolSavedCard.stood.harness false
    poolsaved_holds (fun _ h => by cases h) (by kernel_rfl) (fun _ h => by cases h) poolSaved_row_tie rfl ⟨rfl, rfl⟩ (by kernel_rfl) rfl
    (fun f fn hf hfn => by
      obtain rfl : f = 5 := Option.some.inj ((show Tryz.prog.funcNamed "marlinspike/marlinspikelaw12.PoolSaved" = some 5 by kernel_rfl).symm.trans hf) |>.symm
      obtain rfl : fn = Tryz.f5 := (Option.some.inj (Tryz.func5.symm.trans hfn)).symm
      exact ⟨by kernel_rfl, fun j t ht => by
        rw [Tryz.params5] at ht
        have hm : t ∈ [28, 29] := by simpa using Array.mem_of_getElem? ht
        have hall : ([28, 29].all fun u => !Tryz.prog.wantsStandIn u) = true := by kernel_rfl
        exact (show Tryz.prog.wantsStandIn t = false by simpa using List.all_eq_true.1 hall t hm)⟩)
    (by kernel_rfl)
end Go.Proofs.YtbelmljphnponaaGreatDoor.Ps
namespace Go.Proofs.YtbelmljphnponaaGreatDoor
open Go.RowKit
theorem pool_saved_card : Rows.PoolSavedCardSaid := Ps.poolsaved_card
end Go.Proofs.YtbelmljphnponaaGreatDoor
