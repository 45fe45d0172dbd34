/-
  Parts: ULUses.
-/
import Derived.Test.YtmbgcphiigmdjaaU2
import Derived.Test.YtmbgcphiigmdjaaR3
import Derived.Deep.RegionHeld3
set_option linter.unusedSimpArgs false
set_option linter.unusedVariables false
/-
  ShareUses, walked (written by tools/gen14u.py).
-/
namespace Go.Proofs.Ytmbgcphiigmdjaa
open Go.RowKit Ss Ds

/-- Blocks that are not one. -/
structure Far (w : World) (p m r x y : Nat) : Prop where
  ym : y ≠ m
  yr : y ≠ r
  xm : x ≠ m
  xr : x ≠ r
  pr : p ≠ r
  mr : m ≠ r
  wm : w.heap.size ≤ m
  wr : w.heap.size ≤ r
theorem names_up {L M : List Usr} (hu : Up L) (hg : Good M) (hp : L.Perm M) : L.map Prod.fst = namesS M := by
  rw [← sortU_keys M, ← sort_perm (good_perm hg hp.symm) hp, sortU_keys]
  unfold namesS
  exact (List.mergeSort_of_pairwise (hu.imp fun {a b} (h : a < b) => by simpa using Std.le_of_lt h)).symm
theorem rAdd_same {w : World} {r : Nat} {h : Int} {L M : List Usr} (b : RB w r h L) (hh : halfB h) (hu : Up L) (hg : Good M) (hp : L.Perm M) (s : Str) (am now : Int) (hsl : s.length ≤ 9223372036854775807) :
    Calls Try.prog 15 #[.pointer (some ⟨r, 0, none⟩), .string (str s), .int .i64 am, .int .i64 now] w fun e w' => e = .returned (.int .i64 (addP h M s am now).2) ∧ (∃ L', RB w' r h L' ∧ L'.Perm (addP h M s am now).1 ∧ Up L') ∧ w.grownBy w' (some r) :=
  (rAdd_any b hh hu (good_perm hg hp.symm) s am now hsl).mono fun e w' ⟨k, ha, he, hb, hgr⟩ => by
    obtain ⟨h1, h2, h3⟩ := addR_add (h := h) hu hg hp (am := am) (now := now) ha
    rw [h1] at he
    exact ⟨he, ⟨_, hb, h2, h3⟩, hgr⟩
theorem names_below {w w' : World} {A : Option Addr} {ns : List Str} (h : ∀ j (hj : j < ns.length), ∃ b o, A = some ⟨b, o, none⟩ ∧ b < w.heap.size ∧ w.cell? ⟨b, o + j, none⟩ = some (.string (str ns[j]))) (hb : Below w.heap.size w w') : ∀ j (hj : j < ns.length), ∃ b o, A = some ⟨b, o, none⟩ ∧ b < w'.heap.size ∧ w'.cell? ⟨b, o + j, none⟩ = some (.string (str ns[j])) := fun j hj => by
  obtain ⟨b, o, e, hl, hc⟩ := h j hj
  exact ⟨b, o, e, Nat.lt_of_lt_of_le hl hb.size, (hb.cell (p := ⟨b, o + j, none⟩) hl).trans hc⟩
theorem RB.start {w : World} {h : Int} : RB (w.alloc (.cells #[.int .i64 h, .slice none 0 0] TRL)) w.heap.size h [] :=
  ⟨none, 0, Box.new w TRL _, Nat.le_refl _, by unfold maxLen; omega, fun h => absurd h (Nat.lt_irrefl 0)⟩
set_option maxRecDepth 100000 in
set_option maxHeartbeats 16000000 in
theorem uses_walk (h : Int) (A : Option Addr) (l : List Act3) (cap : Nat) (a2 : Act3) (w : World) (hs : RdS w A l.length cap (AVs l)) (ok : ∀ a ∈ l, okA a) :
    Calls Try.prog 3 #[.int .i64 h, .slice A l.length cap, .agg (actV a2).toArray] w (TrueP w) := by
  have hal := fun W => alive_any W
  have hrn := fun W => rNew_any h W
  obtain ⟨W1, hW1, B1, X1⟩ := one_box w TAct (actV a2)
  have s1 := hs.below B1
  have s0 := fhid (short_rds hs)
  replace hW1 := fhid hW1
  clear hs
  unfold TrueP
  by_cases hh : halfB h
  · have hnew := New_yes h W1 hh
    rw [if_pos hh, if_pos hh] at hrn
    obtain ⟨hh1, hh2⟩ := hh
    have hh : halfB h := ⟨hh1, hh2⟩
    replace s1 := fhid s1
    replace X1 := fhid X1
    replace B1 := fhid B1
    go_enter Try.func3, Try.ntmps3
    go_upto_region 1 with fail
    rw [← hW1.out]
    clear hW1
    go_upto_region 3 with (first
      | (go_at_call 10; (with_reducible refine hnew.mono ?_); rintro e w2 ⟨p, m, rfl, p0, m0, l2, b2⟩)
      | (go_at_call 11; (with_reducible refine (hrn _).mono ?_); rintro e w3 ⟨rfl, b3⟩))
    have B2 := B1.out.trans (b2.mono B1.out.size)
    have B3 := B2.trans (b3.mono B2.size)
    have R4 : RB (w3.alloc (.cells #[.int .i64 h, .slice none 0 0] TRL)) w3.heap.size h [] := RB.start
    have B4 := B3.alloc B3.size (.cells #[.int .i64 h, .slice none 0 0] TRL)
    have l4 := (l2.below b3).alloc (.cells #[.int .i64 h, .slice none 0 0] TRL)
    have X2 := X1.out.below b2 X1.out.lt
    have X4 := box_alloc (X2.below b3 X2.lt) (.cells #[.int .i64 h, .slice none 0 0] TRL)
    have s4 := ((s1.out.below b2).below b3).below ((Below.refl w3.heap.size w3).alloc (Nat.le_refl _) (.cells #[.int .i64 h, .slice none 0 0] TRL))
    have hf : w.heap.size ≠ m ∧ w.heap.size ≠ w3.heap.size ∧ p ≠ w3.heap.size ∧ m ≠ w3.heap.size ∧ w.heap.size ≤ m ∧ w.heap.size ≤ w3.heap.size := by
      have a1 := X1.out.lt
      have a2 := l2.lt
      have a3 := b3.size
      have a4 := B3.size
      have a5 := X2.lt
      omega
    clear s1 X1 b2 p0 m0 hnew hrn B1 B2 B3 b3 l2 X2
    generalize w3.alloc _ = w4 at *
    generalize w3.heap.size = r at *
    replace R4 := fhid R4
    replace B4 := fhid B4
    replace l4 := fhid l4
    replace X4 := fhid X4
    replace s4 := fhid s4
    go_upto_region 7 with (go_at_call 12; (with_reducible refine (hal _).mono ?_); rintro e w5 ⟨rfl, b5⟩)
    have s5 := s4.out.below b5
    have R5 := fhid (R4.out.below b5)
    have l5 := fhid (l4.out.below b5)
    have X5 := fhid (X4.out.below b5 X4.out.lt)
    have B5 := fhid (B4.out.trans (b5.mono B4.out.size))
    clear R4 l4 X4 B4 s4 b5
    have hsh := short_any A l cap w5 s5
    have hsm := fun a (ha : a ∈ shortL l) => ok a (short_mem ha)
    have hsl := short_len l
    generalize shortL l = q at *
    clear ok s5
    go_upto_region 8 with (go_at_call 13; (with_reducible refine hsh.mono ?_); rintro e w6 ⟨c', rfl, s6, rfl⟩)
    clear hsh s6
    obtain ⟨s2, am2, now2⟩ := a2
    go_loopw [58] (fun i wr => ∃ (j : Nat) (M L : List Usr), j ≤ q.length ∧ i = .int .i64 (j : Nat) ∧ LB wr p m h M ∧ RB wr r h L ∧ L.Perm M ∧ Up L ∧ Good M ∧ Box wr w.heap.size TAct [.string (str s2), .int .i64 am2, .int .i64 now2] ∧ Below w.heap.size w wr) (fun i _ => q.length - (intOf i).toNat)
    case atStart => exact ⟨0, [], [], Nat.zero_le _, rfl, l5.out, R5.out, .nil, List.Pairwise.nil, Good.nil, X5.out, B5.out⟩
    case round =>
      clear l5 R5 X5 B5
      obtain ⟨j, M, L, hj, rfl, lr, rr, hp, hu, g, Zr, Br⟩ := hrel
      have j0 : (0 : Int) ≤ j := by omega
      have gL : Good L := good_perm g hp.symm
      by_cases hlt : j < q.length
      · have j1 : (j : Int) < q.length := by omega
        obtain ⟨b, o, rfl, hb, c0, c1, c2⟩ := act_at s0.out hlt
        have hokj := hsm q[j] (List.getElem_mem hlt)
        generalize q[j] = a at *
        obtain ⟨s, am, now⟩ := a
        simp only at c0 c1 c2
        have hsl' : s.length ≤ 9223372036854775807 := Nat.le_trans hokj (by unfold maxLen; omega)
        have d0 := (Br.cell (p := ⟨b, o + j * 3, none⟩) hb).trans c0
        have d1 := (Br.cell (p := ⟨b, o + j * 3 + 1, none⟩) hb).trans c1
        have d2 := (Br.cell (p := ⟨b, o + j * 3 + 2, none⟩) hb).trans c2
        have hbr := Nat.lt_of_lt_of_le hb Br.size
        have ha1 := fun W (l : LB W p m h M) => Add_any l hh g s am now hsl'
        have ha2 := fun W (b : RB W r h L) => rAdd_same b hh hu g hp s am now hsl'
        have g1 := add_good (s := s) (am := am) (now := now) hh1 g
        unfold AddPost at ha1
        generalize addP h M s am now = R at *
        obtain ⟨M1, E⟩ := R
        simp only at ha1 ha2 g1
        replace ha2 := fhid ha2
        obtain ⟨W4, hW4, b4, X4⟩ := one_box wr TAct [.string (str s), .int .i64 am, .int .i64 now]
        obtain ⟨n1, n2, n3, n4, n5, n6⟩ := hf
        have hne := fhid (show Far w p m r w.heap.size wr.heap.size from ⟨fun e => by have := lr.lt.2; omega, fun e => by have := rr.lt; omega, n1, n2, n3, n4, n5, n6⟩)
        have l4 := fhid (lr.below b4)
        have r4 := fhid (rr.below b4)
        have Z4 := fhid (Zr.below b4 Zr.lt)
        have B4 := fhid (Br.trans (b4.mono Br.size))
        replace hW4 := fhid hW4
        replace X4 := fhid X4
        replace g1 := fhid g1
        clear lr rr Zr Br b4 c0 c1 c2 hp hu g gL
        go_upto_region 10 with fail
        rw [← hW4.out]
        clear hW4 d0 d1 d2
        generalize wr.heap.size = y at *
        have tt : Below W4.heap.size W4 W4.drew := (Below.refl _ _).drew
        have X := X4.out.below tt X4.out.lt
        have Z := Z4.out.below tt Z4.out.lt
        have lp := l4.out.below tt
        have rk := r4.out.below tt
        have B5 := fhid (B4.out.trans (tt.mono B4.out.size))
        have hz := fhid (show ∀ W, Box W y TAct [.string (str s), .int .i64 am, .int .i64 now] → W.cell? ⟨y, 0, none⟩ = some (.string (str s)) ∧ W.cell? ⟨y, 1, none⟩ = some (.int .i64 am) ∧ W.cell? ⟨y, 2, none⟩ = some (.int .i64 now) from fun W h => ⟨Box.cell h 0, Box.cell h 1, Box.cell h 2⟩)
        have z := hz.out _ X
        refine wp_region_noPanic ?_
        refine wp_region_held_drew (S := (fun W => W.cell? ⟨y, 0, none⟩ = some (.string (str s)) ∧ W.cell? ⟨y, 1, none⟩ = some (.int .i64 am) ∧ W.cell? ⟨y, 2, none⟩ = some (.int .i64 now))) (by kernel_rfl) z (fun hHeld => ?_)
        refine wpAnyH_take (i := 0) (v := ?_) (by (rw [List.getElem?_toArray]; exact rfl)) (by kernel_rfl) (by kernel_rfl) (by kernel_rfl) (fun _ _ _ h => h) (Or.inl ⟨by rfl, ?_⟩) (by assumption) ?_
        rotate_left
        · (intro W hSw; (try dsimp only at hSw); go_simp <;> with_reducible rfl)
        try simp only [Act.put, List.setIfInBounds_toArray, List.set_cons_zero, List.set_cons_succ]
        refine wpAnyH_take (i := 1) (v := ?_) (by (rw [List.getElem?_toArray]; exact rfl)) (by kernel_rfl) (by kernel_rfl) (by kernel_rfl) (fun _ _ _ h => h) (Or.inl ⟨by rfl, ?_⟩) (by assumption) ?_
        rotate_left
        · (intro W hSw; (try dsimp only at hSw); go_simp <;> with_reducible rfl)
        try simp only [Act.put, List.setIfInBounds_toArray, List.set_cons_zero, List.set_cons_succ]
        refine wpAnyH_take (i := 2) (v := ?_) (by (rw [List.getElem?_toArray]; exact rfl)) (by kernel_rfl) (by kernel_rfl) (by kernel_rfl) (fun _ _ _ h => h) (Or.inl ⟨by rfl, ?_⟩) (by assumption) ?_
        rotate_left
        · (intro W hSw; (try dsimp only at hSw); go_simp <;> with_reducible rfl)
        try simp only [Act.put, List.setIfInBounds_toArray, List.set_cons_zero, List.set_cons_succ]
        refine wpAnyH_take (i := 3) (v := ?_) (by (rw [List.getElem?_toArray]; exact rfl)) (by kernel_rfl) (by kernel_rfl) (by kernel_rfl) (fun _ _ _ h => h) (Or.inl ⟨by rfl, ?_⟩) (by assumption) ?_
        rotate_left
        · (intro W hSw; (try dsimp only at hSw); go_simp <;> with_reducible rfl)
        try simp only [Act.put, List.setIfInBounds_toArray, List.set_cons_zero, List.set_cons_succ]
        refine wpAnyH_take (i := 4) (v := ?_) (by (rw [List.getElem?_toArray]; exact rfl)) (by kernel_rfl) (by kernel_rfl) (by kernel_rfl) (fun _ _ _ h => h) (Or.inl ⟨by rfl, ?_⟩) (by assumption) ?_
        rotate_left
        · (intro W hSw; (try dsimp only at hSw); go_simp <;> with_reducible rfl)
        try simp only [Act.put, List.setIfInBounds_toArray, List.set_cons_zero, List.set_cons_succ]
        refine wpAnyH_take (i := 5) (v := ?_) (by (rw [List.getElem?_toArray]; exact rfl)) (by kernel_rfl) (by kernel_rfl) (by kernel_rfl) (fun _ _ _ h => h) (Or.inl ⟨by rfl, ?_⟩) (by assumption) ?_
        rotate_left
        · (intro W hSw; (try dsimp only at hSw); go_simp <;> with_reducible rfl)
        try simp only [Act.put, List.setIfInBounds_toArray, List.set_cons_zero, List.set_cons_succ]
        refine wpAnyH_take (i := 6) (v := ?_) (by (rw [List.getElem?_toArray]; exact rfl)) (by kernel_rfl) (by kernel_rfl) (by kernel_rfl) (fun _ _ _ h => h) (Or.inl ⟨by rfl, ?_⟩) (by assumption) ?_
        rotate_left
        · (intro W hSw; (try dsimp only at hSw); go_simp <;> with_reducible rfl)
        try simp only [Act.put, List.setIfInBounds_toArray, List.set_cons_zero, List.set_cons_succ]
        refine wpAnyH_take (i := 8) (v := ?_) (by (rw [List.getElem?_toArray]; exact rfl)) (by kernel_rfl) (by kernel_rfl) (by kernel_rfl) (fun _ _ _ h => h) (Or.inl ⟨by rfl, ?_⟩) (by assumption) ?_
        rotate_left
        · (intro W hSw; (try dsimp only at hSw); go_simp <;> with_reducible rfl)
        try simp only [Act.put, List.setIfInBounds_toArray, List.set_cons_zero, List.set_cons_succ]
        refine wpAnyH_take (i := 9) (v := ?_) (by (rw [List.getElem?_toArray]; exact rfl)) (by kernel_rfl) (by kernel_rfl) (by kernel_rfl) (fun _ _ _ h => h) (Or.inl ⟨by rfl, ?_⟩) (by assumption) ?_
        rotate_left
        · (intro W hSw; (try dsimp only at hSw); go_simp <;> with_reducible rfl)
        try simp only [Act.put, List.setIfInBounds_toArray, List.set_cons_zero, List.set_cons_succ]
        refine wpAnyH_take (i := 10) (v := ?_) (by (rw [List.getElem?_toArray]; exact rfl)) (by kernel_rfl) (by kernel_rfl) (by kernel_rfl) (fun _ _ _ h => h) (Or.inl ⟨by rfl, ?_⟩) (by assumption) ?_
        rotate_left
        · (intro W hSw; (try dsimp only at hSw); go_simp <;> with_reducible rfl)
        try simp only [Act.put, List.setIfInBounds_toArray, List.set_cons_zero, List.set_cons_succ]
        refine wpAnyH_take (i := 11) (v := ?_) (by (rw [List.getElem?_toArray]; exact rfl)) (by kernel_rfl) (by kernel_rfl) (by kernel_rfl) (fun _ _ _ h => h) (Or.inl ⟨by rfl, ?_⟩) (by assumption) ?_
        rotate_left
        · (intro W hSw; (try dsimp only at hSw); go_simp <;> with_reducible rfl)
        try simp only [Act.put, List.setIfInBounds_toArray, List.set_cons_zero, List.set_cons_succ]
        refine wpAnyH_take (i := 12) (v := ?_) (by (rw [List.getElem?_toArray]; exact rfl)) (by kernel_rfl) (by kernel_rfl) (by kernel_rfl) (fun _ _ _ h => h) (Or.inl ⟨by rfl, ?_⟩) (by assumption) ?_
        rotate_left
        · (intro W hSw; (try dsimp only at hSw); go_simp <;> with_reducible rfl)
        try simp only [Act.put, List.setIfInBounds_toArray, List.set_cons_zero, List.set_cons_succ]
        refine wpAnyH_take (i := 13) (v := ?_) (by (rw [List.getElem?_toArray]; exact rfl)) (by kernel_rfl) (by kernel_rfl) (by kernel_rfl) (fun _ _ _ h => h) (Or.inl ⟨by rfl, ?_⟩) (by assumption) ?_
        rotate_left
        · (intro W hSw; (try dsimp only at hSw); go_simp <;> with_reducible rfl)
        try simp only [Act.put, List.setIfInBounds_toArray, List.set_cons_zero, List.set_cons_succ]
        refine wpAnyH_ready (rs := [7]) (by kernel_rfl) (by simp) (AllReadyH.cons (by (rw [List.getElem?_toArray]; exact rfl)) (fun K hK => ?_) AllReadyH.nil)
        go_simp
        go_at_call 14
        with_reducible refine (ha1 _ lp).mono ?_
        rintro e wa ⟨rfl, la, ga⟩
        have rk := rk.grown ga lp.2
        have Xa := X.keep (ga.block y X.lt (by intro e; injection e with e; exact hne.out.ym e))
        have Za := Z.keep (ga.block w.heap.size Z.lt (by intro e; injection e with e; exact hne.out.xm e))
        have Ba := fhid (B5.out.trans (grown_below (B := w.heap.size) ga hne.out.wm B5.out.size))
        have z := hz.out _ Xa
        replace la := fhid la
        go_simp
        refine hK.out _ _ z (fun hHeld => ?_)
        clear hK K
        try simp only [Act.put, List.setIfInBounds_toArray, List.set_cons_zero, List.set_cons_succ]
        refine wpAnyH_ready (rs := [14]) (by kernel_rfl) (by simp) (AllReadyH.cons (by (rw [List.getElem?_toArray]; exact rfl)) (fun K hK => ?_) AllReadyH.nil)
        go_simp
        go_at_call 15
        with_reducible refine (ha2.out _ rk).mono ?_
        rintro e wb ⟨rfl, ⟨L2, rb, hp2, hu2⟩, gb⟩
        have la := la.out.grown gb hne.out.pr hne.out.mr
        have Xb := Xa.keep (gb.block y Xa.lt (by intro e; injection e with e; exact hne.out.yr e))
        have Zb := Za.keep (gb.block w.heap.size Za.lt (by intro e; injection e with e; exact hne.out.xr e))
        have Bb := fhid (Ba.out.trans (grown_below (B := w.heap.size) gb hne.out.wr Ba.out.size))
        have z := hz.out _ Xb
        go_simp
        refine hK.out _ _ z (fun hHeld => ?_)
        clear hK K
        try simp only [Act.put, List.setIfInBounds_toArray, List.set_cons_zero, List.set_cons_succ]
        refine wpAnyH_take (i := 15) (v := ?_) (by (rw [List.getElem?_toArray]; exact rfl)) (by kernel_rfl) (by kernel_rfl) (by kernel_rfl) (fun _ _ _ h => h) (Or.inl ⟨by rfl, ?_⟩) (by assumption) ?_
        rotate_left
        · (intro W hSw; (try dsimp only at hSw); go_simp <;> with_reducible rfl)
        try simp only [Act.put, List.setIfInBounds_toArray, List.set_cons_zero, List.set_cons_succ]
        refine wpAnyH_done (by kernel_rfl) ?_ _
        refine NoPanic.normal ?_
        have hyl := Xb.lt
        have hxl := Zb.lt
        have e0 := Xb.cell 0
        have f0 := Zb.cell 0
        simp only [List.getElem?_cons_zero] at e0 f0
        have gL2 : Good L2 := good_perm g1.out hp2.symm
        clear ha1 ha2 hHeld z hz X Z Xa Za rk Ba B5 X4 Z4 l4 r4 B4 lp tt ga gb
        replace hp2 := fhid hp2
        replace hu2 := fhid hu2
        replace gL2 := fhid gL2
        replace Xb := fhid Xb
        replace Zb := fhid Zb
        replace rb := fhid rb
        replace la := fhid la
        go_upto_region 13 with fail
        have UX : Box (wb.alloc (.cells #[.string (str s), .string (str s2)] 9)) wb.heap.size 9 [.string (str s), .string (str s2)] := Box.new wb 9 _
        have BC : Below wb.heap.size wb (wb.alloc (.cells #[.string (str s), .string (str s2)] 9)) := (Below.refl _ _).alloc (Nat.le_refl _) _
        have lc := fhid (la.out.below BC)
        have rc := fhid (rb.out.below BC)
        have Xc := Xb.out.below BC hyl
        have Zc := Zb.out.below BC hxl
        have Bc := fhid (Bb.out.trans (BC.mono Bb.out.size))
        clear la rb Xb Zb Bb BC e0 f0 hyl hxl
        generalize wb.alloc _ = wc at *
        generalize wb.heap.size = gu at *
        have hgu := UX.lt
        have hU := fhid (show ∀ c (hc : c < [s, s2].length), wc.cell? ⟨gu, c, none⟩ = some (.string (str [s, s2][c])) from fun c hc => by
          have h0 := UX.cell 0
          have h1 := UX.cell 1
          match c, hc with
          | 0, _ => exact h0
          | 1, _ => exact h1)
        have hyl := Xc.lt
        have hxl := Zc.lt
        have e2 := Xc.cell 2
        have f2 := Zc.cell 2
        simp only [List.getElem?_cons_zero, List.getElem?_cons_succ] at e2 f2
        replace UX := fhid UX
        replace Xc := fhid Xc
        replace Zc := fhid Zc
        go_loopw [84] (fun i wr2 => ∃ c : Nat, c ≤ 2 ∧ i = .int .i64 (c : Nat) ∧ Below wc.heap.size wc wr2) (fun i _ => 2 - (intOf i).toNat)
        case atStart => exact ⟨0, by omega, rfl, Below.refl _ _⟩
        case round =>
          obtain ⟨c, hc, rfl, hB2⟩ := hrel
          have c0 : (0 : Int) ≤ c := by omega
          have e3 := (hB2.cell (p := ⟨y, 2, none⟩) hyl).trans e2
          have f3 := (hB2.cell (p := ⟨w.heap.size, 2, none⟩) hxl).trans f2
          have hyl2 := Nat.lt_of_lt_of_le hyl hB2.size
          have hxl2 := Nat.lt_of_lt_of_le hxl hB2.size
          by_cases hlt2 : c < 2
          · have c1 : (c : Int) < 2 := by omega
            have hcu := (hB2.cell (p := ⟨gu, c, none⟩) hgu).trans (hU.out c hlt2)
            have hgu2 := Nat.lt_of_lt_of_le hgu hB2.size
            generalize [s, s2][c] = u at *
            go_upto_region 16 with fail
            have TX : Box (wr.alloc (.cells #[.int .i64 now, .int .i64 now2] 3)) wr.heap.size 3 [.int .i64 now, .int .i64 now2] := Box.new wr 3 _
            have B3 : Below wc.heap.size wc (wr.alloc (.cells #[.int .i64 now, .int .i64 now2] 3)) := hB2.alloc hB2.size _
            clear e3 f3 hcu hgu2 hyl2 hxl2
            generalize wr.alloc _ = wd at *
            generalize wr.heap.size = gt at *
            have hgt := TX.lt
            have hT := fhid (show ∀ d (hd : d < [now, now2].length), wd.cell? ⟨gt, d, none⟩ = some (.int .i64 [now, now2][d]) from fun d hd => by
              have h0 := TX.cell 0
              have h1 := TX.cell 1
              match d, hd with
              | 0, _ => exact h0
              | 1, _ => exact h1)
            replace TX := fhid TX
            have ld := fhid (lc.out.below B3)
            have rd := fhid (rc.out.below B3)
            go_loopw [94] (fun i wr3 => ∃ d : Nat, d ≤ 2 ∧ i = .int .i64 (d : Nat) ∧ Below wd.heap.size wd wr3) (fun i _ => 2 - (intOf i).toNat)
            case atStart => exact ⟨0, by omega, rfl, Below.refl _ _⟩
            case round =>
              obtain ⟨d, hd, rfl, hB4⟩ := hrel
              have d0 : (0 : Int) ≤ d := by omega
              by_cases hlt3 : d < 2
              · have d1 : (d : Int) < 2 := by omega
                have hdt := (hB4.cell (p := ⟨gt, d, none⟩) hgt).trans (hT.out d hlt3)
                have hgt2 := Nat.lt_of_lt_of_le hgt hB4.size
                generalize [now, now2][d] = t at *
                have l6 := ld.out.below hB4
                have r6 := rd.out.below hB4
                have h1 := Used_any l6 hh g1.out u t
                have h2 := fun W (b : RB W r h L2) => rUsed_any b hh hu2.out gL2.out u t
                have h3 := fun W (l : LB W p m h M1) => Factor_any l hh g1.out u t
                have h4 := fun W (b : RB W r h L2) => rFactor_any b hh hu2.out gL2.out u t
                rw [used_perm hp2.out hu2.out.nodup] at h2
                rw [factor_perm hp2.out hu2.out.nodup] at h4
                unfold IntP at h1 h2 h3 h4
                generalize usedP h M1 u t = v1 at *
                generalize factorP h M1 u t = v2 at *
                obtain ⟨y1, y2⟩ := v1
                obtain ⟨y3, y4⟩ := v2
                simp only at h1 h2 h3 h4
                replace h2 := fhid h2
                replace h3 := fhid h3
                replace h4 := fhid h4
                replace l6 := fhid l6
                replace r6 := fhid r6
                go_wp2_with (first
                  | (go_at_call 16; (with_reducible refine h1.mono ?_); rintro e w6 ⟨rfl, b6⟩; clear h1)
                  | (go_at_call 17; (with_reducible refine (h2.out _ (r6.out.below b6)).mono ?_); rintro e w7 ⟨rfl, b7⟩
                     have b7 := b6.trans (b7.mono b6.size); clear h2 b6)
                  | (go_at_call 18; (with_reducible refine (h3.out _ (l6.out.below b7)).mono ?_); rintro e w8 ⟨rfl, b8⟩
                     have b8 := b7.trans (b8.mono b7.size); clear h3 b7)
                  | (go_at_call 19; (with_reducible refine (h4.out _ (r6.out.below b8)).mono ?_); rintro e w9 ⟨rfl, b9⟩
                     have b9 := b8.trans (b9.mono b8.size); clear h4 b8))
                go_roundw
                case rel => exact ⟨d + 1, by omega, by go_num, hB4.trans (b9.mono hB4.size)⟩
                case measure => simp [intOf]; omega
              · obtain rfl : d = 2 := by omega
                go_wp2_with fail
                go_roundw
                case rel => exact ⟨c + 1, by omega, by go_num, B3.trans (hB4.mono B3.size)⟩
                case measure => simp [intOf]; omega
          · obtain rfl : c = 2 := by omega
            have l6 := lc.out.below hB2
            have r6 := rc.out.below hB2
            have Z6 := Zc.out.below hB2 hxl
            have B6 := Bc.out.trans (hB2.mono Bc.out.size)
            have h1 := Total_any l6 hh g1.out now2
            have h2 := fun W (b : RB W r h L2) => rTotal_any b hh gL2.out now2
            rw [total_perm hp2.out] at h2
            unfold IntP at h1 h2
            generalize totalP h M1 now2 = v1 at *
            obtain ⟨y1, y2⟩ := v1
            simp only at h1 h2
            have hZ := fhid (show ∀ W, Below wr.heap.size wr W → W.cell? ⟨w.heap.size, 2, none⟩ = some (.int .i64 now2) ∧ w.heap.size < W.heap.size from fun W hB => ⟨(Z6.below hB Z6.lt).cell 2, (Z6.below hB Z6.lt).lt⟩)
            replace l6 := fhid l6
            replace r6 := fhid r6
            replace Z6 := fhid Z6
            replace h2 := fhid h2
            clear e2 f2 hU
            go_wp2_with (first
              | (go_at_call 20; (with_reducible refine h1.mono ?_); rintro e w6 ⟨rfl, b6⟩; clear h1; obtain ⟨q1, q2⟩ := hZ.out _ b6)
              | (go_at_call 21; (with_reducible refine (h2.out _ (r6.out.below b6)).mono ?_); rintro e w7 ⟨rfl, b7⟩
                 have b7 := b6.trans (b7.mono b6.size); clear h2 b6))
            go_roundw
            case rel => exact ⟨j + 1, M1, L2, by omega, by go_num, l6.out.below b7, r6.out.below b7, hp2.out, hu2.out, g1.out, Z6.out.below b7 Z6.out.lt, B6.trans (b7.mono B6.size)⟩
            case measure => simp [intOf]; omega
      · obtain rfl : j = q.length := by omega
        have j1 : ¬ ((q.length : Int) < q.length) := by omega
        clear hsm s0
        have h1 := Users_any lr hh g
        have h2 := fun W (b : RB W r h L) => rUsers_any b gL.len
        rw [names_up hu g hp] at h2
        have hnl : (namesS M).length ≤ 1024 := by rw [names_len]; exact g.len
        have h3 := fun W A A' c c' h1 h2 => same_names W (namesS M) hnl A A' c c' h1 h2
        generalize namesS M = ns at *
        unfold NamesFrom at h1 h2
        replace h2 := fhid h2
        replace h3 := fhid h3
        replace rr := fhid rr
        replace Br := fhid Br
        replace Zr := fhid Zr
        go_wp2_with (first
          | (go_at_call 23; (with_reducible refine h1.mono ?_); rintro e w6 ⟨v6, rfl, o6, b6⟩; clear h1; obtain ⟨A6, c6, rfl, n6⟩ := name_at o6; replace n6 := fhid n6)
          | (go_at_call 24; (with_reducible refine (h2.out _ (rr.out.below b6)).mono ?_); rintro e w7 ⟨v7, rfl, o7, b7⟩; clear h2; obtain ⟨A7, c7, rfl, n7⟩ := name_at o7; replace n7 := fhid n7)
          | (go_at_call 22; (with_reducible refine (h3.out w7 A6 A7 c6 c7 (names_below n6.out b7) n7.out).mono ?_); rintro e w8 ⟨rfl, b8⟩))
        go_ret
        exact ⟨rfl, (Br.out.trans (b6.mono Br.out.size)).trans ((b7.trans (b8.mono b7.size)).mono (Nat.le_trans Br.out.size b6.size))⟩
  · have hnew := New_no h W1 hh
    rw [if_neg hh, if_neg hh] at hrn
    replace s1 := fhid s1
    replace X1 := fhid X1
    replace B1 := fhid B1
    go_enter Try.func3, Try.ntmps3
    go_upto_region 1 with fail
    rw [← hW1.out]
    clear hW1
    go_wp2_with (first
      | (go_at_call 10; (with_reducible refine hnew.mono ?_); rintro e w2 ⟨rfl, rfl⟩)
      | (go_at_call 11; (with_reducible refine (hrn _).mono ?_); rintro e w3 ⟨rfl, b3⟩)
      | (go_at_call 12; (with_reducible refine (hal _).mono ?_); rintro e w6 ⟨rfl, b6⟩))
    go_ret
    have B3 := B1.out.trans (b3.mono B1.out.size)
    have B4 := B3.alloc B3.size (.cells #[.int .i64 0, .slice none 0 0] TRL)
    exact ⟨rfl, B4.trans (b6.mono B4.size)⟩
end Go.Proofs.Ytmbgcphiigmdjaa
