/-
  Parts: ZDoes ZCode ZSave ZShut.
-/
import Derived.Test.YtmnmcikbbfcjcaaGreatDoorZ1
import Derived.Test.YtmnmcikbbfcjcaaGreatDoorK7
import Derived.Test.YtmnmcikbbfcjcaaGreatDoorC1
import Derived.Test.YtmnmcikbbfcjcaaGreatDoorC2
import Derived.Test.YtmnmcikbbfcjcaaGreatDoorK8
import Derived.Test.YtmnmcikbbfcjcaaGreatDoorX1
import Derived.Test.YtmnmcikbbfcjcaaGreatDoorZ2
set_option linter.unusedSimpArgs false
set_option linter.unusedVariables false
/-
  One call of a script; a script that is not too long.
-/
namespace Go.Proofs.YtmnmcikbbfcjcaaGreatDoor.Ps
open Go.RowKit Go.Shelf Vs Ns

abbrev TAct : TypeId := 48
def actV (a : ActC) : List Value := [.int .u8 a.1, .int .i64 a.2.1, .int .i64 a.2.2.1, .int .u64 (Bs.word a.2.2.2 0), .int .u64 (Bs.word a.2.2.2 1), .int .u64 (Bs.word a.2.2.2 2), .int .u64 (Bs.word a.2.2.2 3)]
def okA (a : ActC) : Prop := 0 ≤ a.1 ∧ a.1 ≤ 255
theorem seven {w : World} {b : Nat} {T : TypeId} {c0 c1 c2 c3 c4 c5 c6 : Value} (h : Box w b T [c0, c1, c2, c3, c4, c5, c6]) :
    w.cell? ⟨b, 0, none⟩ = some c0 ∧ w.cell? ⟨b, 1, none⟩ = some c1 ∧ w.cell? ⟨b, 2, none⟩ = some c2 ∧ w.cell? ⟨b, 3, none⟩ = some c3 ∧ w.cell? ⟨b, 4, none⟩ = some c4 ∧ w.cell? ⟨b, 5, none⟩ = some c5 ∧ w.cell? ⟨b, 6, none⟩ = some c6 ∧ b < w.heap.size :=
  ⟨Box.cell h 0, Box.cell h 1, Box.cell h 2, Box.cell h 3, Box.cell h 4, Box.cell h 5, Box.cell h 6, Box.lt h⟩
set_option maxRecDepth 100000 in
set_option maxHeartbeats 8000000 in
theorem Does_any (p : Nat) (P : Pl) (a : ActC) (w : World) (hP : PB w p P) (hG : Good P) (hT : TabW w) (hD : Bs.Tab w) (ha : okA a) :
    Calls Tryz.prog 10 #[.pointer (some ⟨p, 0, none⟩), .agg (actV a).toArray] w (TickPost w p (actP P a)) := by
  obtain ⟨hk0, hk1⟩ := ha
  have hdo := fun W (hb : Below w.heap.size w W) => Do_any p P a.2.1 a.2.2.1 W (hP.below hb) hG (hT.below hb) (Bs.tab_below hD hb)
  have hal := fun W (hb : Below w.heap.size w W) => All_any p P a.2.2.2 a.2.2.1 W (hP.below hb) hG (hT.below hb) (Bs.tab_below hD hb)
  have htk := fun W (hb : Below w.heap.size w W) => Tick_any p P a.2.1 W (hP.below hb) hG (hT.below hb) (Bs.tab_below hD hb)
  unfold AllPost at hdo hal
  unfold TickPost at htk
  have hact : actP P a = if a.1 % 3 = 0 then ((doP P a.2.1 a.2.2.1).1, fun _ => false, (doP P a.2.1 a.2.2.1).2) else if a.1 % 3 = 1 then ((allP P a.2.2.2 a.2.2.1).1, fun _ => false, (allP P a.2.2.2 a.2.2.1).2) else tickP P a.2.1 := rfl
  have hpost := fhid (show ∀ (W W' : World) (Q : Pl) (q : Nat → Bool) (er : Int) (v0 v1 v2 v3 : Value), actP P a = (Q, q, er) → Below w.heap.size w W → PB W' p Q → FX (At3 p) W W' → Box W' (w.heap.size + 1) TNodes [.int .u64 0, .int .u64 0, .int .u64 0, .int .u64 0] → TickPost w p (actP P a) (.returned (.tuple #[Bs.nodes q, .int .i64 er])) ((((W'.setCell ⟨w.heap.size + 1, 0, none⟩ v0).setCell ⟨w.heap.size + 1, 1, none⟩ v1).setCell ⟨w.heap.size + 1, 2, none⟩ v2).setCell ⟨w.heap.size + 1, 3, none⟩ v3) from fun W W' Q q er v0 v1 v2 v3 he hb hQ hf hX => by
    rw [he]
    have hpl := hP.lt
    refine ⟨rfl, hQ.fx (q := w.heap.size + 1) ((((FX.of (Below.refl _ _)).set (X := At3 (w.heap.size + 1)) rfl 0 _).set rfl 1 _).set rfl 2 _ |>.set rfl 3 _) (by omega) (.inl ⟨TNodes, _, hX, by decide⟩), ?_⟩
    have s1 : w.heap.size ≤ w.heap.size + 1 := by omega
    exact fx_new (fx_new (fx_new (fx_new (fx_trans (FX.of hb) hf) s1 0 _) s1 1 _) s1 2 _) s1 3 _)
  obtain ⟨k, i, ev, q⟩ := a
  simp only at hk0 hk1 hdo hal htk hact hpost
  unfold actV
  simp only
  obtain ⟨q0, q1, bA, hz⟩ := two_boxes w TAct TNodes [.int .u8 k, .int .i64 i, .int .i64 ev, .int .u64 (Bs.word q 0), .int .u64 (Bs.word q 1), .int .u64 (Bs.word q 2), .int .u64 (Bs.word q 3)] [.int .u64 0, .int .u64 0, .int .u64 0, .int .u64 0]
  have hpl := hP.lt
  have hn0 := nodes_none
  have htm : k.tmod 3 = k % 3 := Int.tmod_eq_emod_of_nonneg hk0
  have hcase : k % 3 = 0 ∨ k % 3 = 1 ∨ k % 3 = 2 := by omega
  have hnq : Bs.nodes q = .agg #[.int .u64 (Bs.word q 0), .int .u64 (Bs.word q 1), .int .u64 (Bs.word q 2), .int .u64 (Bs.word q 3)] := rfl
  rw [hnq] at hal
  clear hnq
  generalize (Bs.word q 0 : Int) = u0 at *
  generalize (Bs.word q 1 : Int) = u1 at *
  generalize (Bs.word q 2 : Int) = u2 at *
  generalize (Bs.word q 3 : Int) = u3 at *
  have hpw : p < w.heap.size := hP.lt
  generalize TickPost w p (actP P (k, i, ev, q)) = Post at *
  clear hP hG hT hD hk0 hk1
  rcases hcase with hm | hm | hm
  · rw [hm] at htm
    rw [if_pos hm] at hact
    obtain ⟨⟨Q, er⟩, hR⟩ : ∃ x, doP P i ev = x := ⟨_, rfl⟩
    rw [hR] at hdo hact
    simp only at hdo hact
    have hp2 := fun W W' v0 v1 v2 v3 => hpost.out W W' Q _ er v0 v1 v2 v3 hact
    rw [hn0] at hp2
    clear hal htk hR hm hact hpost hn0
    replace hp2 := fhid hp2
    go_enter Tryz.func10, Tryz.ntmps10
    go_upto_region 1 with fail
    generalize (w.alloc _).alloc _ = w1 at *
    obtain ⟨c0, c1, c2, c3, c4, c5, c6, xl⟩ := seven q0
    replace q0 := fhid q0
    have yl := Box.lt q1
    replace q1 := fhid q1
    go_wp2_with (go_at_call 15; (with_reducible refine (hdo _ bA).mono ?_); rintro e w3 ⟨rfl, P3, f3⟩
                 have X3 := f3.box q1.out (show ¬ w.heap.size + 1 = p by omega)
                 obtain ⟨⟨y0, y1, y2, y3⟩, r0, r1, r2, r3⟩ := Box.four X3
                 have zl := Box.lt X3)
    exact bodyPost_ret (v := .tuple #[.agg #[.int .u64 0, .int .u64 0, .int .u64 0, .int .u64 0], .int .i64 er]) (by simp [results, Tryz.results10, go_sem, y0, y1, y2, y3, zl]) rfl (hp2.out _ _ _ _ _ _ bA P3 f3 X3)
  · rw [hm] at htm
    rw [if_neg (by omega), if_pos hm] at hact
    obtain ⟨⟨Q, er⟩, hR⟩ : ∃ x, allP P q ev = x := ⟨_, rfl⟩
    rw [hR] at hal hact
    simp only at hal hact
    have hp2 := fun W W' v0 v1 v2 v3 => hpost.out W W' Q _ er v0 v1 v2 v3 hact
    rw [hn0] at hp2
    clear hdo htk hR hm hact hpost hn0
    replace hp2 := fhid hp2
    go_enter Tryz.func10, Tryz.ntmps10
    go_upto_region 1 with fail
    generalize (w.alloc _).alloc _ = w1 at *
    obtain ⟨c0, c1, c2, c3, c4, c5, c6, xl⟩ := seven q0
    replace q0 := fhid q0
    have yl := Box.lt q1
    replace q1 := fhid q1
    go_wp2_with (go_at_call 23; (with_reducible refine (hal _ bA).mono ?_); rintro e w3 ⟨rfl, P3, f3⟩
                 have X3 := f3.box q1.out (show ¬ w.heap.size + 1 = p by omega)
                 obtain ⟨⟨y0, y1, y2, y3⟩, r0, r1, r2, r3⟩ := Box.four X3
                 have zl := Box.lt X3)
    exact bodyPost_ret (v := .tuple #[.agg #[.int .u64 0, .int .u64 0, .int .u64 0, .int .u64 0], .int .i64 er]) (by simp [results, Tryz.results10, go_sem, y0, y1, y2, y3, zl]) rfl (hp2.out _ _ _ _ _ _ bA P3 f3 X3)
  · rw [hm] at htm
    rw [if_neg (by omega), if_neg (by omega)] at hact
    obtain ⟨⟨Q, s, er⟩, hR⟩ : ∃ x, tickP P i = x := ⟨_, rfl⟩
    rw [hR] at htk hact
    simp only at htk hact
    have hp2 := fun W W' v0 v1 v2 v3 => hpost.out W W' Q s er v0 v1 v2 v3 hact
    simp only [Bs.nodes] at htk hp2
    generalize (Bs.word s 0 : Int) = s0 at *
    generalize (Bs.word s 1 : Int) = s1 at *
    generalize (Bs.word s 2 : Int) = s2 at *
    generalize (Bs.word s 3 : Int) = s3 at *
    clear hdo hal hR hm hact hpost hn0
    replace hp2 := fhid hp2
    go_enter Tryz.func10, Tryz.ntmps10
    go_upto_region 1 with fail
    generalize (w.alloc _).alloc _ = w1 at *
    obtain ⟨c0, c1, c2, c3, c4, c5, c6, xl⟩ := seven q0
    replace q0 := fhid q0
    have yl := Box.lt q1
    replace q1 := fhid q1
    go_wp2_with (go_at_call 17; (with_reducible refine (htk _ bA).mono ?_); rintro e w3 ⟨rfl, P3, f3⟩
                 have X3 := f3.box q1.out (show ¬ w.heap.size + 1 = p by omega)
                 obtain ⟨⟨y0, y1, y2, y3⟩, r0, r1, r2, r3⟩ := Box.four X3
                 have zl := Box.lt X3)
    exact bodyPost_ret (v := .tuple #[.agg #[.int .u64 s0, .int .u64 s1, .int .u64 s2, .int .u64 s3], .int .i64 er]) (by simp [results, Tryz.results10, go_sem, y0, y1, y2, y3, zl]) rfl (hp2.out _ _ _ _ _ _ bA P3 f3 X3)
/-- The script's rows. -/
def AVs (l : List ActC) : List Value := l.flatMap actV
theorem AVs_len (l : List ActC) : (AVs l).length = l.length * 7 := by
  induction l with
  | nil => rfl
  | cons a l ih => unfold AVs at *; rw [List.flatMap_cons, List.length_append, ih, List.length_cons]; simp [actV]; omega
theorem AVs_get : ∀ (l : List ActC) (k : Nat) (hk : k < l.length) (j : Nat), j < 7 → (AVs l)[k * 7 + j]? = (actV l[k])[j]?
  | a :: l, 0, _, j, hj => by
    show (actV a ++ AVs l)[0 * 7 + j]? = _
    rw [List.getElem?_append_left (by simp [actV]; omega)]
    simp
  | a :: l, k + 1, hk, j, hj => by
    show (actV a ++ AVs l)[(k + 1) * 7 + j]? = _
    rw [List.getElem?_append_right (by simp [actV]; omega), show (k + 1) * 7 + j - (actV a).length = k * 7 + j by simp [actV]; omega, AVs_get l k (by simpa using hk) j hj]
    rfl
theorem RdS.act {w : World} {A : Option Addr} {n cap : Nat} {l : List ActC} (h : RdS w A n cap (AVs l)) {k : Nat} (hk : k < l.length) : ∃ b o, A = some ⟨b, o, none⟩ ∧ b < w.heap.size ∧
    w.cell? ⟨b, o + k * 7, none⟩ = some (.int .u8 l[k].1) ∧ w.cell? ⟨b, o + k * 7 + 1, none⟩ = some (.int .i64 l[k].2.1) ∧ w.cell? ⟨b, o + k * 7 + 2, none⟩ = some (.int .i64 l[k].2.2.1) ∧ w.cell? ⟨b, o + k * 7 + 3, none⟩ = some (.int .u64 (Bs.word l[k].2.2.2 0)) ∧
    w.cell? ⟨b, o + k * 7 + 4, none⟩ = some (.int .u64 (Bs.word l[k].2.2.2 1)) ∧ w.cell? ⟨b, o + k * 7 + 5, none⟩ = some (.int .u64 (Bs.word l[k].2.2.2 2)) ∧ w.cell? ⟨b, o + k * 7 + 6, none⟩ = some (.int .u64 (Bs.word l[k].2.2.2 3)) := by
  have hl := AVs_len l
  obtain ⟨b, o, e, hb, hc⟩ := h.2.2 (by rw [hl]; omega)
  have hg : ∀ j, j < 7 → w.cell? ⟨b, o + k * 7 + j, none⟩ = (actV l[k])[j]? := fun j hj => by
    rw [Nat.add_assoc, hc (k * 7 + j) (by rw [hl]; omega), ← AVs_get l k hk j hj, List.getElem?_eq_getElem (by rw [hl]; omega)]
  exact ⟨b, o, e, hb, hg 0 (by omega), hg 1 (by omega), hg 2 (by omega), hg 3 (by omega), hg 4 (by omega), hg 5 (by omega), hg 6 (by omega)⟩
/-- What a script comes to. -/
def playP (P : Pl) (l : List ActC) : Pl := l.foldl (fun P a => (actP P a).1) P
theorem play_snoc (P : Pl) (l : List ActC) (k : Nat) (hk : k < l.length) : playP P (l.take (k + 1)) = (actP (playP P (l.take k)) l[k]).1 := by
  unfold playP
  rw [List.take_succ_eq_append_getElem hk, List.foldl_append]
  rfl
theorem play_good {P : Pl} (hG : Good P) : ∀ l : List ActC, Good (playP P l) ∧ (playP P l).L.length = P.L.length ∧ (playP P l).boot = P.boot ∧ (playP P l).stop = P.stop ∧ (playP P l).retry = P.retry := by
  intro l
  induction l generalizing P with
  | nil => exact ⟨hG, rfl, rfl, rfl, rfl⟩
  | cons a l ih =>
    obtain ⟨h1, h2, h3, h4, h5, _⟩ := act_facts hG a
    obtain ⟨k1, k2, k3, k4, k5⟩ := ih h1
    exact ⟨k1, k2.trans h2, k3.trans h3, k4.trans h4, k5.trans h5⟩
def shortL (l : List ActC) : List ActC := l.take 200
set_option maxRecDepth 100000 in
set_option maxHeartbeats 1000000 in
theorem short_any (A : Option Addr) (l : List ActC) (cap : Nat) (w : World) (h : RdS w A l.length cap (AVs l)) :
    Calls Tryz.prog 9 #[.slice A l.length cap] w fun e w' => ∃ c', e = .returned (.slice A (shortL l).length c') ∧ RdS w A (shortL l).length c' (AVs (shortL l)) ∧ w' = w := by
  obtain ⟨h1, h2, h3⟩ := h
  have hl : (shortL l).length = min l.length 200 := by unfold shortL; rw [List.length_take]; omega
  have hp : RdS w A (shortL l).length cap (AVs (shortL l)) := by
    refine ⟨by omega, h2, fun h0 => ?_⟩
    have e : AVs l = AVs (shortL l) ++ AVs (l.drop 200) := by unfold AVs shortL; rw [← List.flatMap_append, List.take_append_drop]
    have hle : (AVs (shortL l)).length ≤ (AVs l).length := by rw [e, List.length_append]; omega
    obtain ⟨b, o, ea, hb, hc⟩ := h3 (by omega)
    refine ⟨b, o, ea, hb, fun j hj => ?_⟩
    rw [hc j (by omega)]
    congr 1
    simp only [e]
    exact List.getElem_append_left hj
  have hm : min (l.length : Int) 200 = ((shortL l).length : Nat) := by rw [hl]; omega
  have hm1 : (0 : Int) ≤ ((shortL l).length : Nat) := by omega
  have hm2 : (((shortL l).length : Nat) : Int) ≤ cap := by rw [hl]; omega
  have hcz : (cap : Int) ≤ 9223372036854775807 := by unfold maxLen at h2; omega
  generalize (shortL l).length = m at *
  generalize AVs (shortL l) = xs at *
  clear h3 hl
  replace hp := fhid hp
  go_enter Tryz.func9, Tryz.ntmps9
  go_wp2_with fail
  go_ret
  exact ⟨_, rfl, hp.out, rfl⟩
end Go.Proofs.YtmnmcikbbfcjcaaGreatDoor.Ps
/-
  A pool's bytes, and what bytes are read as, as plain functions.
-/
namespace Go.Proofs.YtmnmcikbbfcjcaaGreatDoor.Ps
open Go.RowKit Ns

def nodeB (n : N3) : List UInt8 := Cs.nb n.1 ++ (Cs.nb n.2.1 ++ Cs.nb n.2.2)
def saveP (P : Pl) : List UInt8 := Cs.nb P.now ++ P.L.flatMap nodeB
/-- Where a reader is: its place, its fault. -/
abbrev St := Nat × Int × Int
def nodeR (l : List UInt8) (now : Int) (s : St) : N3 × St :=
  let a := Cs.inStep l s.1 s.2.1 s.2.2 0 7
  let b := Cs.inStep l a.2.1 a.2.2.1 a.2.2.2 0 now
  let c := Cs.inStep l b.2.1 b.2.2.1 b.2.2.2 0 4611686018427387904
  ((a.1, b.1, c.1), c.2)
def nodesR (l : List UInt8) (now : Int) (s : St) : Nat → List N3 × St
  | 0 => ([], s)
  | k + 1 => ((nodesR l now s k).1 ++ [(nodeR l now (nodesR l now s k).2).1], (nodeR l now (nodesR l now s k).2).2)
theorem nodesR_len (l : List UInt8) (now : Int) (s : St) : ∀ k, (nodesR l now s k).1.length = k
  | 0 => rfl
  | k + 1 => by rw [nodesR, List.length_append, nodesR_len l now s k]; rfl
/-- What the first number comes to. -/
def headR (l : List UInt8) : Int × St := Cs.inStep l 0 0 0 0 1099511627776
def bodyR (l : List UInt8) (N : Nat) : List N3 × St := nodesR l (headR l).1 (headR l).2 N
def endR (l : List UInt8) (N : Nat) : Int × Int := Cs.endStep l (bodyR l N).2.1 (bodyR l N).2.2.1 (bodyR l N).2.2.2

theorem drop_at {C P R : List UInt8} (h : C = P ++ R) : C.drop P.length = R := by
  subst h; exact List.drop_left
theorem in_put {C P R : List UInt8} {n low high : Int} (h : C = P ++ (Cs.nb n ++ R)) (h1 : -9223372036854775808 ≤ n) (h2 : n ≤ 9223372036854775807) (hl : low ≤ n) (hh : n ≤ high) (f : Int) :
    Cs.inStep C P.length 0 f low high = (n, (P ++ Cs.nb n).length, 0, f) := by
  have hr : Cs.numRes C P.length low high = (n, (P ++ Cs.nb n).length, 0, 0) := by
    unfold Cs.numRes
    rw [drop_at h, Cs.dec_nb n R h1 h2]
    simp only [Cs.unfold_fold]
    rw [if_neg (by omega), List.length_append]
  unfold Cs.inStep
  rw [hr]
  simp
/-- What was read stood there. -/
theorem in_got {l : List UInt8} {at_ a2 : Nat} {why fat low high n f2 : Int} (h : Cs.inStep l at_ why fat low high = (n, a2, 0, f2)) :
    why = 0 ∧ f2 = fat ∧ low ≤ n ∧ n ≤ high ∧ l.take a2 = l.take at_ ++ Cs.nb n := by
  unfold Cs.inStep at h
  by_cases hw : why = 0
  · rw [if_neg (by simpa using hw)] at h
    by_cases hq : (Cs.numRes l at_ low high).2.2.1 = 0
    · rw [if_neg (by simpa using hq)] at h
      injection h with e1 h
      injection h with e2 h
      injection h with _ e3
      unfold Cs.numRes at e1 e2 hq
      cases hd : Cs.dec 0 0 (l.drop at_) with
      | got u k =>
        rw [hd] at e1 e2 hq
        simp only at e1 e2 hq
        by_cases hb : Cs.unfoldN u < low ∨ high < Cs.unfoldN u
        · rw [if_pos hb] at hq; simp at hq
        · rw [if_neg hb] at e1 e2
          simp only at e1 e2
          obtain ⟨x, r, hx, hu, hk, _⟩ := Cs.dec_inv _ 0 0 u k hd
          have hux : u = x := by simpa using hu
          have hkx : k = (Cs.vb x).length := by simpa using hk
          refine ⟨hw, e3.symm, by omega, by omega, ?_⟩
          have hn : Cs.nb n = Cs.vb x := by
            unfold Cs.nb
            rw [← e1, Cs.fold_unfold, hux]
          rw [← e2, List.take_add, hx, hn, hkx, List.take_left]
      | bad i => rw [hd] at hq; simp at hq
      | short => rw [hd] at hq; simp at hq
    · rw [if_pos hq] at h
      injection h with _ h
      injection h with _ h
      injection h with h _
      exact absurd h hq
  · rw [if_pos hw] at h
    injection h with _ h
    injection h with _ h
    injection h with h _
    exact absurd h hw
theorem node_put {C P R : List UInt8} {n : N3} {now : Int} (hn : okN now n) (h7 : now ≤ 1099511627776) (h : C = P ++ (nodeB n ++ R)) (f : Int) : nodeR C now (P.length, 0, f) = (n, (P ++ nodeB n).length, 0, f) := by
  obtain ⟨a1, a2, a3, a4, a5, a6⟩ := hn
  obtain ⟨x, y, z⟩ := n
  simp only at a1 a2 a3 a4 a5 a6
  unfold nodeB at h ⊢
  simp only at h ⊢
  unfold nodeR
  have q1 := in_put (C := C) (P := P) (R := Cs.nb y ++ (Cs.nb z ++ R)) (n := x) (low := 0) (high := 7) (by rw [h]; simp) (by omega) (by omega) a1 a2 f
  have q2 := in_put (C := C) (P := P ++ Cs.nb x) (R := Cs.nb z ++ R) (n := y) (low := 0) (high := now) (by rw [h]; simp) (by omega) (by omega) a3 a4 f
  have q3 := in_put (C := C) (P := P ++ Cs.nb x ++ Cs.nb y) (R := R) (n := z) (low := 0) (high := 4611686018427387904) (by rw [h]; simp) (by omega) (by omega) a5 a6 f
  simp only [q1, q2, q3]
  simp only [List.append_assoc]
theorem nodes_put {C P : List UInt8} {now : Int} (h7 : now ≤ 1099511627776) (f : Int) : ∀ (L R : List N3), (∀ n ∈ L, okN now n) → C = P ++ (L ++ R).flatMap nodeB → nodesR C now (P.length, 0, f) L.length = (L, (P ++ L.flatMap nodeB).length, 0, f) := by
  intro L
  induction hk : L.length generalizing L with
  | zero =>
    intro R _ _
    obtain rfl : L = [] := List.eq_nil_of_length_eq_zero hk
    simp [nodesR]
  | succ k ih =>
    intro R hL hC
    obtain ⟨M, n, rfl⟩ : ∃ M n, L = M ++ [n] := by
      rcases List.eq_nil_or_concat L with h | ⟨M, n, h⟩
      · rw [h] at hk; cases hk
      · exact ⟨M, n, by rw [h]; simp⟩
    have hM : M.length = k := by simpa using hk
    have h1 := ih M hM ([n] ++ R) (fun m hm => hL m (by simp [hm])) (by rw [hC, List.append_assoc])
    rw [nodesR, h1]
    have h2 := node_put (C := C) (P := P ++ M.flatMap nodeB) (R := R.flatMap nodeB) (n := n) (now := now) (hL n (by simp)) h7 (by rw [hC]; simp [List.flatMap_append]) f
    simp only [h2]
    simp [List.flatMap_append]
/-- What was saved is read. -/
theorem load_save {P : Pl} (hP : Good P) : headR (saveP P) = (P.now, (Cs.nb P.now).length, 0, 0) ∧ bodyR (saveP P) P.L.length = (P.L, (saveP P).length, 0, 0) ∧ endR (saveP P) P.L.length = (0, 0) := by
  have h0 := hP.n0
  have h1 := hP.n1
  have q1 : headR (saveP P) = (P.now, (Cs.nb P.now).length, 0, 0) := by
    have := in_put (C := saveP P) (P := []) (R := P.L.flatMap nodeB) (n := P.now) (low := 0) (high := 1099511627776) (by unfold saveP; simp) (by omega) (by omega) h0 h1 0
    rw [List.nil_append] at this
    exact this
  have q2 : bodyR (saveP P) P.L.length = (P.L, (saveP P).length, 0, 0) := by
    unfold bodyR
    rw [q1]
    have := nodes_put (C := saveP P) (P := Cs.nb P.now) h1 0 P.L [] hP.ns (by unfold saveP; simp)
    exact this
  refine ⟨q1, q2, ?_⟩
  unfold endR
  rw [q2]
  exact if_neg fun h => absurd h.2 (Nat.lt_irrefl _)
theorem node_got {l : List UInt8} {now : Int} {s : St} {n : N3} {a2 : Nat} {f2 : Int} (h : nodeR l now s = (n, a2, 0, f2)) : s.2.1 = 0 ∧ okN now n ∧ l.take a2 = l.take s.1 ++ nodeB n := by
  unfold nodeR at h
  simp only at h
  obtain ⟨a, sa, wa, fa, ha⟩ : ∃ a sa wa fa, Cs.inStep l s.1 s.2.1 s.2.2 0 7 = (a, sa, wa, fa) := ⟨_, _, _, _, rfl⟩
  rw [ha] at h
  simp only at h
  obtain ⟨b, sb, wb, fb, hb⟩ : ∃ b sb wb fb, Cs.inStep l sa wa fa 0 now = (b, sb, wb, fb) := ⟨_, _, _, _, rfl⟩
  rw [hb] at h
  simp only at h
  obtain ⟨c, sc, wc, fc, hc⟩ : ∃ c sc wc fc, Cs.inStep l sb wb fb 0 4611686018427387904 = (c, sc, wc, fc) := ⟨_, _, _, _, rfl⟩
  rw [hc] at h
  injection h with e1 h
  injection h with e2 h
  injection h with e3 _
  subst e1 e2 e3
  obtain ⟨k0, -, k1, k2, k3⟩ := in_got hc
  subst k0
  obtain ⟨j0, -, j1, j2, j3⟩ := in_got hb
  subst j0
  obtain ⟨i0, -, i1, i2, i3⟩ := in_got ha
  refine ⟨i0, ⟨i1, i2, j1, j2, k1, k2⟩, ?_⟩
  rw [k3, j3, i3]
  unfold nodeB
  simp
theorem nodes_got {l : List UInt8} {now : Int} {s : St} : ∀ (k : Nat) (L : List N3) (a2 : Nat) (f2 : Int), nodesR l now s k = (L, a2, 0, f2) → s.2.1 = 0 ∧ (∀ n ∈ L, okN now n) ∧ l.take a2 = l.take s.1 ++ L.flatMap nodeB := by
  intro k
  induction k with
  | zero =>
    intro L a2 f2 h
    rw [nodesR] at h
    injection h with e1 e2
    subst e1
    rw [e2]
    refine ⟨rfl, ?_, ?_⟩
    · intro n hn
      simp at hn
    · simp
  | succ k ih =>
    intro L a2 f2 h
    rw [nodesR] at h
    injection h with e1 e2
    subst e1
    obtain ⟨n, hn⟩ : ∃ n, (nodeR l now (nodesR l now s k).2).1 = n := ⟨_, rfl⟩
    have h1 : nodeR l now (nodesR l now s k).2 = (n, a2, 0, f2) := Prod.ext hn e2
    obtain ⟨i0, i1, i2⟩ := node_got h1
    obtain ⟨j0, j1, j2⟩ := ih (nodesR l now s k).1 (nodesR l now s k).2.1 (nodesR l now s k).2.2.2 (Prod.ext rfl (Prod.ext rfl (Prod.ext i0 rfl)))
    refine ⟨j0, fun m hm => ?_, ?_⟩
    · rw [hn] at hm
      rcases List.mem_append.1 hm with hm | hm
      · exact j1 m hm
      · rw [List.mem_singleton.1 hm]; exact i1
    · rw [i2, j2, hn]
      simp [List.flatMap_append]
/-- What is read, to the end, is what is saved. -/
theorem load_got {l : List UInt8} {N : Nat} (hle : (bodyR l N).2.1 ≤ l.length) (h : (endR l N).1 = 0) :
    (headR l).2.2.1 = 0 ∧ 0 ≤ (headR l).1 ∧ (headR l).1 ≤ 1099511627776 ∧ (∀ n ∈ (bodyR l N).1, okN (headR l).1 n) ∧ l = Cs.nb (headR l).1 ++ (bodyR l N).1.flatMap nodeB := by
  have hw : (bodyR l N).2.2.1 = 0 ∧ l.length ≤ (bodyR l N).2.1 := by
    unfold endR Cs.endStep at h
    split at h
    · simp at h
    · rename_i hn
      simp only at h
      exact ⟨h, by omega⟩
  obtain ⟨i0, i1, i2⟩ := nodes_got (l := l) (now := (headR l).1) (s := (headR l).2) N (bodyR l N).1 (bodyR l N).2.1 (bodyR l N).2.2.2 (Prod.ext rfl (Prod.ext rfl (Prod.ext hw.1 rfl)))
  have hq : Cs.inStep l 0 0 0 0 1099511627776 = ((headR l).1, (headR l).2.1, 0, (headR l).2.2.2) := Prod.ext rfl (Prod.ext rfl (Prod.ext i0 rfl))
  obtain ⟨-, -, j1, j2, j3⟩ := in_got hq
  refine ⟨i0, j1, j2, i1, ?_⟩
  rw [List.take_of_length_le hw.2, j3] at i2
  simpa using i2
end Go.Proofs.YtmnmcikbbfcjcaaGreatDoor.Ps
/-
  A pool's bytes, written.
-/
namespace Go.Proofs.YtmnmcikbbfcjcaaGreatDoor.Ps
open Go.RowKit Go.Shelf Vs Ns

abbrev TWr : TypeId := 81
/-- The writer of the call's own: what it has by now. -/
def SV (w W : World) (v : Value) (l : List UInt8) : Prop := Cs.Wr W w.heap.size v l ∧ (∀ b, v.ownBlock = some b → w.heap.size ≤ b) ∧ Below w.heap.size w W
theorem SV.below {w W W' : World} {v : Value} {l : List UInt8} (h : SV w W v l) (hb : Below W.heap.size W W') : SV w W' v l := ⟨h.1.below hb, h.2.1, h.2.2.trans (hb.mono h.2.2.size)⟩
theorem sv_start (w : World) : SV w (w.alloc (.cells #[.slice none 0 0] TWr)) (.slice none 0 0) [] := ⟨Cs.Wr.new w, fun b hb => by simp [Value.ownBlock] at hb, (Below.refl _ _).alloc (Nat.le_refl _) _⟩
theorem int_step (w W : World) (v : Value) (l : List UInt8) (ns : List Int) (k : Nat) (hk : W.heap.size = k) (h : SV w W v l) (hr : ∀ n ∈ ns, Cs.InR n) (hl : l.length + 10 * ns.length + 10 ≤ 140737488355328) :
    Calls Tryz.prog 25 #[.pointer (some ⟨w.heap.size, 0, none⟩), .slice (some ⟨k, 0, none⟩) ns.length ns.length] (W.alloc (.cells (ns.map (.int .i64)).toArray 3)) fun e w' => ∃ v', e = .returned (.tuple #[]) ∧ SV w w' v' (l ++ ns.flatMap Cs.nb) := by
  subst hk
  obtain ⟨h1, h2, h3⟩ := h
  have hb := (Below.refl W.heap.size W).alloc (Nat.le_refl _) (.cells (ns.map (.int .i64)).toArray 3)
  have hX := Box.new W 3 (ns.map (.int .i64))
  have hlt : ∀ b, v.ownBlock = some b → b < W.heap.size := fun b hb => (h1.2.lt b hb).2
  refine (Cs.Int_put w.heap.size v l (some ⟨W.heap.size, 0, none⟩) ns ns.length _ (h1.below hb) (fun h0 => ⟨W.heap.size, 0, rfl, Box.lt hX, fun j hj => ?_⟩) (fun _ a ha => ?_) hr hl).mono ?_
  · rw [Nat.zero_add]
    exact (Box.cell hX j).trans (List.getElem?_eq_getElem hj)
  · injection ha with ha
    subst ha
    refine ⟨?_, fun e => ?_⟩
    · show W.heap.size ≠ w.heap.size
      have := h1.lt
      omega
    · have := hlt _ e.symm
      simp at this
  · rintro e w' ⟨v', rfl, hw, he⟩
    refine ⟨v', rfl, hw, fun b hb' => ?_, (h3.trans (hb.mono h3.size)).trans (he.below (Nat.le_trans h3.size hb.size) (fun b e => by injection e with e; omega) h2)⟩
    rcases he.at_ with e | e | ⟨g, e, hg⟩
    · exact h2 b (by rw [← e]; exact hb')
    · rw [e] at hb'; cases hb'
    · rw [e] at hb'
      injection hb' with hb'
      have := h3.size
      have := hb.size
      omega
theorem int_step1 (w W : World) (v : Value) (l : List UInt8) (x : Int) (k : Nat) (hk : W.heap.size = k) (h : SV w W v l) (hr : ∀ n ∈ [x], Cs.InR n) (hl : l.length ≤ 1000000) :
    Calls Tryz.prog 25 #[.pointer (some ⟨w.heap.size, 0, none⟩), .slice (some ⟨k, 0, none⟩) 1 1] (W.alloc (.cells #[.int .i64 x] 3)) fun e w' => ∃ v', e = .returned (.tuple #[]) ∧ SV w w' v' (l ++ [x].flatMap Cs.nb) :=
  int_step w W v l [x] k hk h hr (by simp; omega)
theorem int_step3 (w W : World) (v : Value) (l : List UInt8) (x y z : Int) (k : Nat) (hk : W.heap.size = k) (h : SV w W v l) (hr : ∀ n ∈ [x, y, z], Cs.InR n) (hl : l.length ≤ 1000000) :
    Calls Tryz.prog 25 #[.pointer (some ⟨w.heap.size, 0, none⟩), .slice (some ⟨k, 0, none⟩) 3 3] (W.alloc (.cells #[.int .i64 x, .int .i64 y, .int .i64 z] 3)) fun e w' => ∃ v', e = .returned (.tuple #[]) ∧ SV w w' v' (l ++ [x, y, z].flatMap Cs.nb) :=
  int_step w W v l [x, y, z] k hk h hr (by simp; omega)
theorem flat_len {now : Int} {L : List N3} (hn : now ≤ 1099511627776) (h : ∀ n ∈ L, okN now n) : (L.flatMap nodeB).length ≤ 30 * L.length := by
  induction L with
  | nil => exact Nat.le_refl _
  | cons a L ih =>
    have ih := ih fun n hm => h n (by simp [hm])
    obtain ⟨h1, h2, h3, h4, h5, h6⟩ := h a (by simp)
    have k1 := Cs.nb_ten a.1 (by omega) (by omega)
    have k2 := Cs.nb_ten a.2.1 (by omega) (by omega)
    have k3 := Cs.nb_ten a.2.2 (by omega) (by omega)
    rw [List.flatMap_cons, List.length_append, List.length_cons]
    unfold nodeB at *
    simp only [List.length_append] at *
    omega
/-- What Save comes to. -/
def SavePost (w : World) (l : List UInt8) (e : Ending) (w' : World) : Prop := ∃ v, e = .returned v ∧ Cs.Own w' w.heap.size v l ∧ Below w.heap.size w w'
set_option maxRecDepth 100000 in
set_option maxHeartbeats 8000000 in
theorem Save_any (p : Nat) (P : Pl) (w : World) (hP : PB w p P) (hG : Good P) :
    Calls Tryz.prog 11 #[.pointer (some ⟨p, 0, none⟩)] w (SavePost w (saveP P)) := by
  have hm := made_any p P w hP hG.l1
  have hlb := hG.l2
  have hn0 := hG.n0
  have hn1 := hG.n1
  have hS : saveP P = Cs.nb P.now ++ P.L.flatMap nodeB := rfl
  have hlen : ∀ k, (Cs.nb P.now ++ (P.L.take k).flatMap nodeB).length ≤ 10 + 30 * 256 := fun k => by
    have h1 := Cs.nb_ten P.now (by omega) (by omega)
    have h2 := flat_len (L := P.L.take k) hn1 (fun n hn => hG.ns n (List.mem_of_mem_take hn))
    have h3 : (P.L.take k).length ≤ 256 := by rw [List.length_take]; omega
    rw [List.length_append]
    omega
  have hR : ∀ k (hk : k < P.L.length), ∀ n ∈ [P.L[k].1, P.L[k].2.1, P.L[k].2.2], Cs.InR n := fun k hk n hn => by
    obtain ⟨h1, h2, h3, h4, h5, h6⟩ := hG.ns P.L[k] (List.getElem_mem hk)
    unfold Cs.InR
    simp at hn
    rcases hn with rfl | rfl | rfl <;> omega
  have hstep : ∀ k (hk : k < P.L.length), (Cs.nb P.now ++ (P.L.take k).flatMap nodeB) ++ [P.L[k].1, P.L[k].2.1, P.L[k].2.2].flatMap Cs.nb = Cs.nb P.now ++ (P.L.take (k + 1)).flatMap nodeB := fun k hk => by
    rw [List.take_succ_eq_append_getElem hk, List.flatMap_append]
    simp [nodeB]
  have hby := fun W v l (h : SV w W v l) (hl : l.length ≤ 140737488355328) => Cs.Bytes_any w.heap.size v l W h.1 hl
  have hint1 := fun W v l x k hk h hr hl => int_step1 w W v l x k hk h hr hl
  have hint3 := fun W v l x y z k hk h hr hl => int_step3 w W v l x y z k hk h hr hl
  obtain ⟨A, cap, hbx, hrow⟩ := hP
  have hRd := row_reads hrow
  obtain ⟨c0, c1, _, _, _, _, _, hp⟩ := five hbx
  have S0 := sv_start w
  have B0 := S0.2.2
  have d0 := (B0.cell (p := ⟨p, 0, none⟩) hp).trans c0
  have d1 := (B0.cell (p := ⟨p, 1, none⟩) hp).trans c1
  have dp := Nat.lt_of_lt_of_le hp B0.size
  have hnow : ∀ n ∈ [P.now], Cs.InR n := fun n hn => by simp at hn; subst hn; unfold Cs.InR; omega
  have e0 : ([] : List UInt8) ++ [P.now].flatMap Cs.nb = Cs.nb P.now ++ (P.L.take 0).flatMap nodeB := by simp
  have hpost := fhid (show ∀ W W' v, Below w.heap.size w W → Cs.Own W' W.heap.size v (Cs.nb P.now ++ P.L.flatMap nodeB) → Below W.heap.size W W' → SavePost w (saveP P) (.returned v) W' from fun W W' v hb ho hb2 => ⟨v, rfl, Vs.ownsRow_base ho hb.size, hb.trans (hb2.mono hb.size)⟩)
  generalize SavePost w (saveP P) = Post at *
  clear hbx hrow hG hS
  have i0 : (P.L.length : Int) ≤ 256 := by omega
  replace hRd := fhid hRd
  replace hR := fhid hR
  replace hlen := fhid hlen
  replace hstep := fhid hstep
  go_enter Tryz.func11, Tryz.ntmps11
  go_upto_region 4 with (go_at_call 24; (with_reducible refine hm.mono ?_); rintro e w2 ⟨rfl, rfl⟩)
  generalize w2.alloc _ = w1 at *
  go_upto_region 5 with (go_at_call 25; (with_reducible refine (hint1 w1 _ _ P.now _ rfl S0 hnow (by simp)).mono ?_); rintro e w3 ⟨v3, rfl, S3⟩)
  rw [e0] at S3
  have B3 := S3.2.2
  have f0 := (B3.cell (p := ⟨p, 0, none⟩) hp).trans c0
  have fp := Nat.lt_of_lt_of_le hp B3.size
  clear c0 c1 d0 d1 S0 e0 hnow
  replace S3 := fhid S3
  go_wp2_with fail
  go_loopw [20] (fun i wr => ∃ k v, k ≤ P.L.length ∧ i = .int .i64 (k : Nat) ∧ SV w2 wr v (Cs.nb P.now ++ (P.L.take k).flatMap nodeB)) (fun i _ => P.L.length - (intOf i).toNat)
  case atStart => exact ⟨0, v3, Nat.zero_le _, rfl, S3.out⟩
  case round =>
    obtain ⟨k, v, hk, rfl, hS⟩ := hrel
    have k0 : (0 : Int) ≤ k := by omega
    have hB := hS.2.2
    by_cases hlt : k < P.L.length
    · have k1 : (k : Int) < P.L.length := by omega
      obtain ⟨b, o, rfl, hb, n0, n1, n2⟩ := RdS.vec hRd.out hlt
      have m0 := (hB.cell (p := ⟨b, o + k * 3, none⟩) hb).trans n0
      have m1 := (hB.cell (p := ⟨b, o + k * 3 + 1, none⟩) hb).trans n1
      have m2 := (hB.cell (p := ⟨b, o + k * 3 + 2, none⟩) hb).trans n2
      have hbl := Nat.lt_of_lt_of_le hb hB.size
      have hr := hR.out k hlt
      have hst := hstep.out k hlt
      have hle := hlen.out k
      generalize P.L[k].1 = x0 at *
      generalize P.L[k].2.1 = x1 at *
      generalize P.L[k].2.2 = x2 at *
      replace hst := fhid hst
      have N0 := NB.new wr TNd (x0, x1, x2)
      have S1 : SV w2 (wr.alloc (.cells #[.int .i64 x0, .int .i64 x1, .int .i64 x2] TNd)) v (Cs.nb P.now ++ (P.L.take k).flatMap nodeB) := hS.below ((Below.refl _ _).alloc (Nat.le_refl _) _)
      simp only at N0
      clear n0 n1 n2
      replace hS := fhid hS
      go_upto_region 8 with fail
      generalize wr.alloc _ = w5 at *
      obtain ⟨g0, g1, g2, _, _, _, gl⟩ := N0.facts
      simp only at g0 g1 g2
      go_wp2_with (go_at_call 25; (with_reducible refine (hint3 w5 _ _ x0 x1 x2 _ rfl S1 hr (Nat.le_trans hle (by decide))).mono ?_); rintro e w6 ⟨v6, rfl, S6⟩)
      go_roundw
      case rel => exact ⟨k + 1, v6, by omega, by go_num, by rw [← hst.out]; exact S6⟩
      case measure => simp [intOf]; omega
    · obtain rfl : k = P.L.length := by omega
      have k1 : ¬ (P.L.length : Int) < P.L.length := by omega
      rw [List.take_length] at hS
      have hle := hlen.out P.L.length
      rw [List.take_length] at hle
      have hbt := hby wr v _ hS (by omega)
      replace hS := fhid hS
      go_wp2_with (go_at_call 26; (with_reducible refine hbt.mono ?_); rintro e w6 ⟨v6, rfl, o6, b6⟩)
      exact hpost.out _ _ _ hB o6 b6
end Go.Proofs.YtmnmcikbbfcjcaaGreatDoor.Ps
/-
  What all rows of this seat share: the tables, the start that fits; scripts and calls that came in.
-/
namespace Go.Proofs.YtmnmcikbbfcjcaaGreatDoor.Ps
open Go.Joins Go.ChangeShapes Go.WideShapes Go.ChangeAt Go.WideMaps Go.WideElems Go.RowKit Go.Deep Vs

theorem gBit : Tryz.prog.globalNamed "math/bits.deBruijn64tab" = some 1 := by kernel_rfl
theorem tyBit : (Tryz.prog.globals[1]?).map (·.type) = some 166 := by kernel_rfl
theorem cellsU8 : Tryz.prog.cellsOf 5 = 1 := by kernel_rfl
theorem cellsBit : Tryz.prog.cellsOf 166 = 64 := by kernel_rfl
theorem cellsAct : Tryz.prog.cellsOf TAct = 7 := by kernel_rfl
/-- What the rows list. -/
abbrev laidList : List (String × DataW Unit) := [("math/bits.deBruijn32tab", Rows.laid_math_bits_deBruijn32tab), ("math/bits.deBruijn64tab", Rows.laid_math_bits_deBruijn64tab), ("internal/strconv.uint64pow10", Rows.laid_internal_strconv_uint64pow10), ("unicode/utf8.acceptRanges", Rows.laid_unicode_utf8_acceptRanges), ("marlinspike/node.table", Rows.laid_marlinspike_node_table), ("unicode/utf8.first", Rows.laid_unicode_utf8_first)]
set_option maxRecDepth 100000 in
theorem tab_of {W : World} (h : laidMetH Tryz.prog laidList W) : Env12 W := by
  rw [MakeChecks.laidMetH_plain _ _ _ (by kernel_rfl)] at h
  have h1 := laidMet.tail h
  have h2 := laidMet.tail h1
  have h4 := laidMet.tail (laidMet.tail h2)
  refine ⟨⟨?_, trivial⟩, ?_, ?_⟩
  · have h' : laidMet Tryz.prog (("internal/strconv.uint64pow10", Lib.tabData .u64 Lib.pow10Tab) :: [("unicode/utf8.acceptRanges", Rows.laid_unicode_utf8_acceptRanges), ("marlinspike/node.table", Rows.laid_marlinspike_node_table), ("unicode/utf8.first", Rows.laid_unicode_utf8_first)]) W := h2
    exact Lib.tabIs_of_head gPow tyPow Tryz.underlying244 Tryz.underlying44 cellsU64 cellsPow h'
  · have h' : laidMet Tryz.prog (("marlinspike/node.table", .agg (Ns.rowsT.map fun zs => Lib.tabData .i64 zs)) :: [("unicode/utf8.first", Rows.laid_unicode_utf8_first)]) W := h4
    obtain ⟨ps, ⟨g', t', cs, fuel, p, q, hg', ht', hvar, hd, _, _⟩, _⟩ := h'
    obtain rfl := Option.some.inj (Ns.gTab.symm.trans hg')
    obtain rfl := Option.some.inj (Ns.tyTab.symm.trans ht')
    intro s e hs he
    have h1 := World.var?_cell Ns.gTab hvar (s * 12 + e)
    have h2 := Ns.cells_of_rows Tryz.underlying143 Tryz.underlying142 Tryz.underlying3 cellsIntC Ns.cellsRow Ns.cellsTab hd s e hs he
    rw [h1]
    unfold Ns.tabN
    simpa using h2
  · have h' : laidMet Tryz.prog (("math/bits.deBruijn64tab", Lib.tabData .u8 (Lib.deBruijn64tab.map fun n : Nat => (n : Int))) :: [("internal/strconv.uint64pow10", Rows.laid_internal_strconv_uint64pow10), ("unicode/utf8.acceptRanges", Rows.laid_unicode_utf8_acceptRanges), ("marlinspike/node.table", Rows.laid_marlinspike_node_table), ("unicode/utf8.first", Rows.laid_unicode_utf8_first)]) W := h1
    have ht := Lib.tabIs_of_head gBit tyBit Tryz.underlying166 Tryz.underlying5 cellsU8 cellsBit h'
    intro j hj
    have := ht.cell gBit j (by simpa using hj)
    rw [this]
    simp [List.getD_eq_getElem?_getD, List.getElem?_map, List.getElem?_eq_getElem hj]
set_option maxRecDepth 100000 in
theorem lay_met (os : Os) (args : Array Value) : laidMetH Tryz.prog laidList ((World.laidAll Tryz.prog os laidList).forCall (fun _ _ => 0) ⟨#[], args, []⟩).memory := by
  rw [MakeChecks.laidMetH_plain _ _ _ (by kernel_rfl)]
  exact laidMet_laidAll _ (by kernel_rfl) (by kernel_rfl)
theorem wf_byte {n : Int} (h : (Lit.int .u8 n).wf = true) : 0 ≤ n ∧ n ≤ 255 := by
  simpa [Lit.wf, IntKind.min, IntKind.max, IntKind.signed, IntKind.bits] using h
section
variable {H : Type} {enc : TypeId × Value → H} {P : Program} {w : World} {base : Nat} {spare : Nat → Bool} {held : Bool}
theorem trod_struct4 {t : TypeId} {f0 f1 f2 f3 : Field} {fuel : Nat} {cs : List Value} {x : DataW H × List MemPlace} (ht : P.underlying t = some (.struct #[f0, f1, f2, f3])) (h : DataW.trod enc P w base spare held fuel t cs = some x) :
    ∃ y0 y1 y2 y3 n, DataW.trod enc P w base spare held n f0.type ((cs.drop f0.offset).take (P.cellsOf f0.type)) = some y0 ∧
      DataW.trod enc P w base spare held n f1.type ((cs.drop f1.offset).take (P.cellsOf f1.type)) = some y1 ∧ DataW.trod enc P w base spare held n f2.type ((cs.drop f2.offset).take (P.cellsOf f2.type)) = some y2 ∧
      DataW.trod enc P w base spare held n f3.type ((cs.drop f3.offset).take (P.cellsOf f3.type)) = some y3 := by
  obtain ⟨xs, n, _, rfl, hl, hlen, hf⟩ := DataW.trod_struct ht h
  match xs, hlen with
  | [y0, y1, y2, y3], _ => exact ⟨y0, y1, y2, y3, n, by simpa using hf 0 f0 rfl, by simpa using hf 1 f1 rfl, by simpa using hf 2 f2 rfl, by simpa using hf 3 f3 rfl⟩
end
set_option maxRecDepth 100000 in
theorem act_cells {H : Type} {enc : TypeId × Value → H} {W : World} {n : Nat} {cs : List Value} {x : DataW H × List MemPlace}
    (h : DataW.trod enc Tryz.prog W 0 (fun _ => true) true n TAct cs = some x) (hl : cs.length = 7) : ∃ a : {a : ActC // okA a}, cs = actV a.1 := by
  obtain ⟨y0, y1, y2, y3, n', h0, h1, h2, h3⟩ := trod_struct4 Tryz.underlying48 h
  match cs, hl with
  | [c0, c1, c2, c3, c4, c5, c6], _ =>
    simp only [cellsIntC, cellsU8, cellsNodesC, List.drop_zero, List.drop_succ_cons, List.take_succ_cons, List.take_zero] at h0 h1 h2 h3
    obtain ⟨k, ek, _, wk⟩ := DataW.trod_int Tryz.underlying5 h0
    obtain ⟨a, ea, _, wa⟩ := DataW.trod_int Tryz.underlying3 h1
    obtain ⟨b, eb, _, wb⟩ := DataW.trod_int Tryz.underlying3 h2
    obtain ⟨z0, z1, z2, z3, m, _, g0, g1, g2, g3⟩ := trod_array4 Tryz.underlying46 cellsU64C h3
    obtain ⟨x0, e0, _, k0⟩ := DataW.trod_int Tryz.underlying44 g0
    obtain ⟨x1, e1, _, k1⟩ := DataW.trod_int Tryz.underlying44 g1
    obtain ⟨x2, e2, _, k2⟩ := DataW.trod_int Tryz.underlying44 g2
    obtain ⟨x3, e3, _, k3⟩ := DataW.trod_int Tryz.underlying44 g3
    injection ek with ek _
    injection ea with ea _
    injection eb with eb _
    injection e0 with e0 _
    injection e1 with e1 _
    injection e2 with e2 _
    injection e3 with e3 _
    subst ek ea eb e0 e1 e2 e3
    obtain ⟨n0, rfl, l0⟩ := wf_u64 k0
    obtain ⟨n1, rfl, l1⟩ := wf_u64 k1
    obtain ⟨n2, rfl, l2⟩ := wf_u64 k2
    obtain ⟨n3, rfl, l3⟩ := wf_u64 k3
    obtain ⟨p, p0, p1, p2, p3⟩ := four_words l0 l1 l2 l3
    exact ⟨⟨(k, a, b, p), wf_byte wk⟩, by unfold actV; rw [← p0, ← p1, ← p2, ← p3]⟩
theorem flat_val (l : List {a : ActC // okA a}) : l.flatMap (fun a => actV a.1) = AVs (l.map (·.1)) := by
  induction l with
  | nil => rfl
  | cons a l ih => rw [List.flatMap_cons, ih]; rfl
set_option maxRecDepth 100000 in
/-- A script that came in. -/
theorem open_acts {H : Type} {enc : TypeId × Value → H} {W : World} {base : Nat} {v : Value} {d : DataW H} {ps : List MemPlace}
    (hv : Value.okWide Tryz.prog W .any base 29 v) (h : DataW.Trod enc Tryz.prog W 0 (fun _ => true) true 29 v d ps) :
    ∃ (A : Option Addr) (l : List ActC) (cap : Nat), v = .slice A l.length cap ∧ RdS W A l.length cap (AVs l) ∧ ∀ a ∈ l, okA a := by
  obtain ⟨a0, len, cap, rfl⟩ := okWide_slice Tryz.underlying29 hv
  obtain ⟨fuel, hf⟩ := h
  obtain ⟨A, l, c, e, hr⟩ := open_rows (fun a : {a : ActC // okA a} => actV a.1) 7 (by decide) (fun _ => rfl) Tryz.underlying29 cellsAct (fun n cs y hy hl => act_cells hy hl) hf
  refine ⟨A, l.map (·.1), c, by rw [List.length_map]; exact e, ?_, fun a ha => ?_⟩
  · rw [List.length_map, ← flat_val]; exact hr
  · obtain ⟨x, _, rfl⟩ := List.mem_map.1 ha
    exact x.2
end Go.Proofs.YtmnmcikbbfcjcaaGreatDoor.Ps
