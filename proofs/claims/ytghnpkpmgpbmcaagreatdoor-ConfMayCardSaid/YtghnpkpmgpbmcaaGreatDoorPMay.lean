/-
  PROVED: ConfMay: what is parsed may be, and what is refused gives no config, for every text.
  Conditions: the library's tables and its two errors read as the program's text lays them (the card ties them); nothing else.
-/
import Derived.Test.YtghnpkpmgpbmcaaGreatDoorK2
import Derived.Test.YtghnpkpmgpbmcaaGreatDoorK1
import Derived.Test.YtghnpkpmgpbmcaaGreatDoorK7
import Derived.Test.YtghnpkpmgpbmcaaGreatDoorK5
import Derived.Test.YtghnpkpmgpbmcaaGreatDoorK8
import Derived.SizedLaws
set_option linter.unusedSimpArgs false
set_option linter.unusedVariables false
/-
  Two configs that have nothing, and the same values, are the same.
-/
namespace Go.Proofs.YtghnpkpmgpbmcaaGreatDoor
open Go.RowKit Go.Shelf Vs

set_option maxRecDepth 100000 in
theorem equal_none_s (A A2 : Option Addr) (c c2 : Nat) (w : World) : Calls Tryz.prog 48 #[.slice A 0 c, .slice A2 0 c2] w (BoolP w true) := by
  unfold BoolP
  go_enter Tryz.func48, Tryz.ntmps48
  go_wp2
  go_loopw [13] (fun i wr => i = .int .i64 0 ∧ w = wr) (fun _ _ => 0)
  case atStart => exact ⟨rfl, rfl⟩
  case round =>
    obtain ⟨rfl, rfl⟩ := hrel
    go_wp2
    go_ret
    exact ⟨rfl, Below.refl _ _⟩
set_option maxRecDepth 100000 in
theorem equal_none_v (A A2 : Option Addr) (c c2 : Nat) (w : World) : Calls Tryz.prog 49 #[.slice A 0 c, .slice A2 0 c2] w (BoolP w true) := by
  unfold BoolP
  go_enter Tryz.func49, Tryz.ntmps49
  go_wp2
  go_loopw [13] (fun i wr => i = .int .i64 0 ∧ w = wr) (fun _ _ => 0)
  case atStart => exact ⟨rfl, rfl⟩
  case round =>
    obtain ⟨rfl, rfl⟩ := hrel
    go_wp2
    go_ret
    exact ⟨rfl, Below.refl _ _⟩
set_option maxRecDepth 100000 in
theorem equal_none_p (A A2 : Option Addr) (c c2 : Nat) (w : World) : Calls Tryz.prog 50 #[.slice A 0 c, .slice A2 0 c2] w (BoolP w true) := by
  unfold BoolP
  go_enter Tryz.func50, Tryz.ntmps50
  go_wp2
  go_loopw [13] (fun i wr => i = .int .i64 0 ∧ w = wr) (fun _ _ => 0)
  case atStart => exact ⟨rfl, rfl⟩
  case round =>
    obtain ⟨rfl, rfl⟩ := hrel
    go_wp2
    go_ret
    exact ⟨rfl, Below.refl _ _⟩
set_option maxRecDepth 100000 in
theorem equal_none_q (A A2 : Option Addr) (c c2 : Nat) (w : World) : Calls Tryz.prog 51 #[.slice A 0 c, .slice A2 0 c2] w (BoolP w true) := by
  unfold BoolP
  go_enter Tryz.func51, Tryz.ntmps51
  go_wp2
  go_loopw [13] (fun i wr => i = .int .i64 0 ∧ w = wr) (fun _ _ => 0)
  case atStart => exact ⟨rfl, rfl⟩
  case round =>
    obtain ⟨rfl, rfl⟩ := hrel
    go_wp2
    go_ret
    exact ⟨rfl, Below.refl _ _⟩
set_option maxRecDepth 100000 in
set_option maxHeartbeats 1000000 in
theorem sameN_any (b o b2 o2 : Nat) (s : Spec) (x : Int) (w : World) (h1 : w.cell? ⟨b, o, none⟩ = some (.int .i64 x)) (hb : b < w.heap.size) (h2 : w.cell? ⟨b2, o2, none⟩ = some (.int .i64 x)) (hb2 : b2 < w.heap.size) :
    Calls Tryz.prog 54 #[num5 b s o, num5 b2 s o2] w (BoolP w true) := by
  unfold BoolP
  simp only [num5]
  generalize str s.key = K at *
  generalize s.least = L at *
  generalize s.most = M at *
  generalize s.untold = U at *
  have b1 : Below w.heap.size w ((w.alloc (.cells #[.string K, .pointer (some ⟨b, o, none⟩), .int .i64 L, .int .i64 M, .int .i64 U] TNum)).alloc (.cells #[.string K, .pointer (some ⟨b2, o2, none⟩), .int .i64 L, .int .i64 M, .int .i64 U] TNum)) := ((Below.refl _ _).alloc (Nat.le_refl _) _).alloc (by simp) _
  have k1 := (b1.cell (p := ⟨b, o, none⟩) hb).trans h1
  have k2 := (b1.cell (p := ⟨b2, o2, none⟩) hb2).trans h2
  have q1 : Box ((w.alloc (.cells #[.string K, .pointer (some ⟨b, o, none⟩), .int .i64 L, .int .i64 M, .int .i64 U] TNum)).alloc (.cells #[.string K, .pointer (some ⟨b2, o2, none⟩), .int .i64 L, .int .i64 M, .int .i64 U] TNum)) w.heap.size TNum [.string K, .pointer (some ⟨b, o, none⟩), .int .i64 L, .int .i64 M, .int .i64 U] := (Below.heap_alloc _ _ _ (by simp)).trans (Box.new w TNum _)
  have q2 : Box ((w.alloc (.cells #[.string K, .pointer (some ⟨b, o, none⟩), .int .i64 L, .int .i64 M, .int .i64 U] TNum)).alloc (.cells #[.string K, .pointer (some ⟨b2, o2, none⟩), .int .i64 L, .int .i64 M, .int .i64 U] TNum)) (w.heap.size + 1) TNum [.string K, .pointer (some ⟨b2, o2, none⟩), .int .i64 L, .int .i64 M, .int .i64 U] := by
    have := Box.new (w.alloc (.cells #[.string K, .pointer (some ⟨b, o, none⟩), .int .i64 L, .int .i64 M, .int .i64 U] TNum)) TNum [.string K, .pointer (some ⟨b2, o2, none⟩), .int .i64 L, .int .i64 M, .int .i64 U]
    rwa [World.size_alloc] at this
  clear h1 h2
  go_enter Tryz.func54, Tryz.ntmps54
  go_wp2_with fail
  generalize (w.alloc _).alloc _ = w1 at *
  have c1 : w1.cell? ⟨w.heap.size, 1, none⟩ = some (.pointer (some ⟨b, o, none⟩)) := Box.cell q1 1
  have c2 : w1.cell? ⟨w.heap.size + 1, 1, none⟩ = some (.pointer (some ⟨b2, o2, none⟩)) := Box.cell q2 1
  clear q1 q2
  go_quiet (fail)
  go_wp2
  go_ret
  exact ⟨fretb (by simp), Vs.below_drewN b1 _⟩
set_option maxRecDepth 100000 in
set_option maxHeartbeats 4000000 in
theorem equalNum_any (g b g2 b2 : Nat) (ss : List Spec) (o : Nat) (T : TypeId) (pre pre2 : List Value) (vs : List Int) (post post2 : List Value) (w : World) (hg : NRow w g b ss o) (hg2 : NRow w g2 b2 ss o) (hb : VBox w b T pre vs post) (hb2 : VBox w b2 T pre2 vs post2) (ho : o = pre.length) (ho2 : o = pre2.length) (hl : vs.length = ss.length) (hn : ss.length ≤ 100) :
    Calls Tryz.prog 52 #[.slice (some ⟨g, 0, none⟩) ss.length ss.length, .slice (some ⟨g2, 0, none⟩) ss.length ss.length, .func (.func 54) #[] #[]] w (BoolP w true) := by
  have hgl := lt_of_block hg
  have hgl2 := lt_of_block hg2
  have hcall : ∀ (i : Nat) (_ : i < ss.length) (W : World), Below w.heap.size w W → Calls Tryz.prog 54 #[num5 b ss[i] (o + i), num5 b2 ss[i] (o + i)] W (BoolP W true) := fun i hi W hB => by
    have hV := VBox.below hb hB (Box.lt hb)
    have hV2 := VBox.below hb2 hB (Box.lt hb2)
    exact sameN_any b (o + i) b2 (o + i) ss[i] (vs[i]'(by omega)) W (VBox.cell hV (i := i) (by omega) (by omega)) (Box.lt hV) (VBox.cell hV2 (i := i) (by omega) (by omega)) (Box.lt hV2)
  replace hg := fhid hg
  replace hg2 := fhid hg2
  replace hcall := fhid hcall
  clear hb hb2 ho ho2 hl
  unfold BoolP
  go_enter Tryz.func52, Tryz.ntmps52
  go_wp2
  go_loopw [17] (fun i wr => ∃ k : Nat, k ≤ ss.length ∧ i = .int .i64 k ∧ Below w.heap.size w wr) (fun i _ => ss.length - (intOf i).toNat)
  case atStart => exact ⟨0, Nat.zero_le _, rfl, Below.refl _ _⟩
  case round =>
    obtain ⟨k, hk, rfl, hB⟩ := hrel
    by_cases hlt : k < ss.length
    · obtain ⟨f0, f1, f2, f3, f4, fl⟩ := (hg.out.below hB hgl).facts hlt
      have hg3 := fhid (hg2.out.below hB hgl2)
      obtain ⟨x0, x1, x2, x3, x4, xl⟩ := (hg2.out.below hB hgl2).facts hlt
      have hcc := fun W (h : Below wr.heap.size wr W) => hcall.out k hlt W (hB.trans (h.mono hB.size))
      unfold BoolP at hcc
      simp only [num5] at hcc
      have i1 : (k : Int) < ss.length := by omega
      have i0 : (0 : Int) ≤ k := by omega
      have i2 : (ss.length : Int) ≤ 100 := by omega
      generalize ss[k].untold = U at *
      generalize ss[k].least = U2 at *
      generalize ss[k].most = U3 at *
      generalize str ss[k].key = U4 at *
      have b1 : Below wr.heap.size wr ((wr.alloc (.cells #[.string U4, .pointer (some ⟨b, o + k, none⟩), .int .i64 U2, .int .i64 U3, .int .i64 U] TNum)).alloc (.cells #[.string U4, .pointer (some ⟨b2, o + k, none⟩), .int .i64 U2, .int .i64 U3, .int .i64 U] TNum)) := ((Below.refl _ _).alloc (Nat.le_refl _) _).alloc (by simp) _
      have hc := hcc _ b1
      have hB2 := fhid (hB.trans (b1.mono hB.size))
      clear hcc
      replace b1 := fhid b1
      replace hB := fhid hB
      go_wp2_with (go_at_call 54; (with_reducible refine hc.mono ?_); rintro e w1 ⟨rfl, bb⟩)
      go_roundw
      case rel => exact ⟨k + 1, by omega, by go_num, hB2.out.trans (bb.mono hB2.out.size)⟩
      case measure => simp [intOf]; omega
    · obtain rfl : k = ss.length := by omega
      go_wp2
      go_ret
      exact ⟨rfl, hB⟩
set_option maxRecDepth 100000 in
set_option maxHeartbeats 8000000 in
/-- Two configs of nothing are the same. -/
theorem Same_none (v u : Value) (w : World) (h : CR w v noCfg) (h2 : CR w u noCfg) : Calls Tryz.prog 23 #[v, u] w (BoolP w true) := by
  obtain ⟨AN, cN, AV, cV, AP, cP, AQ, cQ, a0, a1, a2, a3, a4, a5, a6, a7, rfl, ev, -, -, -, -⟩ := h
  obtain ⟨BN, dN, BV, dV, BP, dP, BQ, dQ, e0, e1, e2, e3, e4, e5, e6, e7, rfl, ev2, -, -, -, -⟩ := h2
  rw [show noCfg.vals = [0, 0, 0, 0, 0, 0, 0, 0] from rfl] at ev ev2
  simp only [List.cons.injEq, and_true] at ev ev2
  obtain ⟨rfl, rfl, rfl, rfl, rfl, rfl, rfl, rfl⟩ := ev
  obtain ⟨rfl, rfl, rfl, rfl, rfl, rfl, rfl, rfl⟩ := ev2
  rw [show noCfg.names.length = 0 from rfl, show noCfg.vecs.length = 0 from rfl, show noCfg.parts.length = 0 from rfl, show noCfg.qos.length = 0 from rfl]
  have hva := fun x W => values_any x W
  unfold MadeN at hva
  rw [show valS.length = 8 from rfl] at hva
  have k1 := fun W => equal_none_s AN BN cN dN W
  have k2 := fun W => equal_none_v AV BV cV dV W
  have k3 := fun W => equal_none_p AP BP cP dP W
  have k4 := fun W => equal_none_q AQ BQ cQ dQ W
  have k5 := fun g b g2 b2 W h1 h2 (h3 : VBox W b TConf [.slice AN 0 cN, .slice AV 0 cV, .slice AP 0 cP, .slice AQ 0 cQ] [0, 0, 0, 0, 0, 0, 0, 0] []) (h4 : VBox W b2 TConf [.slice BN 0 dN, .slice BV 0 dV, .slice BP 0 dP, .slice BQ 0 dQ] [0, 0, 0, 0, 0, 0, 0, 0] []) => equalNum_any g b g2 b2 valS 4 TConf _ _ [0, 0, 0, 0, 0, 0, 0, 0] [] [] W h1 h2 h3 h4 rfl rfl rfl (by decide)
  rw [show valS.length = 8 from rfl] at k5
  unfold BoolP at *
  have hB : Below w.heap.size w ((w.alloc (.cells #[.slice AN 0 cN, .slice AV 0 cV, .slice AP 0 cP, .slice AQ 0 cQ, .int .i64 0, .int .i64 0, .int .i64 0, .int .i64 0, .int .i64 0, .int .i64 0, .int .i64 0, .int .i64 0] TConf)).alloc (.cells #[.slice BN 0 dN, .slice BV 0 dV, .slice BP 0 dP, .slice BQ 0 dQ, .int .i64 0, .int .i64 0, .int .i64 0, .int .i64 0, .int .i64 0, .int .i64 0, .int .i64 0, .int .i64 0] TConf)) := ((Below.refl _ _).alloc (Nat.le_refl _) _).alloc (by simp) _
  have q1 : VBox ((w.alloc (.cells #[.slice AN 0 cN, .slice AV 0 cV, .slice AP 0 cP, .slice AQ 0 cQ, .int .i64 0, .int .i64 0, .int .i64 0, .int .i64 0, .int .i64 0, .int .i64 0, .int .i64 0, .int .i64 0] TConf)).alloc (.cells #[.slice BN 0 dN, .slice BV 0 dV, .slice BP 0 dP, .slice BQ 0 dQ, .int .i64 0, .int .i64 0, .int .i64 0, .int .i64 0, .int .i64 0, .int .i64 0, .int .i64 0, .int .i64 0] TConf)) w.heap.size TConf [.slice AN 0 cN, .slice AV 0 cV, .slice AP 0 cP, .slice AQ 0 cQ] [0, 0, 0, 0, 0, 0, 0, 0] [] := (Below.heap_alloc _ _ _ (by simp)).trans (Box.new w TConf [.slice AN 0 cN, .slice AV 0 cV, .slice AP 0 cP, .slice AQ 0 cQ, .int .i64 0, .int .i64 0, .int .i64 0, .int .i64 0, .int .i64 0, .int .i64 0, .int .i64 0, .int .i64 0])
  have q2 : VBox ((w.alloc (.cells #[.slice AN 0 cN, .slice AV 0 cV, .slice AP 0 cP, .slice AQ 0 cQ, .int .i64 0, .int .i64 0, .int .i64 0, .int .i64 0, .int .i64 0, .int .i64 0, .int .i64 0, .int .i64 0] TConf)).alloc (.cells #[.slice BN 0 dN, .slice BV 0 dV, .slice BP 0 dP, .slice BQ 0 dQ, .int .i64 0, .int .i64 0, .int .i64 0, .int .i64 0, .int .i64 0, .int .i64 0, .int .i64 0, .int .i64 0] TConf)) (w.heap.size + 1) TConf [.slice BN 0 dN, .slice BV 0 dV, .slice BP 0 dP, .slice BQ 0 dQ] [0, 0, 0, 0, 0, 0, 0, 0] [] := by
    have := Box.new (w.alloc (.cells #[.slice AN 0 cN, .slice AV 0 cV, .slice AP 0 cP, .slice AQ 0 cQ, .int .i64 0, .int .i64 0, .int .i64 0, .int .i64 0, .int .i64 0, .int .i64 0, .int .i64 0, .int .i64 0] TConf)) TConf [.slice BN 0 dN, .slice BV 0 dV, .slice BP 0 dP, .slice BQ 0 dQ, .int .i64 0, .int .i64 0, .int .i64 0, .int .i64 0, .int .i64 0, .int .i64 0, .int .i64 0, .int .i64 0]
    rwa [World.size_alloc] at this
  go_enter Tryz.func23, Tryz.ntmps23
  go_upto_region 1 with fail
  generalize (w.alloc _).alloc _ = w1 at *
  have zl := Box.lt q1
  have zl2 := Box.lt q2
  have hY := fhid (fun W (h : Below w1.heap.size w1 W) => Box.twelve (VBox.below q1 h zl))
  have hY2 := fhid (fun W (h : Below w1.heap.size w1 W) => Box.twelve (VBox.below q2 h zl2))
  obtain ⟨y0, y1, y2, y3, -⟩ := hY.out w1 (Below.refl _ _)
  obtain ⟨z0, z1, z2, z3, -⟩ := hY2.out w1 (Below.refl _ _)
  replace q1 := fhid q1
  replace q2 := fhid q2
  go_wp2_with (first
    | (go_at_call 48; (with_reducible refine (k1 _).mono ?_); rintro e w2 ⟨rfl, p2⟩
       clear y0 y1 y2 y3 z0 z1 z2 z3
       obtain ⟨y0, y1, y2, y3, -⟩ := hY.out w2 p2
       obtain ⟨z0, z1, z2, z3, -⟩ := hY2.out w2 p2
       have g2 := hB.trans (p2.mono hB.size))
    | (go_at_call 49; (with_reducible refine (k2 _).mono ?_); rintro e w3 ⟨rfl, p3'⟩
       have p3 := p2.trans (p3'.mono p2.size)
       clear y0 y1 y2 y3 z0 z1 z2 z3
       obtain ⟨y0, y1, y2, y3, -⟩ := hY.out w3 p3
       obtain ⟨z0, z1, z2, z3, -⟩ := hY2.out w3 p3
       have g3 := hB.trans (p3.mono hB.size))
    | (go_at_call 50; (with_reducible refine (k3 _).mono ?_); rintro e w4 ⟨rfl, p4'⟩
       have p4 := p3.trans (p4'.mono p3.size)
       clear y0 y1 y2 y3 z0 z1 z2 z3
       obtain ⟨y0, y1, y2, y3, -⟩ := hY.out w4 p4
       obtain ⟨z0, z1, z2, z3, -⟩ := hY2.out w4 p4
       have g4 := hB.trans (p4.mono hB.size))
    | (go_at_call 51; (with_reducible refine (k4 _).mono ?_); rintro e w5 ⟨rfl, p5'⟩
       have p5 := p4.trans (p5'.mono p4.size)
       have g5 := hB.trans (p5.mono hB.size)
       have tok := True.intro)
    | (go_at_call 53; have _t := tok; (with_reducible refine (hva _ _).mono ?_); rintro e w6 ⟨g6, rfl, hg6, hN6, p6'⟩
       have p6 := p5.trans (p6'.mono p5.size)
       clear tok)
    | (go_at_call 53; (with_reducible refine (hva _ _).mono ?_); rintro e w7 ⟨g7, rfl, hg7, hN7, p7'⟩
       have p7 := p6.trans (p7'.mono p6.size)
       have hN6' := hN6.below p7' (lt_of_block hN6)
       have hk := k5 g6 w.heap.size g7 (w.heap.size + 1) w7 hN6' hN7 (VBox.below q1.out p7 zl) (VBox.below q2.out p7 zl2))
    | (go_at_call 52; (with_reducible refine hk.mono ?_); rintro e w8 ⟨rfl, p8'⟩
       have p8 := hB.trans ((p7.trans (p8'.mono p7.size)).mono hB.size)))
  go_ret
  exact ⟨rfl, p8⟩
end Go.Proofs.YtghnpkpmgpbmcaaGreatDoor
/-
  ConfMay, walked.
-/
namespace Go.Proofs.YtghnpkpmgpbmcaaGreatDoor
open Go.RowKit Go.Shelf Vs

set_option maxRecDepth 100000 in
set_option maxHeartbeats 8000000 in
theorem may_walk (s : ByteArray) (w : World) (hw : Env w) (hs : s.size ≤ 140737488355328) : Calls Tryz.prog 5 #[.string s] w (BoolP w true) := by
  have hpa := Parse_any9 s w hw hs
  have hal := fun W (h : Below w.heap.size w W) => alive_any W (hw.below h)
  unfold ParseP at hpa
  unfold BoolP at hal ⊢
  rcases parseC_cases (bl s) with ⟨e0, k0, hne, hE⟩ | ⟨c, hg, hr, hE⟩
  · rw [hE] at hpa
    simp only at hpa
    have hnq := neq_fault (e0 : Int) (k0 : Int) 0 0
    rw [show (!((e0 : Int) == 0 && (k0 : Int) == 0)) = true from by simp; omega] at hnq
    have j1 : ((e0 : Int) != 0) = true := by simp; omega
    have j2 : ¬ (e0 : Int) = 0 := by omega
    have hsm := fun v W h => Same_none v (.agg zeros12.toArray) W h (cr_none W)
    unfold BoolP at hsm
    clear hE
    replace hw := fhid hw
    go_enter Tryz.func5, Tryz.ntmps5
    go_upto_region 2 with (go_at_call 9; (with_reducible refine hpa.mono ?_); rintro e w1 ⟨v, rfl, hcr, b1⟩
                           have hcr0 := fhid hcr
                           obtain ⟨AN, cN, AV, cV, AP, cP, AQ, cQ, a0, a1, a2, a3, a4, a5, a6, a7, rfl, -, -, -, -, -⟩ := hcr)
    rw [show noCfg.names.length = 0 from rfl, show noCfg.vecs.length = 0 from rfl, show noCfg.parts.length = 0 from rfl, show noCfg.qos.length = 0 from rfl] at hcr0 ⊢
    obtain ⟨q0, q1, bA, hz⟩ := two_boxes w1 TConf TFault [.slice AN 0 cN, .slice AV 0 cV, .slice AP 0 cP, .slice AQ 0 cQ, .int .i64 a0, .int .i64 a1, .int .i64 a2, .int .i64 a3, .int .i64 a4, .int .i64 a5, .int .i64 a6, .int .i64 a7] [.int .i64 (e0 : Int), .int .i64 (k0 : Int)]
    generalize (w1.alloc _).alloc _ = w2 at *
    have hcr2 := fhid (hcr0.out.below bA)
    have g2 := b1.trans (bA.mono b1.size)
    have zl := Box.lt q1
    obtain ⟨c0, c1, c2, c3, c4, c5, c6, c7, c8, c9, c10, c11⟩ := Box.twelve q0
    have f0 : w2.cell? ⟨w1.heap.size + 1, 0, none⟩ = some (.int .i64 (e0 : Int)) := Box.cell q1 0
    have f1 : w2.cell? ⟨w1.heap.size + 1, 1, none⟩ = some (.int .i64 (k0 : Int)) := Box.cell q1 1
    replace q0 := fhid q0
    replace q1 := fhid q1
    replace hz := fhid hz
    clear hpa
    go_wp2_with (first
      | (go_at_call 23; (with_reducible refine (hsm _ _ hcr2.out).mono ?_); rintro e w3 ⟨rfl, b3⟩
         have g3 := g2.trans (b3.mono g2.size)
         have z0 : w3.cell? ⟨w1.heap.size + 1, 0, none⟩ = some (.int .i64 (e0 : Int)) := Box.cell (Box.below q1.out b3 zl) 0)
      | (go_at_call 8; (with_reducible refine (hal _ g3).mono ?_); rintro e w4 ⟨rfl, b4⟩))
    go_ret
    exact ⟨rfl, g3.trans (b4.mono g3.size)⟩
  · rw [hE] at hpa
    simp only at hpa
    have hnq := neq_fault 0 0 0 0
    have hri := fun v W h hW => Right_any9 v c W h hW hg.2
    rw [hr] at hri
    unfold BoolP at hri
    obtain ⟨n0, n1⟩ := rightC_some hr
    have i0 : (c.names.length : Int) > 0 := by omega
    have i1 : (c.parts.length : Int) > 0 := by omega
    clear hE
    replace hw := fhid hw
    replace hg := fhid hg
    replace hr := fhid hr
    go_enter Tryz.func5, Tryz.ntmps5
    go_upto_region 2 with (go_at_call 9; (with_reducible refine hpa.mono ?_); rintro e w1 ⟨v, rfl, hcr, b1⟩
                           have hcr0 := fhid hcr
                           obtain ⟨AN, cN, AV, cV, AP, cP, AQ, cQ, a0, a1, a2, a3, a4, a5, a6, a7, rfl, -, -, -, -, -⟩ := hcr)
    obtain ⟨q0, q1, bA, hz⟩ := two_boxes w1 TConf TFault [.slice AN c.names.length cN, .slice AV c.vecs.length cV, .slice AP c.parts.length cP, .slice AQ c.qos.length cQ, .int .i64 a0, .int .i64 a1, .int .i64 a2, .int .i64 a3, .int .i64 a4, .int .i64 a5, .int .i64 a6, .int .i64 a7] [.int .i64 0, .int .i64 0]
    generalize (w1.alloc _).alloc _ = w2 at *
    have hcr2 := fhid (hcr0.out.below bA)
    have g2 := b1.trans (bA.mono b1.size)
    have zl := Box.lt q0
    obtain ⟨c0, c1, c2, c3, c4, c5, c6, c7, c8, c9, c10, c11⟩ := Box.twelve q0
    have f0 : w2.cell? ⟨w1.heap.size + 1, 0, none⟩ = some (.int .i64 0) := Box.cell q1 0
    have f1 : w2.cell? ⟨w1.heap.size + 1, 1, none⟩ = some (.int .i64 0) := Box.cell q1 1
    replace q0 := fhid q0
    replace q1 := fhid q1
    replace hz := fhid hz
    clear hpa
    go_wp2_with (first
      | (go_at_call 24; (with_reducible refine (hri _ _ hcr2.out (hw.out.below g2)).mono ?_); rintro e w3 ⟨rfl, b3⟩
         have g3 := g2.trans (b3.mono g2.size)
         clear c0 c1 c2 c3 c4 c5 c6 c7 c8 c9 c10 c11
         obtain ⟨c0, c1, c2, c3, c4, c5, c6, c7, c8, c9, c10, c11⟩ := Box.twelve (Box.below q0.out b3 zl))
      | (go_at_call 8; (with_reducible refine (hal _ g3).mono ?_); rintro e w4 ⟨rfl, b4⟩))
    go_ret
    exact ⟨rfl, g3.trans (b4.mono g3.size)⟩
end Go.Proofs.YtghnpkpmgpbmcaaGreatDoor
namespace Go.Proofs.YtghnpkpmgpbmcaaGreatDoor
open Go.ChangeShapes Go.WideShapes Go.ChangeAt Go.WideMaps Go.WideElems Go.RowKit Vs
set_option maxRecDepth 100000 in
theorem may_lifted (os : Os) (started : os.Started) (H : Type) (enc : TypeId × Value → H) :
    ReturnsInHanded {} Tryz.checked os 5 .any (fun w args => (Rows.confMaySpec.pre enc Tryz.prog Tryz.f5 [] false w args ∧ laidMetH Tryz.prog laidList w) ∧ sizedMet enc Tryz.prog Tryz.f5 (OpenSpec.ofChange Rows.confMaySpec) false w args)
      (Rows.confMaySpec.post enc Tryz.prog Tryz.f5 false true false false) := by
  refine returnsInHanded_of_change_and (C := Tryz.checked) (X := fun w _ => laidMetH Tryz.prog laidList w) (fun _ _ _ hh h => h.of_heap hh) own started (by kernel_rfl) Tryz.func5
    (ChangeSpec.witness_shaped (enc := enc) (C := Tryz.checked) (os := os) (X := fun w _ => laidMetH Tryz.prog laidList w) false (World.laidAll Tryz.prog os laidList) #[.string ⟨#[]⟩] 8 (World.laidAll_os _ _ _) (World.shaped_of_ZipB (by kernel_rfl) (by kernel_rfl)) (by kernel_rfl) (by kernel_rfl) (by kernel_rfl) (lay_met os _)) ?_
  intro W base args ds gs before hval0 hW _ hsz0 hL _
  have hval : ∀ (j : Nat) t v, Tryz.f5.params[j]? = some t → args[j]? = some v → Value.okWide Tryz.prog W .any base t v := hval0
  have hsz : (DataW.weightsEach Tryz.prog (Tryz.f5.params.toList ++ Rows.confMaySpec.plain.varTypes Tryz.prog) (ds ++ gs)).all (· ≤ reachBytes) = true := hsz0
  have hW' := hW
  obtain ⟨p, q, hA0, hV, rfl, hfz, hnd⟩ := hW
  have hA : DataW.TrodAll enc Tryz.prog W 0 (fun _ => true) true Tryz.f5.params.toList args.toList ds p := hA0
  rw [Tryz.params5] at hA hval hsz
  obtain ⟨v0, d0, rfl, rfl, h0⟩ := trodAll_one hA
  obtain ⟨rfl, rfl⟩ := trodVars_none hV
  have hT := env_of hL
  obtain ⟨s, rfl, hd, rfl, _⟩ := ChangeMaps.open_string Tryz.underlying9 (hval 0 9 v0 rfl rfl) h0
  have hs : s.size ≤ 140737488355328 := by
    subst hd
    have := sized_string hsz (j := 0) (t := 9) rfl rfl
    simp only [reachBytes] at this
    rw [show s.size = s.data.toList.length from (bl_len s).symm]
    omega
  simp only [List.append_nil] at hW'
  clear hA0 hval0 hsz0
  refine (may_walk s W hT hs).mono fun e W' ⟨he, hb⟩ => ?_
  subst he
  refine ⟨_, rfl, ⟨_, _, _, [], [], [], hW', trodAll_mk1 (shut_bool Tryz.underlying4 _), ?_, rfl, hb.frame _, fun h => by cases h⟩⟩
  exact trodAll_mk1 (Below.trod laidOut (by kernel_rfl) (of_decide_eq_true (by kernel_rfl)) h0 hb (fun z hz => by simp at hz))

theorem may_holds : Rows.ConfMaySaid :=
  OpenClaim.holds_of_wide 5 Tryz.f5 rfl rfl rfl rfl rfl rfl rfl ⟨rfl, rfl, rfl, rfl, rfl⟩ rfl rfl rfl rfl rfl (by kernel_rfl) Tryz.func5 (by kernel_rfl)
    (of_decide_eq_true (by kernel_rfl)) (by unfold Func.isWrapper; rw [if_neg (of_decide_eq_false (by kernel_rfl))]; exact ⟨rfl, rfl⟩)
    (fun os started H enc _ => may_lifted os started H enc)
theorem may_card : Rows.ConfMayCardSaid :=
  Claim7.holds_tied_plain_at .later [] [.data, .data, .data, .data, .sentinel, .sentinel, .pinned] true Rows.confMayCard.stood.harness true
    may_holds (fun _ h => by cases h) (by kernel_rfl) (fun _ h => by cases h) confMay_row_tie rfl ⟨rfl, rfl⟩ (by kernel_rfl) rfl
    (fun f fn hf hfn => by
      obtain rfl : f = 5 := Option.some.inj ((show Tryz.prog.funcNamed "marlinspike/marlinspikelaw09.ConfMay" = some 5 by kernel_rfl).symm.trans hf) |>.symm
      obtain rfl : fn = Tryz.f5 := (Option.some.inj (Tryz.func5.symm.trans hfn)).symm
      exact ⟨by kernel_rfl, fun j t ht => by
        rw [Tryz.params5] at ht
        have hm : t ∈ [9] := by simpa using Array.mem_of_getElem? ht
        have hall : ([9].all fun u => !Tryz.prog.wantsStandIn u) = true := by kernel_rfl
        exact (show Tryz.prog.wantsStandIn t = false by simpa using List.all_eq_true.1 hall t hm)⟩)
    (by kernel_rfl)
end Go.Proofs.YtghnpkpmgpbmcaaGreatDoor
