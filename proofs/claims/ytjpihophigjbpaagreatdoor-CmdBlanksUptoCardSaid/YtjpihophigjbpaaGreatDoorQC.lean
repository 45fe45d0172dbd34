/-
  Parts: QConv QConvO QConvT QRDS QRSame QLet QShut.
-/
import Derived.Test.YtjpihophigjbpaaGreatDoorQ4
import Derived.Test.YtjpihophigjbpaaGreatDoorD1
import Derived.Test.YtjpihophigjbpaaGreatDoorQ5
import Derived.Test.YtjpihophigjbpaaGreatDoorQ7
import Derived.Test.YtjpihophigjbpaaGreatDoorQ1
import Derived.Test.YtjpihophigjbpaaGreatDoorY2
import Derived.BigRegion
import Derived.Deep.RegionHeld3
import Derived.Test.YtjpihophigjbpaaGreatDoorQB
import Derived.Test.YtjpihophigjbpaaGreatDoorRows
import Derived.Test.YtjpihophigjbpaaGreatDoorCards
import Derived.Test.YtjpihophigjbpaaGreatDoorTie
import Derived.SizedLaws
import Derived.ProofKit
import Derived.OpenShut
import Derived.LaidMore
import Derived.Lay
import Derived.Stop.Joined
import Derived.Stop.LaidErr
import Derived.Lib.LaidTab
import Derived.LaidLaws
import Derived.Laws.IdiomArrays
import Derived.SliceStrings
import Derived.SevenTiedAt
import Derived.Lib.SmallJoins
set_option linter.unusedSimpArgs false
set_option linter.unusedVariables false
/-
  A command turned into the same one of the other types.
-/
namespace Go.Proofs.YtjpihophigjbpaaGreatDoor
open Go.RowKit Go.Shelf Vs

theorem own_grown10 {w w' : World} {row : Option Nat} {base : Nat} {e : TypeId} {size n : Nat} {v : Value} {xs : List Value} (h : w.ownsRow base e size v n xs) (hg : w.grownBy w' row) (hr : ∀ k, v.ownBlock = some k → some k ≠ row) : w'.ownsRow base e size v n xs := by
  refine ⟨h.1, ?_⟩
  rcases h.2 with ⟨rfl, hn⟩ | ⟨g, cap, cur, rfl, hb, hh, rest⟩
  · exact .inl ⟨rfl, hn⟩
  · exact .inr ⟨g, cap, cur, rfl, hb, (hg.block g (Array.getElem?_eq_some_iff.1 hh).1 (hr g rfl)).trans hh, rest⟩
theorem keep10 {w w' : World} {e : TypeId} {base B : Nat} {v : Value} {l : List Ds.Itm} (h : Ds.OwnIt w e base (fun b => b < B) v l) (hB : B ≤ w.heap.size) (hb : Below w.heap.size w w') : Ds.OwnIt w' e base (fun b => b < B) v l := by
  obtain ⟨xs, h1, h2⟩ := h
  exact ⟨xs, Ds.ownsRow_below h1 hb, h2.keep fun b h => hb.block b (by omega)⟩
theorem aft10 {w w' : World} {e T : TypeId} {base B b : Nat} {v : Value} {l : List Ds.Itm} {cs : List Value} (h : Ds.OwnIt w e base (fun b => b < B) v l) (ha : Aft b w w') (hx : Box w b T cs) (hT : T ≠ e) (hB : B ≤ b) : Ds.OwnIt w' e base (fun b => b < B) v l := by
  obtain ⟨xs, h1, h2⟩ := h
  have hbl := Box.lt hx
  exact ⟨xs, own_grown10 h1 ha (fun k hk e => (Ds.own_tag h1 hx hT) (by rw [hk]; exact e.symm)), h2.keep fun k hk => ha.block k (by omega) (fun e => by injection e with e; omega)⟩
theorem ownB10 {w : World} {e : TypeId} {base B : Nat} {v : Value} {l : List Ds.Itm} (h : Ds.OwnIt w e base (fun b => b < B) v l) (hB : B ≤ base) (b : Nat) (hb : b < B) : some b ≠ v.ownBlock := by
  obtain ⟨xs, h1, _⟩ := h
  intro he
  have := Ds.ownsRow_ge h1 b he.symm
  omega
theorem base10 {w : World} {e : TypeId} {base base' B : Nat} {v : Value} {l : List Ds.Itm} (h : Ds.OwnIt w e base (fun b => b < B) v l) (hB : base' ≤ base) : Ds.OwnIt w e base' (fun b => b < B) v l := by
  obtain ⟨xs, h1, h2⟩ := h
  exact ⟨xs, Ds.ownsRow_base h1 hB, h2⟩
theorem has10 {w w0 : World} {e : TypeId} {base : Nat} {v : Value} {l : List Ds.Itm} (h : Ds.OwnIt w e base (fun b => b < w0.heap.size) v l) (hb : w0.heap.size ≤ w.heap.size) : HasI NoX w v l := by
  obtain ⟨xs, h1, h2⟩ := h
  obtain ⟨A, cap, e1, a1, a2, a3⟩ := Ds.ownsRow_shape h1
  exact ⟨A, cap, e1, a1, a2, xs, a3.imp fun _ _ hb => ⟨fun h => h.elim, hb⟩, h2.imp fun k _ hk => ⟨fun h => h.elim, by omega⟩⟩
theorem Box.aft {w w' : World} {b b' : Nat} {T : TypeId} {cs : List Value} (h : Box w b T cs) (ha : Aft b' w w') (hn : b ≠ b') : Box w' b T cs :=
  (ha.block b (Box.lt h) (fun e => by injection e with e; exact hn e)).trans h
theorem two10 (w : World) (T1 T2 : TypeId) (c1 c2 : List Value) : Box ((w.alloc (.cells c1.toArray T1)).alloc (.cells c2.toArray T2)) w.heap.size T1 c1 ∧ Box ((w.alloc (.cells c1.toArray T1)).alloc (.cells c2.toArray T2)) (w.heap.size + 1) T2 c2 ∧ Below w.heap.size w ((w.alloc (.cells c1.toArray T1)).alloc (.cells c2.toArray T2)) ∧ ((w.alloc (.cells c1.toArray T1)).alloc (.cells c2.toArray T2)).heap.size = w.heap.size + 1 + 1 := by
  have h2 := Box.new (w.alloc (.cells c1.toArray T1)) T2 c2
  have h1 := Box.new w T1 c1
  have b1 : Below w.heap.size w (w.alloc (.cells c1.toArray T1)) := (Below.refl _ _).alloc (Nat.le_refl _) _
  have s1 := World.size_alloc w (.cells c1.toArray T1)
  have s2 := World.size_alloc (w.alloc (.cells c1.toArray T1)) (.cells c2.toArray T2)
  rw [s1] at h2 s2
  exact ⟨(Below.heap_alloc _ _ _ (by omega)).trans h1, h2, b1.alloc (by omega) _, s2⟩
end Go.Proofs.YtjpihophigjbpaaGreatDoor
/-
  A command turned into the same one of the other types: ours.
-/
namespace Go.Proofs.YtjpihophigjbpaaGreatDoor
open Go.RowKit Go.Shelf Vs

section
attribute [local go_sem ↓] exec_ld_cmd exec_st_cmd exec_ld_rcmd exec_st_rcmd
/-- What the turning comes to. -/
def oursP (v0 v5 v6 v7 v8 v9 vx vl vj : Int) (v1 v2 v3 v4 vh : ByteArray) (vb : Bool) (vD : Option Addr) (vm ve : Nat) (l : List Ds.Itm) (w : World) (e : Ending) (w' : World) : Prop := ∃ A3 c3, e = .returned (.agg #[.int .i64 v0, .string v1, .string v2, .string v3, .string v4, .int .i64 v5, .int .i64 v6, .int .i64 v7, .int .i64 v8, .int .i64 v9, .int .i64 vx, .bool vb, .slice A3 l.length c3, .slice vD vm ve, .int .i64 vl, .int .i64 vj, .string vh]) ∧ Ds.OwnIt w' Ds.TRIt w.heap.size (fun b => b < w.heap.size) (.slice A3 l.length c3) l ∧ Below w.heap.size w w'
def oursR (v0 v5 v6 v7 v8 v9 vx vl vj : Int) (v1 v2 v3 v4 vh : ByteArray) (vb : Bool) (vA vD : Option Addr) (vc vm ve : Nat) (l : List Ds.Itm) (w : World) (i : Value) (wr : World) : Prop := ∃ (j : Nat) (V : Value), j ≤ l.length ∧ i = .int .i64 (j : Int) ∧ Ds.OwnIt wr Ds.TRIt (w.heap.size + 1 + 1 + 1) (fun b => b < w.heap.size) V (l.take j) ∧ Box wr (w.heap.size + 1 + 1) TRCmd [.int .i64 v0, .string v1, .string v2, .string v3, .string v4, .int .i64 v5, .int .i64 v6, .int .i64 v7, .int .i64 v8, .int .i64 v9, .int .i64 vx, .bool vb, V, .slice none 0 0, .int .i64 0, .int .i64 vj, .string vh] ∧ Box wr (w.heap.size + 1) TRCmd [.int .i64 0, .string ⟨#[]⟩, .string ⟨#[]⟩, .string ⟨#[]⟩, .string ⟨#[]⟩, .int .i64 0, .int .i64 0, .int .i64 0, .int .i64 0, .int .i64 0, .int .i64 0, .bool false, .slice none 0 0, .slice none 0 0, .int .i64 0, .int .i64 0, .string ⟨#[]⟩] ∧ Box wr w.heap.size TCmd [.int .i64 v0, .string v1, .string v2, .string v3, .string v4, .int .i64 v5, .int .i64 v6, .int .i64 v7, .int .i64 v8, .int .i64 v9, .int .i64 vx, .bool vb, .slice vA l.length vc, .slice vD vm ve, .int .i64 vl, .int .i64 vj, .string vh] ∧ Below w.heap.size w wr
set_option maxRecDepth 100000 in
set_option maxHeartbeats 8000000 in
theorem ours_any (v0 v5 v6 v7 v8 v9 vx vl vj : Int) (v1 v2 v3 v4 vh : ByteArray) (vb : Bool) (vA vD : Option Addr) (vc vm ve : Nat) (l : List Ds.Itm) (w : World) (hs : Ds.Its w w.heap.size vA l) (hl : l.length ≤ 1048576) :
    Calls Tryz.prog 12 #[.agg #[.int .i64 v0, .string v1, .string v2, .string v3, .string v4, .int .i64 v5, .int .i64 v6, .int .i64 v7, .int .i64 v8, .int .i64 v9, .int .i64 vx, .bool vb, .slice vA l.length vc, .slice vD vm ve, .int .i64 vl, .int .i64 vj, .string vh]] w (oursP v0 v5 v6 v7 v8 v9 vx vl vj v1 v2 v3 v4 vh vb vD vm ve l w) := by
  obtain ⟨p0, p1, g0, gz⟩ := two10 w TCmd TRCmd [.int .i64 v0, .string v1, .string v2, .string v3, .string v4, .int .i64 v5, .int .i64 v6, .int .i64 v7, .int .i64 v8, .int .i64 v9, .int .i64 vx, .bool vb, .slice vA l.length vc, .slice vD vm ve, .int .i64 vl, .int .i64 vj, .string vh] [.int .i64 0, .string ⟨#[]⟩, .string ⟨#[]⟩, .string ⟨#[]⟩, .string ⟨#[]⟩, .int .i64 0, .int .i64 0, .int .i64 0, .int .i64 0, .int .i64 0, .int .i64 0, .bool false, .slice none 0 0, .slice none 0 0, .int .i64 0, .int .i64 0, .string ⟨#[]⟩]
  have hs0 := hs.below g0
  replace hs := fhid hs
  replace p0 := fhid p0
  replace p1 := fhid p1
  replace gz := fhid gz
  replace hs0 := fhid hs0
  go_enter Tryz.func12, Tryz.ntmps12
  go_upto_region 1 with fail
  generalize World.alloc _ _ = W at *
  have gz2 := gz.out
  have e0 : W.heap.size = w.heap.size + 1 + 1 := gz2
  have p2 := Box.new W TRCmd [.int .i64 0, .string ⟨#[]⟩, .string ⟨#[]⟩, .string ⟨#[]⟩, .string ⟨#[]⟩, .int .i64 0, .int .i64 0, .int .i64 0, .int .i64 0, .int .i64 0, .int .i64 0, .bool false, .slice none 0 0, .slice none 0 0, .int .i64 0, .int .i64 0, .string ⟨#[]⟩]
  have g2 : Below W.heap.size W (W.alloc (.cells #[.int .i64 0, .string ⟨#[]⟩, .string ⟨#[]⟩, .string ⟨#[]⟩, .string ⟨#[]⟩, .int .i64 0, .int .i64 0, .int .i64 0, .int .i64 0, .int .i64 0, .int .i64 0, .bool false, .slice none 0 0, .slice none 0 0, .int .i64 0, .int .i64 0, .string ⟨#[]⟩] TRCmd)) := (Below.refl _ _).alloc (Nat.le_refl _) _
  have p0b := Box.below p0.out g2 (by omega)
  have p1b := Box.below p1.out g2 (by omega)
  obtain ⟨w3, h3, x3, a3⟩ := st_rcmd (A := #[.int .i64 v0, .string v1, .string v2, .string v3, .string v4, .int .i64 v5, .int .i64 v6, .int .i64 v7, .int .i64 v8, .int .i64 v9, .int .i64 vx, .bool false, .slice none 0 0, .slice none 0 0, .int .i64 0, .int .i64 vj, .string vh]) p2 rfl rfl (by simp only [List.all_toArray, List.all_cons, List.all_nil, Bool.and_true]; rfl)
  have p0c := Box.aft p0b a3 (by omega)
  have p1c := Box.aft p1b a3 (by omega)
  have g3 : Below w.heap.size w w3 := (g0.trans (g2.mono (by omega))).trans (a3.below (by omega) (by rw [World.size_alloc]; omega))
  rw [e0] at h3 x3 a3
  obtain ⟨⟨k0, k1, k2, k3, k4, k5, k6, k7, k8, k9, k10, k11, k12, k13, k14, k15, k16⟩, _, zk⟩ := Box.seventeen p0.out
  replace p2 := fhid p2
  replace g2 := fhid g2
  replace p0b := fhid p0b
  replace p1b := fhid p1b
  replace a3 := fhid a3
  clear gz2
  go_upto_region 2 with fail
  clear k0 k1 k2 k3 k4 k5 k6 k7 k8 k9 k10 k11 k12 k13 k14 k15 k16 zk p2 g2 p0b p1b
  have m11 := Box.cell x3 11
  have f11 := Box.free x3 11
  have zm := Box.lt x3
  have n11 := Box.cell p0c 11
  have p3 := fhid (Box.set x3 11 (.bool vb))
  have p4 := fhid (Box.other p1c (a := ⟨w.heap.size + 1 + 1, 11, none⟩) (show w.heap.size + 1 ≠ w.heap.size + 1 + 1 by omega) (.bool vb))
  have p5 := fhid (Box.other p0c (a := ⟨w.heap.size + 1 + 1, 11, none⟩) (show w.heap.size ≠ w.heap.size + 1 + 1 by omega) (.bool vb))
  have g1 := fhid (g3.setCell (p := ⟨w.heap.size + 1 + 1, 11, none⟩) (show w.heap.size ≤ w.heap.size + 1 + 1 by omega) (.bool vb))
  simp only [List.getElem?_cons_zero, List.getElem?_cons_succ] at m11 n11
  replace x3 := fhid x3
  replace p0c := fhid p0c
  replace p1c := fhid p1c
  go_upto_region 3 with fail
  clear m11 f11 n11 zm p0 p1 x3 p0c p1c g0 h3 a3 e0 gz
  generalize w3.setCell _ _ = W1 at *
  as_aux_lemma =>
    obtain ⟨⟨k0, k1, k2, k3, k4, k5, k6, k7, k8, k9, k10, k11, k12, k13, k14, k15, k16⟩, _, zk⟩ := Box.seventeen p5.out
    go_wp2_with fail
    go_loopw [38] (fun i wr => oursR v0 v5 v6 v7 v8 v9 vx vl vj v1 v2 v3 v4 vh vb vA vD vc vm ve l w i wr) (fun i _ => l.length - (intOf i).toNat)
    case atStart => exact ⟨0, .slice none 0 0, Nat.zero_le _, rfl, Ds.OwnIt.nil _ _ _ _, p3.out, p4.out, p5.out, g1.out⟩
    case round =>
      obtain ⟨j, V, hjl, rfl, hO, q2, q1, q0, hB⟩ := hrel
      have hsz := hB.size
      clear k0 k1 k2 k3 k4 k5 k6 k7 k8 k9 k10 k11 k12 k13 k14 k15 k16 zk
      replace p3 := fhid True.intro
      replace p4 := fhid True.intro
      replace p5 := fhid True.intro
      have hlt2 := Box.lt q2
      by_cases hlt : j < l.length
      · as_aux_lemma =>
          have hsW := hs.out.below hB
          obtain ⟨bb, o, rfl, hbb, hc1, A', cp, hc2, hjc, hcm, hjs⟩ := hsW.at_ hlt
          have hsn := fhid (show l.take (j + 1) = l.take j ++ [l[j]] from List.take_succ_eq_append_getElem hlt)
          have i1 : (j : Int) < l.length := by omega
          have i0 : (0 : Int) ≤ j := by omega
          have hln : (l.take j).length ≤ 1048576 := by rw [List.length_take]; omega
          clear hsW
          generalize l[j] = x at *
          obtain ⟨k, js⟩ := x
          simp only at hc1 hc2 hjc hjs
          generalize l.take j = pre at *
          have bA : Below wr.heap.size wr (wr.alloc (.cells #[.int .i64 k, .slice A' js.length cp] Ds.TIt)) := (Below.refl _ _).alloc (Nat.le_refl _) _
          have zA : (wr.alloc (.cells #[.int .i64 k, .slice A' js.length cp] Ds.TIt)).heap.size = wr.heap.size + 1 := World.size_alloc _ _
          have o2 := keep10 hO hsz bA
          have hjs2 := hjs.below (bA.mono hsz)
          have c4 := Box.cell q2 12
          have f4 := Box.free q2 12
          simp only [List.getElem?_cons_zero, List.getElem?_cons_succ] at c4
          replace hln := fhid hln
          replace hO := fhid hO
          replace hjs := fhid hjs
          replace hjs2 := fhid hjs2
          replace o2 := fhid o2
          replace q0 := fhid q0
          replace q1 := fhid q1
          replace q2 := fhid q2
          obtain ⟨Av, nv, cv, rfl⟩ : ∃ A n c, V = .slice A n c := by obtain ⟨A, cap, e, _⟩ := hO.out.shape; exact ⟨A, _, cap, e⟩
          have h3 : w.heap.size + 1 + 1 + 1 ≤ wr.heap.size := by omega
          go_wp2_with (first
            | (at_builtin; (refine Ds.app_it 24 Ds.TRIt Tryz.underlying24 Ds.infoRIt rfl _ _ rfl (w.heap.size + 1 + 1 + 1) (fun b => b < w.heap.size) _ pre k js A' cp hjc hcm (wr.alloc (.cells #[.int .i64 k, .slice A' js.length cp] Ds.TIt)) rfl o2.out (fun b hb => ⟨by rw [zA]; omega, ownB10 o2.out (by omega) b hb⟩) hjs2.out rfl (wr.heap.size + 1) (by rw [zA]) rfl (by have := hln.out; omega) (by omega) ?_; intro v3 w3 o3 hk3 b3)
               obtain ⟨A3, n3, cap3, rfl⟩ : ∃ A n c, v3 = .slice A n c := (by obtain ⟨A, cap, e, _⟩ := o3.shape; exact ⟨A, _, cap, e⟩)
               replace o3 := fhid o3
               have r2 := Box.below (Box.below q2.out bA (by omega)) b3 (by omega)
               have g4 := Box.cell r2 12
               have g5 := Box.free r2 12
               have g6 := Box.lt r2
               simp only [List.getElem?_cons_zero, List.getElem?_cons_succ] at g4))
          go_roundw
          case rel =>
            refine ⟨j + 1, _, by omega, by go_num, ?_, Box.set r2 12 _, Box.other (Box.below (Box.below q1.out bA (by omega)) b3 (by omega)) (show w.heap.size + 1 ≠ w.heap.size + 1 + 1 by omega) _, Box.other (Box.below (Box.below q0.out bA (by omega)) b3 (by omega)) (show w.heap.size ≠ w.heap.size + 1 + 1 by omega) _, ((hB.trans (bA.mono hsz)).trans (b3.mono (by omega))).setCell (show w.heap.size ≤ w.heap.size + 1 + 1 by omega) _⟩
            rw [hsn.out]
            exact aft10 o3.out (Aft.set (Aft.of (Below.refl _ _)) 12 _) r2 (by decide) (by omega)
          case measure => simp [intOf]; omega
      · obtain rfl : j = l.length := by omega
        rw [List.take_length] at hO
        have i1 : ¬ (l.length : Int) < l.length := by omega
        obtain ⟨A3, c3, rfl, _, _, _⟩ := hO.shape
        as_aux_lemma =>
          obtain ⟨⟨k0, k1, k2, k3, k4, k5, k6, k7, k8, k9, k10, k11, k12, k13, k14, k15, k16⟩, _, zk⟩ := Box.seventeen q0
          obtain ⟨⟨m0, m1, m2, m3, m4, m5, m6, m7, m8, m9, m10, m11, m12, m13, m14, m15, m16⟩, ⟨f0, f1, f2, f3, f4, f5, f6, f7, f8, f9, f10, f11, f12, f13, f14, f15, f16⟩, zm⟩ := Box.seventeen q2
          have q3 : Box ((wr.setCell ⟨w.heap.size + 1 + 1, 13, none⟩ (.slice vD vm ve)).setCell ⟨w.heap.size + 1 + 1, 14, none⟩ (.int .i64 vl)) (w.heap.size + 1 + 1) TRCmd (#[.int .i64 v0, .string v1, .string v2, .string v3, .string v4, .int .i64 v5, .int .i64 v6, .int .i64 v7, .int .i64 v8, .int .i64 v9, .int .i64 vx, .bool vb, .slice A3 l.length c3, .slice vD vm ve, .int .i64 vl, .int .i64 vj, .string vh] : Array Value).toList := Box.set (Box.set q2 13 (.slice vD vm ve)) 14 (.int .i64 vl)
          have a3 : Aft (w.heap.size + 1 + 1) wr ((wr.setCell ⟨w.heap.size + 1 + 1, 13, none⟩ (.slice vD vm ve)).setCell ⟨w.heap.size + 1 + 1, 14, none⟩ (.int .i64 vl)) := Aft.set (Aft.set (Aft.of (Below.refl _ _)) 13 _) 14 _
          have o3 := aft10 hO a3 q2 (by decide) (by omega)
          have q4 := Box.other (Box.other q1 (a := ⟨w.heap.size + 1 + 1, 13, none⟩) (show w.heap.size + 1 ≠ w.heap.size + 1 + 1 by omega) (.slice vD vm ve)) (a := ⟨w.heap.size + 1 + 1, 14, none⟩) (show w.heap.size + 1 ≠ w.heap.size + 1 + 1 by omega) (.int .i64 vl)
          have g3 := (hB.setCell (p := ⟨w.heap.size + 1 + 1, 13, none⟩) (show w.heap.size ≤ w.heap.size + 1 + 1 by omega) (.slice vD vm ve)).setCell (p := ⟨w.heap.size + 1 + 1, 14, none⟩) (show w.heap.size ≤ w.heap.size + 1 + 1 by omega) (.int .i64 vl)
          have l9 := ld_rcmd q3 rfl
          obtain ⟨w9, h9, x9, a9⟩ := st_rcmd (A := #[.int .i64 v0, .string v1, .string v2, .string v3, .string v4, .int .i64 v5, .int .i64 v6, .int .i64 v7, .int .i64 v8, .int .i64 v9, .int .i64 vx, .bool vb, .slice A3 l.length c3, .slice vD vm ve, .int .i64 vl, .int .i64 vj, .string vh]) q4 rfl rfl (by simp only [List.all_toArray, List.all_cons, List.all_nil, Bool.and_true]; rfl)
          have o9 := fhid (base10 (aft10 o3 a9 q4 (by decide) (by omega)) (show w.heap.size ≤ w.heap.size + 1 + 1 + 1 by omega))
          have g9 := fhid (g3.trans ((a9.below (show w.heap.size + 1 ≤ w.heap.size + 1 from Nat.le_refl _) (by have := Box.lt q4; omega)).mono (by omega)))
          replace hO := fhid hO
          replace q0 := fhid q0
          replace q1 := fhid q1
          replace q2 := fhid q2
          replace q3 := fhid q3
          replace q4 := fhid q4
          replace x9 := fhid x9
          clear a3 o3 g3 a9
          go_wp2_with fail
          exact ret_ours rfl rfl x9.out rfl ⟨_, _, rfl, o9.out, g9.out⟩
end
end Go.Proofs.YtjpihophigjbpaaGreatDoor
/-
  A command turned into the same one of the other types: theirs.
-/
namespace Go.Proofs.YtjpihophigjbpaaGreatDoor
open Go.RowKit Go.Shelf Vs

section
attribute [local go_sem ↓] exec_ld_cmd exec_st_cmd exec_ld_rcmd exec_st_rcmd
/-- What the turning comes to. -/
def theirsP (v0 v5 v6 v7 v8 v9 vx vl vj : Int) (v1 v2 v3 v4 vh : ByteArray) (vb : Bool) (vD : Option Addr) (vm ve : Nat) (l : List Ds.Itm) (w : World) (e : Ending) (w' : World) : Prop := ∃ A3 c3, e = .returned (.agg #[.int .i64 v0, .string v1, .string v2, .string v3, .string v4, .int .i64 v5, .int .i64 v6, .int .i64 v7, .int .i64 v8, .int .i64 v9, .int .i64 vx, .bool vb, .slice A3 l.length c3, .slice vD vm ve, .int .i64 vl, .int .i64 vj, .string vh]) ∧ Ds.OwnIt w' Ds.TIt w.heap.size (fun b => b < w.heap.size) (.slice A3 l.length c3) l ∧ Below w.heap.size w w'
def theirsR (v0 v5 v6 v7 v8 v9 vx vl vj : Int) (v1 v2 v3 v4 vh : ByteArray) (vb : Bool) (vA vD : Option Addr) (vc vm ve : Nat) (l : List Ds.Itm) (w : World) (i : Value) (wr : World) : Prop := ∃ (j : Nat) (V : Value), j ≤ l.length ∧ i = .int .i64 (j : Int) ∧ Ds.OwnIt wr Ds.TIt (w.heap.size + 1 + 1 + 1) (fun b => b < w.heap.size) V (l.take j) ∧ Box wr (w.heap.size + 1 + 1) TCmd [.int .i64 v0, .string v1, .string v2, .string v3, .string v4, .int .i64 v5, .int .i64 v6, .int .i64 v7, .int .i64 v8, .int .i64 v9, .int .i64 vx, .bool vb, V, .slice none 0 0, .int .i64 0, .int .i64 vj, .string vh] ∧ Box wr (w.heap.size + 1) TCmd [.int .i64 0, .string ⟨#[]⟩, .string ⟨#[]⟩, .string ⟨#[]⟩, .string ⟨#[]⟩, .int .i64 0, .int .i64 0, .int .i64 0, .int .i64 0, .int .i64 0, .int .i64 0, .bool false, .slice none 0 0, .slice none 0 0, .int .i64 0, .int .i64 0, .string ⟨#[]⟩] ∧ Box wr w.heap.size TRCmd [.int .i64 v0, .string v1, .string v2, .string v3, .string v4, .int .i64 v5, .int .i64 v6, .int .i64 v7, .int .i64 v8, .int .i64 v9, .int .i64 vx, .bool vb, .slice vA l.length vc, .slice vD vm ve, .int .i64 vl, .int .i64 vj, .string vh] ∧ Below w.heap.size w wr
set_option maxRecDepth 100000 in
set_option maxHeartbeats 8000000 in
theorem theirs_any (v0 v5 v6 v7 v8 v9 vx vl vj : Int) (v1 v2 v3 v4 vh : ByteArray) (vb : Bool) (vA vD : Option Addr) (vc vm ve : Nat) (l : List Ds.Itm) (w : World) (hs : Ds.Its w w.heap.size vA l) (hl : l.length ≤ 1048576) :
    Calls Tryz.prog 8 #[.agg #[.int .i64 v0, .string v1, .string v2, .string v3, .string v4, .int .i64 v5, .int .i64 v6, .int .i64 v7, .int .i64 v8, .int .i64 v9, .int .i64 vx, .bool vb, .slice vA l.length vc, .slice vD vm ve, .int .i64 vl, .int .i64 vj, .string vh]] w (theirsP v0 v5 v6 v7 v8 v9 vx vl vj v1 v2 v3 v4 vh vb vD vm ve l w) := by
  obtain ⟨p0, p1, g0, gz⟩ := two10 w TRCmd TCmd [.int .i64 v0, .string v1, .string v2, .string v3, .string v4, .int .i64 v5, .int .i64 v6, .int .i64 v7, .int .i64 v8, .int .i64 v9, .int .i64 vx, .bool vb, .slice vA l.length vc, .slice vD vm ve, .int .i64 vl, .int .i64 vj, .string vh] [.int .i64 0, .string ⟨#[]⟩, .string ⟨#[]⟩, .string ⟨#[]⟩, .string ⟨#[]⟩, .int .i64 0, .int .i64 0, .int .i64 0, .int .i64 0, .int .i64 0, .int .i64 0, .bool false, .slice none 0 0, .slice none 0 0, .int .i64 0, .int .i64 0, .string ⟨#[]⟩]
  have hs0 := hs.below g0
  replace hs := fhid hs
  replace p0 := fhid p0
  replace p1 := fhid p1
  replace gz := fhid gz
  replace hs0 := fhid hs0
  go_enter Tryz.func8, Tryz.ntmps8
  go_upto_region 1 with fail
  generalize World.alloc _ _ = W at *
  have gz2 := gz.out
  have e0 : W.heap.size = w.heap.size + 1 + 1 := gz2
  have p2 := Box.new W TCmd [.int .i64 0, .string ⟨#[]⟩, .string ⟨#[]⟩, .string ⟨#[]⟩, .string ⟨#[]⟩, .int .i64 0, .int .i64 0, .int .i64 0, .int .i64 0, .int .i64 0, .int .i64 0, .bool false, .slice none 0 0, .slice none 0 0, .int .i64 0, .int .i64 0, .string ⟨#[]⟩]
  have g2 : Below W.heap.size W (W.alloc (.cells #[.int .i64 0, .string ⟨#[]⟩, .string ⟨#[]⟩, .string ⟨#[]⟩, .string ⟨#[]⟩, .int .i64 0, .int .i64 0, .int .i64 0, .int .i64 0, .int .i64 0, .int .i64 0, .bool false, .slice none 0 0, .slice none 0 0, .int .i64 0, .int .i64 0, .string ⟨#[]⟩] TCmd)) := (Below.refl _ _).alloc (Nat.le_refl _) _
  have p0b := Box.below p0.out g2 (by omega)
  have p1b := Box.below p1.out g2 (by omega)
  obtain ⟨w3, h3, x3, a3⟩ := st_cmd (A := #[.int .i64 v0, .string v1, .string v2, .string v3, .string v4, .int .i64 v5, .int .i64 v6, .int .i64 v7, .int .i64 v8, .int .i64 v9, .int .i64 vx, .bool false, .slice none 0 0, .slice none 0 0, .int .i64 0, .int .i64 vj, .string vh]) p2 rfl rfl (by simp only [List.all_toArray, List.all_cons, List.all_nil, Bool.and_true]; rfl)
  have p0c := Box.aft p0b a3 (by omega)
  have p1c := Box.aft p1b a3 (by omega)
  have g3 : Below w.heap.size w w3 := (g0.trans (g2.mono (by omega))).trans (a3.below (by omega) (by rw [World.size_alloc]; omega))
  rw [e0] at h3 x3 a3
  obtain ⟨⟨k0, k1, k2, k3, k4, k5, k6, k7, k8, k9, k10, k11, k12, k13, k14, k15, k16⟩, _, zk⟩ := Box.seventeen p0.out
  replace p2 := fhid p2
  replace g2 := fhid g2
  replace p0b := fhid p0b
  replace p1b := fhid p1b
  replace a3 := fhid a3
  clear gz2
  go_upto_region 2 with fail
  clear k0 k1 k2 k3 k4 k5 k6 k7 k8 k9 k10 k11 k12 k13 k14 k15 k16 zk p2 g2 p0b p1b
  have m11 := Box.cell x3 11
  have f11 := Box.free x3 11
  have zm := Box.lt x3
  have n11 := Box.cell p0c 11
  have p3 := fhid (Box.set x3 11 (.bool vb))
  have p4 := fhid (Box.other p1c (a := ⟨w.heap.size + 1 + 1, 11, none⟩) (show w.heap.size + 1 ≠ w.heap.size + 1 + 1 by omega) (.bool vb))
  have p5 := fhid (Box.other p0c (a := ⟨w.heap.size + 1 + 1, 11, none⟩) (show w.heap.size ≠ w.heap.size + 1 + 1 by omega) (.bool vb))
  have g1 := fhid (g3.setCell (p := ⟨w.heap.size + 1 + 1, 11, none⟩) (show w.heap.size ≤ w.heap.size + 1 + 1 by omega) (.bool vb))
  simp only [List.getElem?_cons_zero, List.getElem?_cons_succ] at m11 n11
  replace x3 := fhid x3
  replace p0c := fhid p0c
  replace p1c := fhid p1c
  go_upto_region 3 with fail
  clear m11 f11 n11 zm p0 p1 x3 p0c p1c g0 h3 a3 e0 gz
  generalize w3.setCell _ _ = W1 at *
  as_aux_lemma =>
    obtain ⟨⟨k0, k1, k2, k3, k4, k5, k6, k7, k8, k9, k10, k11, k12, k13, k14, k15, k16⟩, _, zk⟩ := Box.seventeen p5.out
    go_wp2_with fail
    go_loopw [38] (fun i wr => theirsR v0 v5 v6 v7 v8 v9 vx vl vj v1 v2 v3 v4 vh vb vA vD vc vm ve l w i wr) (fun i _ => l.length - (intOf i).toNat)
    case atStart => exact ⟨0, .slice none 0 0, Nat.zero_le _, rfl, Ds.OwnIt.nil _ _ _ _, p3.out, p4.out, p5.out, g1.out⟩
    case round =>
      obtain ⟨j, V, hjl, rfl, hO, q2, q1, q0, hB⟩ := hrel
      have hsz := hB.size
      clear k0 k1 k2 k3 k4 k5 k6 k7 k8 k9 k10 k11 k12 k13 k14 k15 k16 zk
      replace p3 := fhid True.intro
      replace p4 := fhid True.intro
      replace p5 := fhid True.intro
      have hlt2 := Box.lt q2
      by_cases hlt : j < l.length
      · as_aux_lemma =>
          have hsW := hs.out.below hB
          obtain ⟨bb, o, rfl, hbb, hc1, A', cp, hc2, hjc, hcm, hjs⟩ := hsW.at_ hlt
          have hsn := fhid (show l.take (j + 1) = l.take j ++ [l[j]] from List.take_succ_eq_append_getElem hlt)
          have i1 : (j : Int) < l.length := by omega
          have i0 : (0 : Int) ≤ j := by omega
          have hln : (l.take j).length ≤ 1048576 := by rw [List.length_take]; omega
          clear hsW
          generalize l[j] = x at *
          obtain ⟨k, js⟩ := x
          simp only at hc1 hc2 hjc hjs
          generalize l.take j = pre at *
          have bA : Below wr.heap.size wr (wr.alloc (.cells #[.int .i64 k, .slice A' js.length cp] Ds.TRIt)) := (Below.refl _ _).alloc (Nat.le_refl _) _
          have zA : (wr.alloc (.cells #[.int .i64 k, .slice A' js.length cp] Ds.TRIt)).heap.size = wr.heap.size + 1 := World.size_alloc _ _
          have o2 := keep10 hO hsz bA
          have hjs2 := hjs.below (bA.mono hsz)
          have c4 := Box.cell q2 12
          have f4 := Box.free q2 12
          simp only [List.getElem?_cons_zero, List.getElem?_cons_succ] at c4
          replace hln := fhid hln
          replace hO := fhid hO
          replace hjs := fhid hjs
          replace hjs2 := fhid hjs2
          replace o2 := fhid o2
          replace q0 := fhid q0
          replace q1 := fhid q1
          replace q2 := fhid q2
          obtain ⟨Av, nv, cv, rfl⟩ : ∃ A n c, V = .slice A n c := by obtain ⟨A, cap, e, _⟩ := hO.out.shape; exact ⟨A, _, cap, e⟩
          have h3 : w.heap.size + 1 + 1 + 1 ≤ wr.heap.size := by omega
          go_wp2_with (first
            | (at_builtin; (refine Ds.app_it 35 Ds.TIt Tryz.underlying35 Ds.infoIt rfl _ _ rfl (w.heap.size + 1 + 1 + 1) (fun b => b < w.heap.size) _ pre k js A' cp hjc hcm (wr.alloc (.cells #[.int .i64 k, .slice A' js.length cp] Ds.TRIt)) rfl o2.out (fun b hb => ⟨by rw [zA]; omega, ownB10 o2.out (by omega) b hb⟩) hjs2.out rfl (wr.heap.size + 1) (by rw [zA]) rfl (by have := hln.out; omega) (by omega) ?_; intro v3 w3 o3 hk3 b3)
               obtain ⟨A3, n3, cap3, rfl⟩ : ∃ A n c, v3 = .slice A n c := (by obtain ⟨A, cap, e, _⟩ := o3.shape; exact ⟨A, _, cap, e⟩)
               replace o3 := fhid o3
               have r2 := Box.below (Box.below q2.out bA (by omega)) b3 (by omega)
               have g4 := Box.cell r2 12
               have g5 := Box.free r2 12
               have g6 := Box.lt r2
               simp only [List.getElem?_cons_zero, List.getElem?_cons_succ] at g4))
          go_roundw
          case rel =>
            refine ⟨j + 1, _, by omega, by go_num, ?_, Box.set r2 12 _, Box.other (Box.below (Box.below q1.out bA (by omega)) b3 (by omega)) (show w.heap.size + 1 ≠ w.heap.size + 1 + 1 by omega) _, Box.other (Box.below (Box.below q0.out bA (by omega)) b3 (by omega)) (show w.heap.size ≠ w.heap.size + 1 + 1 by omega) _, ((hB.trans (bA.mono hsz)).trans (b3.mono (by omega))).setCell (show w.heap.size ≤ w.heap.size + 1 + 1 by omega) _⟩
            rw [hsn.out]
            exact aft10 o3.out (Aft.set (Aft.of (Below.refl _ _)) 12 _) r2 (by decide) (by omega)
          case measure => simp [intOf]; omega
      · obtain rfl : j = l.length := by omega
        rw [List.take_length] at hO
        have i1 : ¬ (l.length : Int) < l.length := by omega
        obtain ⟨A3, c3, rfl, _, _, _⟩ := hO.shape
        as_aux_lemma =>
          obtain ⟨⟨k0, k1, k2, k3, k4, k5, k6, k7, k8, k9, k10, k11, k12, k13, k14, k15, k16⟩, _, zk⟩ := Box.seventeen q0
          obtain ⟨⟨m0, m1, m2, m3, m4, m5, m6, m7, m8, m9, m10, m11, m12, m13, m14, m15, m16⟩, ⟨f0, f1, f2, f3, f4, f5, f6, f7, f8, f9, f10, f11, f12, f13, f14, f15, f16⟩, zm⟩ := Box.seventeen q2
          have q3 : Box ((wr.setCell ⟨w.heap.size + 1 + 1, 13, none⟩ (.slice vD vm ve)).setCell ⟨w.heap.size + 1 + 1, 14, none⟩ (.int .i64 vl)) (w.heap.size + 1 + 1) TCmd (#[.int .i64 v0, .string v1, .string v2, .string v3, .string v4, .int .i64 v5, .int .i64 v6, .int .i64 v7, .int .i64 v8, .int .i64 v9, .int .i64 vx, .bool vb, .slice A3 l.length c3, .slice vD vm ve, .int .i64 vl, .int .i64 vj, .string vh] : Array Value).toList := Box.set (Box.set q2 13 (.slice vD vm ve)) 14 (.int .i64 vl)
          have a3 : Aft (w.heap.size + 1 + 1) wr ((wr.setCell ⟨w.heap.size + 1 + 1, 13, none⟩ (.slice vD vm ve)).setCell ⟨w.heap.size + 1 + 1, 14, none⟩ (.int .i64 vl)) := Aft.set (Aft.set (Aft.of (Below.refl _ _)) 13 _) 14 _
          have o3 := aft10 hO a3 q2 (by decide) (by omega)
          have q4 := Box.other (Box.other q1 (a := ⟨w.heap.size + 1 + 1, 13, none⟩) (show w.heap.size + 1 ≠ w.heap.size + 1 + 1 by omega) (.slice vD vm ve)) (a := ⟨w.heap.size + 1 + 1, 14, none⟩) (show w.heap.size + 1 ≠ w.heap.size + 1 + 1 by omega) (.int .i64 vl)
          have g3 := (hB.setCell (p := ⟨w.heap.size + 1 + 1, 13, none⟩) (show w.heap.size ≤ w.heap.size + 1 + 1 by omega) (.slice vD vm ve)).setCell (p := ⟨w.heap.size + 1 + 1, 14, none⟩) (show w.heap.size ≤ w.heap.size + 1 + 1 by omega) (.int .i64 vl)
          have l9 := ld_cmd q3 rfl
          obtain ⟨w9, h9, x9, a9⟩ := st_cmd (A := #[.int .i64 v0, .string v1, .string v2, .string v3, .string v4, .int .i64 v5, .int .i64 v6, .int .i64 v7, .int .i64 v8, .int .i64 v9, .int .i64 vx, .bool vb, .slice A3 l.length c3, .slice vD vm ve, .int .i64 vl, .int .i64 vj, .string vh]) q4 rfl rfl (by simp only [List.all_toArray, List.all_cons, List.all_nil, Bool.and_true]; rfl)
          have o9 := fhid (base10 (aft10 o3 a9 q4 (by decide) (by omega)) (show w.heap.size ≤ w.heap.size + 1 + 1 + 1 by omega))
          have g9 := fhid (g3.trans ((a9.below (show w.heap.size + 1 ≤ w.heap.size + 1 from Nat.le_refl _) (by have := Box.lt q4; omega)).mono (by omega)))
          replace hO := fhid hO
          replace q0 := fhid q0
          replace q1 := fhid q1
          replace q2 := fhid q2
          replace q3 := fhid q3
          replace q4 := fhid q4
          replace x9 := fhid x9
          clear a3 o3 g3 a9
          go_wp2_with fail
          exact ret_theirs rfl rfl x9.out rfl ⟨_, _, rfl, o9.out, g9.out⟩
end
end Go.Proofs.YtjpihophigjbpaaGreatDoor
/-
  The document's Same of two commands that read as the same one.
-/
namespace Go.Proofs.YtjpihophigjbpaaGreatDoor
open Go.RowKit Go.Shelf Vs

abbrev TRDep10 : TypeId := 26
abbrev TRIt10 : TypeId := 56
/-- Two items that were read: where they lie. -/
def TwoIt (w : World) (k : Int) (A1 A2 : Option Addr) (n c1 c2 : Nat) (s6 s7 : Value) (wx : World) : Prop := ∃ b1 b2, s6 = .pointer (some ⟨b1, 0, none⟩) ∧ s7 = .pointer (some ⟨b2, 0, none⟩) ∧ Box wx b1 TRIt10 [.int .i64 k, .slice A1 n c1] ∧ Box wx b2 TRIt10 [.int .i64 k, .slice A2 n c2] ∧ Below w.heap.size w wx
theorem two_it (w : World) (c1 c2 : List Value) (T : TypeId) : Box ((w.alloc (.cells c1.toArray T)).alloc (.cells c2.toArray T)).drew w.heap.size T c1 ∧ Box ((w.alloc (.cells c1.toArray T)).alloc (.cells c2.toArray T)).drew (w.heap.size + 1) T c2 ∧ Below w.heap.size w ((w.alloc (.cells c1.toArray T)).alloc (.cells c2.toArray T)).drew := by
  have h2 := Box.new (w.alloc (.cells c1.toArray T)) T c2
  rw [World.size_alloc] at h2
  exact ⟨(Below.heap_alloc _ _ _ (by simp)).trans (Box.new w T c1), h2, (((Below.refl _ _).alloc (Nat.le_refl _) _).alloc (by simp) _).drew⟩
set_option maxRecDepth 100000 in
set_option maxHeartbeats 8000000 in
theorem rdsame_any (any : Bool) (l : List Ds.Itm) (A1 A2 : Option Addr) (c1 c2 : Nat) (w : World) (h1 : Ds.Its w w.heap.size A1 l) (h2 : Ds.Its w w.heap.size A2 l) (hl : l.length ≤ maxLen) :
    Calls Tryz.prog 19 #[.agg #[.bool any, .slice A1 l.length c1], .agg #[.bool any, .slice A2 l.length c2]] w (BoolP w true) := by
  unfold BoolP
  unfold maxLen at hl
  have q0 : Box ((w.alloc (.cells #[.bool any, .slice A1 l.length c1] TRDep10)).alloc (.cells #[.bool any, .slice A2 l.length c2] TRDep10)) w.heap.size TRDep10 [.bool any, .slice A1 l.length c1] := (Below.heap_alloc _ _ _ (by simp)).trans (Box.new w TRDep10 [.bool any, .slice A1 l.length c1])
  have q1 : Box ((w.alloc (.cells #[.bool any, .slice A1 l.length c1] TRDep10)).alloc (.cells #[.bool any, .slice A2 l.length c2] TRDep10)) (w.heap.size + 1) TRDep10 [.bool any, .slice A2 l.length c2] := by
    have := Box.new (w.alloc (.cells #[.bool any, .slice A1 l.length c1] TRDep10)) TRDep10 [.bool any, .slice A2 l.length c2]
    rwa [World.size_alloc] at this
  have g0 : Below w.heap.size w ((w.alloc (.cells #[.bool any, .slice A1 l.length c1] TRDep10)).alloc (.cells #[.bool any, .slice A2 l.length c2] TRDep10)) := ((Below.refl _ _).alloc (Nat.le_refl _) _).alloc (by simp) _
  have x0 : (any != any) = false := by cases any <;> rfl
  have x1 : ((l.length : Int) != (l.length : Int)) = false := by simp
  replace h1 := fhid h1
  replace h2 := fhid h2
  replace q0 := fhid q0
  replace q1 := fhid q1
  replace g0 := fhid g0
  go_enter Tryz.func19, Tryz.ntmps19
  go_upto_region 1 with fail
  generalize (w.alloc _).alloc _ = W at *
  have k0 : W.cell? ⟨w.heap.size, 0, none⟩ = some (.bool any) := Box.cell q0.out 0
  have k1 : W.cell? ⟨w.heap.size, 1, none⟩ = some (.slice A1 l.length c1) := Box.cell q0.out 1
  have m0 : W.cell? ⟨w.heap.size + 1, 0, none⟩ = some (.bool any) := Box.cell q1.out 0
  have m1 : W.cell? ⟨w.heap.size + 1, 1, none⟩ = some (.slice A2 l.length c2) := Box.cell q1.out 1
  have zk := Box.lt q0.out
  have zm := Box.lt q1.out
  go_wp2_with fail
  clear k0 k1 m0 m1
  go_loopw [5] (fun i wr => ∃ j : Nat, j ≤ l.length ∧ i = .int .i64 (j : Int) ∧ Below W.heap.size W wr) (fun i _ => l.length - (intOf i).toNat)
  case atStart => exact ⟨0, Nat.zero_le _, rfl, Below.refl _ _⟩
  case round =>
    obtain ⟨j, hj, rfl, hB⟩ := hrel
    have gB := g0.out.trans (hB.mono g0.out.size)
    have k1 : wr.cell? ⟨w.heap.size, 1, none⟩ = some (.slice A1 l.length c1) := Box.cell (Box.below q0.out hB zk) 1
    have m1 : wr.cell? ⟨w.heap.size + 1, 1, none⟩ = some (.slice A2 l.length c2) := Box.cell (Box.below q1.out hB zm) 1
    have zk2 := Nat.lt_of_lt_of_le zk hB.size
    have zm2 := Nat.lt_of_lt_of_le zm hB.size
    have i0 : (0 : Int) ≤ j := by omega
    by_cases hlt : j < l.length
    · have i1 : (j : Int) < l.length := by omega
      obtain ⟨b1, o1, rfl, hb1, e1, B1, d1, e2, hd1, hd1', js1⟩ := (h1.out.below gB).at_ hlt
      obtain ⟨b2, o2, rfl, hb2, e3, B2, d2, e4, hd2, hd2', js2⟩ := (h2.out.below gB).at_ hlt
      have hb1' := Nat.lt_of_lt_of_le hb1 gB.size
      have hb2' := Nat.lt_of_lt_of_le hb2 gB.size
      have hltI := fhid hlt
      generalize l[j] = x at *
      clear hlt
      obtain ⟨k, js⟩ := x
      simp only at e1 e2 e3 e4 hd1 hd1' js1 hd2 hd2' js2
      have hne1 : w.heap.size ≠ wr.heap.size := by omega
      have hne2 : w.heap.size + 1 ≠ wr.heap.size := by omega
      have hjm : js.length ≤ maxLen := Nat.le_trans hd1 hd1'
      unfold maxLen at hjm
      generalize hn : js.length = n at *
      go_upto_region 6 with fail
      go_cut [6, 7] (TwoIt wr k B1 B2 n d1 d2)
      case first =>
        have n1 := World.new_ne wr _ e1
        have n2 := World.new_ne wr _ e2
        have n3 := World.new_ne wr _ e3
        have n4 := World.new_ne wr _ e4
        have n5 := World.new_ne wr _ k1
        have n6 := World.new_ne wr _ m1
        go_region
        all_goals
          go_wp2_with fail
          go_meet
          first
            | exact ⟨_, _, rfl, rfl, (two_it wr [.int .i64 k, .slice B1 n d1] [.int .i64 k, .slice B2 n d2] TRIt10).1, (two_it wr [.int .i64 k, .slice B1 n d1] [.int .i64 k, .slice B2 n d2] TRIt10).2.1, (two_it wr [.int .i64 k, .slice B1 n d1] [.int .i64 k, .slice B2 n d2] TRIt10).2.2⟩
            | exact ⟨_, _, rfl, rfl, (two_it wr [.int .i64 k, .slice B2 n d2] [.int .i64 k, .slice B1 n d1] TRIt10).2.1, (two_it wr [.int .i64 k, .slice B2 n d2] [.int .i64 k, .slice B1 n d1] TRIt10).1, (two_it wr [.int .i64 k, .slice B2 n d2] [.int .i64 k, .slice B1 n d1] TRIt10).2.2⟩
      case rest =>
        obtain ⟨p1, p2, rfl, rfl, hx, hy, hb⟩ := hcut
        obtain ⟨w4, rfl⟩ : ∃ w4 : World, w4 = wc := ⟨_, rfl⟩
        have hB4 := hB.trans (hb.mono hB.size)
        have g4 := gB.trans (hb.mono gB.size)
        have y0 : w4.cell? ⟨p1, 0, none⟩ = some (.int .i64 k) := Box.cell hx 0
        have y1 : w4.cell? ⟨p1, 1, none⟩ = some (.slice B1 n d1) := Box.cell hx 1
        have y2 : w4.cell? ⟨p2, 0, none⟩ = some (.int .i64 k) := Box.cell hy 0
        have y3 : w4.cell? ⟨p2, 1, none⟩ = some (.slice B2 n d2) := Box.cell hy 1
        have z1 := Box.lt hx
        have z2 := Box.lt hy
        have r1 := fhid (Ds.SegC.below (js1.imp (ok' := fun b => b < wr.heap.size) fun _ _ h => by first | exact h | exact Nat.lt_of_lt_of_le h gB.size) hb)
        have r2 := fhid (Ds.SegC.below (js2.imp (ok' := fun b => b < wr.heap.size) fun _ _ h => by first | exact h | exact Nat.lt_of_lt_of_le h gB.size) hb)
        have x2 : (k != k) = false := by simp
        have x3 : ((n : Int) != (n : Int)) = false := by simp
        have hzz := hb.size
        clear e1 e2 e3 e4 js1 js2 hb hb1 hb2 hb1' hb2' hB gB hne1 hne2 k1 m1
        replace hx := fhid hx
        replace hy := fhid hy
        replace hzz := fhid hzz
        go_wp2_with fail
        go_loopw [8] (fun i wx => ∃ m : Nat, m ≤ n ∧ i = .int .i64 (m : Int) ∧ Below w4.heap.size w4 wx) (fun i _ => n - (intOf i).toNat)
        case atStart => exact ⟨0, Nat.zero_le _, rfl, Below.refl _ _⟩
        case round =>
          obtain ⟨m, hm, rfl, hBm⟩ := hrel
          clear y0 y1 y2 y3
          have y1 : wr.cell? ⟨p1, 1, none⟩ = some (.slice B1 n d1) := Box.cell (Box.below hx.out hBm z1) 1
          have y3 : wr.cell? ⟨p2, 1, none⟩ = some (.slice B2 n d2) := Box.cell (Box.below hy.out hBm z2) 1
          have z1' := Nat.lt_of_lt_of_le z1 hBm.size
          have z2' := Nat.lt_of_lt_of_le z2 hBm.size
          have l0 : (0 : Int) ≤ m := by omega
          by_cases hml : m < n
          · have l1 : (m : Int) < n := by omega
            obtain ⟨b3, o3, rfl, hb3, c3⟩ := Ds.Ints.at_ r1.out (by rw [hn]; exact hml)
            obtain ⟨b4, o4, rfl, hb4, c4⟩ := Ds.Ints.at_ r2.out (by rw [hn]; exact hml)
            have hb3 : b3 < w4.heap.size := Nat.lt_of_lt_of_le hb3 hzz.out
            have hb4 : b4 < w4.heap.size := Nat.lt_of_lt_of_le hb4 hzz.out
            have c3 := (hBm.cell (p := ⟨b3, o3 + m, none⟩) hb3).trans c3
            have c4 := (hBm.cell (p := ⟨b4, o4 + m, none⟩) hb4).trans c4
            have hb3 := Nat.lt_of_lt_of_le hb3 hBm.size
            have hb4 := Nat.lt_of_lt_of_le hb4 hBm.size
            generalize js[m]'(by rw [hn]; exact hml) = q at *
            have e : (q != q) = false := by simp
            go_upto_region 12 with fail
            go_quiet (fail)
            go_wp2_with fail
            go_roundw
            case rel => exact ⟨m + 1, by omega, by go_num, hBm.trans ((Vs.below_drewN (Below.refl _ _) _).mono hBm.size)⟩
            case measure => simp [intOf]; omega
          · obtain rfl : m = n := by omega
            have l1 : ¬ (m : Int) < m := by omega
            go_wp2_with fail
            go_roundw
            case rel => exact ⟨j + 1, by have := hltI.out; omega, by go_num, hB4.trans (hBm.mono hB4.size)⟩
            case measure => have := hltI.out; simp [intOf]; omega
    · obtain rfl : j = l.length := by omega
      have i1 : ¬ (l.length : Int) < l.length := by omega
      go_wp2_with fail
      go_ret
      exact ⟨rfl, gB⟩
end Go.Proofs.YtjpihophigjbpaaGreatDoor
/-
  The document's Same of two commands that read as the same one.
-/
namespace Go.Proofs.YtjpihophigjbpaaGreatDoor
open Go.RowKit Go.Shelf Vs

set_option maxRecDepth 100000 in
set_option maxHeartbeats 8000000 in
theorem rsame_any (v0 v5 v6 v7 v8 v9 vx vl vj : Int) (v1 v2 v3 v4 vh : ByteArray) (vb : Bool) (vA uA vD uD : Option Addr) (vc uc ve ue : Nat) (l : List Ds.Itm) (ns : List Int) (w : World) (s1 : Ds.Its w w.heap.size vA l) (s2 : Ds.Its w w.heap.size uA l) (s3 : Ds.Ints w w.heap.size vD ns) (s4 : Ds.Ints w w.heap.size uD ns) (hnl : ns.length ≤ 10000000) (hl : l.length ≤ maxLen) :
    Calls Tryz.prog 11 #[.agg #[.int .i64 v0, .string v1, .string v2, .string v3, .string v4, .int .i64 v5, .int .i64 v6, .int .i64 v7, .int .i64 v8, .int .i64 v9, .int .i64 vx, .bool vb, .slice vA l.length vc, .slice vD ns.length ve, .int .i64 vl, .int .i64 vj, .string vh], .agg #[.int .i64 v0, .string v1, .string v2, .string v3, .string v4, .int .i64 v5, .int .i64 v6, .int .i64 v7, .int .i64 v8, .int .i64 v9, .int .i64 vx, .bool vb, .slice uA l.length uc, .slice uD ns.length ue, .int .i64 vl, .int .i64 vj, .string vh]] w (BoolP w true) := by
  have q0 : Box ((w.alloc (.cells #[.int .i64 v0, .string v1, .string v2, .string v3, .string v4, .int .i64 v5, .int .i64 v6, .int .i64 v7, .int .i64 v8, .int .i64 v9, .int .i64 vx, .bool vb, .slice vA l.length vc, .slice vD ns.length ve, .int .i64 vl, .int .i64 vj, .string vh] TRCmd)).alloc (.cells #[.int .i64 v0, .string v1, .string v2, .string v3, .string v4, .int .i64 v5, .int .i64 v6, .int .i64 v7, .int .i64 v8, .int .i64 v9, .int .i64 vx, .bool vb, .slice uA l.length uc, .slice uD ns.length ue, .int .i64 vl, .int .i64 vj, .string vh] TRCmd)) w.heap.size TRCmd [.int .i64 v0, .string v1, .string v2, .string v3, .string v4, .int .i64 v5, .int .i64 v6, .int .i64 v7, .int .i64 v8, .int .i64 v9, .int .i64 vx, .bool vb, .slice vA l.length vc, .slice vD ns.length ve, .int .i64 vl, .int .i64 vj, .string vh] := (Below.heap_alloc _ _ _ (by simp)).trans (Box.new w TRCmd [.int .i64 v0, .string v1, .string v2, .string v3, .string v4, .int .i64 v5, .int .i64 v6, .int .i64 v7, .int .i64 v8, .int .i64 v9, .int .i64 vx, .bool vb, .slice vA l.length vc, .slice vD ns.length ve, .int .i64 vl, .int .i64 vj, .string vh])
  have q1 : Box ((w.alloc (.cells #[.int .i64 v0, .string v1, .string v2, .string v3, .string v4, .int .i64 v5, .int .i64 v6, .int .i64 v7, .int .i64 v8, .int .i64 v9, .int .i64 vx, .bool vb, .slice vA l.length vc, .slice vD ns.length ve, .int .i64 vl, .int .i64 vj, .string vh] TRCmd)).alloc (.cells #[.int .i64 v0, .string v1, .string v2, .string v3, .string v4, .int .i64 v5, .int .i64 v6, .int .i64 v7, .int .i64 v8, .int .i64 v9, .int .i64 vx, .bool vb, .slice uA l.length uc, .slice uD ns.length ue, .int .i64 vl, .int .i64 vj, .string vh] TRCmd)) (w.heap.size + 1) TRCmd [.int .i64 v0, .string v1, .string v2, .string v3, .string v4, .int .i64 v5, .int .i64 v6, .int .i64 v7, .int .i64 v8, .int .i64 v9, .int .i64 vx, .bool vb, .slice uA l.length uc, .slice uD ns.length ue, .int .i64 vl, .int .i64 vj, .string vh] := by
    have := Box.new (w.alloc (.cells #[.int .i64 v0, .string v1, .string v2, .string v3, .string v4, .int .i64 v5, .int .i64 v6, .int .i64 v7, .int .i64 v8, .int .i64 v9, .int .i64 vx, .bool vb, .slice vA l.length vc, .slice vD ns.length ve, .int .i64 vl, .int .i64 vj, .string vh] TRCmd)) TRCmd [.int .i64 v0, .string v1, .string v2, .string v3, .string v4, .int .i64 v5, .int .i64 v6, .int .i64 v7, .int .i64 v8, .int .i64 v9, .int .i64 vx, .bool vb, .slice uA l.length uc, .slice uD ns.length ue, .int .i64 vl, .int .i64 vj, .string vh]
    rw [World.size_alloc] at this
    exact this
  have g0 : Below w.heap.size w ((w.alloc (.cells #[.int .i64 v0, .string v1, .string v2, .string v3, .string v4, .int .i64 v5, .int .i64 v6, .int .i64 v7, .int .i64 v8, .int .i64 v9, .int .i64 vx, .bool vb, .slice vA l.length vc, .slice vD ns.length ve, .int .i64 vl, .int .i64 vj, .string vh] TRCmd)).alloc (.cells #[.int .i64 v0, .string v1, .string v2, .string v3, .string v4, .int .i64 v5, .int .i64 v6, .int .i64 v7, .int .i64 v8, .int .i64 v9, .int .i64 vx, .bool vb, .slice uA l.length uc, .slice uD ns.length ue, .int .i64 vl, .int .i64 vj, .string vh] TRCmd)) := ((Below.refl _ _).alloc (Nat.le_refl _) _).alloc (by simp) _
  have hei := fun W (hW : Below w.heap.size w W) => rdsame_any vb l vA uA vc uc W ((s1.below hW).more hW.size) ((s2.below hW).more hW.size) hl
  have hen := fun W (hW : Below w.heap.size w W) => Ys.ints_same ns vD uD ve ue W ((Ds.SegC.below s3 hW).more hW.size) ((Ds.SegC.below s4 hW).more hW.size) hnl
  have hev := Vs.eql_vec v8 v9 vx v8 v9 vx
  unfold Vs.vec at hev
  rw [decide_eq_true (show v8 = v8 ∧ v9 = v9 ∧ vx = vx from ⟨rfl, rfl, rfl⟩)] at hev
  unfold BoolP at hei ⊢
  have u1 : (v1.toList == v1.toList) = true := by simp
  have u2 : (v2.toList == v2.toList) = true := by simp
  have u3 : (v3.toList == v3.toList) = true := by simp
  have u4 : (v4.toList == v4.toList) = true := by simp
  have u5 : (vh.toList == vh.toList) = true := by simp
  have x0 : (v0 == v0) = true := by simp
  have x5 : (v5 == v5) = true := by simp
  have x6 : (v6 == v6) = true := by simp
  have x7 : (v7 == v7) = true := by simp
  have x12 : (vl == vl) = true := by simp
  have x13 : (vj == vj) = true := by simp
  generalize l.length = ln at *
  generalize ns.length = nn at *
  clear s1 s2 s3 s4
  go_enter Tryz.func11, Tryz.ntmps11
  obtain ⟨⟨k0, k1, k2, k3, k4, k5, k6, k7, k8, k9, k10, k11, k12, k13, k14, k15, k16⟩, _, zk⟩ := Box.seventeen q0
  obtain ⟨⟨m0, m1, m2, m3, m4, m5, m6, m7, m8, m9, m10, m11, m12, m13, m14, m15, m16⟩, _, zm⟩ := Box.seventeen q1
  replace g0 := fhid g0
  replace q0 := fhid q0
  replace q1 := fhid q1
  go_wp2_with (first
    | (go_at_call 19; (with_reducible refine (hei _ g0.out).mono ?_); rintro e w3 ⟨rfl, b3⟩; have g3 := g0.out.trans (b3.mono g0.out.size); have q2 := Box.below q0.out b3 zk; have q3 := Box.below q1.out b3 zm; obtain ⟨⟨ka0, ka1, ka2, ka3, ka4, ka5, ka6, ka7, ka8, ka9, ka10, ka11, ka12, ka13, ka14, ka15, ka16⟩, _, zka⟩ := Box.seventeen q2; obtain ⟨⟨ma0, ma1, ma2, ma3, ma4, ma5, ma6, ma7, ma8, ma9, ma10, ma11, ma12, ma13, ma14, ma15, ma16⟩, _, zma⟩ := Box.seventeen q3; replace q2 := fhid q2; replace q3 := fhid q3)
    | (go_at_call 20; (with_reducible refine (hen _ g3).mono ?_); rintro e w4 ⟨rfl, b4⟩; have g4 := g3.trans (b4.mono g3.size); have q4 := Box.below q2.out b4 zka; have q5 := Box.below q3.out b4 zma; obtain ⟨⟨kb0, kb1, kb2, kb3, kb4, kb5, kb6, kb7, kb8, kb9, kb10, kb11, kb12, kb13, kb14, kb15, kb16⟩, _, zkb⟩ := Box.seventeen q4; obtain ⟨⟨mb0, mb1, mb2, mb3, mb4, mb5, mb6, mb7, mb8, mb9, mb10, mb11, mb12, mb13, mb14, mb15, mb16⟩, _, zmb⟩ := Box.seventeen q5; replace q4 := fhid q4; replace q5 := fhid q5)
    | fail)
  go_ret
  exact ⟨rfl, g4⟩
end Go.Proofs.YtjpihophigjbpaaGreatDoor
/-
  The calls on commands that read as a plain one.
-/
namespace Go.Proofs.YtjpihophigjbpaaGreatDoor
open Go.RowKit Go.Shelf Vs

theorem let_parse (l : Str) (W : World) (hw : Env W) : Calls Tryz.prog 10 #[.string (str l)] W (AnsP (cmdP l).2 (fun U W => InvC (cmdP l).1 U.toList W) W) :=
  (parse_all NoX l W hw (fun k hk => hk.elim)).mono fun _ _ h => h.ans
theorem let_formatW {c : CmdC} (hn : WideC c) (hT : ∀ i, i < 10 → (txtQ i c).length ≤ 1125899906842624) (hH : c.host.length ≤ 1125899906842624) {W : World} (hw : Env W) {U : Array Value} (hi : InvC c U.toList W) : Calls Tryz.prog 7 #[.agg U] W (FmP W (fmtQ c)) := by
  obtain ⟨Ai, ci, Aa, ca, e, h1, h2⟩ := hi
  have e2 : U = (cellsC c (.slice Ai c.items.length ci) (.slice Aa c.idx.length ca)).toArray := by rw [← e]
  rw [e2]
  exact format_of (fun X0 l W h1 h2 => parse_all X0 l W h1 h2) c Ai Aa ci ca W hw h1 h2 hn hT hH
theorem let_format {c : CmdC} (hf : FewC c) {W : World} (hw : Env W) {U : Array Value} (hi : InvC c U.toList W) : Calls Tryz.prog 7 #[.agg U] W (FmP W (fmtQ c)) := by
  obtain ⟨Ai, ci, Aa, ca, e, h1, h2⟩ := hi
  have e2 : U = (cellsC c (.slice Ai c.items.length ci) (.slice Aa c.idx.length ca)).toArray := by rw [← e]
  rw [e2]
  exact format_of (fun X0 l W h1 h2 => parse_all X0 l W h1 h2) c Ai Aa ci ca W hw h1 h2 hf.wide hf.texts.1 hf.texts.2
theorem let_right {c : CmdC} (hf : FewC c) {W : World} (hw : Env W) {U : Array Value} (hi : InvC c U.toList W) : Calls Tryz.prog 13 #[.agg U] W (BoolP W (rightQ c)) := by
  obtain ⟨Ai, ci, Aa, ca, e, h1, h2⟩ := hi
  have e2 : U = (cellsC c (.slice Ai c.items.length ci) (.slice Aa c.idx.length ca)).toArray := by rw [← e]
  rw [e2]
  exact right_of (fun X0 l W h1 h2 => parse_all X0 l W h1 h2) c Ai Aa ci ca W hw h1 h2 hf.wide hf.texts.1 hf.texts.2
theorem let_same {c d : CmdC} {W : World} {U V : Array Value} (hi : InvC c U.toList W) (hj : InvC d V.toList W) : Calls Tryz.prog 14 #[.agg U, .agg V] W (BoolP W (sameQ c d)) := by
  obtain ⟨Ai, ci, Aa, ca, e, h1, h2⟩ := hi
  obtain ⟨Aj, cj, Ab, cb, e', h3, h4⟩ := hj
  have e2 : U = (cellsC c (.slice Ai c.items.length ci) (.slice Aa c.idx.length ca)).toArray := by rw [← e]
  have e3 : V = (cellsC d (.slice Aj d.items.length cj) (.slice Ab d.idx.length cb)).toArray := by rw [← e']
  rw [e2, e3]
  exact sameC_any c d Ai Aj Aa Ab ci cj ca cb W h1 h3 h2 h4
theorem let_ours {c : CmdC} (hl : c.items.length ≤ 1048576) {W : World} {U : Array Value} (hi : InvC c U.toList W) : Calls Tryz.prog 12 #[.agg U] W (fun e w' => Below W.heap.size W w' ∧ ∃ V : Array Value, e = .returned (.agg V) ∧ InvC c V.toList w') := by
  obtain ⟨Ai, ci, Aa, ca, e, h1, h2⟩ := hi
  have e2 : U = (cellsC c (.slice Ai c.items.length ci) (.slice Aa c.idx.length ca)).toArray := by rw [← e]
  rw [e2]
  obtain ⟨_, _, e1, _, _, s1⟩ := h1.its
  injection e1 with e1 _ e3
  subst e1 e3
  refine (ours_any c.kind c.nodes c.time c.run c.req.1 c.req.2.1 c.req.2.2 c.lim c.job (str c.user) (str c.part) (str c.qos) (str c.name) (str c.host) c.any Ai Aa ci c.idx.length ca c.items W s1 hl).mono ?_
  rintro e w' ⟨A3, c3, rfl, ho, hb⟩
  exact ⟨hb, _, rfl, A3, c3, Aa, ca, rfl, has10 ho hb.size, h2.keep (fun k hk _ => hb.block k hk) hb.size⟩
theorem let_theirs {c : CmdC} (hl : c.items.length ≤ 1048576) {W : World} {U : Array Value} (hi : InvC c U.toList W) : Calls Tryz.prog 8 #[.agg U] W (fun e w' => Below W.heap.size W w' ∧ ∃ V : Array Value, e = .returned (.agg V) ∧ InvC c V.toList w') := by
  obtain ⟨Ai, ci, Aa, ca, e, h1, h2⟩ := hi
  have e2 : U = (cellsC c (.slice Ai c.items.length ci) (.slice Aa c.idx.length ca)).toArray := by rw [← e]
  rw [e2]
  obtain ⟨_, _, e1, _, _, s1⟩ := h1.its
  injection e1 with e1 _ e3
  subst e1 e3
  refine (theirs_any c.kind c.nodes c.time c.run c.req.1 c.req.2.1 c.req.2.2 c.lim c.job (str c.user) (str c.part) (str c.qos) (str c.name) (str c.host) c.any Ai Aa ci c.idx.length ca c.items W s1 hl).mono ?_
  rintro e w' ⟨A3, c3, rfl, ho, hb⟩
  exact ⟨hb, _, rfl, A3, c3, Aa, ca, rfl, has10 ho hb.size, h2.keep (fun k hk _ => hb.block k hk) hb.size⟩
theorem let_rsame {c : CmdC} (hnl : c.idx.length ≤ 10000000) {W : World} {U V : Array Value} (hi : InvC c U.toList W) (hj : InvC c V.toList W) : Calls Tryz.prog 11 #[.agg U, .agg V] W (BoolP W true) := by
  obtain ⟨Ai, ci, Aa, ca, e, h1, h2⟩ := hi
  obtain ⟨Aj, cj, Ab, cb, e', h3, h4⟩ := hj
  have e2 : U = (cellsC c (.slice Ai c.items.length ci) (.slice Aa c.idx.length ca)).toArray := by rw [← e]
  have e3 : V = (cellsC c (.slice Aj c.items.length cj) (.slice Ab c.idx.length cb)).toArray := by rw [← e']
  rw [e2, e3]
  obtain ⟨_, _, e1, l0, m0, s1⟩ := h1.its
  injection e1 with e1 _ e4
  subst e1 e4
  obtain ⟨_, _, e1, l1, m1, s2⟩ := h2.ints
  injection e1 with e1 _ e4
  subst e1 e4
  obtain ⟨_, _, e1, _, _, s3⟩ := h3.its
  injection e1 with e1 _ e4
  subst e1 e4
  obtain ⟨_, _, e1, _, _, s4⟩ := h4.ints
  injection e1 with e1 _ e4
  subst e1 e4
  exact rsame_any c.kind c.nodes c.time c.run c.req.1 c.req.2.1 c.req.2.2 c.lim c.job (str c.user) (str c.part) (str c.qos) (str c.name) (str c.host) c.any Ai Aj Aa Ab ci cj ca cb c.items c.idx W s1 s3 s2 s4 hnl (Nat.le_trans l0 m0)
end Go.Proofs.YtjpihophigjbpaaGreatDoor
/-
  What all rows of this seat share: the tables, the library's two errors, the start that fits.
-/
namespace Go.Proofs.YtjpihophigjbpaaGreatDoor
open Go.Joins Go.ChangeShapes Go.WideShapes Go.ChangeAt Go.WideMaps Go.WideElems Go.RowKit Go.Deep Vs

theorem own : ownKnob Tryz.prog.godebug = none := by kernel_rfl
theorem laidOut : laidOutB Tryz.prog = true := by kernel_rfl
theorem gPow : Tryz.prog.globalNamed "internal/strconv.uint64pow10" = some 0 := by kernel_rfl
theorem tyPow : (Tryz.prog.globals[0]?).map (·.type) = some 174 := by kernel_rfl
theorem cellsU64 : Tryz.prog.cellsOf 135 = 1 := by kernel_rfl
theorem cellsPow : Tryz.prog.cellsOf 174 = 20 := by kernel_rfl
theorem gSyn : Tryz.prog.globalNamed "strconv.ErrSyntax" = some 2 := by kernel_rfl
theorem tySyn : (Tryz.prog.globals[2]?).map (·.type) = some 107 := by kernel_rfl
theorem gRan : Tryz.prog.globalNamed "strconv.ErrRange" = some 3 := by kernel_rfl
theorem tyRan : (Tryz.prog.globals[3]?).map (·.type) = some 107 := by kernel_rfl
theorem cellsEs : Tryz.prog.cellsOf 229 = 1 := by kernel_rfl
theorem cellsStr : Tryz.prog.cellsOf 9 = 1 := by kernel_rfl
theorem starEs : "*" ++ "errors.errorString" = "*errors.errorString" := by decide
theorem rowEs (u : TypeId) (h : Tryz.prog.typeName? 3 u = some "*errors.errorString") : u = 227 :=
  typeName_ptr_named (nm := "errors.errorString") (by rw [starEs]; kernel_rfl) (by kernel_rfl) (by decide) u (by rw [starEs]; exact h)
/-- What the rows list. -/
abbrev laidList : List (String × DataW Unit) := [("math/bits.deBruijn32tab", Rows.laid_math_bits_deBruijn32tab), ("math/bits.deBruijn64tab", Rows.laid_math_bits_deBruijn64tab), ("internal/strconv.uint64pow10", Rows.laid_internal_strconv_uint64pow10), ("unicode/utf8.acceptRanges", Rows.laid_unicode_utf8_acceptRanges), ("strconv.ErrRange", Rows.laid_strconv_ErrRange), ("strconv.ErrSyntax", Rows.laid_strconv_ErrSyntax), ("unicode/utf8.first", Rows.laid_unicode_utf8_first)]
set_option maxRecDepth 100000 in
theorem env_of {W : World} (h : laidMetH Tryz.prog laidList W) : Env W := by
  rw [MakeChecks.laidMetH_plain _ _ _ (by kernel_rfl)] at h
  have h2 := laidMet.tail (laidMet.tail h)
  have h4 := laidMet.tail (laidMet.tail h2)
  have h5 := laidMet.tail h4
  refine ⟨?_, ?_, ?_⟩
  · have h' : laidMet Tryz.prog (("internal/strconv.uint64pow10", Lib.tabData .u64 Lib.pow10Tab) :: [("unicode/utf8.acceptRanges", Rows.laid_unicode_utf8_acceptRanges), ("strconv.ErrRange", Rows.laid_strconv_ErrRange), ("strconv.ErrSyntax", Rows.laid_strconv_ErrSyntax), ("unicode/utf8.first", Rows.laid_unicode_utf8_first)]) W := h2
    exact Lib.tabIs_of_head gPow tyPow Tryz.underlying174 Tryz.underlying135 cellsU64 cellsPow h'
  · obtain ⟨a, s, hv, _⟩ := laid_sentinel h5 gSyn tySyn Tryz.underlying107 rowEs Tryz.underlying227 Tryz.underlying229 rfl rfl Tryz.underlying9 cellsEs cellsStr
    exact ⟨_, _, by simpa using World.var?_cell gSyn hv 0⟩
  · obtain ⟨a, s, hv, _⟩ := laid_sentinel h4 gRan tyRan Tryz.underlying107 rowEs Tryz.underlying227 Tryz.underlying229 rfl rfl Tryz.underlying9 cellsEs cellsStr
    exact ⟨_, _, by simpa using World.var?_cell gRan hv 0⟩
set_option maxRecDepth 100000 in
theorem lay_met (os : Os) (args : Array Value) : laidMetH Tryz.prog laidList ((World.laidAll Tryz.prog os laidList).forCall (fun _ _ => 0) ⟨#[], args, []⟩).memory := by
  rw [MakeChecks.laidMetH_plain _ _ _ (by kernel_rfl)]
  exact laidMet_laidAll _ (by kernel_rfl) (by kernel_rfl)
theorem cellsString10 : Tryz.prog.cellsOf 9 = 1 := by kernel_rfl
theorem plain_addr10 {w : World} {a : Addr} {v : Value} (h : w.cell? a = some v) : a.spot = none ∧ a.block < w.heap.size := by
  obtain ⟨b, off, sp⟩ := a
  refine ⟨World.cell?_spot h, ?_⟩
  by_cases hb : b < w.heap.size
  · exact hb
  · simp only [World.cell?] at h
    rw [Array.getElem?_eq_none (by omega)] at h
    cases h
theorem add_off10 (b o k : Nat) : (⟨b, o, none⟩ : Addr).add k = ⟨b, o + k, none⟩ := by
  unfold Addr.add
  by_cases hk : k = 0
  · subst hk; rfl
  · rw [if_neg hk]
set_option maxRecDepth 100000 in
/-- A slice of texts that came in: where it lies, and its texts as its data tells them. -/
theorem open_texts10 {H : Type} {enc : TypeId × Value → H} {W : World} {base : Nat} {v : Value} {d : DataW H} {ps : List MemPlace}
    (hv : Value.okWide Tryz.prog W .any base 51 v) (h : DataW.Trod enc Tryz.prog W 0 (fun _ => true) true 51 v d ps) :
    ∃ (A : Option Addr) (ns : List (List UInt8)) (cap : Nat), v = .slice A ns.length cap ∧ ns.length ≤ cap ∧ Strs W W.heap.size A ns ∧ (ns = [] ∨ ∃ spare, d = .slice (ns.map fun t => .lit (.string t)) spare) := by
  obtain ⟨a0, len, cap, rfl⟩ := okWide_slice Tryz.underlying51 hv
  obtain ⟨fuel, hf⟩ := h
  rcases open_strings Tryz.underlying51 Tryz.underlying9 cellsString10 hf with ⟨hcs, _⟩ | ⟨a, len', cap', ss, hcs, _, hl, hm, hz, hd, hcell, hw⟩
  · simp [Value.cells] at hcs
    obtain ⟨rfl, rfl, rfl⟩ := hcs
    exact ⟨none, [], 0, rfl, Nat.le_refl _, SegC.nil _ _ _, .inl rfl⟩
  · simp [Value.cells] at hcs
    obtain ⟨rfl, rfl, rfl⟩ := hcs
    simp at hz
    have hlen : ((ss.take len).map bl).length = len := by rw [List.length_map, List.length_take]; omega
    refine ⟨some a, (ss.take len).map bl, cap, by rw [hlen], by rw [hlen]; omega, fun h0 => ?_, .inr ⟨strs (ss.drop len), (congrArg Prod.fst hd).trans ?_⟩⟩
    · rw [SV_len, hlen] at h0
      obtain ⟨hsp, hb⟩ := plain_addr10 (hcell 0 (by omega))
      obtain ⟨b, off, sp⟩ := a
      have hsp : sp = none := by simpa [Addr.add] using hsp
      subst hsp
      rw [add_off10] at hb
      refine ⟨b, off, rfl, hb, fun j hj => ?_⟩
      rw [SV_len, hlen] at hj
      have := hcell j (by omega)
      rw [add_off10] at this
      rw [this, SV_get _ j (by rw [hlen]; exact hj), List.getElem_map, List.getElem_take, str_bl, List.getD_eq_getElem?_getD, List.getElem?_eq_getElem (by omega), Option.getD_some]
    · simp [strs, bl]
      rfl
theorem mem_weightsAll {H : Type} {P : Program} {e : TypeId} : ∀ {l : List (DataW H)} {d : DataW H} {n : Nat}, d ∈ l → n ∈ d.weights P e → n ∈ DataW.weightsAll P e l
  | x :: l, d, n, hd, hn => by
    simp only [DataW.weightsAll, List.mem_append]
    rcases List.mem_cons.1 hd with rfl | hd
    · exact .inl hn
    · exact .inr (mem_weightsAll hd hn)
/-- How long texts in a slice that came in are. -/
theorem sized_texts10 {H : Type} {ts : List TypeId} {ds : List (DataW H)} (h : (DataW.weightsEach Tryz.prog ts ds).all (· ≤ reachBytes) = true) {j : Nat} {ns : List (List UInt8)} (ht : ts[j]? = some 51) (hd : ns = [] ∨ ∃ spare, ds[j]? = some (.slice (ns.map fun t => .lit (.string t)) spare)) : ∀ x ∈ ns, x.length ≤ 140737488355328 := by
  intro x hx
  rcases hd with rfl | ⟨spare, hd⟩
  · cases hx
  · have hm : x.length ∈ DataW.weights Tryz.prog 51 (.slice (ns.map fun t => .lit (.string t)) spare : DataW H) := by
      simp only [DataW.weights, Tryz.underlying51, List.mem_cons, List.mem_append]
      exact .inr (.inl (mem_weightsAll (List.mem_map.2 ⟨x, hx, rfl⟩) (by simp [DataW.weights])))
    have := List.all_eq_true.1 h _ (DataW.weights_mem_each ht hd _ hm)
    simp only [decide_eq_true_eq] at this
    simp only [reachBytes] at this
    omega
end Go.Proofs.YtjpihophigjbpaaGreatDoor
