/-
  Parts: QSm1 QSm2.
-/
import Derived.Test.YtjpihophigjbpaaGreatDoorQ8
import Derived.Test.YtjpihophigjbpaaGreatDoorQ7
set_option linter.unusedSimpArgs false
set_option linter.unusedVariables false
/-
  Whether two commands are the same.
-/
namespace Go.Proofs.YtjpihophigjbpaaGreatDoor
open Go.RowKit Go.Shelf Vs

set_option maxRecDepth 100000 in
set_option maxHeartbeats 16000000 in
theorem same_nodes (a b : CmdC) (A1 A2 A3 A4 : Option Addr) (c1 c2 c3 c4 : Nat) (w : World) (h1 : HasI NoX w (.slice A1 a.items.length c1) a.items) (h2 : HasI NoX w (.slice A2 b.items.length c2) b.items) (h3 : HasA NoX w (.slice A3 a.idx.length c3) a.idx) (h4 : HasA NoX w (.slice A4 b.idx.length c4) b.idx) (p0 : a.kind = b.kind) (p1 : a.user = b.user) (p2 : a.part = b.part) (p3 : a.qos = b.qos) (p4 : a.name = b.name) (p5 : ¬ a.nodes = b.nodes) :
    Calls Tryz.prog 14 #[.agg #[.int .i64 a.kind, .string (str a.user), .string (str a.part), .string (str a.qos), .string (str a.name), .int .i64 a.nodes, .int .i64 a.time, .int .i64 a.run, .int .i64 a.req.1, .int .i64 a.req.2.1, .int .i64 a.req.2.2, .bool a.any, .slice A1 a.items.length c1, .slice A3 a.idx.length c3, .int .i64 a.lim, .int .i64 a.job, .string (str a.host)], .agg #[.int .i64 b.kind, .string (str b.user), .string (str b.part), .string (str b.qos), .string (str b.name), .int .i64 b.nodes, .int .i64 b.time, .int .i64 b.run, .int .i64 b.req.1, .int .i64 b.req.2.1, .int .i64 b.req.2.2, .bool b.any, .slice A2 b.items.length c2, .slice A4 b.idx.length c4, .int .i64 b.lim, .int .i64 b.job, .string (str b.host)]] w (BoolP w false) := by
  have q0 : Box ((w.alloc (.cells #[.int .i64 a.kind, .string (str a.user), .string (str a.part), .string (str a.qos), .string (str a.name), .int .i64 a.nodes, .int .i64 a.time, .int .i64 a.run, .int .i64 a.req.1, .int .i64 a.req.2.1, .int .i64 a.req.2.2, .bool a.any, .slice A1 a.items.length c1, .slice A3 a.idx.length c3, .int .i64 a.lim, .int .i64 a.job, .string (str a.host)] TCmd)).alloc (.cells #[.int .i64 b.kind, .string (str b.user), .string (str b.part), .string (str b.qos), .string (str b.name), .int .i64 b.nodes, .int .i64 b.time, .int .i64 b.run, .int .i64 b.req.1, .int .i64 b.req.2.1, .int .i64 b.req.2.2, .bool b.any, .slice A2 b.items.length c2, .slice A4 b.idx.length c4, .int .i64 b.lim, .int .i64 b.job, .string (str b.host)] TCmd)) w.heap.size TCmd [.int .i64 a.kind, .string (str a.user), .string (str a.part), .string (str a.qos), .string (str a.name), .int .i64 a.nodes, .int .i64 a.time, .int .i64 a.run, .int .i64 a.req.1, .int .i64 a.req.2.1, .int .i64 a.req.2.2, .bool a.any, .slice A1 a.items.length c1, .slice A3 a.idx.length c3, .int .i64 a.lim, .int .i64 a.job, .string (str a.host)] := Box.below (Box.new w TCmd [.int .i64 a.kind, .string (str a.user), .string (str a.part), .string (str a.qos), .string (str a.name), .int .i64 a.nodes, .int .i64 a.time, .int .i64 a.run, .int .i64 a.req.1, .int .i64 a.req.2.1, .int .i64 a.req.2.2, .bool a.any, .slice A1 a.items.length c1, .slice A3 a.idx.length c3, .int .i64 a.lim, .int .i64 a.job, .string (str a.host)]) ((Below.refl _ _).alloc (Nat.le_refl _) _) (by simp)
  have zz := World.size_alloc w (.cells #[.int .i64 a.kind, .string (str a.user), .string (str a.part), .string (str a.qos), .string (str a.name), .int .i64 a.nodes, .int .i64 a.time, .int .i64 a.run, .int .i64 a.req.1, .int .i64 a.req.2.1, .int .i64 a.req.2.2, .bool a.any, .slice A1 a.items.length c1, .slice A3 a.idx.length c3, .int .i64 a.lim, .int .i64 a.job, .string (str a.host)] TCmd)
  have q1 : Box ((w.alloc (.cells #[.int .i64 a.kind, .string (str a.user), .string (str a.part), .string (str a.qos), .string (str a.name), .int .i64 a.nodes, .int .i64 a.time, .int .i64 a.run, .int .i64 a.req.1, .int .i64 a.req.2.1, .int .i64 a.req.2.2, .bool a.any, .slice A1 a.items.length c1, .slice A3 a.idx.length c3, .int .i64 a.lim, .int .i64 a.job, .string (str a.host)] TCmd)).alloc (.cells #[.int .i64 b.kind, .string (str b.user), .string (str b.part), .string (str b.qos), .string (str b.name), .int .i64 b.nodes, .int .i64 b.time, .int .i64 b.run, .int .i64 b.req.1, .int .i64 b.req.2.1, .int .i64 b.req.2.2, .bool b.any, .slice A2 b.items.length c2, .slice A4 b.idx.length c4, .int .i64 b.lim, .int .i64 b.job, .string (str b.host)] TCmd)) (w.heap.size + 1) TCmd [.int .i64 b.kind, .string (str b.user), .string (str b.part), .string (str b.qos), .string (str b.name), .int .i64 b.nodes, .int .i64 b.time, .int .i64 b.run, .int .i64 b.req.1, .int .i64 b.req.2.1, .int .i64 b.req.2.2, .bool b.any, .slice A2 b.items.length c2, .slice A4 b.idx.length c4, .int .i64 b.lim, .int .i64 b.job, .string (str b.host)] := by
    have := Box.new (w.alloc (.cells #[.int .i64 a.kind, .string (str a.user), .string (str a.part), .string (str a.qos), .string (str a.name), .int .i64 a.nodes, .int .i64 a.time, .int .i64 a.run, .int .i64 a.req.1, .int .i64 a.req.2.1, .int .i64 a.req.2.2, .bool a.any, .slice A1 a.items.length c1, .slice A3 a.idx.length c3, .int .i64 a.lim, .int .i64 a.job, .string (str a.host)] TCmd)) TCmd [.int .i64 b.kind, .string (str b.user), .string (str b.part), .string (str b.qos), .string (str b.name), .int .i64 b.nodes, .int .i64 b.time, .int .i64 b.run, .int .i64 b.req.1, .int .i64 b.req.2.1, .int .i64 b.req.2.2, .bool b.any, .slice A2 b.items.length c2, .slice A4 b.idx.length c4, .int .i64 b.lim, .int .i64 b.job, .string (str b.host)]
    rw [zz] at this
    exact this
  have g0 : Below w.heap.size w ((w.alloc (.cells #[.int .i64 a.kind, .string (str a.user), .string (str a.part), .string (str a.qos), .string (str a.name), .int .i64 a.nodes, .int .i64 a.time, .int .i64 a.run, .int .i64 a.req.1, .int .i64 a.req.2.1, .int .i64 a.req.2.2, .bool a.any, .slice A1 a.items.length c1, .slice A3 a.idx.length c3, .int .i64 a.lim, .int .i64 a.job, .string (str a.host)] TCmd)).alloc (.cells #[.int .i64 b.kind, .string (str b.user), .string (str b.part), .string (str b.qos), .string (str b.name), .int .i64 b.nodes, .int .i64 b.time, .int .i64 b.run, .int .i64 b.req.1, .int .i64 b.req.2.1, .int .i64 b.req.2.2, .bool b.any, .slice A2 b.items.length c2, .slice A4 b.idx.length c4, .int .i64 b.lim, .int .i64 b.job, .string (str b.host)] TCmd)) := ((Below.refl _ _).alloc (Nat.le_refl _) _).alloc (by rw [zz]; omega) _
  obtain ⟨_, _, e1, l1, m1, s1⟩ := h1.its
  injection e1 with e1 _ e2
  subst e1 e2
  obtain ⟨_, _, e1, l2, m2, s2⟩ := h2.its
  injection e1 with e1 _ e2
  subst e1 e2
  obtain ⟨_, _, e1, l3, m3, s3⟩ := h3.ints
  injection e1 with e1 _ e2
  subst e1 e2
  obtain ⟨_, _, e1, l4, m4, s4⟩ := h4.ints
  injection e1 with e1 _ e2
  subst e1 e2
  have hei := fun W (hW : Below w.heap.size w W) => eqItems_any a.items b.items A1 A2 c1 c2 W ((s1.below hW).more hW.size) ((s2.below hW).more hW.size) (Nat.le_trans l1 m1) (Nat.le_trans l2 m2)
  have hen := fun W (hW : Below w.heap.size w W) => eqInts_any a.idx b.idx A3 A4 c3 c4 W ((Ds.SegC.below s3 hW).more hW.size) ((Ds.SegC.below s4 hW).more hW.size) (Nat.le_trans l3 m3) (Nat.le_trans l4 m4)
  have hev := Vs.eql_vec a.req.1 a.req.2.1 a.req.2.2 b.req.1 b.req.2.1 b.req.2.2
  unfold Vs.vec at hev
  unfold BoolP at hei hen ⊢
  have hse : ∀ l m : Str, ((str l).toList == (str m).toList) = decide (l = m) := fun l m => by rw [Vs.str_eq, bl_str, bl_str]
  have u1 := hse a.user b.user
  have u2 := hse a.part b.part
  have u3 := hse a.qos b.qos
  have u4 := hse a.name b.name
  have u5 := hse a.host b.host
  clear h1 h2 h3 h4 s1 s2 s3 s4 l1 l2 l3 l4 m1 m2 m3 m4 hse zz
  have x0 : (a.kind == b.kind) = true := by simpa using p0
  rw [decide_eq_true p1] at u1
  rw [decide_eq_true p2] at u2
  rw [decide_eq_true p3] at u3
  rw [decide_eq_true p4] at u4
  have x5 : (a.nodes == b.nodes) = false := by simpa using p5
  clear p0 p1 p2 p3 p4 p5
  go_enter Tryz.func14, Tryz.ntmps14
  obtain ⟨⟨k0, k1, k2, k3, k4, k5, k6, k7, k8, k9, k10, k11, k12, k13, k14, k15, k16⟩, _, zk⟩ := Box.seventeen q0
  obtain ⟨⟨m0, m1, m2, m3, m4, m5, m6, m7, m8, m9, m10, m11, m12, m13, m14, m15, m16⟩, _, zm⟩ := Box.seventeen q1
  replace g0 := fhid g0
  clear q0 q1
  go_wp2_with (first
    | (go_at_call 21; (with_reducible refine (hei _ g0.out).mono ?_); rintro e w3 ⟨rfl, b3⟩; have g3 := g0.out.trans (b3.mono g0.out.size))
    | (go_at_call 23; (with_reducible refine (hen _ g3).mono ?_); rintro e w4 ⟨rfl, b4⟩; have g4 := g3.trans (b4.mono g3.size))
    | fail)
  go_ret
  exact ⟨rfl, g0.out⟩
set_option maxRecDepth 100000 in
set_option maxHeartbeats 16000000 in
theorem same_time (a b : CmdC) (A1 A2 A3 A4 : Option Addr) (c1 c2 c3 c4 : Nat) (w : World) (h1 : HasI NoX w (.slice A1 a.items.length c1) a.items) (h2 : HasI NoX w (.slice A2 b.items.length c2) b.items) (h3 : HasA NoX w (.slice A3 a.idx.length c3) a.idx) (h4 : HasA NoX w (.slice A4 b.idx.length c4) b.idx) (p0 : a.kind = b.kind) (p1 : a.user = b.user) (p2 : a.part = b.part) (p3 : a.qos = b.qos) (p4 : a.name = b.name) (p5 : a.nodes = b.nodes) (p6 : ¬ a.time = b.time) :
    Calls Tryz.prog 14 #[.agg #[.int .i64 a.kind, .string (str a.user), .string (str a.part), .string (str a.qos), .string (str a.name), .int .i64 a.nodes, .int .i64 a.time, .int .i64 a.run, .int .i64 a.req.1, .int .i64 a.req.2.1, .int .i64 a.req.2.2, .bool a.any, .slice A1 a.items.length c1, .slice A3 a.idx.length c3, .int .i64 a.lim, .int .i64 a.job, .string (str a.host)], .agg #[.int .i64 b.kind, .string (str b.user), .string (str b.part), .string (str b.qos), .string (str b.name), .int .i64 b.nodes, .int .i64 b.time, .int .i64 b.run, .int .i64 b.req.1, .int .i64 b.req.2.1, .int .i64 b.req.2.2, .bool b.any, .slice A2 b.items.length c2, .slice A4 b.idx.length c4, .int .i64 b.lim, .int .i64 b.job, .string (str b.host)]] w (BoolP w false) := by
  have q0 : Box ((w.alloc (.cells #[.int .i64 a.kind, .string (str a.user), .string (str a.part), .string (str a.qos), .string (str a.name), .int .i64 a.nodes, .int .i64 a.time, .int .i64 a.run, .int .i64 a.req.1, .int .i64 a.req.2.1, .int .i64 a.req.2.2, .bool a.any, .slice A1 a.items.length c1, .slice A3 a.idx.length c3, .int .i64 a.lim, .int .i64 a.job, .string (str a.host)] TCmd)).alloc (.cells #[.int .i64 b.kind, .string (str b.user), .string (str b.part), .string (str b.qos), .string (str b.name), .int .i64 b.nodes, .int .i64 b.time, .int .i64 b.run, .int .i64 b.req.1, .int .i64 b.req.2.1, .int .i64 b.req.2.2, .bool b.any, .slice A2 b.items.length c2, .slice A4 b.idx.length c4, .int .i64 b.lim, .int .i64 b.job, .string (str b.host)] TCmd)) w.heap.size TCmd [.int .i64 a.kind, .string (str a.user), .string (str a.part), .string (str a.qos), .string (str a.name), .int .i64 a.nodes, .int .i64 a.time, .int .i64 a.run, .int .i64 a.req.1, .int .i64 a.req.2.1, .int .i64 a.req.2.2, .bool a.any, .slice A1 a.items.length c1, .slice A3 a.idx.length c3, .int .i64 a.lim, .int .i64 a.job, .string (str a.host)] := Box.below (Box.new w TCmd [.int .i64 a.kind, .string (str a.user), .string (str a.part), .string (str a.qos), .string (str a.name), .int .i64 a.nodes, .int .i64 a.time, .int .i64 a.run, .int .i64 a.req.1, .int .i64 a.req.2.1, .int .i64 a.req.2.2, .bool a.any, .slice A1 a.items.length c1, .slice A3 a.idx.length c3, .int .i64 a.lim, .int .i64 a.job, .string (str a.host)]) ((Below.refl _ _).alloc (Nat.le_refl _) _) (by simp)
  have zz := World.size_alloc w (.cells #[.int .i64 a.kind, .string (str a.user), .string (str a.part), .string (str a.qos), .string (str a.name), .int .i64 a.nodes, .int .i64 a.time, .int .i64 a.run, .int .i64 a.req.1, .int .i64 a.req.2.1, .int .i64 a.req.2.2, .bool a.any, .slice A1 a.items.length c1, .slice A3 a.idx.length c3, .int .i64 a.lim, .int .i64 a.job, .string (str a.host)] TCmd)
  have q1 : Box ((w.alloc (.cells #[.int .i64 a.kind, .string (str a.user), .string (str a.part), .string (str a.qos), .string (str a.name), .int .i64 a.nodes, .int .i64 a.time, .int .i64 a.run, .int .i64 a.req.1, .int .i64 a.req.2.1, .int .i64 a.req.2.2, .bool a.any, .slice A1 a.items.length c1, .slice A3 a.idx.length c3, .int .i64 a.lim, .int .i64 a.job, .string (str a.host)] TCmd)).alloc (.cells #[.int .i64 b.kind, .string (str b.user), .string (str b.part), .string (str b.qos), .string (str b.name), .int .i64 b.nodes, .int .i64 b.time, .int .i64 b.run, .int .i64 b.req.1, .int .i64 b.req.2.1, .int .i64 b.req.2.2, .bool b.any, .slice A2 b.items.length c2, .slice A4 b.idx.length c4, .int .i64 b.lim, .int .i64 b.job, .string (str b.host)] TCmd)) (w.heap.size + 1) TCmd [.int .i64 b.kind, .string (str b.user), .string (str b.part), .string (str b.qos), .string (str b.name), .int .i64 b.nodes, .int .i64 b.time, .int .i64 b.run, .int .i64 b.req.1, .int .i64 b.req.2.1, .int .i64 b.req.2.2, .bool b.any, .slice A2 b.items.length c2, .slice A4 b.idx.length c4, .int .i64 b.lim, .int .i64 b.job, .string (str b.host)] := by
    have := Box.new (w.alloc (.cells #[.int .i64 a.kind, .string (str a.user), .string (str a.part), .string (str a.qos), .string (str a.name), .int .i64 a.nodes, .int .i64 a.time, .int .i64 a.run, .int .i64 a.req.1, .int .i64 a.req.2.1, .int .i64 a.req.2.2, .bool a.any, .slice A1 a.items.length c1, .slice A3 a.idx.length c3, .int .i64 a.lim, .int .i64 a.job, .string (str a.host)] TCmd)) TCmd [.int .i64 b.kind, .string (str b.user), .string (str b.part), .string (str b.qos), .string (str b.name), .int .i64 b.nodes, .int .i64 b.time, .int .i64 b.run, .int .i64 b.req.1, .int .i64 b.req.2.1, .int .i64 b.req.2.2, .bool b.any, .slice A2 b.items.length c2, .slice A4 b.idx.length c4, .int .i64 b.lim, .int .i64 b.job, .string (str b.host)]
    rw [zz] at this
    exact this
  have g0 : Below w.heap.size w ((w.alloc (.cells #[.int .i64 a.kind, .string (str a.user), .string (str a.part), .string (str a.qos), .string (str a.name), .int .i64 a.nodes, .int .i64 a.time, .int .i64 a.run, .int .i64 a.req.1, .int .i64 a.req.2.1, .int .i64 a.req.2.2, .bool a.any, .slice A1 a.items.length c1, .slice A3 a.idx.length c3, .int .i64 a.lim, .int .i64 a.job, .string (str a.host)] TCmd)).alloc (.cells #[.int .i64 b.kind, .string (str b.user), .string (str b.part), .string (str b.qos), .string (str b.name), .int .i64 b.nodes, .int .i64 b.time, .int .i64 b.run, .int .i64 b.req.1, .int .i64 b.req.2.1, .int .i64 b.req.2.2, .bool b.any, .slice A2 b.items.length c2, .slice A4 b.idx.length c4, .int .i64 b.lim, .int .i64 b.job, .string (str b.host)] TCmd)) := ((Below.refl _ _).alloc (Nat.le_refl _) _).alloc (by rw [zz]; omega) _
  obtain ⟨_, _, e1, l1, m1, s1⟩ := h1.its
  injection e1 with e1 _ e2
  subst e1 e2
  obtain ⟨_, _, e1, l2, m2, s2⟩ := h2.its
  injection e1 with e1 _ e2
  subst e1 e2
  obtain ⟨_, _, e1, l3, m3, s3⟩ := h3.ints
  injection e1 with e1 _ e2
  subst e1 e2
  obtain ⟨_, _, e1, l4, m4, s4⟩ := h4.ints
  injection e1 with e1 _ e2
  subst e1 e2
  have hei := fun W (hW : Below w.heap.size w W) => eqItems_any a.items b.items A1 A2 c1 c2 W ((s1.below hW).more hW.size) ((s2.below hW).more hW.size) (Nat.le_trans l1 m1) (Nat.le_trans l2 m2)
  have hen := fun W (hW : Below w.heap.size w W) => eqInts_any a.idx b.idx A3 A4 c3 c4 W ((Ds.SegC.below s3 hW).more hW.size) ((Ds.SegC.below s4 hW).more hW.size) (Nat.le_trans l3 m3) (Nat.le_trans l4 m4)
  have hev := Vs.eql_vec a.req.1 a.req.2.1 a.req.2.2 b.req.1 b.req.2.1 b.req.2.2
  unfold Vs.vec at hev
  unfold BoolP at hei hen ⊢
  have hse : ∀ l m : Str, ((str l).toList == (str m).toList) = decide (l = m) := fun l m => by rw [Vs.str_eq, bl_str, bl_str]
  have u1 := hse a.user b.user
  have u2 := hse a.part b.part
  have u3 := hse a.qos b.qos
  have u4 := hse a.name b.name
  have u5 := hse a.host b.host
  clear h1 h2 h3 h4 s1 s2 s3 s4 l1 l2 l3 l4 m1 m2 m3 m4 hse zz
  have x0 : (a.kind == b.kind) = true := by simpa using p0
  rw [decide_eq_true p1] at u1
  rw [decide_eq_true p2] at u2
  rw [decide_eq_true p3] at u3
  rw [decide_eq_true p4] at u4
  have x5 : (a.nodes == b.nodes) = true := by simpa using p5
  have x6 : (a.time == b.time) = false := by simpa using p6
  clear p0 p1 p2 p3 p4 p5 p6
  go_enter Tryz.func14, Tryz.ntmps14
  obtain ⟨⟨k0, k1, k2, k3, k4, k5, k6, k7, k8, k9, k10, k11, k12, k13, k14, k15, k16⟩, _, zk⟩ := Box.seventeen q0
  obtain ⟨⟨m0, m1, m2, m3, m4, m5, m6, m7, m8, m9, m10, m11, m12, m13, m14, m15, m16⟩, _, zm⟩ := Box.seventeen q1
  replace g0 := fhid g0
  clear q0 q1
  go_wp2_with (first
    | (go_at_call 21; (with_reducible refine (hei _ g0.out).mono ?_); rintro e w3 ⟨rfl, b3⟩; have g3 := g0.out.trans (b3.mono g0.out.size))
    | (go_at_call 23; (with_reducible refine (hen _ g3).mono ?_); rintro e w4 ⟨rfl, b4⟩; have g4 := g3.trans (b4.mono g3.size))
    | fail)
  go_ret
  exact ⟨rfl, g0.out⟩
set_option maxRecDepth 100000 in
set_option maxHeartbeats 16000000 in
theorem same_run (a b : CmdC) (A1 A2 A3 A4 : Option Addr) (c1 c2 c3 c4 : Nat) (w : World) (h1 : HasI NoX w (.slice A1 a.items.length c1) a.items) (h2 : HasI NoX w (.slice A2 b.items.length c2) b.items) (h3 : HasA NoX w (.slice A3 a.idx.length c3) a.idx) (h4 : HasA NoX w (.slice A4 b.idx.length c4) b.idx) (p0 : a.kind = b.kind) (p1 : a.user = b.user) (p2 : a.part = b.part) (p3 : a.qos = b.qos) (p4 : a.name = b.name) (p5 : a.nodes = b.nodes) (p6 : a.time = b.time) (p7 : ¬ a.run = b.run) :
    Calls Tryz.prog 14 #[.agg #[.int .i64 a.kind, .string (str a.user), .string (str a.part), .string (str a.qos), .string (str a.name), .int .i64 a.nodes, .int .i64 a.time, .int .i64 a.run, .int .i64 a.req.1, .int .i64 a.req.2.1, .int .i64 a.req.2.2, .bool a.any, .slice A1 a.items.length c1, .slice A3 a.idx.length c3, .int .i64 a.lim, .int .i64 a.job, .string (str a.host)], .agg #[.int .i64 b.kind, .string (str b.user), .string (str b.part), .string (str b.qos), .string (str b.name), .int .i64 b.nodes, .int .i64 b.time, .int .i64 b.run, .int .i64 b.req.1, .int .i64 b.req.2.1, .int .i64 b.req.2.2, .bool b.any, .slice A2 b.items.length c2, .slice A4 b.idx.length c4, .int .i64 b.lim, .int .i64 b.job, .string (str b.host)]] w (BoolP w false) := by
  have q0 : Box ((w.alloc (.cells #[.int .i64 a.kind, .string (str a.user), .string (str a.part), .string (str a.qos), .string (str a.name), .int .i64 a.nodes, .int .i64 a.time, .int .i64 a.run, .int .i64 a.req.1, .int .i64 a.req.2.1, .int .i64 a.req.2.2, .bool a.any, .slice A1 a.items.length c1, .slice A3 a.idx.length c3, .int .i64 a.lim, .int .i64 a.job, .string (str a.host)] TCmd)).alloc (.cells #[.int .i64 b.kind, .string (str b.user), .string (str b.part), .string (str b.qos), .string (str b.name), .int .i64 b.nodes, .int .i64 b.time, .int .i64 b.run, .int .i64 b.req.1, .int .i64 b.req.2.1, .int .i64 b.req.2.2, .bool b.any, .slice A2 b.items.length c2, .slice A4 b.idx.length c4, .int .i64 b.lim, .int .i64 b.job, .string (str b.host)] TCmd)) w.heap.size TCmd [.int .i64 a.kind, .string (str a.user), .string (str a.part), .string (str a.qos), .string (str a.name), .int .i64 a.nodes, .int .i64 a.time, .int .i64 a.run, .int .i64 a.req.1, .int .i64 a.req.2.1, .int .i64 a.req.2.2, .bool a.any, .slice A1 a.items.length c1, .slice A3 a.idx.length c3, .int .i64 a.lim, .int .i64 a.job, .string (str a.host)] := Box.below (Box.new w TCmd [.int .i64 a.kind, .string (str a.user), .string (str a.part), .string (str a.qos), .string (str a.name), .int .i64 a.nodes, .int .i64 a.time, .int .i64 a.run, .int .i64 a.req.1, .int .i64 a.req.2.1, .int .i64 a.req.2.2, .bool a.any, .slice A1 a.items.length c1, .slice A3 a.idx.length c3, .int .i64 a.lim, .int .i64 a.job, .string (str a.host)]) ((Below.refl _ _).alloc (Nat.le_refl _) _) (by simp)
  have zz := World.size_alloc w (.cells #[.int .i64 a.kind, .string (str a.user), .string (str a.part), .string (str a.qos), .string (str a.name), .int .i64 a.nodes, .int .i64 a.time, .int .i64 a.run, .int .i64 a.req.1, .int .i64 a.req.2.1, .int .i64 a.req.2.2, .bool a.any, .slice A1 a.items.length c1, .slice A3 a.idx.length c3, .int .i64 a.lim, .int .i64 a.job, .string (str a.host)] TCmd)
  have q1 : Box ((w.alloc (.cells #[.int .i64 a.kind, .string (str a.user), .string (str a.part), .string (str a.qos), .string (str a.name), .int .i64 a.nodes, .int .i64 a.time, .int .i64 a.run, .int .i64 a.req.1, .int .i64 a.req.2.1, .int .i64 a.req.2.2, .bool a.any, .slice A1 a.items.length c1, .slice A3 a.idx.length c3, .int .i64 a.lim, .int .i64 a.job, .string (str a.host)] TCmd)).alloc (.cells #[.int .i64 b.kind, .string (str b.user), .string (str b.part), .string (str b.qos), .string (str b.name), .int .i64 b.nodes, .int .i64 b.time, .int .i64 b.run, .int .i64 b.req.1, .int .i64 b.req.2.1, .int .i64 b.req.2.2, .bool b.any, .slice A2 b.items.length c2, .slice A4 b.idx.length c4, .int .i64 b.lim, .int .i64 b.job, .string (str b.host)] TCmd)) (w.heap.size + 1) TCmd [.int .i64 b.kind, .string (str b.user), .string (str b.part), .string (str b.qos), .string (str b.name), .int .i64 b.nodes, .int .i64 b.time, .int .i64 b.run, .int .i64 b.req.1, .int .i64 b.req.2.1, .int .i64 b.req.2.2, .bool b.any, .slice A2 b.items.length c2, .slice A4 b.idx.length c4, .int .i64 b.lim, .int .i64 b.job, .string (str b.host)] := by
    have := Box.new (w.alloc (.cells #[.int .i64 a.kind, .string (str a.user), .string (str a.part), .string (str a.qos), .string (str a.name), .int .i64 a.nodes, .int .i64 a.time, .int .i64 a.run, .int .i64 a.req.1, .int .i64 a.req.2.1, .int .i64 a.req.2.2, .bool a.any, .slice A1 a.items.length c1, .slice A3 a.idx.length c3, .int .i64 a.lim, .int .i64 a.job, .string (str a.host)] TCmd)) TCmd [.int .i64 b.kind, .string (str b.user), .string (str b.part), .string (str b.qos), .string (str b.name), .int .i64 b.nodes, .int .i64 b.time, .int .i64 b.run, .int .i64 b.req.1, .int .i64 b.req.2.1, .int .i64 b.req.2.2, .bool b.any, .slice A2 b.items.length c2, .slice A4 b.idx.length c4, .int .i64 b.lim, .int .i64 b.job, .string (str b.host)]
    rw [zz] at this
    exact this
  have g0 : Below w.heap.size w ((w.alloc (.cells #[.int .i64 a.kind, .string (str a.user), .string (str a.part), .string (str a.qos), .string (str a.name), .int .i64 a.nodes, .int .i64 a.time, .int .i64 a.run, .int .i64 a.req.1, .int .i64 a.req.2.1, .int .i64 a.req.2.2, .bool a.any, .slice A1 a.items.length c1, .slice A3 a.idx.length c3, .int .i64 a.lim, .int .i64 a.job, .string (str a.host)] TCmd)).alloc (.cells #[.int .i64 b.kind, .string (str b.user), .string (str b.part), .string (str b.qos), .string (str b.name), .int .i64 b.nodes, .int .i64 b.time, .int .i64 b.run, .int .i64 b.req.1, .int .i64 b.req.2.1, .int .i64 b.req.2.2, .bool b.any, .slice A2 b.items.length c2, .slice A4 b.idx.length c4, .int .i64 b.lim, .int .i64 b.job, .string (str b.host)] TCmd)) := ((Below.refl _ _).alloc (Nat.le_refl _) _).alloc (by rw [zz]; omega) _
  obtain ⟨_, _, e1, l1, m1, s1⟩ := h1.its
  injection e1 with e1 _ e2
  subst e1 e2
  obtain ⟨_, _, e1, l2, m2, s2⟩ := h2.its
  injection e1 with e1 _ e2
  subst e1 e2
  obtain ⟨_, _, e1, l3, m3, s3⟩ := h3.ints
  injection e1 with e1 _ e2
  subst e1 e2
  obtain ⟨_, _, e1, l4, m4, s4⟩ := h4.ints
  injection e1 with e1 _ e2
  subst e1 e2
  have hei := fun W (hW : Below w.heap.size w W) => eqItems_any a.items b.items A1 A2 c1 c2 W ((s1.below hW).more hW.size) ((s2.below hW).more hW.size) (Nat.le_trans l1 m1) (Nat.le_trans l2 m2)
  have hen := fun W (hW : Below w.heap.size w W) => eqInts_any a.idx b.idx A3 A4 c3 c4 W ((Ds.SegC.below s3 hW).more hW.size) ((Ds.SegC.below s4 hW).more hW.size) (Nat.le_trans l3 m3) (Nat.le_trans l4 m4)
  have hev := Vs.eql_vec a.req.1 a.req.2.1 a.req.2.2 b.req.1 b.req.2.1 b.req.2.2
  unfold Vs.vec at hev
  unfold BoolP at hei hen ⊢
  have hse : ∀ l m : Str, ((str l).toList == (str m).toList) = decide (l = m) := fun l m => by rw [Vs.str_eq, bl_str, bl_str]
  have u1 := hse a.user b.user
  have u2 := hse a.part b.part
  have u3 := hse a.qos b.qos
  have u4 := hse a.name b.name
  have u5 := hse a.host b.host
  clear h1 h2 h3 h4 s1 s2 s3 s4 l1 l2 l3 l4 m1 m2 m3 m4 hse zz
  have x0 : (a.kind == b.kind) = true := by simpa using p0
  rw [decide_eq_true p1] at u1
  rw [decide_eq_true p2] at u2
  rw [decide_eq_true p3] at u3
  rw [decide_eq_true p4] at u4
  have x5 : (a.nodes == b.nodes) = true := by simpa using p5
  have x6 : (a.time == b.time) = true := by simpa using p6
  have x7 : (a.run == b.run) = false := by simpa using p7
  clear p0 p1 p2 p3 p4 p5 p6 p7
  go_enter Tryz.func14, Tryz.ntmps14
  obtain ⟨⟨k0, k1, k2, k3, k4, k5, k6, k7, k8, k9, k10, k11, k12, k13, k14, k15, k16⟩, _, zk⟩ := Box.seventeen q0
  obtain ⟨⟨m0, m1, m2, m3, m4, m5, m6, m7, m8, m9, m10, m11, m12, m13, m14, m15, m16⟩, _, zm⟩ := Box.seventeen q1
  replace g0 := fhid g0
  clear q0 q1
  go_wp2_with (first
    | (go_at_call 21; (with_reducible refine (hei _ g0.out).mono ?_); rintro e w3 ⟨rfl, b3⟩; have g3 := g0.out.trans (b3.mono g0.out.size))
    | (go_at_call 23; (with_reducible refine (hen _ g3).mono ?_); rintro e w4 ⟨rfl, b4⟩; have g4 := g3.trans (b4.mono g3.size))
    | fail)
  go_ret
  exact ⟨rfl, g0.out⟩
set_option maxRecDepth 100000 in
set_option maxHeartbeats 16000000 in
theorem same_req (a b : CmdC) (A1 A2 A3 A4 : Option Addr) (c1 c2 c3 c4 : Nat) (w : World) (h1 : HasI NoX w (.slice A1 a.items.length c1) a.items) (h2 : HasI NoX w (.slice A2 b.items.length c2) b.items) (h3 : HasA NoX w (.slice A3 a.idx.length c3) a.idx) (h4 : HasA NoX w (.slice A4 b.idx.length c4) b.idx) (p0 : a.kind = b.kind) (p1 : a.user = b.user) (p2 : a.part = b.part) (p3 : a.qos = b.qos) (p4 : a.name = b.name) (p5 : a.nodes = b.nodes) (p6 : a.time = b.time) (p7 : a.run = b.run) (p8 : ¬ a.req = b.req) :
    Calls Tryz.prog 14 #[.agg #[.int .i64 a.kind, .string (str a.user), .string (str a.part), .string (str a.qos), .string (str a.name), .int .i64 a.nodes, .int .i64 a.time, .int .i64 a.run, .int .i64 a.req.1, .int .i64 a.req.2.1, .int .i64 a.req.2.2, .bool a.any, .slice A1 a.items.length c1, .slice A3 a.idx.length c3, .int .i64 a.lim, .int .i64 a.job, .string (str a.host)], .agg #[.int .i64 b.kind, .string (str b.user), .string (str b.part), .string (str b.qos), .string (str b.name), .int .i64 b.nodes, .int .i64 b.time, .int .i64 b.run, .int .i64 b.req.1, .int .i64 b.req.2.1, .int .i64 b.req.2.2, .bool b.any, .slice A2 b.items.length c2, .slice A4 b.idx.length c4, .int .i64 b.lim, .int .i64 b.job, .string (str b.host)]] w (BoolP w false) := by
  have q0 : Box ((w.alloc (.cells #[.int .i64 a.kind, .string (str a.user), .string (str a.part), .string (str a.qos), .string (str a.name), .int .i64 a.nodes, .int .i64 a.time, .int .i64 a.run, .int .i64 a.req.1, .int .i64 a.req.2.1, .int .i64 a.req.2.2, .bool a.any, .slice A1 a.items.length c1, .slice A3 a.idx.length c3, .int .i64 a.lim, .int .i64 a.job, .string (str a.host)] TCmd)).alloc (.cells #[.int .i64 b.kind, .string (str b.user), .string (str b.part), .string (str b.qos), .string (str b.name), .int .i64 b.nodes, .int .i64 b.time, .int .i64 b.run, .int .i64 b.req.1, .int .i64 b.req.2.1, .int .i64 b.req.2.2, .bool b.any, .slice A2 b.items.length c2, .slice A4 b.idx.length c4, .int .i64 b.lim, .int .i64 b.job, .string (str b.host)] TCmd)) w.heap.size TCmd [.int .i64 a.kind, .string (str a.user), .string (str a.part), .string (str a.qos), .string (str a.name), .int .i64 a.nodes, .int .i64 a.time, .int .i64 a.run, .int .i64 a.req.1, .int .i64 a.req.2.1, .int .i64 a.req.2.2, .bool a.any, .slice A1 a.items.length c1, .slice A3 a.idx.length c3, .int .i64 a.lim, .int .i64 a.job, .string (str a.host)] := Box.below (Box.new w TCmd [.int .i64 a.kind, .string (str a.user), .string (str a.part), .string (str a.qos), .string (str a.name), .int .i64 a.nodes, .int .i64 a.time, .int .i64 a.run, .int .i64 a.req.1, .int .i64 a.req.2.1, .int .i64 a.req.2.2, .bool a.any, .slice A1 a.items.length c1, .slice A3 a.idx.length c3, .int .i64 a.lim, .int .i64 a.job, .string (str a.host)]) ((Below.refl _ _).alloc (Nat.le_refl _) _) (by simp)
  have zz := World.size_alloc w (.cells #[.int .i64 a.kind, .string (str a.user), .string (str a.part), .string (str a.qos), .string (str a.name), .int .i64 a.nodes, .int .i64 a.time, .int .i64 a.run, .int .i64 a.req.1, .int .i64 a.req.2.1, .int .i64 a.req.2.2, .bool a.any, .slice A1 a.items.length c1, .slice A3 a.idx.length c3, .int .i64 a.lim, .int .i64 a.job, .string (str a.host)] TCmd)
  have q1 : Box ((w.alloc (.cells #[.int .i64 a.kind, .string (str a.user), .string (str a.part), .string (str a.qos), .string (str a.name), .int .i64 a.nodes, .int .i64 a.time, .int .i64 a.run, .int .i64 a.req.1, .int .i64 a.req.2.1, .int .i64 a.req.2.2, .bool a.any, .slice A1 a.items.length c1, .slice A3 a.idx.length c3, .int .i64 a.lim, .int .i64 a.job, .string (str a.host)] TCmd)).alloc (.cells #[.int .i64 b.kind, .string (str b.user), .string (str b.part), .string (str b.qos), .string (str b.name), .int .i64 b.nodes, .int .i64 b.time, .int .i64 b.run, .int .i64 b.req.1, .int .i64 b.req.2.1, .int .i64 b.req.2.2, .bool b.any, .slice A2 b.items.length c2, .slice A4 b.idx.length c4, .int .i64 b.lim, .int .i64 b.job, .string (str b.host)] TCmd)) (w.heap.size + 1) TCmd [.int .i64 b.kind, .string (str b.user), .string (str b.part), .string (str b.qos), .string (str b.name), .int .i64 b.nodes, .int .i64 b.time, .int .i64 b.run, .int .i64 b.req.1, .int .i64 b.req.2.1, .int .i64 b.req.2.2, .bool b.any, .slice A2 b.items.length c2, .slice A4 b.idx.length c4, .int .i64 b.lim, .int .i64 b.job, .string (str b.host)] := by
    have := Box.new (w.alloc (.cells #[.int .i64 a.kind, .string (str a.user), .string (str a.part), .string (str a.qos), .string (str a.name), .int .i64 a.nodes, .int .i64 a.time, .int .i64 a.run, .int .i64 a.req.1, .int .i64 a.req.2.1, .int .i64 a.req.2.2, .bool a.any, .slice A1 a.items.length c1, .slice A3 a.idx.length c3, .int .i64 a.lim, .int .i64 a.job, .string (str a.host)] TCmd)) TCmd [.int .i64 b.kind, .string (str b.user), .string (str b.part), .string (str b.qos), .string (str b.name), .int .i64 b.nodes, .int .i64 b.time, .int .i64 b.run, .int .i64 b.req.1, .int .i64 b.req.2.1, .int .i64 b.req.2.2, .bool b.any, .slice A2 b.items.length c2, .slice A4 b.idx.length c4, .int .i64 b.lim, .int .i64 b.job, .string (str b.host)]
    rw [zz] at this
    exact this
  have g0 : Below w.heap.size w ((w.alloc (.cells #[.int .i64 a.kind, .string (str a.user), .string (str a.part), .string (str a.qos), .string (str a.name), .int .i64 a.nodes, .int .i64 a.time, .int .i64 a.run, .int .i64 a.req.1, .int .i64 a.req.2.1, .int .i64 a.req.2.2, .bool a.any, .slice A1 a.items.length c1, .slice A3 a.idx.length c3, .int .i64 a.lim, .int .i64 a.job, .string (str a.host)] TCmd)).alloc (.cells #[.int .i64 b.kind, .string (str b.user), .string (str b.part), .string (str b.qos), .string (str b.name), .int .i64 b.nodes, .int .i64 b.time, .int .i64 b.run, .int .i64 b.req.1, .int .i64 b.req.2.1, .int .i64 b.req.2.2, .bool b.any, .slice A2 b.items.length c2, .slice A4 b.idx.length c4, .int .i64 b.lim, .int .i64 b.job, .string (str b.host)] TCmd)) := ((Below.refl _ _).alloc (Nat.le_refl _) _).alloc (by rw [zz]; omega) _
  obtain ⟨_, _, e1, l1, m1, s1⟩ := h1.its
  injection e1 with e1 _ e2
  subst e1 e2
  obtain ⟨_, _, e1, l2, m2, s2⟩ := h2.its
  injection e1 with e1 _ e2
  subst e1 e2
  obtain ⟨_, _, e1, l3, m3, s3⟩ := h3.ints
  injection e1 with e1 _ e2
  subst e1 e2
  obtain ⟨_, _, e1, l4, m4, s4⟩ := h4.ints
  injection e1 with e1 _ e2
  subst e1 e2
  have hei := fun W (hW : Below w.heap.size w W) => eqItems_any a.items b.items A1 A2 c1 c2 W ((s1.below hW).more hW.size) ((s2.below hW).more hW.size) (Nat.le_trans l1 m1) (Nat.le_trans l2 m2)
  have hen := fun W (hW : Below w.heap.size w W) => eqInts_any a.idx b.idx A3 A4 c3 c4 W ((Ds.SegC.below s3 hW).more hW.size) ((Ds.SegC.below s4 hW).more hW.size) (Nat.le_trans l3 m3) (Nat.le_trans l4 m4)
  have hev := Vs.eql_vec a.req.1 a.req.2.1 a.req.2.2 b.req.1 b.req.2.1 b.req.2.2
  unfold Vs.vec at hev
  unfold BoolP at hei hen ⊢
  have hse : ∀ l m : Str, ((str l).toList == (str m).toList) = decide (l = m) := fun l m => by rw [Vs.str_eq, bl_str, bl_str]
  have u1 := hse a.user b.user
  have u2 := hse a.part b.part
  have u3 := hse a.qos b.qos
  have u4 := hse a.name b.name
  have u5 := hse a.host b.host
  clear h1 h2 h3 h4 s1 s2 s3 s4 l1 l2 l3 l4 m1 m2 m3 m4 hse zz
  have x0 : (a.kind == b.kind) = true := by simpa using p0
  rw [decide_eq_true p1] at u1
  rw [decide_eq_true p2] at u2
  rw [decide_eq_true p3] at u3
  rw [decide_eq_true p4] at u4
  have x5 : (a.nodes == b.nodes) = true := by simpa using p5
  have x6 : (a.time == b.time) = true := by simpa using p6
  have x7 : (a.run == b.run) = true := by simpa using p7
  rw [decide_eq_false (fun h => p8 (Prod.ext h.1 (Prod.ext h.2.1 h.2.2)))] at hev
  clear p0 p1 p2 p3 p4 p5 p6 p7 p8
  go_enter Tryz.func14, Tryz.ntmps14
  obtain ⟨⟨k0, k1, k2, k3, k4, k5, k6, k7, k8, k9, k10, k11, k12, k13, k14, k15, k16⟩, _, zk⟩ := Box.seventeen q0
  obtain ⟨⟨m0, m1, m2, m3, m4, m5, m6, m7, m8, m9, m10, m11, m12, m13, m14, m15, m16⟩, _, zm⟩ := Box.seventeen q1
  replace g0 := fhid g0
  clear q0 q1
  go_wp2_with (first
    | (go_at_call 21; (with_reducible refine (hei _ g0.out).mono ?_); rintro e w3 ⟨rfl, b3⟩; have g3 := g0.out.trans (b3.mono g0.out.size))
    | (go_at_call 23; (with_reducible refine (hen _ g3).mono ?_); rintro e w4 ⟨rfl, b4⟩; have g4 := g3.trans (b4.mono g3.size))
    | fail)
  go_ret
  exact ⟨rfl, g0.out⟩
end Go.Proofs.YtjpihophigjbpaaGreatDoor
/-
  Whether two commands are the same.
-/
namespace Go.Proofs.YtjpihophigjbpaaGreatDoor
open Go.RowKit Go.Shelf Vs

set_option maxRecDepth 100000 in
set_option maxHeartbeats 16000000 in
theorem same_any (a b : CmdC) (A1 A2 A3 A4 : Option Addr) (c1 c2 c3 c4 : Nat) (w : World) (h1 : HasI NoX w (.slice A1 a.items.length c1) a.items) (h2 : HasI NoX w (.slice A2 b.items.length c2) b.items) (h3 : HasA NoX w (.slice A3 a.idx.length c3) a.idx) (h4 : HasA NoX w (.slice A4 b.idx.length c4) b.idx) (p0 : a.kind = b.kind) (p1 : a.user = b.user) (p2 : a.part = b.part) (p3 : a.qos = b.qos) (p4 : a.name = b.name) (p5 : a.nodes = b.nodes) (p6 : a.time = b.time) (p7 : a.run = b.run) (p8 : a.req = b.req) (p9 : ¬ a.any = b.any) :
    Calls Tryz.prog 14 #[.agg #[.int .i64 a.kind, .string (str a.user), .string (str a.part), .string (str a.qos), .string (str a.name), .int .i64 a.nodes, .int .i64 a.time, .int .i64 a.run, .int .i64 a.req.1, .int .i64 a.req.2.1, .int .i64 a.req.2.2, .bool a.any, .slice A1 a.items.length c1, .slice A3 a.idx.length c3, .int .i64 a.lim, .int .i64 a.job, .string (str a.host)], .agg #[.int .i64 b.kind, .string (str b.user), .string (str b.part), .string (str b.qos), .string (str b.name), .int .i64 b.nodes, .int .i64 b.time, .int .i64 b.run, .int .i64 b.req.1, .int .i64 b.req.2.1, .int .i64 b.req.2.2, .bool b.any, .slice A2 b.items.length c2, .slice A4 b.idx.length c4, .int .i64 b.lim, .int .i64 b.job, .string (str b.host)]] w (BoolP w false) := by
  have q0 : Box ((w.alloc (.cells #[.int .i64 a.kind, .string (str a.user), .string (str a.part), .string (str a.qos), .string (str a.name), .int .i64 a.nodes, .int .i64 a.time, .int .i64 a.run, .int .i64 a.req.1, .int .i64 a.req.2.1, .int .i64 a.req.2.2, .bool a.any, .slice A1 a.items.length c1, .slice A3 a.idx.length c3, .int .i64 a.lim, .int .i64 a.job, .string (str a.host)] TCmd)).alloc (.cells #[.int .i64 b.kind, .string (str b.user), .string (str b.part), .string (str b.qos), .string (str b.name), .int .i64 b.nodes, .int .i64 b.time, .int .i64 b.run, .int .i64 b.req.1, .int .i64 b.req.2.1, .int .i64 b.req.2.2, .bool b.any, .slice A2 b.items.length c2, .slice A4 b.idx.length c4, .int .i64 b.lim, .int .i64 b.job, .string (str b.host)] TCmd)) w.heap.size TCmd [.int .i64 a.kind, .string (str a.user), .string (str a.part), .string (str a.qos), .string (str a.name), .int .i64 a.nodes, .int .i64 a.time, .int .i64 a.run, .int .i64 a.req.1, .int .i64 a.req.2.1, .int .i64 a.req.2.2, .bool a.any, .slice A1 a.items.length c1, .slice A3 a.idx.length c3, .int .i64 a.lim, .int .i64 a.job, .string (str a.host)] := Box.below (Box.new w TCmd [.int .i64 a.kind, .string (str a.user), .string (str a.part), .string (str a.qos), .string (str a.name), .int .i64 a.nodes, .int .i64 a.time, .int .i64 a.run, .int .i64 a.req.1, .int .i64 a.req.2.1, .int .i64 a.req.2.2, .bool a.any, .slice A1 a.items.length c1, .slice A3 a.idx.length c3, .int .i64 a.lim, .int .i64 a.job, .string (str a.host)]) ((Below.refl _ _).alloc (Nat.le_refl _) _) (by simp)
  have zz := World.size_alloc w (.cells #[.int .i64 a.kind, .string (str a.user), .string (str a.part), .string (str a.qos), .string (str a.name), .int .i64 a.nodes, .int .i64 a.time, .int .i64 a.run, .int .i64 a.req.1, .int .i64 a.req.2.1, .int .i64 a.req.2.2, .bool a.any, .slice A1 a.items.length c1, .slice A3 a.idx.length c3, .int .i64 a.lim, .int .i64 a.job, .string (str a.host)] TCmd)
  have q1 : Box ((w.alloc (.cells #[.int .i64 a.kind, .string (str a.user), .string (str a.part), .string (str a.qos), .string (str a.name), .int .i64 a.nodes, .int .i64 a.time, .int .i64 a.run, .int .i64 a.req.1, .int .i64 a.req.2.1, .int .i64 a.req.2.2, .bool a.any, .slice A1 a.items.length c1, .slice A3 a.idx.length c3, .int .i64 a.lim, .int .i64 a.job, .string (str a.host)] TCmd)).alloc (.cells #[.int .i64 b.kind, .string (str b.user), .string (str b.part), .string (str b.qos), .string (str b.name), .int .i64 b.nodes, .int .i64 b.time, .int .i64 b.run, .int .i64 b.req.1, .int .i64 b.req.2.1, .int .i64 b.req.2.2, .bool b.any, .slice A2 b.items.length c2, .slice A4 b.idx.length c4, .int .i64 b.lim, .int .i64 b.job, .string (str b.host)] TCmd)) (w.heap.size + 1) TCmd [.int .i64 b.kind, .string (str b.user), .string (str b.part), .string (str b.qos), .string (str b.name), .int .i64 b.nodes, .int .i64 b.time, .int .i64 b.run, .int .i64 b.req.1, .int .i64 b.req.2.1, .int .i64 b.req.2.2, .bool b.any, .slice A2 b.items.length c2, .slice A4 b.idx.length c4, .int .i64 b.lim, .int .i64 b.job, .string (str b.host)] := by
    have := Box.new (w.alloc (.cells #[.int .i64 a.kind, .string (str a.user), .string (str a.part), .string (str a.qos), .string (str a.name), .int .i64 a.nodes, .int .i64 a.time, .int .i64 a.run, .int .i64 a.req.1, .int .i64 a.req.2.1, .int .i64 a.req.2.2, .bool a.any, .slice A1 a.items.length c1, .slice A3 a.idx.length c3, .int .i64 a.lim, .int .i64 a.job, .string (str a.host)] TCmd)) TCmd [.int .i64 b.kind, .string (str b.user), .string (str b.part), .string (str b.qos), .string (str b.name), .int .i64 b.nodes, .int .i64 b.time, .int .i64 b.run, .int .i64 b.req.1, .int .i64 b.req.2.1, .int .i64 b.req.2.2, .bool b.any, .slice A2 b.items.length c2, .slice A4 b.idx.length c4, .int .i64 b.lim, .int .i64 b.job, .string (str b.host)]
    rw [zz] at this
    exact this
  have g0 : Below w.heap.size w ((w.alloc (.cells #[.int .i64 a.kind, .string (str a.user), .string (str a.part), .string (str a.qos), .string (str a.name), .int .i64 a.nodes, .int .i64 a.time, .int .i64 a.run, .int .i64 a.req.1, .int .i64 a.req.2.1, .int .i64 a.req.2.2, .bool a.any, .slice A1 a.items.length c1, .slice A3 a.idx.length c3, .int .i64 a.lim, .int .i64 a.job, .string (str a.host)] TCmd)).alloc (.cells #[.int .i64 b.kind, .string (str b.user), .string (str b.part), .string (str b.qos), .string (str b.name), .int .i64 b.nodes, .int .i64 b.time, .int .i64 b.run, .int .i64 b.req.1, .int .i64 b.req.2.1, .int .i64 b.req.2.2, .bool b.any, .slice A2 b.items.length c2, .slice A4 b.idx.length c4, .int .i64 b.lim, .int .i64 b.job, .string (str b.host)] TCmd)) := ((Below.refl _ _).alloc (Nat.le_refl _) _).alloc (by rw [zz]; omega) _
  obtain ⟨_, _, e1, l1, m1, s1⟩ := h1.its
  injection e1 with e1 _ e2
  subst e1 e2
  obtain ⟨_, _, e1, l2, m2, s2⟩ := h2.its
  injection e1 with e1 _ e2
  subst e1 e2
  obtain ⟨_, _, e1, l3, m3, s3⟩ := h3.ints
  injection e1 with e1 _ e2
  subst e1 e2
  obtain ⟨_, _, e1, l4, m4, s4⟩ := h4.ints
  injection e1 with e1 _ e2
  subst e1 e2
  have hei := fun W (hW : Below w.heap.size w W) => eqItems_any a.items b.items A1 A2 c1 c2 W ((s1.below hW).more hW.size) ((s2.below hW).more hW.size) (Nat.le_trans l1 m1) (Nat.le_trans l2 m2)
  have hen := fun W (hW : Below w.heap.size w W) => eqInts_any a.idx b.idx A3 A4 c3 c4 W ((Ds.SegC.below s3 hW).more hW.size) ((Ds.SegC.below s4 hW).more hW.size) (Nat.le_trans l3 m3) (Nat.le_trans l4 m4)
  have hev := Vs.eql_vec a.req.1 a.req.2.1 a.req.2.2 b.req.1 b.req.2.1 b.req.2.2
  unfold Vs.vec at hev
  unfold BoolP at hei hen ⊢
  have hse : ∀ l m : Str, ((str l).toList == (str m).toList) = decide (l = m) := fun l m => by rw [Vs.str_eq, bl_str, bl_str]
  have u1 := hse a.user b.user
  have u2 := hse a.part b.part
  have u3 := hse a.qos b.qos
  have u4 := hse a.name b.name
  have u5 := hse a.host b.host
  clear h1 h2 h3 h4 s1 s2 s3 s4 l1 l2 l3 l4 m1 m2 m3 m4 hse zz
  have x0 : (a.kind == b.kind) = true := by simpa using p0
  rw [decide_eq_true p1] at u1
  rw [decide_eq_true p2] at u2
  rw [decide_eq_true p3] at u3
  rw [decide_eq_true p4] at u4
  have x5 : (a.nodes == b.nodes) = true := by simpa using p5
  have x6 : (a.time == b.time) = true := by simpa using p6
  have x7 : (a.run == b.run) = true := by simpa using p7
  rw [decide_eq_true (show a.req.1 = b.req.1 ∧ a.req.2.1 = b.req.2.1 ∧ a.req.2.2 = b.req.2.2 by rw [p8]; exact ⟨rfl, rfl, rfl⟩)] at hev
  have x9 : (a.any == b.any) = false := by simpa using p9
  clear p0 p1 p2 p3 p4 p5 p6 p7 p8 p9
  go_enter Tryz.func14, Tryz.ntmps14
  obtain ⟨⟨k0, k1, k2, k3, k4, k5, k6, k7, k8, k9, k10, k11, k12, k13, k14, k15, k16⟩, _, zk⟩ := Box.seventeen q0
  obtain ⟨⟨m0, m1, m2, m3, m4, m5, m6, m7, m8, m9, m10, m11, m12, m13, m14, m15, m16⟩, _, zm⟩ := Box.seventeen q1
  replace g0 := fhid g0
  replace q0 := fhid q0
  replace q1 := fhid q1
  go_wp2_with (first
    | (go_at_call 21; (with_reducible refine (hei _ g0.out).mono ?_); rintro e w3 ⟨rfl, b3⟩; have g3 := g0.out.trans (b3.mono g0.out.size); have q2 := Box.below q0.out b3 zk; have q3 := Box.below q1.out b3 zm; obtain ⟨⟨ka0, ka1, ka2, ka3, ka4, ka5, ka6, ka7, ka8, ka9, ka10, ka11, ka12, ka13, ka14, ka15, ka16⟩, _, zka⟩ := Box.seventeen q2; obtain ⟨⟨ma0, ma1, ma2, ma3, ma4, ma5, ma6, ma7, ma8, ma9, ma10, ma11, ma12, ma13, ma14, ma15, ma16⟩, _, zma⟩ := Box.seventeen q3)
    | (go_at_call 23; (with_reducible refine (hen _ g3).mono ?_); rintro e w4 ⟨rfl, b4⟩; have g4 := g3.trans (b4.mono g3.size); have q4 := Box.below q2 b4 zka; have q5 := Box.below q3 b4 zma; obtain ⟨⟨kb0, kb1, kb2, kb3, kb4, kb5, kb6, kb7, kb8, kb9, kb10, kb11, kb12, kb13, kb14, kb15, kb16⟩, _, zkb⟩ := Box.seventeen q4; obtain ⟨⟨mb0, mb1, mb2, mb3, mb4, mb5, mb6, mb7, mb8, mb9, mb10, mb11, mb12, mb13, mb14, mb15, mb16⟩, _, zmb⟩ := Box.seventeen q5)
    | fail)
  go_ret
  exact ⟨rfl, g0.out⟩
set_option maxRecDepth 100000 in
set_option maxHeartbeats 16000000 in
theorem same_items (a b : CmdC) (A1 A2 A3 A4 : Option Addr) (c1 c2 c3 c4 : Nat) (w : World) (h1 : HasI NoX w (.slice A1 a.items.length c1) a.items) (h2 : HasI NoX w (.slice A2 b.items.length c2) b.items) (h3 : HasA NoX w (.slice A3 a.idx.length c3) a.idx) (h4 : HasA NoX w (.slice A4 b.idx.length c4) b.idx) (p0 : a.kind = b.kind) (p1 : a.user = b.user) (p2 : a.part = b.part) (p3 : a.qos = b.qos) (p4 : a.name = b.name) (p5 : a.nodes = b.nodes) (p6 : a.time = b.time) (p7 : a.run = b.run) (p8 : a.req = b.req) (p9 : a.any = b.any) (p10 : ¬ a.items = b.items) :
    Calls Tryz.prog 14 #[.agg #[.int .i64 a.kind, .string (str a.user), .string (str a.part), .string (str a.qos), .string (str a.name), .int .i64 a.nodes, .int .i64 a.time, .int .i64 a.run, .int .i64 a.req.1, .int .i64 a.req.2.1, .int .i64 a.req.2.2, .bool a.any, .slice A1 a.items.length c1, .slice A3 a.idx.length c3, .int .i64 a.lim, .int .i64 a.job, .string (str a.host)], .agg #[.int .i64 b.kind, .string (str b.user), .string (str b.part), .string (str b.qos), .string (str b.name), .int .i64 b.nodes, .int .i64 b.time, .int .i64 b.run, .int .i64 b.req.1, .int .i64 b.req.2.1, .int .i64 b.req.2.2, .bool b.any, .slice A2 b.items.length c2, .slice A4 b.idx.length c4, .int .i64 b.lim, .int .i64 b.job, .string (str b.host)]] w (BoolP w false) := by
  have q0 : Box ((w.alloc (.cells #[.int .i64 a.kind, .string (str a.user), .string (str a.part), .string (str a.qos), .string (str a.name), .int .i64 a.nodes, .int .i64 a.time, .int .i64 a.run, .int .i64 a.req.1, .int .i64 a.req.2.1, .int .i64 a.req.2.2, .bool a.any, .slice A1 a.items.length c1, .slice A3 a.idx.length c3, .int .i64 a.lim, .int .i64 a.job, .string (str a.host)] TCmd)).alloc (.cells #[.int .i64 b.kind, .string (str b.user), .string (str b.part), .string (str b.qos), .string (str b.name), .int .i64 b.nodes, .int .i64 b.time, .int .i64 b.run, .int .i64 b.req.1, .int .i64 b.req.2.1, .int .i64 b.req.2.2, .bool b.any, .slice A2 b.items.length c2, .slice A4 b.idx.length c4, .int .i64 b.lim, .int .i64 b.job, .string (str b.host)] TCmd)) w.heap.size TCmd [.int .i64 a.kind, .string (str a.user), .string (str a.part), .string (str a.qos), .string (str a.name), .int .i64 a.nodes, .int .i64 a.time, .int .i64 a.run, .int .i64 a.req.1, .int .i64 a.req.2.1, .int .i64 a.req.2.2, .bool a.any, .slice A1 a.items.length c1, .slice A3 a.idx.length c3, .int .i64 a.lim, .int .i64 a.job, .string (str a.host)] := Box.below (Box.new w TCmd [.int .i64 a.kind, .string (str a.user), .string (str a.part), .string (str a.qos), .string (str a.name), .int .i64 a.nodes, .int .i64 a.time, .int .i64 a.run, .int .i64 a.req.1, .int .i64 a.req.2.1, .int .i64 a.req.2.2, .bool a.any, .slice A1 a.items.length c1, .slice A3 a.idx.length c3, .int .i64 a.lim, .int .i64 a.job, .string (str a.host)]) ((Below.refl _ _).alloc (Nat.le_refl _) _) (by simp)
  have zz := World.size_alloc w (.cells #[.int .i64 a.kind, .string (str a.user), .string (str a.part), .string (str a.qos), .string (str a.name), .int .i64 a.nodes, .int .i64 a.time, .int .i64 a.run, .int .i64 a.req.1, .int .i64 a.req.2.1, .int .i64 a.req.2.2, .bool a.any, .slice A1 a.items.length c1, .slice A3 a.idx.length c3, .int .i64 a.lim, .int .i64 a.job, .string (str a.host)] TCmd)
  have q1 : Box ((w.alloc (.cells #[.int .i64 a.kind, .string (str a.user), .string (str a.part), .string (str a.qos), .string (str a.name), .int .i64 a.nodes, .int .i64 a.time, .int .i64 a.run, .int .i64 a.req.1, .int .i64 a.req.2.1, .int .i64 a.req.2.2, .bool a.any, .slice A1 a.items.length c1, .slice A3 a.idx.length c3, .int .i64 a.lim, .int .i64 a.job, .string (str a.host)] TCmd)).alloc (.cells #[.int .i64 b.kind, .string (str b.user), .string (str b.part), .string (str b.qos), .string (str b.name), .int .i64 b.nodes, .int .i64 b.time, .int .i64 b.run, .int .i64 b.req.1, .int .i64 b.req.2.1, .int .i64 b.req.2.2, .bool b.any, .slice A2 b.items.length c2, .slice A4 b.idx.length c4, .int .i64 b.lim, .int .i64 b.job, .string (str b.host)] TCmd)) (w.heap.size + 1) TCmd [.int .i64 b.kind, .string (str b.user), .string (str b.part), .string (str b.qos), .string (str b.name), .int .i64 b.nodes, .int .i64 b.time, .int .i64 b.run, .int .i64 b.req.1, .int .i64 b.req.2.1, .int .i64 b.req.2.2, .bool b.any, .slice A2 b.items.length c2, .slice A4 b.idx.length c4, .int .i64 b.lim, .int .i64 b.job, .string (str b.host)] := by
    have := Box.new (w.alloc (.cells #[.int .i64 a.kind, .string (str a.user), .string (str a.part), .string (str a.qos), .string (str a.name), .int .i64 a.nodes, .int .i64 a.time, .int .i64 a.run, .int .i64 a.req.1, .int .i64 a.req.2.1, .int .i64 a.req.2.2, .bool a.any, .slice A1 a.items.length c1, .slice A3 a.idx.length c3, .int .i64 a.lim, .int .i64 a.job, .string (str a.host)] TCmd)) TCmd [.int .i64 b.kind, .string (str b.user), .string (str b.part), .string (str b.qos), .string (str b.name), .int .i64 b.nodes, .int .i64 b.time, .int .i64 b.run, .int .i64 b.req.1, .int .i64 b.req.2.1, .int .i64 b.req.2.2, .bool b.any, .slice A2 b.items.length c2, .slice A4 b.idx.length c4, .int .i64 b.lim, .int .i64 b.job, .string (str b.host)]
    rw [zz] at this
    exact this
  have g0 : Below w.heap.size w ((w.alloc (.cells #[.int .i64 a.kind, .string (str a.user), .string (str a.part), .string (str a.qos), .string (str a.name), .int .i64 a.nodes, .int .i64 a.time, .int .i64 a.run, .int .i64 a.req.1, .int .i64 a.req.2.1, .int .i64 a.req.2.2, .bool a.any, .slice A1 a.items.length c1, .slice A3 a.idx.length c3, .int .i64 a.lim, .int .i64 a.job, .string (str a.host)] TCmd)).alloc (.cells #[.int .i64 b.kind, .string (str b.user), .string (str b.part), .string (str b.qos), .string (str b.name), .int .i64 b.nodes, .int .i64 b.time, .int .i64 b.run, .int .i64 b.req.1, .int .i64 b.req.2.1, .int .i64 b.req.2.2, .bool b.any, .slice A2 b.items.length c2, .slice A4 b.idx.length c4, .int .i64 b.lim, .int .i64 b.job, .string (str b.host)] TCmd)) := ((Below.refl _ _).alloc (Nat.le_refl _) _).alloc (by rw [zz]; omega) _
  obtain ⟨_, _, e1, l1, m1, s1⟩ := h1.its
  injection e1 with e1 _ e2
  subst e1 e2
  obtain ⟨_, _, e1, l2, m2, s2⟩ := h2.its
  injection e1 with e1 _ e2
  subst e1 e2
  obtain ⟨_, _, e1, l3, m3, s3⟩ := h3.ints
  injection e1 with e1 _ e2
  subst e1 e2
  obtain ⟨_, _, e1, l4, m4, s4⟩ := h4.ints
  injection e1 with e1 _ e2
  subst e1 e2
  have hei := fun W (hW : Below w.heap.size w W) => eqItems_any a.items b.items A1 A2 c1 c2 W ((s1.below hW).more hW.size) ((s2.below hW).more hW.size) (Nat.le_trans l1 m1) (Nat.le_trans l2 m2)
  have hen := fun W (hW : Below w.heap.size w W) => eqInts_any a.idx b.idx A3 A4 c3 c4 W ((Ds.SegC.below s3 hW).more hW.size) ((Ds.SegC.below s4 hW).more hW.size) (Nat.le_trans l3 m3) (Nat.le_trans l4 m4)
  have hev := Vs.eql_vec a.req.1 a.req.2.1 a.req.2.2 b.req.1 b.req.2.1 b.req.2.2
  unfold Vs.vec at hev
  unfold BoolP at hei hen ⊢
  have hse : ∀ l m : Str, ((str l).toList == (str m).toList) = decide (l = m) := fun l m => by rw [Vs.str_eq, bl_str, bl_str]
  have u1 := hse a.user b.user
  have u2 := hse a.part b.part
  have u3 := hse a.qos b.qos
  have u4 := hse a.name b.name
  have u5 := hse a.host b.host
  clear h1 h2 h3 h4 s1 s2 s3 s4 l1 l2 l3 l4 m1 m2 m3 m4 hse zz
  have x0 : (a.kind == b.kind) = true := by simpa using p0
  rw [decide_eq_true p1] at u1
  rw [decide_eq_true p2] at u2
  rw [decide_eq_true p3] at u3
  rw [decide_eq_true p4] at u4
  have x5 : (a.nodes == b.nodes) = true := by simpa using p5
  have x6 : (a.time == b.time) = true := by simpa using p6
  have x7 : (a.run == b.run) = true := by simpa using p7
  rw [decide_eq_true (show a.req.1 = b.req.1 ∧ a.req.2.1 = b.req.2.1 ∧ a.req.2.2 = b.req.2.2 by rw [p8]; exact ⟨rfl, rfl, rfl⟩)] at hev
  have x9 : (a.any == b.any) = true := by simpa using p9
  rw [decide_eq_false p10] at hei
  clear p0 p1 p2 p3 p4 p5 p6 p7 p8 p9 p10
  go_enter Tryz.func14, Tryz.ntmps14
  obtain ⟨⟨k0, k1, k2, k3, k4, k5, k6, k7, k8, k9, k10, k11, k12, k13, k14, k15, k16⟩, _, zk⟩ := Box.seventeen q0
  obtain ⟨⟨m0, m1, m2, m3, m4, m5, m6, m7, m8, m9, m10, m11, m12, m13, m14, m15, m16⟩, _, zm⟩ := Box.seventeen q1
  replace g0 := fhid g0
  replace q0 := fhid q0
  replace q1 := fhid q1
  go_wp2_with (first
    | (go_at_call 21; (with_reducible refine (hei _ g0.out).mono ?_); rintro e w3 ⟨rfl, b3⟩; have g3 := g0.out.trans (b3.mono g0.out.size); have q2 := Box.below q0.out b3 zk; have q3 := Box.below q1.out b3 zm; obtain ⟨⟨ka0, ka1, ka2, ka3, ka4, ka5, ka6, ka7, ka8, ka9, ka10, ka11, ka12, ka13, ka14, ka15, ka16⟩, _, zka⟩ := Box.seventeen q2; obtain ⟨⟨ma0, ma1, ma2, ma3, ma4, ma5, ma6, ma7, ma8, ma9, ma10, ma11, ma12, ma13, ma14, ma15, ma16⟩, _, zma⟩ := Box.seventeen q3)
    | (go_at_call 23; (with_reducible refine (hen _ g3).mono ?_); rintro e w4 ⟨rfl, b4⟩; have g4 := g3.trans (b4.mono g3.size); have q4 := Box.below q2 b4 zka; have q5 := Box.below q3 b4 zma; obtain ⟨⟨kb0, kb1, kb2, kb3, kb4, kb5, kb6, kb7, kb8, kb9, kb10, kb11, kb12, kb13, kb14, kb15, kb16⟩, _, zkb⟩ := Box.seventeen q4; obtain ⟨⟨mb0, mb1, mb2, mb3, mb4, mb5, mb6, mb7, mb8, mb9, mb10, mb11, mb12, mb13, mb14, mb15, mb16⟩, _, zmb⟩ := Box.seventeen q5)
    | fail)
  go_ret
  exact ⟨rfl, g3⟩
set_option maxRecDepth 100000 in
set_option maxHeartbeats 16000000 in
theorem same_idx (a b : CmdC) (A1 A2 A3 A4 : Option Addr) (c1 c2 c3 c4 : Nat) (w : World) (h1 : HasI NoX w (.slice A1 a.items.length c1) a.items) (h2 : HasI NoX w (.slice A2 b.items.length c2) b.items) (h3 : HasA NoX w (.slice A3 a.idx.length c3) a.idx) (h4 : HasA NoX w (.slice A4 b.idx.length c4) b.idx) (p0 : a.kind = b.kind) (p1 : a.user = b.user) (p2 : a.part = b.part) (p3 : a.qos = b.qos) (p4 : a.name = b.name) (p5 : a.nodes = b.nodes) (p6 : a.time = b.time) (p7 : a.run = b.run) (p8 : a.req = b.req) (p9 : a.any = b.any) (p10 : a.items = b.items) (p11 : ¬ a.idx = b.idx) :
    Calls Tryz.prog 14 #[.agg #[.int .i64 a.kind, .string (str a.user), .string (str a.part), .string (str a.qos), .string (str a.name), .int .i64 a.nodes, .int .i64 a.time, .int .i64 a.run, .int .i64 a.req.1, .int .i64 a.req.2.1, .int .i64 a.req.2.2, .bool a.any, .slice A1 a.items.length c1, .slice A3 a.idx.length c3, .int .i64 a.lim, .int .i64 a.job, .string (str a.host)], .agg #[.int .i64 b.kind, .string (str b.user), .string (str b.part), .string (str b.qos), .string (str b.name), .int .i64 b.nodes, .int .i64 b.time, .int .i64 b.run, .int .i64 b.req.1, .int .i64 b.req.2.1, .int .i64 b.req.2.2, .bool b.any, .slice A2 b.items.length c2, .slice A4 b.idx.length c4, .int .i64 b.lim, .int .i64 b.job, .string (str b.host)]] w (BoolP w false) := by
  have q0 : Box ((w.alloc (.cells #[.int .i64 a.kind, .string (str a.user), .string (str a.part), .string (str a.qos), .string (str a.name), .int .i64 a.nodes, .int .i64 a.time, .int .i64 a.run, .int .i64 a.req.1, .int .i64 a.req.2.1, .int .i64 a.req.2.2, .bool a.any, .slice A1 a.items.length c1, .slice A3 a.idx.length c3, .int .i64 a.lim, .int .i64 a.job, .string (str a.host)] TCmd)).alloc (.cells #[.int .i64 b.kind, .string (str b.user), .string (str b.part), .string (str b.qos), .string (str b.name), .int .i64 b.nodes, .int .i64 b.time, .int .i64 b.run, .int .i64 b.req.1, .int .i64 b.req.2.1, .int .i64 b.req.2.2, .bool b.any, .slice A2 b.items.length c2, .slice A4 b.idx.length c4, .int .i64 b.lim, .int .i64 b.job, .string (str b.host)] TCmd)) w.heap.size TCmd [.int .i64 a.kind, .string (str a.user), .string (str a.part), .string (str a.qos), .string (str a.name), .int .i64 a.nodes, .int .i64 a.time, .int .i64 a.run, .int .i64 a.req.1, .int .i64 a.req.2.1, .int .i64 a.req.2.2, .bool a.any, .slice A1 a.items.length c1, .slice A3 a.idx.length c3, .int .i64 a.lim, .int .i64 a.job, .string (str a.host)] := Box.below (Box.new w TCmd [.int .i64 a.kind, .string (str a.user), .string (str a.part), .string (str a.qos), .string (str a.name), .int .i64 a.nodes, .int .i64 a.time, .int .i64 a.run, .int .i64 a.req.1, .int .i64 a.req.2.1, .int .i64 a.req.2.2, .bool a.any, .slice A1 a.items.length c1, .slice A3 a.idx.length c3, .int .i64 a.lim, .int .i64 a.job, .string (str a.host)]) ((Below.refl _ _).alloc (Nat.le_refl _) _) (by simp)
  have zz := World.size_alloc w (.cells #[.int .i64 a.kind, .string (str a.user), .string (str a.part), .string (str a.qos), .string (str a.name), .int .i64 a.nodes, .int .i64 a.time, .int .i64 a.run, .int .i64 a.req.1, .int .i64 a.req.2.1, .int .i64 a.req.2.2, .bool a.any, .slice A1 a.items.length c1, .slice A3 a.idx.length c3, .int .i64 a.lim, .int .i64 a.job, .string (str a.host)] TCmd)
  have q1 : Box ((w.alloc (.cells #[.int .i64 a.kind, .string (str a.user), .string (str a.part), .string (str a.qos), .string (str a.name), .int .i64 a.nodes, .int .i64 a.time, .int .i64 a.run, .int .i64 a.req.1, .int .i64 a.req.2.1, .int .i64 a.req.2.2, .bool a.any, .slice A1 a.items.length c1, .slice A3 a.idx.length c3, .int .i64 a.lim, .int .i64 a.job, .string (str a.host)] TCmd)).alloc (.cells #[.int .i64 b.kind, .string (str b.user), .string (str b.part), .string (str b.qos), .string (str b.name), .int .i64 b.nodes, .int .i64 b.time, .int .i64 b.run, .int .i64 b.req.1, .int .i64 b.req.2.1, .int .i64 b.req.2.2, .bool b.any, .slice A2 b.items.length c2, .slice A4 b.idx.length c4, .int .i64 b.lim, .int .i64 b.job, .string (str b.host)] TCmd)) (w.heap.size + 1) TCmd [.int .i64 b.kind, .string (str b.user), .string (str b.part), .string (str b.qos), .string (str b.name), .int .i64 b.nodes, .int .i64 b.time, .int .i64 b.run, .int .i64 b.req.1, .int .i64 b.req.2.1, .int .i64 b.req.2.2, .bool b.any, .slice A2 b.items.length c2, .slice A4 b.idx.length c4, .int .i64 b.lim, .int .i64 b.job, .string (str b.host)] := by
    have := Box.new (w.alloc (.cells #[.int .i64 a.kind, .string (str a.user), .string (str a.part), .string (str a.qos), .string (str a.name), .int .i64 a.nodes, .int .i64 a.time, .int .i64 a.run, .int .i64 a.req.1, .int .i64 a.req.2.1, .int .i64 a.req.2.2, .bool a.any, .slice A1 a.items.length c1, .slice A3 a.idx.length c3, .int .i64 a.lim, .int .i64 a.job, .string (str a.host)] TCmd)) TCmd [.int .i64 b.kind, .string (str b.user), .string (str b.part), .string (str b.qos), .string (str b.name), .int .i64 b.nodes, .int .i64 b.time, .int .i64 b.run, .int .i64 b.req.1, .int .i64 b.req.2.1, .int .i64 b.req.2.2, .bool b.any, .slice A2 b.items.length c2, .slice A4 b.idx.length c4, .int .i64 b.lim, .int .i64 b.job, .string (str b.host)]
    rw [zz] at this
    exact this
  have g0 : Below w.heap.size w ((w.alloc (.cells #[.int .i64 a.kind, .string (str a.user), .string (str a.part), .string (str a.qos), .string (str a.name), .int .i64 a.nodes, .int .i64 a.time, .int .i64 a.run, .int .i64 a.req.1, .int .i64 a.req.2.1, .int .i64 a.req.2.2, .bool a.any, .slice A1 a.items.length c1, .slice A3 a.idx.length c3, .int .i64 a.lim, .int .i64 a.job, .string (str a.host)] TCmd)).alloc (.cells #[.int .i64 b.kind, .string (str b.user), .string (str b.part), .string (str b.qos), .string (str b.name), .int .i64 b.nodes, .int .i64 b.time, .int .i64 b.run, .int .i64 b.req.1, .int .i64 b.req.2.1, .int .i64 b.req.2.2, .bool b.any, .slice A2 b.items.length c2, .slice A4 b.idx.length c4, .int .i64 b.lim, .int .i64 b.job, .string (str b.host)] TCmd)) := ((Below.refl _ _).alloc (Nat.le_refl _) _).alloc (by rw [zz]; omega) _
  obtain ⟨_, _, e1, l1, m1, s1⟩ := h1.its
  injection e1 with e1 _ e2
  subst e1 e2
  obtain ⟨_, _, e1, l2, m2, s2⟩ := h2.its
  injection e1 with e1 _ e2
  subst e1 e2
  obtain ⟨_, _, e1, l3, m3, s3⟩ := h3.ints
  injection e1 with e1 _ e2
  subst e1 e2
  obtain ⟨_, _, e1, l4, m4, s4⟩ := h4.ints
  injection e1 with e1 _ e2
  subst e1 e2
  have hei := fun W (hW : Below w.heap.size w W) => eqItems_any a.items b.items A1 A2 c1 c2 W ((s1.below hW).more hW.size) ((s2.below hW).more hW.size) (Nat.le_trans l1 m1) (Nat.le_trans l2 m2)
  have hen := fun W (hW : Below w.heap.size w W) => eqInts_any a.idx b.idx A3 A4 c3 c4 W ((Ds.SegC.below s3 hW).more hW.size) ((Ds.SegC.below s4 hW).more hW.size) (Nat.le_trans l3 m3) (Nat.le_trans l4 m4)
  have hev := Vs.eql_vec a.req.1 a.req.2.1 a.req.2.2 b.req.1 b.req.2.1 b.req.2.2
  unfold Vs.vec at hev
  unfold BoolP at hei hen ⊢
  have hse : ∀ l m : Str, ((str l).toList == (str m).toList) = decide (l = m) := fun l m => by rw [Vs.str_eq, bl_str, bl_str]
  have u1 := hse a.user b.user
  have u2 := hse a.part b.part
  have u3 := hse a.qos b.qos
  have u4 := hse a.name b.name
  have u5 := hse a.host b.host
  clear h1 h2 h3 h4 s1 s2 s3 s4 l1 l2 l3 l4 m1 m2 m3 m4 hse zz
  have x0 : (a.kind == b.kind) = true := by simpa using p0
  rw [decide_eq_true p1] at u1
  rw [decide_eq_true p2] at u2
  rw [decide_eq_true p3] at u3
  rw [decide_eq_true p4] at u4
  have x5 : (a.nodes == b.nodes) = true := by simpa using p5
  have x6 : (a.time == b.time) = true := by simpa using p6
  have x7 : (a.run == b.run) = true := by simpa using p7
  rw [decide_eq_true (show a.req.1 = b.req.1 ∧ a.req.2.1 = b.req.2.1 ∧ a.req.2.2 = b.req.2.2 by rw [p8]; exact ⟨rfl, rfl, rfl⟩)] at hev
  have x9 : (a.any == b.any) = true := by simpa using p9
  rw [decide_eq_true p10] at hei
  rw [decide_eq_false p11] at hen
  clear p0 p1 p2 p3 p4 p5 p6 p7 p8 p9 p10 p11
  go_enter Tryz.func14, Tryz.ntmps14
  obtain ⟨⟨k0, k1, k2, k3, k4, k5, k6, k7, k8, k9, k10, k11, k12, k13, k14, k15, k16⟩, _, zk⟩ := Box.seventeen q0
  obtain ⟨⟨m0, m1, m2, m3, m4, m5, m6, m7, m8, m9, m10, m11, m12, m13, m14, m15, m16⟩, _, zm⟩ := Box.seventeen q1
  replace g0 := fhid g0
  replace q0 := fhid q0
  replace q1 := fhid q1
  go_wp2_with (first
    | (go_at_call 21; (with_reducible refine (hei _ g0.out).mono ?_); rintro e w3 ⟨rfl, b3⟩; have g3 := g0.out.trans (b3.mono g0.out.size); have q2 := Box.below q0.out b3 zk; have q3 := Box.below q1.out b3 zm; obtain ⟨⟨ka0, ka1, ka2, ka3, ka4, ka5, ka6, ka7, ka8, ka9, ka10, ka11, ka12, ka13, ka14, ka15, ka16⟩, _, zka⟩ := Box.seventeen q2; obtain ⟨⟨ma0, ma1, ma2, ma3, ma4, ma5, ma6, ma7, ma8, ma9, ma10, ma11, ma12, ma13, ma14, ma15, ma16⟩, _, zma⟩ := Box.seventeen q3)
    | (go_at_call 23; (with_reducible refine (hen _ g3).mono ?_); rintro e w4 ⟨rfl, b4⟩; have g4 := g3.trans (b4.mono g3.size); have q4 := Box.below q2 b4 zka; have q5 := Box.below q3 b4 zma; obtain ⟨⟨kb0, kb1, kb2, kb3, kb4, kb5, kb6, kb7, kb8, kb9, kb10, kb11, kb12, kb13, kb14, kb15, kb16⟩, _, zkb⟩ := Box.seventeen q4; obtain ⟨⟨mb0, mb1, mb2, mb3, mb4, mb5, mb6, mb7, mb8, mb9, mb10, mb11, mb12, mb13, mb14, mb15, mb16⟩, _, zmb⟩ := Box.seventeen q5)
    | fail)
  go_ret
  exact ⟨rfl, g4⟩
end Go.Proofs.YtjpihophigjbpaaGreatDoor
