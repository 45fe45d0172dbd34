/-
  VecSums, walked.
-/
import Derived.Test.YtkmknogejhhajaaDoorVHeld
import Derived.Test.YtkmknogejhhajaaDoorVRAdd
namespace Go.Proofs.YtkmknogejhhajaaDoor
open Go.RowKit

set_option maxRecDepth 100000 in
set_option maxHeartbeats 4000000 in
theorem sums_walk (A : Option Addr) (l : List V3) (cap : Nat) (a b c d e f : Int) (w : World) (h : SegV w w.heap.size A l) (hl : l.length ≤ 9223372036854775807) (hw : Env w) (hd : d ≤ 9223372036854775807) :
    Calls Tryd.prog 4 #[.slice A l.length cap, vec a b c, vec d e f] w (TP w true) := by
  have hA := fun (W : World) (hW : Below w.heap.size w W) => Add_any A l cap W ((h.below hW).more hW.size) hl
  have hrA := fun (W : World) (hW : Below w.heap.size w W) => rAdd_any A l cap W ((h.below hW).more hW.size) hl
  have hS := fun W => Sub_any a b c d e f W
  have hrS := fun W => rSub_any a b c d e f W
  have hT := fun W => Times_any a b c d W hd
  have hrT := fun W => rTimes_any a b c d W hd
  have hal := fun W (hW : Env W) => alive_any W hW
  have hveq := veq
  generalize addV l = R1 at *
  generalize subV (a, b, c) (d, e, f) = R2 at *
  generalize timesV (a, b, c) d = R3 at *
  rcases R1 with ⟨⟨x1, y1, z1⟩, e1⟩
  rcases R2 with ⟨⟨x2, y2, z2⟩, e2⟩
  rcases R3 with ⟨⟨x3, y3, z3⟩, e3⟩
  unfold VP at hA hrA hS hrS hT hrT
  simp only [vv] at hA hrA hS hrS hT hrT
  clear h hd hl
  replace hw := fhid hw
  go_enter Tryd.func4, Tryd.ntmps4
  go_upto_region 1 with fail
  have H0 := fhid (HV.two a b c d e f w)
  generalize ((w.alloc _).alloc _) = w1 at *
  go_wp2_with (first
    | (go_at_call 19; (with_reducible refine (hA _ H0.out.bel).mono ?_); clear hA; rintro r w2 ⟨rfl, b2⟩
       have H2 := fhid ((H0.out.on b2).add x1 y1 z1))
    | (go_at_call 20; (with_reducible refine (hrA _ H2.out.bel).mono ?_); clear hrA; rintro r w3 ⟨rfl, b3⟩
       have K3 := fhid (H2.out.on b3)
       have H3 := fhid (K3.out.add x1 y1 z1)
       obtain ⟨a0, a1, a2, _, ax⟩ := (K3.out.get w.heap.size a b c (by simp)).facts
       obtain ⟨b0, b1, b2, _, bx⟩ := (K3.out.get (w.heap.size + 1) d e f (by simp)).facts)
    | (go_at_call 21; (with_reducible refine (hS _).mono ?_); clear hS; rintro r w4 ⟨rfl, b4⟩
       have K4 := fhid (H3.out.on b4)
       have H4 := fhid (K4.out.add x2 y2 z2)
       clear a0 a1 a2 ax b0 b1 b2 bx
       obtain ⟨a0, a1, a2, _, ax⟩ := (K4.out.get w.heap.size a b c (by simp)).facts
       obtain ⟨b0, b1, b2, _, bx⟩ := (K4.out.get (w.heap.size + 1) d e f (by simp)).facts)
    | (go_at_call 22; (with_reducible refine (hrS _).mono ?_); clear hrS; rintro r w5 ⟨rfl, b5⟩
       have K5 := fhid (H4.out.on b5)
       have H5 := fhid (K5.out.add x2 y2 z2)
       clear a0 a1 a2 ax b0 b1 b2 bx
       obtain ⟨a0, a1, a2, _, ax⟩ := (K5.out.get w.heap.size a b c (by simp)).facts
       obtain ⟨b0, b1, b2, _, bx⟩ := (K5.out.get (w.heap.size + 1) d e f (by simp)).facts)
    | (go_at_call 23; (with_reducible refine (hT _).mono ?_); clear hT; rintro r w6 ⟨rfl, b6⟩
       have K6 := fhid (H5.out.on b6)
       have H6 := fhid (K6.out.add x3 y3 z3)
       clear a0 a1 a2 ax b0 b1 b2 bx
       obtain ⟨a0, a1, a2, _, ax⟩ := (K6.out.get w.heap.size a b c (by simp)).facts
       obtain ⟨b0, b1, b2, _, bx⟩ := (K6.out.get (w.heap.size + 1) d e f (by simp)).facts)
    | (go_at_call 24; (with_reducible refine (hrT _).mono ?_); clear hrT; rintro r w7 ⟨rfl, b7⟩
       have K7 := fhid (H6.out.on b7)
       have H7 := fhid (K7.out.add x3 y3 z3)
       clear a0 a1 a2 ax b0 b1 b2 bx
       obtain ⟨a0, a1, a2, _, ax⟩ := (K7.out.get w2.heap.size x1 y1 z1 (by simp)).facts
       obtain ⟨b0, b1, b2, _, bx⟩ := (K7.out.get w3.heap.size x1 y1 z1 (by simp)).facts
       obtain ⟨c0, c1, c2, _, cx⟩ := (K7.out.get w4.heap.size x2 y2 z2 (by simp)).facts
       obtain ⟨d0, d1, d2, _, dx⟩ := (K7.out.get w5.heap.size x2 y2 z2 (by simp)).facts
       obtain ⟨f0, f1, f2, _, fx⟩ := (K7.out.get w6.heap.size x3 y3 z3 (by simp)).facts)
    | (go_at_call 18; (with_reducible refine (hal _ (hw.out.below H7.out.bel)).mono ?_); rintro r w8 ⟨rfl, b8⟩))
  go_ret
  exact ⟨rfl, (H7.out.on b8).bel⟩
end Go.Proofs.YtkmknogejhhajaaDoor
