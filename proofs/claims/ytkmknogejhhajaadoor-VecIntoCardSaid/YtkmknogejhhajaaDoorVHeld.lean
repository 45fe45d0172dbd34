/-
  Vectors that a statement holds in boxes of its own, through calls that make memory.
-/
import Derived.Test.YtkmknogejhhajaaDoorVAlive
namespace Go.Proofs.YtkmknogejhhajaaDoor
open Go.RowKit

/-- What is held: vectors in boxes, and all that was there as it was. -/
def HV (w : World) (l : List (Nat × V3)) (W : World) : Prop := (∀ x, x ∈ l → VB W x.1 x.2.1 x.2.2.1 x.2.2.2) ∧ Below w.heap.size w W
theorem HV.bel {w W : World} {l : List (Nat × V3)} (h : HV w l W) : Below w.heap.size w W := h.2
theorem HV.on {w W W' : World} {l : List (Nat × V3)} (h : HV w l W) (hb : Below W.heap.size W W') : HV w l W' := ⟨fun x hx => (h.1 x hx).on hb, h.2.trans (hb.mono h.2.size)⟩
theorem HV.row {w W : World} {l : List (Nat × V3)} (h : HV w l W) (o : Obj) : HV w l (W.alloc o) := h.on ((Grew.refl W).alloc o).below
theorem HV.add {w W : World} {l : List (Nat × V3)} (h : HV w l W) (x y z : Int) : HV w ((W.heap.size, (x, y, z)) :: l) (W.alloc (.cells #[.int .i64 x, .int .i64 y, .int .i64 z] 23)) :=
  ⟨fun u hu => by
    rcases List.mem_cons.1 hu with rfl | hu
    · exact VB.new W x y z _ rfl
    · exact (h.row _).1 u hu, (h.row _).2⟩
/-- Behind a call that was made with one row more. -/
theorem HV.call {w W W' : World} {l : List (Nat × V3)} {o : Obj} (h : HV w l W) (hb : Below (W.alloc o).heap.size (W.alloc o) W') : HV w l W' := (h.row o).on hb
theorem HV.get {w W : World} {l : List (Nat × V3)} (h : HV w l W) (b : Nat) (x y z : Int) (hm : (b, (x, y, z)) ∈ l) : VB W b x y z := h.1 _ hm
theorem HV.two (a b c d e f : Int) (w : World) : HV w [(w.heap.size + 1, (d, e, f)), (w.heap.size, (a, b, c))] ((w.alloc (.cells #[.int .i64 a, .int .i64 b, .int .i64 c] 23)).alloc (.cells #[.int .i64 d, .int .i64 e, .int .i64 f] 23)) := by
  obtain ⟨g, h0, h1⟩ := box2V a b c d e f w
  refine ⟨fun x hx => ?_, g.below⟩
  rcases List.mem_cons.1 hx with rfl | hx
  · exact h1
  · rcases List.mem_cons.1 hx with rfl | hx
    · exact h0
    · simp at hx
theorem veq (x y z : Int) (W : World) : (binOp .eql 23 (vec x y z) (vec x y z)).run Tryd.prog W = .ok (.bool true) W := by
  rw [eql_vec, decide_eq_true (show x = x ∧ y = y ∧ z = z from ⟨rfl, rfl, rfl⟩)]
end Go.Proofs.YtkmknogejhhajaaDoor
