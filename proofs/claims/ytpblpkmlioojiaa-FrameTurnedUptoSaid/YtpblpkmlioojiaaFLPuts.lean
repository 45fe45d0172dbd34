/-
  FramePuts's walk: any bytes, in a frame behind any others, are the document's, or refused.
-/
import Derived.Test.YtpblpkmlioojiaaFAlive
import Derived.Test.YtpblpkmlioojiaaFRPut
namespace Go.Proofs.Ytpblpkmlioojiaa
open Go.RowKit

theorem Same_same (A Bo : Option Addr) (l : List UInt8) (ca cb BA BB : Nat) (w : World) (hl : Seg w BA A l) (hm : Seg w BB Bo l) :
    Calls Try.prog 15 #[.slice A l.length ca, .slice Bo l.length cb] w fun e w' => e = .returned (.bool true) ∧ w = w' := by
  have := Same_any A Bo l l ca cb BA BB w hl hm
  rw [decide_eq_true (rfl : l = l)] at this
  exact this
set_option maxRecDepth 100000 in
set_option maxHeartbeats 1000000 in
theorem puts_many (A Bo : Option Addr) (n m ca cb : Nat) (w : World) (hm : 65536 < m) :
    Calls Try.prog 4 #[.slice A n ca, .slice Bo m cb] w fun e w' => e = .returned (.bool true) ∧ Below w.heap.size w w' := by
  have c1 := Put_many A Bo n m ca cb w hm
  have c2 := rPut_many A Bo n m ca cb w hm
  have c3 := Same_same none none [] 0 0 0 0 w (Seg.nil _ _ _) (Seg.nil _ _ _)
  rw [List.length_nil] at c3
  go_enter Try.func4, Try.ntmps4
  go_wp2_with (first
    | (go_at_call 13; with_reducible refine c1.mono ?_; rintro e w1 ⟨rfl, rfl⟩)
    | (go_at_call 14; with_reducible refine c2.mono ?_; rintro e w1 ⟨rfl, rfl⟩)
    | (go_at_call 15; with_reducible refine c3.mono ?_; rintro e w1 ⟨rfl, rfl⟩)
    | (go_at_call 12; refine (alive_any _).mono ?_; rintro e w2 ⟨rfl, b2⟩))
  go_ret
  exact ⟨rfl, b2⟩
set_option maxRecDepth 100000 in
set_option maxHeartbeats 1000000 in
theorem puts_walk (A Bo : Option Addr) (l m : List UInt8) (ca cb : Nat) (w : World) (hl : Seg w w.heap.size A l) (hm : Seg w w.heap.size Bo m) (hm1 : m.length ≤ 65536)
    (hlen : l.length + 65560 ≤ 140737488355328) (hcb : m.length ≤ cb) :
    Calls Try.prog 4 #[.slice A l.length ca, .slice Bo m.length cb] w fun e w' => e = .returned (.bool true) ∧ Below w.heap.size w w' := by
  have c1 := Put_any A Bo l m ca cb w hl hm hm1 hlen hcb
  have c2 := fun w1 (hb : Below w.heap.size w w1) => rPut_any A Bo l m ca cb w1 ((hl.below hb).more hb.size) ((hm.below hb).more hb.size) hm1 hlen
  generalize l ++ frame m = r at *
  clear hl hm
  go_enter Try.func4, Try.ntmps4
  go_wp2_with (first
    | (go_at_call 13
       with_reducible refine c1.mono ?_
       rintro e w1 ⟨v1, rfl, o1, b1⟩
       obtain ⟨A1, c1', hv1, _, _, s1⟩ := o1.shape
       subst hv1)
    | (go_at_call 14
       with_reducible refine (c2 w1 b1).mono ?_
       rintro e w2 ⟨v2, rfl, o2, b2⟩
       obtain ⟨A2, c2', hv2, _, _, s2⟩ := o2.shape
       subst hv2
       have x2 := b1.trans (b2.mono b1.size))
    | (go_at_call 15; with_reducible refine (Same_same A1 A2 r _ _ _ _ w2 (s1.below b2) s2).mono ?_; rintro e w3 ⟨rfl, rfl⟩)
    | (go_at_call 12; refine (alive_any _).mono ?_; rintro e w3 ⟨rfl, b3⟩))
  go_ret
  exact ⟨rfl, x2.trans (b3.mono x2.size)⟩
end Go.Proofs.Ytpblpkmlioojiaa
