/-
  FrameGets's walk: the frame that begins any bytes, and all frames of any, are the document's, or refused.
-/
import Derived.Test.YtpblpkmlioojiaaFAlive
import Derived.Test.YtpblpkmlioojiaaFRAll
import Derived.Test.YtpblpkmlioojiaaFLists
import Derived.Test.YtpblpkmlioojiaaFLPuts
namespace Go.Proofs.Ytpblpkmlioojiaa
open Go.RowKit

theorem Lists_same (A Bo : Option Addr) (ps : List (List UInt8)) (ca cb B : Nat) (w : World) (ha : SegRows w B A ps) (hb : SegRows w B Bo ps) (hmax : ps.length ≤ 140737488355328) :
    Calls Try.prog 20 #[.slice A ps.length ca, .slice Bo ps.length cb] w fun e w' => e = .returned (.bool true) ∧ ∃ n, w' = w.drewN n := by
  have := Lists_any A Bo ps ps ca cb B w ha hb rfl hmax
  rw [decide_eq_true (rfl : ps = ps)] at this
  exact this
theorem allOf_count (l : List UInt8) : (allOf l).1.length * 12 ≤ l.length := by
  suffices h : ∀ (n : Nat) (l : List UInt8), l.length ≤ n → (allOf l).1.length * 12 ≤ l.length from h _ l (Nat.le_refl _)
  intro n
  induction n with
  | zero =>
    intro l hl
    have : l = [] := List.eq_nil_of_length_eq_zero (by omega)
    subst this
    decide
  | succ n ih =>
    intro l hl
    by_cases h : getErr l = 0
    · have hf := get_facts l h
      have := ih (l.drop (getLen l)) (by rw [List.length_drop]; omega)
      rw [List.length_drop] at this
      rw [allOf_step l h, List.length_cons]
      omega
    · rw [allOf_stop l h]
      simp
set_option maxRecDepth 100000 in
set_option maxHeartbeats 2000000 in
theorem gets_walk (A : Option Addr) (l : List UInt8) (cap : Nat) (w : World) (h : Seg w w.heap.size A l) (hc : l.length ≤ cap) (hl : l.length ≤ 12582912) :
    Calls Try.prog 5 #[.slice A l.length cap] w fun e w' => e = .returned (.bool true) ∧ Below w.heap.size w w' := by
  have c1 := Get_any A l cap w h hc (by omega)
  have c2 := fun w1 (hb : Below w.heap.size w w1) => rGet_any A l cap w1 ((h.below hb).more hb.size) hc (by omega)
  have c3 := fun w1 (hb : Below w.heap.size w w1) => All_any A l cap w1 ((h.below hb).more hb.size) hc hl
  have c4 := fun w1 (hb : Below w.heap.size w w1) => rAll_any A l cap w1 ((h.below hb).more hb.size) hc hl
  have hcn := allOf_count l
  unfold GivesGet at c1 c2
  unfold GivesAll at c3 c4
  generalize getLen l = n at *
  generalize getErr l = ge at *
  generalize getBytes l = p at *
  generalize (allOf l).2 = k at *
  generalize (allOf l).1 = ps at *
  clear h
  go_enter Try.func5, Try.ntmps5
  go_wp2_with (first
    | (go_at_call 16
       (with_reducible refine c1.mono ?_)
       rintro e w1 ⟨v1, rfl, o1, b1⟩
       obtain ⟨A1, k1, hv1, _, _, s1⟩ := o1.shape
       subst hv1
       clear o1)
    | (go_at_call 17
       (with_reducible refine (c2 w1 b1).mono ?_)
       rintro e w2 ⟨v2, rfl, o2, b2⟩
       obtain ⟨A2, k2, hv2, _, _, s2⟩ := o2.shape
       subst hv2
       have x2 := b1.trans (b2.mono b1.size)
       have t1 := s1.below b2
       clear o2)
    | (go_at_call 18
       (with_reducible refine (c3 w2 x2).mono ?_)
       rintro e w3 ⟨v3, rfl, o3, b3⟩
       obtain ⟨A3, k3, hv3, _, s3⟩ := o3.shape
       subst hv3
       have x3 := x2.trans (b3.mono x2.size)
       have t2 := ((t1.more b2.size).below b3)
       have t3 := s2.below b3
       clear o3)
    | (go_at_call 19
       (with_reducible refine (c4 w3 x3).mono ?_)
       rintro e w4 ⟨v4, rfl, o4, b4⟩
       obtain ⟨A4, k4, hv4, _, s4⟩ := o4.shape
       subst hv4
       have x4 := x3.trans (b4.mono x3.size)
       have t4 := (t2.more b3.size).below b4
       have t5 := (t3.more b3.size).below b4
       have t6 := (s3.below b4).more b4.size
       clear o4)
    | (go_at_call 15; (with_reducible refine (Same_same A1 A2 p _ _ _ _ w4 t4 t5).mono ?_); rintro e w5 ⟨rfl, rfl⟩)
    | (go_at_call 20; (with_reducible refine (Lists_same A3 A4 ps _ _ _ w4 t6 s4 (by omega)).mono ?_); rintro e w5 ⟨rfl, q, rfl⟩)
    | (go_at_call 12; refine (alive_any _).mono ?_; rintro e w6 ⟨rfl, b6⟩))
  go_ret
  exact ⟨rfl, (below_drewN x4 q).trans (b6.mono (below_drewN x4 q).size)⟩
end Go.Proofs.Ytpblpkmlioojiaa
