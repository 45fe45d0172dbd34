/-
  DepAsks, walked.
-/
import Derived.Test.YthnpmndobhgekaaDoorDAlive
import Derived.Test.YthnpmndobhgekaaDoorDRAsk
import Derived.BigRegion
import Derived.Deep.DeepCutAuto
namespace Go.Proofs.YthnpmndobhgekaaDoor
open Go.RowKit

set_option maxRecDepth 100000 in
set_option maxHeartbeats 8000000 in
theorem asks_walk (any : Bool) (l : List Itm) (A : Option Addr) (cap : Nat) (st : List (Int × Int)) (A2 : Option Addr) (cap2 : Nat) (alone : Bool) (w : World) (hT : Tab w) (hs : Its w w.heap.size A l) (hc : l.length ≤ cap) (hcm : cap ≤ maxLen) (hm : Prs w w.heap.size A2 st) (hst : st.length ≤ maxLen) :
    Calls Tryd.prog 4 #[.agg #[.bool any, .slice A l.length cap], .slice A2 st.length cap2, .bool alone] w (BoolPost w true) := by
  have hll : l.length ≤ 9223372036854775807 := by unfold maxLen at hcm; omega
  have hsl : st.length ≤ 9223372036854775807 := by unfold maxLen at hst; omega
  have hmu := fun W (hW : Below w.heap.size w W) => much_any any l A cap W ((hs.below hW).more hW.size) hll hc
  have hal := fun W (hW : Below w.heap.size w W) => alive_any W (tab_below hT hW)
  have hth := fun W (hW : Below w.heap.size w W) => theirs_any any l A cap W ((hs.below hW).more hW.size)
  have hsta := fun W (hW : Below w.heap.size w W) => states_any st A2 cap2 W ((SegC.below hm hW).more hW.size)
  have hra := fun W (hW : Below w.heap.size w W) => rAsk_any any l A cap st A2 cap2 alone W ((hs.below hW).more hW.size)
  have hrm := fun W (hW : Below w.heap.size w W) => (SegC.below hm hW).more hW.size
  have hsm := fun h => @much_small l h
  clear hs hm
  have g0 : Below w.heap.size w (w.alloc (.cells #[.bool any, .slice A l.length cap] TRDep)) := (Below.refl _ _).alloc (Nat.le_refl _) _
  have hi : DB (w.alloc (.cells #[.bool any, .slice A l.length cap] TRDep)) w.heap.size TRDep any (.slice A l.length cap) := heap_alloc_new w _
  replace hT := fhid hT
  replace hi := fhid hi
  have hmu1 := hmu _ g0
  cases hR : muchB l with
  | true =>
    rw [hR] at hmu1
    clear hR
    go_enter Tryd.func4, Tryd.ntmps4
    go_upto_region 1 with fail
    generalize w.alloc _ = w1 at *
    obtain ⟨c0, c1, _, _, hz⟩ := hi.out.facts
    go_wp2_with (first
      | (go_at_call 10; (with_reducible refine hmu1.mono ?_); rintro e w2 ⟨rfl, b2⟩
         have g2 := g0.trans (b2.mono g0.size))
      | (go_at_call 11; (with_reducible refine (hal _ g2).mono ?_); rintro e w3 ⟨rfl, b3⟩))
    go_ret
    exact ⟨rfl, g2.trans (b3.mono g2.size)⟩
  | false =>
    obtain ⟨s1, s2⟩ := hsm hR
    rw [hR] at hmu1
    clear hR
    by_cases h200 : 200 < st.length
    · have i1 : (200 : Int) < st.length := by omega
      go_enter Tryd.func4, Tryd.ntmps4
      go_upto_region 1 with fail
      generalize w.alloc _ = w1 at *
      obtain ⟨c0, c1, _, _, hz⟩ := hi.out.facts
      go_wp2_with (first
        | (go_at_call 10; (with_reducible refine hmu1.mono ?_); rintro e w2 ⟨rfl, b2⟩
           have g2 := g0.trans (b2.mono g0.size))
        | (go_at_call 11; (with_reducible refine (hal _ g2).mono ?_); rintro e w3 ⟨rfl, b3⟩))
      go_ret
      exact ⟨rfl, g2.trans (b3.mono g2.size)⟩
    · have i1 : ¬ (200 : Int) < st.length := by omega
      have hx3 : ∀ x ∈ l, x.2.length ≤ 1000 := fun x hx => by have := s2 x hx; omega
      have hx4 : ∀ x ∈ l, x.2.length ≤ 1048576 := fun x hx => by have := s2 x hx; omega
      have hra' := fun W (hW : Below w.heap.size w W) => hra W hW (by omega) hx4 (hrm W hW) (by omega)
      have hth' := fun W (hW : Below w.heap.size w W) => hth W hW (by omega)
      have hst' := fun W (hW : Below w.heap.size w W) => hsta W hW (by omega)
      have hask := fun A' c b W (h : Its W W.heap.size A' l) hm' => Ask_any any l A' c b (stP st) alone W h (by omega) hx4 hm'
      rw [stOf_stP] at hask
      clear hra hth hsta hrm hmu hsm s2
      generalize askP any l (stOf st) alone = K at *
      go_enter Tryd.func4, Tryd.ntmps4
      go_upto_region 1 with fail
      generalize w.alloc _ = w1 at *
      obtain ⟨c0, c1, _, _, hz⟩ := hi.out.facts
      go_upto_region 3 with (go_at_call 10; (with_reducible refine hmu1.mono ?_); rintro e w2 ⟨rfl, b2⟩)
      have g2 := g0.trans (b2.mono g0.size)
      have hi2 := fhid (hi.out.below b2 hz)
      have hz2 : w.heap.size < w2.heap.size := by have := b2.size; omega
      have zz : Below w2.heap.size w2 w2.drew := (Below.refl _ _).drew
      clear c0 c1
      obtain ⟨c0, c1, _, _, _⟩ := (hi2.out.below zz hz2).facts
      go_region_with (first
        | (go_at_call 13
           (with_reducible refine (hth' _ (g2.trans (zz.mono g2.size))).mono ?_)
           rintro e u1 ⟨v1, rfl, o1, b1⟩
           obtain ⟨A1, q1, rfl, _, _, t1⟩ := o1.shape
           (try (have m1 := m1.below b1 m1.lt))
           have zz := zz.trans (b1.mono zz.size)
           obtain ⟨c0, c1, _, _, _⟩ := (hi2.out.below zz hz2).facts)
        | (go_at_call 23
           (with_reducible refine (hst' _ (g2.trans (zz.mono g2.size))).mono ?_)
           rintro e u2 ⟨k1, rfl, _, m1, b1⟩
           (try (have t1 := (t1.below b1).more b1.size))
           have zz := zz.trans (b1.mono zz.size)
           obtain ⟨c0, c1, _, _, _⟩ := (hi2.out.below zz hz2).facts)
        | (go_at_call 22
           (with_reducible refine (hask _ _ _ _ t1 m1).mono ?_)
           rintro e u3 ⟨rfl, b1⟩
           have zz := zz.trans (b1.mono zz.size)
           obtain ⟨c0, c1, _, _, _⟩ := (hi2.out.below zz hz2).facts)
        | (go_at_call 24
           (with_reducible refine (hra' _ (g2.trans (zz.mono g2.size))).mono ?_)
           rintro e u4 ⟨rfl, b1⟩
           (try (have m1 := m1.below b1 m1.lt))
           (try (have t1 := (t1.below b1).more b1.size))
           have zz := zz.trans (b1.mono zz.size)
           obtain ⟨c0, c1, _, _, _⟩ := (hi2.out.below zz hz2).facts)
        | (go_at_call 11
           (with_reducible refine (hal _ (g2.trans (zz.mono g2.size))).mono ?_)
           rintro e u5 ⟨rfl, b1⟩
           have zz := zz.trans (b1.mono zz.size)))
      all_goals
        go_wp2_with fail
        go_ret
        exact ⟨rfl, g2.trans (zz.mono g2.size)⟩
end Go.Proofs.YthnpmndobhgekaaDoor
