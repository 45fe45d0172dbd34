/-
  DepOrder, walked: where too much came in.
-/
import Derived.Test.YthnpmndobhgekaaDoorDLOrder
namespace Go.Proofs.YthnpmndobhgekaaDoor
open Go.RowKit

set_option maxRecDepth 100000 in
set_option maxHeartbeats 4000000 in
theorem order_walk (any : Bool) (l : List Itm) (A : Option Addr) (cap : Nat) (st : List (Int × Int)) (A2 : Option Addr) (cap2 : Nat) (alone : Bool) (w : World) (hT : Tab w) (hs : Its w w.heap.size A l) (hc : l.length ≤ cap) (hcm : cap ≤ maxLen) (hm : Prs w w.heap.size A2 st) (hst : st.length ≤ maxLen) :
    Calls Tryd.prog 8 #[.agg #[.bool any, .slice A l.length cap], .slice A2 st.length cap2, .bool alone] w (BoolPost w true) := by
  by_cases hgo : muchB l = false ∧ ¬ 200 < st.length
  · exact order_go any l A cap st A2 cap2 alone w hT hs hc hcm hm hst hgo
  have hll : l.length ≤ 9223372036854775807 := by unfold maxLen at hcm; omega
  have hsl : st.length ≤ 9223372036854775807 := by unfold maxLen at hst; omega
  have hmu := fun W (hW : Below w.heap.size w W) => much_any any l A cap W ((hs.below hW).more hW.size) hll hc
  have hal := fun W (hW : Below w.heap.size w W) => alive_any W (tab_below hT hW)
  clear hs hm
  have g0 : Below w.heap.size w (w.alloc (.cells #[.bool any, .slice A l.length cap] TRDep)) := (Below.refl _ _).alloc (Nat.le_refl _) _
  have hi : DB (w.alloc (.cells #[.bool any, .slice A l.length cap] TRDep)) w.heap.size TRDep any (.slice A l.length cap) := heap_alloc_new w _
  replace hT := fhid hT
  replace hi := fhid hi
  have hmu1 := hmu _ g0
  clear hmu
  have hcs : muchB l = true ∨ (muchB l = false ∧ 200 < st.length) := by
    cases hR : muchB l with
    | true => exact .inl rfl
    | false =>
      by_cases h : 200 < st.length
      · exact .inr ⟨rfl, h⟩
      · exact absurd ⟨hR, h⟩ hgo
  clear hgo
  rcases hcs with hR | ⟨hR, h200⟩
  · rw [hR] at hmu1
    clear hR
    go_enter Tryd.func8, Tryd.ntmps8
    go_upto_region 1 with fail
    generalize w.alloc _ = w1 at *
    obtain ⟨c0, c1, _, _, hz⟩ := hi.out.facts
    go_wp2_with (first
      | (go_at_call 10; (with_reducible refine hmu1.mono ?_); rintro e w2 ⟨rfl, b2⟩
         have g2 := g0.trans (b2.mono g0.size)
         clear c0 c1
         obtain ⟨c0, c1, _, _, _⟩ := (hi.out.below b2 hz).facts)
      | (go_at_call 11; (with_reducible refine (hal _ g2).mono ?_); rintro e w3 ⟨rfl, b3⟩))
    go_ret
    exact ⟨rfl, g2.trans (b3.mono g2.size)⟩
  · rw [hR] at hmu1
    clear hR
    have i1 : (200 : Int) < st.length := by omega
    have hd : decide ((200 : Int) < st.length) = true := decide_eq_true i1
    go_enter Tryd.func8, Tryd.ntmps8
    go_upto_region 1 with fail
    generalize w.alloc _ = w1 at *
    obtain ⟨c0, c1, _, _, hz⟩ := hi.out.facts
    go_wp2_with (first
      | (go_at_call 10; (with_reducible refine hmu1.mono ?_); rintro e w2 ⟨rfl, b2⟩
         have g2 := g0.trans (b2.mono g0.size)
         clear c0 c1
         obtain ⟨c0, c1, _, _, _⟩ := (hi.out.below b2 hz).facts)
      | (go_at_call 11; (with_reducible refine (hal _ g2).mono ?_); rintro e w3 ⟨rfl, b3⟩))
    go_ret
    exact ⟨rfl, g2.trans (b3.mono g2.size)⟩
end Go.Proofs.YthnpmndobhgekaaDoor
