/-
  All frames that begin bytes, by the reference.
-/
import Derived.Test.YtpblpkmlioojiaaFAll
import Derived.Test.YtpblpkmlioojiaaFRGet
namespace Go.Proofs.Ytpblpkmlioojiaa
open Go.RowKit

set_option maxRecDepth 100000 in
set_option maxHeartbeats 2000000 in
theorem rAll_any (A : Option Addr) (l : List UInt8) (cap : Nat) (w : World) (h : Seg w w.heap.size A l) (hc : l.length ≤ cap) (hl : l.length ≤ 12582912) :
    Calls Try.prog 19 #[.slice A l.length cap] w (GivesAll w w.heap.size l) := by
  replace h := fhid h
  go_enter Try.func19, Try.ntmps19
  go_wp2
  go_loopw [4, 5] (fun v i wr => ∃ (k : Nat) (ps : List (List UInt8)), k ≤ l.length ∧ i = .int .i64 k ∧ Rowz wr w.heap.size v ps ∧ Below w.heap.size w wr ∧ ps.length * 12 ≤ k ∧ allOf l = (ps ++ (allOf (l.drop k)).1, k + (allOf (l.drop k)).2)) (fun _ i _ => l.length - (intOf i).toNat)
  case atStart => exact ⟨0, [], Nat.zero_le _, rfl, Rowz.none_ _ _, Below.refl _ _, Nat.le_refl _, by simp⟩
  case round =>
    obtain ⟨k, ps, hk, rfl, hR, hB, hps, hall⟩ := hrel
    replace hall := fhid hall
    have hseg := (((h.out.below hB).more hB.size).drop (k := k) (cap := cap) hk hc)
    have cG := rGet_any _ (l.drop k) (cap - k) wr hseg (by rw [List.length_drop]; omega) (by rw [List.length_drop]; omega)
    have hdl : (l.drop k).length = l.length - k := List.length_drop
    rw [hdl] at cG
    have i1 : (0 : Int) ≤ k := by omega
    have i2 : (k : Int) ≤ l.length := by omega
    have i3 : (k : Int) ≤ cap := by omega
    clear hseg
    by_cases hca : cap = k
    · have hke : l.drop k = [] := by rw [List.drop_eq_nil_iff]; omega
      have E := fhid (show (allOf l).1 = ps ∧ (allOf l).2 = k by
        have := hall.out
        rw [hke] at this
        rw [this]
        exact ⟨by simp [show allOf [] = ([], 0) from rfl], by simp [show allOf [] = ([], 0) from rfl]⟩)
      rw [hke] at cG
      rw [if_pos hca] at cG
      have cG2 := cG.mono (R' := fun e w' => ∃ v, e = .returned (.tuple #[v, .int .i64 0, .int .i64 4]) ∧ Below wr.heap.size wr w') fun e w' ⟨v, he, _, hb⟩ => ⟨v, he, hb⟩
      clear cG hke hall
      subst hca
      rw [Nat.sub_self, show l.length - cap = 0 by omega] at cG2
      go_wp2_with (go_at_call 17; (with_reducible refine cG2.mono ?_); rintro e w1 ⟨v1, rfl, b1⟩)
      go_ret2
      exact ⟨_, by rw [E.out.2]; rfl, by rw [E.out.1]; exact hR.below b1, hB.trans (b1.mono hB.size)⟩
    · rw [if_neg hca] at cG
      by_cases he : getErr (l.drop k) = 0
      · have hgf := get_facts (l.drop k) he
        rw [hdl] at hgf
        have hst := allOf_step (l.drop k) he
        rw [List.drop_drop] at hst
        have E := fhid (show allOf l = ((ps ++ [getBytes (l.drop k)]) ++ (allOf (l.drop (k + getLen (l.drop k)))).1, (k + getLen (l.drop k)) + (allOf (l.drop (k + getLen (l.drop k)))).2) by
          rw [hall.out, hst]
          simp only [List.append_assoc, List.singleton_append, Nat.add_assoc])
        have hbs := hB.size
        unfold GivesGet at cG
        rw [he] at cG
        rw [show ((0 : Nat) : Int) = 0 from rfl] at cG
        clear he hst hall hdl
        generalize getLen (l.drop k) = n at *
        generalize getBytes (l.drop k) = p at *
        go_wp2_with (first
          | (go_at_call 17
             (with_reducible refine cG.mono ?_)
             rintro e w1 ⟨v1, rfl, o1, b1⟩
             have hR1 := hR.below b1
             have hB1 := hB.trans (b1.mono hbs)
             have o1' : Own w1 w.heap.size v1 p := own_mono o1 hbs
             obtain ⟨A1, c1, hv1, _, _, _⟩ := o1.shape
             subst hv1
             have hsz1 := hB1.size
             clear o1 hR)
          | (at_builtin
             refine app_rows rfl _ _ rfl w.heap.size _ _ ps p w1 rfl hR1 o1' rfl rfl (by omega) hsz1 ?_
             intro v3 w3 r3 b3))
        go_roundw
        case rel => exact ⟨k + n, ps ++ [p], by omega, by go_num, r3, hB1.trans b3, by rw [List.length_append, List.length_singleton]; omega, E.out⟩
        case measure => simp [intOf]; omega
      · have hne : ¬ ((getErr (l.drop k) : Nat) : Int) = 0 := by omega
        have E := fhid (show (allOf l).1 = ps ∧ (allOf l).2 = k by
          rw [hall.out, allOf_stop _ he]
          exact ⟨by simp, rfl⟩)
        have cG2 := cG.mono (R' := fun e w' => ∃ v, e = .returned (.tuple #[v, .int .i64 ((getLen (l.drop k) : Nat) : Int), .int .i64 ((getErr (l.drop k) : Nat) : Int)]) ∧ Below wr.heap.size wr w') fun e w' ⟨v, he, _, hb⟩ => ⟨v, he, hb⟩
        clear cG he hall
        generalize getErr (l.drop k) = ge at *
        generalize getLen (l.drop k) = n at *
        go_wp2_with (go_at_call 17; (with_reducible refine cG2.mono ?_); rintro e w1 ⟨v1, rfl, b1⟩)
        go_ret2
        exact ⟨_, by rw [E.out.2]; rfl, by rw [E.out.1]; exact hR.below b1, hB.trans (b1.mono hB.size)⟩
end Go.Proofs.Ytpblpkmlioojiaa
