/-
  FrameBack's walk: what is put is got.
-/
import Derived.Test.YtpblpkmlioojiaaFLGets
import Derived.Test.YtpblpkmlioojiaaFLay
namespace Go.Proofs.Ytpblpkmlioojiaa
open Go.RowKit

set_option maxRecDepth 100000 in
set_option maxHeartbeats 2000000 in
theorem back_walk (A : Option Addr) (ps : List (List UInt8)) (cap : Nat) (w : World) (h : SegRows w w.heap.size A ps) (hl : (laid ps).length ≤ 12582912) (hm : ps.length ≤ 1048576) :
    Calls Try.prog 6 #[.slice A ps.length cap] w fun e w' => e = .returned (.bool true) ∧ Below w.heap.size w w' := by
  have cL := lay_some A ps cap w h hl hm
  by_cases hf : Fit ps
  · have c1 := cL.mono (R' := Gives w w.heap.size (fun v => .tuple #[v, .bool true]) (laid ps)) fun e w' hg => hg.1 hf
    have hao := allOf_back ps hf
    have c2 := fun A1 cap1 w1 (hs : Seg w1 w1.heap.size A1 (laid ps)) (hc : (laid ps).length ≤ cap1) => All_any A1 (laid ps) cap1 w1 hs hc hl
    unfold GivesAll at c2
    rw [hao] at c2
    have h' := fhid h
    clear cL hao h
    generalize laid ps = l at *
    go_enter Try.func6, Try.ntmps6
    go_wp2_with (first
      | (go_at_call 21
         (with_reducible refine c1.mono ?_)
         rintro e w1 ⟨v1, rfl, o1, b1⟩
         obtain ⟨A1, k1, hv1, hle, _, s1⟩ := o1.shape
         subst hv1
         clear o1)
      | (go_at_call 18
         (with_reducible refine (c2 A1 k1 w1 s1 hle).mono ?_)
         rintro e w3 ⟨v3, rfl, o3, b3⟩
         obtain ⟨A3, k3, hv3, _, s3⟩ := o3.shape
         subst hv3
         have x3 := b1.trans (b3.mono b1.size)
         have t3 := (h'.out.below x3).more x3.size
         clear o3)
      | (go_at_call 20; (with_reducible refine (Lists_same A3 A ps _ _ _ w3 s3 t3 (by omega)).mono ?_); rintro e w5 ⟨rfl, q, rfl⟩)
      | (go_at_call 12; refine (alive_any _).mono ?_; rintro e w6 ⟨rfl, b6⟩))
    go_ret
    exact ⟨rfl, (below_drewN x3 q).trans (b6.mono (below_drewN x3 q).size)⟩
  · have c1 := cL.mono (R' := fun e w' => e = .returned (.tuple #[.slice none 0 0, .bool false]) ∧ Below w.heap.size w w') fun e w' hg => hg.2 hf
    clear cL hf h
    go_enter Try.func6, Try.ntmps6
    go_wp2_with (first
      | (go_at_call 21; (with_reducible refine c1.mono ?_); rintro e w1 ⟨rfl, b1⟩)
      | (go_at_call 12; refine (alive_any _).mono ?_; rintro e w6 ⟨rfl, b6⟩))
    go_ret
    exact ⟨rfl, b1.trans (b6.mono b1.size)⟩
end Go.Proofs.Ytpblpkmlioojiaa
