/-
  DepTells, walked.
-/
import Derived.Test.YthnpmndobhgekaaDoorDUniq
import Derived.Test.YthnpmndobhgekaaDoorDRFmt
import Derived.Test.YthnpmndobhgekaaDoorDFmt
import Derived.Deep.RegionHeld3
namespace Go.Proofs.YthnpmndobhgekaaDoor
open Go.RowKit

/-- What is held while the law's region runs. -/
def HZ (w w2 : World) (any : Bool) (v : Value) (W : World) : Prop := DB W w.heap.size TRDep any v ∧ Below w2.heap.size w2 W ∧ w.heap.size < w2.heap.size
theorem HZ.on {w w2 W W' : World} {any : Bool} {v : Value} (h : HZ w w2 any v W) (hb : Below W.heap.size W W') : HZ w w2 any v W' :=
  ⟨h.1.below hb (Nat.lt_of_lt_of_le h.2.2 h.2.1.size), h.2.1.trans (hb.mono h.2.1.size), h.2.2⟩
theorem HZ.cells {w w2 W : World} {any : Bool} {v : Value} (h : HZ w w2 any v W) : W.cell? ⟨w.heap.size, 0, none⟩ = some (.bool any) ∧ W.cell? ⟨w.heap.size, 1, none⟩ = some v := by
  obtain ⟨c0, c1, _⟩ := h.1.facts
  exact ⟨c0, c1⟩
set_option maxRecDepth 100000 in
set_option maxHeartbeats 8000000 in
theorem tells_walk (any : Bool) (l : List Itm) (A : Option Addr) (cap : Nat) (k s : Int) (w : World) (hT : Tab w) (hs : Its w w.heap.size A l) (hc : l.length ≤ cap) (hcm : cap ≤ maxLen) (hx : ∀ x ∈ l, ∀ n ∈ x.2, n < 9223372036854775808) :
    Calls Tryd.prog 3 #[.agg #[.bool any, .slice A l.length cap], .int .i64 k, .int .i64 s] w (BoolPost w true) := by
  have hll : l.length ≤ 9223372036854775807 := by unfold maxLen at hcm; omega
  have hmu := fun W (hW : Below w.heap.size w W) => much_any any l A cap W ((hs.below hW).more hW.size) hll hc
  have hal := fun W (hW : Below w.heap.size w W) => alive_any W (tab_below hT hW)
  have hth := fun W (hW : Below w.heap.size w W) => theirs_any any l A cap W ((hs.below hW).more hW.size)
  have hsm := fun h => @much_small l h
  have hsB := fun W (hW : Below w.heap.size w W) => (hs.below hW).more hW.size
  clear hs
  have g0 : Below w.heap.size w (w.alloc (.cells #[.bool any, .slice A l.length cap] TRDep)) := (Below.refl _ _).alloc (Nat.le_refl _) _
  have hi : DB (w.alloc (.cells #[.bool any, .slice A l.length cap] TRDep)) w.heap.size TRDep any (.slice A l.length cap) := heap_alloc_new w _
  have hTB := fun W (hW : Below w.heap.size w W) => tab_below hT hW
  clear hT
  replace hi := fhid hi
  have hmu1 := hmu _ g0
  clear hmu
  cases hR : muchB l with
  | true =>
    rw [hR] at hmu1
    clear hR
    go_enter Tryd.func3, Tryd.ntmps3
    go_upto_region 1 with fail
    generalize w.alloc _ = w1 at *
    obtain ⟨c0, c1, _, _, hz⟩ := hi.out.facts
    go_wp2_with (first
      | (go_at_call 10; (with_reducible refine hmu1.mono ?_); rintro e w2 ⟨rfl, b2⟩
         have g2 := g0.trans (b2.mono g0.size))
      | (go_at_call 11; (with_reducible refine (hal _ g2).mono ?_); rintro e w3 ⟨rfl, b3⟩))
    go_ret
    exact ⟨rfl, g2.trans (b3.mono g2.size)⟩
  | false =>
    obtain ⟨s1, s2⟩ := hsm hR
    rw [hR] at hmu1
    clear hR
    have hx3 : ∀ x ∈ l, x.2.length ≤ 1000 := fun x hx => by have := s2 x hx; omega
    have hx4 : ∀ x ∈ l, x.2.length ≤ 1000 ∧ ∀ n ∈ x.2, n < 9223372036854775808 := fun x h => ⟨hx3 x h, hx x h⟩
    have hRl : (insAll (l.flatMap fun x => x.2)).length ≤ 10000000 := by
      have h1 := insAll_len (l.flatMap fun x => x.2)
      have h2 := flat_len l hx3
      have h3 : 1000 * l.length ≤ 1000 * 1000 := Nat.mul_le_mul_left _ (by omega)
      omega
    have hth' := fun W (hW : Below w.heap.size w W) => hth W hW (by omega)
    have hfm := fun A' c W (hW : Below w.heap.size w W) h => Format_any any l A' c W (hTB W hW) h (by omega) hx4
    have hrf := fun W (hW : Below w.heap.size w W) => rFormat_any any l A cap W (hsB W hW) (by omega) hx4
    have hjb := fun A' c W h => Jobs_any any l A' c W h (by omega) hx3
    have hrj := fun W (hW : Below w.heap.size w W) => rJobs_any any l A cap W (hsB W hW) (by omega) hx3
    have hue : uq l = insAll (l.flatMap fun x => x.2) := uq_ins _
    rw [hue] at hjb
    clear hth hsm hsB hTB hx hx3 hx4 s2 hue
    generalize insAll (l.flatMap fun x => x.2) = R at *
    generalize depT any l = D at *
    have hin := fun A1 A2 c c2 W h1 h2 => ints_same R A1 A2 c c2 W h1 h2 hRl
    have hen := fun W => Ended_any s W
    have hre := fun W => rEnded_any s W
    have hon := fun W => One_any k s W
    have hro := fun W => rOne_any k s W
    clear hRl
    generalize ended s = B1 at *
    generalize oneP k s = B2 at *
    go_enter Tryd.func3, Tryd.ntmps3
    go_upto_region 1 with fail
    generalize w.alloc _ = w1 at *
    obtain ⟨c0, c1, _, _, hz⟩ := hi.out.facts
    go_upto_region 3 with (go_at_call 10; (with_reducible refine hmu1.mono ?_); rintro e w2 ⟨rfl, b2⟩)
    have g2 := g0.trans (b2.mono g0.size)
    have hz2 : w.heap.size < w2.heap.size := by have := b2.size; omega
    have z : HZ w w2 any (.slice A l.length cap) w2.drew := ⟨hi.out.below b2.drew hz, (Below.refl _ _).drew, hz2⟩
    have gz : ∀ W, HZ w w2 any (.slice A l.length cap) W → Below w.heap.size w W := fun W h => g2.trans (h.2.1.mono g2.size)
    clear c0 c1 hmu1 hi b2 hz
    go_region_held3 (fun w' => w'.cell? ⟨w.heap.size, 0, none⟩ = some (.bool any) ∧ w'.cell? ⟨w.heap.size, 1, none⟩ = some (.slice A l.length cap)) (first | exact z.cells | fail)
      (first
        | (go_at_call 13
           (with_reducible refine (hth' _ (gz _ z)).mono ?_)
           rintro e u1 ⟨v1, rfl, o1, b1⟩
           obtain ⟨A1, q1, rfl, _, _, t1⟩ := o1.shape
           have z := HZ.on z b1)
        | (go_at_call 12
           (with_reducible refine (hfm A1 q1 _ (gz _ z) t1).mono ?_)
           rintro e u2 ⟨rfl, b1⟩
           have z := HZ.on z b1)
        | (go_at_call 14
           (with_reducible refine (hrf _ (gz _ z)).mono ?_)
           rintro e u3 ⟨rfl, b1⟩
           have z := HZ.on z b1)
        | (go_at_call 16
           (with_reducible refine (hjb A1 q1 _ t1).mono ?_)
           rintro e u4 ⟨v2, rfl, o2, b1⟩
           obtain ⟨A3, q3, rfl, _, _, n1⟩ := o2.shape
           have z := HZ.on z b1)
        | (go_at_call 17
           (with_reducible refine (hrj _ (gz _ z)).mono ?_)
           rintro e u5 ⟨v3, rfl, o3, b1⟩
           obtain ⟨A4, q4, rfl, _, _, n2⟩ := o3.shape
           have n1 := (SegC.below n1 b1).more b1.size
           have z := HZ.on z b1)
        | (go_at_call 15
           (with_reducible refine (hin A3 A4 q3 q4 _ n1 n2).mono ?_)
           rintro e u6 ⟨rfl, b1⟩
           have z := HZ.on z b1)
        | (go_at_call 18; (with_reducible refine (hen _).mono ?_); rintro e u7 ⟨rfl, rfl⟩)
        | (go_at_call 19; (with_reducible refine (hre _).mono ?_); rintro e u8 ⟨rfl, rfl⟩)
        | (go_at_call 20; (with_reducible refine (hon _).mono ?_); rintro e u9 ⟨rfl, rfl⟩)
        | (go_at_call 21; (with_reducible refine (hro _).mono ?_); rintro e u10 ⟨rfl, rfl⟩)
        | (go_at_call 11
           (with_reducible refine (hal _ (gz _ z)).mono ?_)
           rintro e u11 ⟨rfl, b1⟩
           have z := HZ.on z b1))
    go_wp2
    go_ret
    exact ⟨rfl, gz _ z⟩
end Go.Proofs.YthnpmndobhgekaaDoor
