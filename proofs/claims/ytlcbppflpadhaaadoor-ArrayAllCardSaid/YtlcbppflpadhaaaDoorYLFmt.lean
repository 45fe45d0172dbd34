/-
  ArrayFormats, walked.
-/
import Derived.Test.YtlcbppflpadhaaaDoorYRFmt
import Derived.Deep.RegionHeld3
namespace Go.Proofs.YtlcbppflpadhaaaDoor
open Go.RowKit

/-- What is held while the law's region runs: the array that came in, boxed; worlds that grow. -/
def HZ (w w2 : World) (v : Value) (n : Int) (W : World) : Prop := AB W w.heap.size TRAr v n ∧ Below w2.heap.size w2 W ∧ w.heap.size < w2.heap.size
theorem HZ.on {w w2 W W' : World} {v : Value} {n : Int} (h : HZ w w2 v n W) (hb : Below W.heap.size W W') : HZ w w2 v n W' :=
  ⟨h.1.below hb (Nat.lt_of_lt_of_le h.2.2 h.2.1.size), h.2.1.trans (hb.mono h.2.1.size), h.2.2⟩
theorem HZ.cells {w w2 W : World} {v : Value} {n : Int} (h : HZ w w2 v n W) : W.cell? ⟨w.heap.size, 0, none⟩ = some v ∧ W.cell? ⟨w.heap.size, 1, none⟩ = some (.int .i64 n) := by
  obtain ⟨c0, c1, _⟩ := h.1.facts
  exact ⟨c0, c1⟩
set_option maxRecDepth 100000 in
set_option maxHeartbeats 8000000 in
theorem formats_walk (l : List Int) (A : Option Addr) (cap : Nat) (lim : Int) (w : World) (hT : Tab w) (hs : Ints w w.heap.size A l) (hc : l.length ≤ cap) :
    Calls Tryd.prog 3 #[.agg #[.slice A l.length cap, .int .i64 lim]] w (BoolPost w true) := by
  have hal := fun W (hW : Below w.heap.size w W) => alive_any W (tab_below hT hW)
  have hsB := fun W (hW : Below w.heap.size w W) => (hs.below hW).more hW.size
  have hth := fun W => theirs_any A l.length cap lim W
  unfold ArrV at hth
  have hfm := fun W (hW : Below w.heap.size w W) => Format_any l A cap lim W (tab_below hT hW) (hsB W hW) hc
  have hrf := fun W (hW : Below w.heap.size w W) => rFormat_any l A cap lim W (hsB W hW)
  have hri := fun W (hW : Below w.heap.size w W) => Right_any l A cap lim W (hsB W hW)
  have hrr := fun W (hW : Below w.heap.size w W) => rRight_any l A cap lim W (hsB W hW)
  unfold FmtPost at hfm hrf
  have b0 : Below w.heap.size w (w.alloc (.cells #[.slice A l.length cap, .int .i64 lim] TRAr)) := (Below.refl _ _).alloc (Nat.le_refl _) _
  have p0 : AB (w.alloc (.cells #[.slice A l.length cap, .int .i64 lim] TRAr)) w.heap.size TRAr (.slice A l.length cap) lim := heap_alloc_new w _
  obtain ⟨S, E, hSE⟩ : ∃ (S : ByteArray) (E : Int), (if right l lim = true then Value.tuple #[.string (str (fmtT l lim)), .int .i64 0] else .tuple #[.string ⟨#[]⟩, .int .i64 3]) = .tuple #[.string S, .int .i64 E] := by
    by_cases h : right l lim = true
    · exact ⟨_, _, if_pos h⟩
    · exact ⟨_, _, if_neg h⟩
  rw [hSE] at hfm hrf
  clear hSE hs
  replace hT := fhid hT
  have e1 : (S.toList == S.toList) = true := by simp
  have e2 : (E == E) = true := by simp
  generalize right l lim = r at *
  have e3 : (r == r) = true := by simp
  go_enter Tryd.func3, Tryd.ntmps3
  go_upto_region 1 with fail
  generalize w.alloc _ = w1 at *
  obtain ⟨c0, c1, _, _, z1⟩ := p0.facts
  replace p0 := fhid p0
  go_upto_region 3 with (first
    | (go_at_call 9; (with_reducible refine (hth _).mono ?_); rintro e w2 ⟨rfl, b2⟩
       have g2 := b0.trans (b2.mono b0.size))
    | (go_at_call 8; (with_reducible refine (hfm _ g2).mono ?_); rintro e w3 ⟨rfl, b3⟩
       have b13 := b2.trans (b3.mono b2.size)
       have g3 := b0.trans (b13.mono b0.size)
       clear c0 c1
       obtain ⟨c0, c1, _, _, _⟩ := (p0.out.below b13 z1).facts)
    | (go_at_call 10; (with_reducible refine (hrf _ g3).mono ?_); rintro e w4 ⟨rfl, b4⟩))
  have b14 := b13.trans (b4.mono b13.size)
  have g4 := b0.trans (b14.mono b0.size)
  have p4 := p0.out.below b14 z1
  clear c0 c1 hfm hrf
  obtain ⟨c0, c1, _, _, z4⟩ := p4.facts
  have z : HZ w w4 (.slice A l.length cap) lim w4.drew := ⟨p4, (Below.refl _ _).drew, z4⟩
  have gz : ∀ W, HZ w w4 (.slice A l.length cap) lim W → Below w.heap.size w W := fun W h => g4.trans (h.2.1.mono g4.size)
  clear p4 b14 b13 b4 b2 b3 g2 g3
  go_region_held3 (fun w' => w'.cell? ⟨w.heap.size, 0, none⟩ = some (.slice A l.length cap) ∧ w'.cell? ⟨w.heap.size, 1, none⟩ = some (.int .i64 lim)) (first | exact z.cells | fail)
    (first
      | (go_at_call 9
         (with_reducible refine (hth _).mono ?_)
         rintro e u1 ⟨rfl, b1⟩
         have z := HZ.on z b1)
      | (go_at_call 11
         (with_reducible refine (hri _ (gz _ z)).mono ?_)
         rintro e u2 ⟨rfl, b1⟩
         have z := HZ.on z b1)
      | (go_at_call 12
         (with_reducible refine (hrr _ (gz _ z)).mono ?_)
         rintro e u3 ⟨rfl, b1⟩
         have z := HZ.on z b1)
      | (go_at_call 13
         (with_reducible refine (hal _ (gz _ z)).mono ?_)
         rintro e u4 ⟨rfl, b1⟩
         have z := HZ.on z b1))
  go_wp2
  go_ret
  exact ⟨rfl, gz _ z⟩
end Go.Proofs.YtlcbppflpadhaaaDoor
