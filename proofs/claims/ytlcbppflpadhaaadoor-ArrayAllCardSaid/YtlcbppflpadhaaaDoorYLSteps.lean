/-
  ArraySteps, walked.
-/
import Derived.Test.YtlcbppflpadhaaaDoorYMap
namespace Go.Proofs.YtlcbppflpadhaaaDoor
open Go.RowKit

/-- What is held while the law's region runs: the array that came in, boxed; a map; worlds that grow. -/
def HM (w w2 : World) (v : Value) (n : Int) (b : Nat) (l : List Int) (W : World) : Prop := AB W w.heap.size TRAr v n ∧ BMap W b l ∧ Below w2.heap.size w2 W ∧ w.heap.size < w2.heap.size ∧ b < w2.heap.size
theorem HM.on {w w2 W W' : World} {v : Value} {n : Int} {b : Nat} {l : List Int} (h : HM w w2 v n b l W) (hb : Below W.heap.size W W') : HM w w2 v n b l W' :=
  ⟨h.1.below hb (Nat.lt_of_lt_of_le h.2.2.2.1 h.2.2.1.size), h.2.1.below hb (Nat.lt_of_lt_of_le h.2.2.2.2 h.2.2.1.size), h.2.2.1.trans (hb.mono h.2.2.1.size), h.2.2.2⟩
theorem HM.cells {w w2 W : World} {v : Value} {n : Int} {b : Nat} {l : List Int} (h : HM w w2 v n b l W) : W.cell? ⟨w.heap.size, 0, none⟩ = some v ∧ W.cell? ⟨w.heap.size, 1, none⟩ = some (.int .i64 n) := by
  obtain ⟨c0, c1, _⟩ := h.1.facts
  exact ⟨c0, c1⟩
theorem HM.map {w w2 W : World} {v : Value} {n : Int} {b : Nat} {l : List Int} (h : HM w w2 v n b l W) : BMap W b l := h.2.1
theorem stepP_len (l : List Int) (lim running : Int) (done : List Int) : (stepP l lim running done).length ≤ 256 := by
  unfold stepP
  split
  · rename_i h
    have hR : RightP l lim := of_decide_eq_true h.1
    have h1 := List.length_filter_le (open_ done) l
    rw [List.length_take]
    have := hR.1.2
    omega
  · simp
set_option maxRecDepth 100000 in
set_option maxHeartbeats 8000000 in
theorem steps_walk (l : List Int) (A : Option Addr) (cap : Nat) (lim running : Int) (done : List Int) (A2 : Option Addr) (cap2 : Nat) (w : World) (hT : Tab w) (hs : Ints w w.heap.size A l) (hd : Ints w w.heap.size A2 done) (hrun : running ≤ 9223372036854775807) :
    Calls Tryd.prog 4 #[.agg #[.slice A l.length cap, .int .i64 lim], .int .i64 running, .slice A2 done.length cap2] w (BoolPost w true) := by
  have hal := fun W (hW : Below w.heap.size w W) => alive_any W (tab_below hT hW)
  have b0 : Below w.heap.size w (w.alloc (.cells #[.slice A l.length cap, .int .i64 lim] TRAr)) := (Below.refl _ _).alloc (Nat.le_refl _) _
  have p0 : AB (w.alloc (.cells #[.slice A l.length cap, .int .i64 lim] TRAr)) w.heap.size TRAr (.slice A l.length cap) lim := heap_alloc_new w _
  have zz := World.size_alloc w (.cells #[.slice A l.length cap, .int .i64 lim] TRAr)
  replace hT := fhid hT
  by_cases hbig : 400 < done.length
  · have i1 : (400 : Int) < done.length := by omega
    clear hs hd
    go_enter Tryd.func4, Tryd.ntmps4
    go_upto_region 1 with fail
    generalize w.alloc _ = w1 at *
    replace p0 := fhid p0
    go_wp2_with (go_at_call 13; (with_reducible refine (hal _ b0).mono ?_); rintro e w3 ⟨rfl, b3⟩)
    go_ret
    exact ⟨rfl, b0.trans (b3.mono b0.size)⟩
  · have i1 : ¬ (400 : Int) < done.length := by omega
    have hth := fun W => theirs_any A l.length cap lim W
    unfold ArrV at hth
    have hsB := fun W (hW : Below w.heap.size w W) => (hs.below hW).more hW.size
    have hst := fun b W (hW : Below w.heap.size w W) hm => Step_any l A cap lim running b done W (hsB W hW) hrun hm
    have hrs := fun W (hW : Below w.heap.size w W) => rStep_any l A cap lim running done A2 cap2 W (hsB W hW) ((hd.below hW).more hW.size) (by omega) hrun
    have hin := fun A3 A4 c3 c4 W (h1 : Ints W W.heap.size A3 (stepP l lim running done)) (h2 : Ints W W.heap.size A4 (stepP l lim running done)) => ints_same (stepP l lim running done) A3 A4 c3 c4 W h1 h2 (by have := stepP_len l lim running done; omega)
    generalize stepP l lim running done = L at *
    unfold IntsPost at hst hrs
    have hmm := @run_makeMap Tryd.prog
    replace hd := fhid hd
    replace hst := fhid hst
    replace hrs := fhid hrs
    replace hin := fhid hin
    clear hs hsB
    go_enter Tryd.func4, Tryd.ntmps4
    go_upto_region 1 with fail
    generalize w.alloc _ = w1 at *
    obtain ⟨c0, c1, _, _, z1⟩ := p0.facts
    have hn : BMap (w1.alloc (.map #[] 0)) (w.heap.size + 1) [] := by rw [← zz]; exact BMap.new w1
    have bm : Below w1.heap.size w1 (w1.alloc (.map #[] 0)) := (Below.refl _ _).alloc (Nat.le_refl _) _
    have zm := World.size_alloc w1 (.map #[] 0)
    have pm := p0.below bm z1
    have gm := b0.trans (bm.mono b0.size)
    replace p0 := fhid p0
    go_upto_region 4 with fail
    generalize w1.alloc _ = w2 at *
    clear c0 c1 hmm
    replace pm := fhid pm
    replace hn := fhid hn
    go_wp2_with fail
    go_loopw [17] (fun i wr => ∃ j : Nat, j ≤ done.length ∧ i = .int .i64 (j : Int) ∧ BMap wr (w.heap.size + 1) (done.take j) ∧ Below (w.heap.size + 1) w2 wr) (fun i _ => done.length - (intOf i).toNat)
    case atStart => exact ⟨0, Nat.zero_le _, rfl, by rw [List.take_zero]; exact hn.out, Below.refl _ _⟩
    case round =>
      obtain ⟨j, hj, rfl, hM, hB⟩ := hrel
      have hzB := hB.size
      have gB := gm.trans (hB.mono (by omega))
      by_cases hlt : j < done.length
      · obtain ⟨bd, od, rfl, hbd, hcd⟩ := Ints.at_ (hd.out.below gB) hlt
        have hsn := fhid (List.take_succ_eq_append_getElem hlt)
        have j1 : (j : Int) < done.length := by omega
        have j0 : (0 : Int) ≤ j := by omega
        generalize done[j] = y at *
        replace hM := fhid hM
        go_wp2_with (at_mapUpdate; refine bmap_put rfl _ _ _ rfl (w.heap.size + 1) (done.take j) rfl hM.out y rfl rfl ?_; intro w4 m4 g4 z4)
        go_roundw
        case rel => exact ⟨j + 1, by omega, by go_num, by rw [hsn.out]; exact m4, hB.trans (below_map g4 (Nat.le_refl _) (by omega))⟩
        case measure => simp [intOf]; omega
      · obtain rfl : j = done.length := by omega
        rw [List.take_length] at hM
        have j1 : ¬ (done.length : Int) < done.length := by omega
        have pB := pm.out.below hB (by omega)
        obtain ⟨c0, c1, _, _, zB⟩ := pB.facts
        have z : HM w wr (.slice A l.length cap) lim (w.heap.size + 1) done wr.drew := ⟨pB, hM, (Below.refl _ _).drew, zB, hM.lt⟩
        have gz : ∀ W, HM w wr (.slice A l.length cap) lim (w.heap.size + 1) done W → Below w.heap.size w W := fun W h => gB.trans (h.2.2.1.mono gB.size)
        clear pB hM hB pm hn p0 b0 gm bm
        go_upto_region 9 with fail
        go_region_held3 (fun w' => w'.cell? ⟨w.heap.size, 0, none⟩ = some (.slice A l.length cap) ∧ w'.cell? ⟨w.heap.size, 1, none⟩ = some (.int .i64 lim)) (first | exact z.cells | fail)
          (first
            | (go_at_call 9
               (with_reducible refine (hth _).mono ?_)
               rintro e u1 ⟨rfl, b1⟩
               have z := HM.on z b1)
            | (go_at_call 15
               (with_reducible refine (hst.out _ _ (gz _ z) (HM.map z)).mono ?_)
               rintro e u2 ⟨v2, rfl, o2, b1⟩
               obtain ⟨A3, q3, rfl, _, _, n1⟩ := o2.shape
               have z := HM.on z b1)
            | (go_at_call 16
               (with_reducible refine (hrs.out _ (gz _ z)).mono ?_)
               rintro e u3 ⟨v3, rfl, o3, b1⟩
               obtain ⟨A4, q4, rfl, _, _, n2⟩ := o3.shape
               have n1 := (SegC.below n1 b1).more b1.size
               have z := HM.on z b1)
            | (go_at_call 14
               (with_reducible refine (hin.out A3 A4 q3 q4 _ n1 n2).mono ?_)
               rintro e u4 ⟨rfl, b1⟩
               have z := HM.on z b1)
            | (go_at_call 13
               (with_reducible refine (hal _ (gz _ z)).mono ?_)
               rintro e u5 ⟨rfl, b1⟩
               have z := HM.on z b1))
        go_wp2
        go_ret
        exact ⟨rfl, gz _ z⟩
end Go.Proofs.YtlcbppflpadhaaaDoor
