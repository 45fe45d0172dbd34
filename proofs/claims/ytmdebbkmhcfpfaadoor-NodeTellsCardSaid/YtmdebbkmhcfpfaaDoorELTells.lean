/-
  NodeTells, walked.
-/
import Derived.Test.YtmdebbkmhcfpfaaDoorELate
import Derived.Test.YtmdebbkmhcfpfaaDoorELMay
namespace Go.Proofs.YtmdebbkmhcfpfaaDoor
open Go.RowKit

set_option maxRecDepth 100000 in
set_option maxHeartbeats 1000000 in
/-- Two slices of numbers, the same ones. -/
theorem ints_same (ns : List Int) (A A2 : Option Addr) (c c2 : Nat) (w : World) (h1 : Ints w w.heap.size A ns) (h2 : Ints w w.heap.size A2 ns) (hl : ns.length ≤ 10000000) :
    Calls Tryd.prog 8 #[.slice A ns.length c, .slice A2 ns.length c2] w fun e w' => e = .returned (.bool true) ∧ Below w.heap.size w w' := by
  replace h1 := fhid h1
  replace h2 := fhid h2
  go_enter Tryd.func8, Tryd.ntmps8
  go_wp2_with fail
  go_loopw [5] (fun i wr => ∃ j : Nat, j ≤ ns.length ∧ i = .int .i64 (j : Int) ∧ Below w.heap.size w wr) (fun i _ => ns.length - (intOf i).toNat)
  case atStart => exact ⟨0, Nat.zero_le _, rfl, Below.refl _ _⟩
  case round =>
    obtain ⟨j, hj, rfl, hB⟩ := hrel
    by_cases hlt : j < ns.length
    · obtain ⟨b1, o1, rfl, hb1, c1⟩ := Ints.at_ h1.out hlt
      obtain ⟨b2, o2, rfl, hb2, c2⟩ := Ints.at_ h2.out hlt
      have k1 := (hB.cell (p := ⟨b1, o1 + j, none⟩) hb1).trans c1
      have k2 := (hB.cell (p := ⟨b2, o2 + j, none⟩) hb2).trans c2
      have i1 : (j : Int) < ns.length := by omega
      have i0 : (0 : Int) ≤ j := by omega
      clear c1 c2
      generalize ns[j] = n at *
      have e : (n == n) = true := by simp
      go_upto_region 6 with fail
      go_quiet (fail)
      go_wp2_with fail
      go_roundw
      case rel => exact ⟨j + 1, by omega, by go_num, below_drewN hB _⟩
      case measure => simp [intOf]; omega
    · obtain rfl : j = ns.length := by omega
      have i1 : ¬ (ns.length : Int) < ns.length := by omega
      go_wp2_with fail
      go_ret
      exact ⟨rfl, hB⟩
abbrev TAt : TypeId := 24
/-- What is held while the law's region runs. -/
def HN (w w2 : World) (n : N3) (a b : Int) (W : World) : Prop := NB W w.heap.size TRNd n ∧ W.heap[w.heap.size + 1]? = some (.cells #[.int .i64 a, .int .i64 b] TAt (0, 0)) ∧ Below w2.heap.size w2 W ∧ w.heap.size + 1 < w2.heap.size
theorem HN.on {w w2 W W' : World} {n : N3} {a b : Int} (h : HN w w2 n a b W) (hb : Below W.heap.size W W') : HN w w2 n a b W' := by
  have hz := Nat.lt_of_lt_of_le h.2.2.2 h.2.2.1.size
  exact ⟨h.1.below hb (by omega), (hb.block _ hz).trans h.2.1, h.2.2.1.trans (hb.mono h.2.2.1.size), h.2.2.2⟩
theorem HN.cells {w w2 W : World} {n : N3} {a b : Int} (h : HN w w2 n a b W) : W.cell? ⟨w.heap.size, 0, none⟩ = some (.int .i64 n.1) ∧ W.cell? ⟨w.heap.size, 1, none⟩ = some (.int .i64 n.2.1) ∧ W.cell? ⟨w.heap.size, 2, none⟩ = some (.int .i64 n.2.2) ∧ W.cell? ⟨w.heap.size + 1, 0, none⟩ = some (.int .i64 a) ∧ W.cell? ⟨w.heap.size + 1, 1, none⟩ = some (.int .i64 b) := by
  obtain ⟨c0, c1, c2, _⟩ := h.1.facts
  have hb := h.2.1
  exact ⟨c0, c1, c2, by simp [World.cell?, hb], by simp [World.cell?, hb]⟩
set_option maxRecDepth 100000 in
set_option maxHeartbeats 8000000 in
theorem tells_walk (s : Int) (n : N3) (a b : Int) (w : World) (hT : TabW w) (h2 : (-9223372036854775808 ≤ n.2.1 ∧ n.2.1 ≤ 9223372036854775807)) (h3 : -9223372036854775808 ≤ a ∧ a ≤ 9223372036854775807) (h4 : -9223372036854775808 ≤ b ∧ b ≤ 9223372036854775807) :
    Calls Tryd.prog 3 #[.int .i64 s, nv n, .agg #[.int .i64 a, .int .i64 b]] w (BoolPost w true) := by
  have hal := fun W (hW : Below w.heap.size w W) => alive_any W (hT.below hW)
  have hev := fun W (hW : Below w.heap.size w W) => Events_any s W (hT.below hW)
  have hre := fun W => rEvents_any s W
  have hth := fun W => theirs_any n W
  have hla := fun W => late_any n a b W h3 h2 h4
  have hrl := fun W => rLate_any n a b W h3 h2 h4
  have hup := fun W => up_any s W
  have hru := fun W => rUp_any s W
  have hpo := fun W => powered_any s W
  have hrp := fun W => rPowered_any s W
  have hin := fun A1 A2 c c2 W h1 h2 => ints_same (eventsP s) A1 A2 c c2 W h1 h2 (events_small s)
  generalize eventsP s = L at *
  generalize upB s = B1 at *
  generalize powB s = B2 at *
  generalize lateB n a b = B3 at *
  have zz : (w.alloc (.cells #[.int .i64 n.1, .int .i64 n.2.1, .int .i64 n.2.2] TRNd)).heap.size = w.heap.size + 1 := World.size_alloc _ _
  have t0 : NB ((w.alloc (.cells #[.int .i64 n.1, .int .i64 n.2.1, .int .i64 n.2.2] TRNd)).alloc (.cells #[.int .i64 a, .int .i64 b] TAt)) w.heap.size TRNd n := (NB.new w TRNd n).alloc _
  have t1 : ((w.alloc (.cells #[.int .i64 n.1, .int .i64 n.2.1, .int .i64 n.2.2] TRNd)).alloc (.cells #[.int .i64 a, .int .i64 b] TAt)).heap[w.heap.size + 1]? = some (.cells #[.int .i64 a, .int .i64 b] TAt (0, 0)) := by rw [← zz]; exact heap_alloc_new _ _
  have g0 : Below w.heap.size w ((w.alloc (.cells #[.int .i64 n.1, .int .i64 n.2.1, .int .i64 n.2.2] TRNd)).alloc (.cells #[.int .i64 a, .int .i64 b] TAt)) := ((Below.refl _ _).alloc (Nat.le_refl _) _).alloc (by rw [zz]; omega) _
  have z1 : w.heap.size + 1 < ((w.alloc (.cells #[.int .i64 n.1, .int .i64 n.2.1, .int .i64 n.2.2] TRNd)).alloc (.cells #[.int .i64 a, .int .i64 b] TAt)).heap.size := by rw [World.size_alloc, zz]; omega
  obtain ⟨st, si, t⟩ := n
  unfold nv NodePost nv at *
  simp only at *
  clear h2 h3 h4 zz
  replace hT := fhid hT
  go_enter Tryd.func3, Tryd.ntmps3
  go_upto_region 1 with fail
  generalize ((w.alloc _).alloc _) = w1 at *
  have z : HN w w1 (st, si, t) a b w1.drew := ⟨t0.below (B := w1.heap.size) ((Below.refl _ _).drew) (by omega), t1, (Below.refl _ _).drew, z1⟩
  have gz : ∀ W, HN w w1 (st, si, t) a b W → Below w.heap.size w W := fun W h => g0.trans (h.2.2.1.mono g0.size)
  clear t0 t1
  go_region_held3 (fun w' => w'.cell? ⟨w.heap.size, 0, none⟩ = some (.int .i64 st) ∧ w'.cell? ⟨w.heap.size, 1, none⟩ = some (.int .i64 si) ∧ w'.cell? ⟨w.heap.size, 2, none⟩ = some (.int .i64 t) ∧ w'.cell? ⟨w.heap.size + 1, 0, none⟩ = some (.int .i64 a) ∧ w'.cell? ⟨w.heap.size + 1, 1, none⟩ = some (.int .i64 b)) (first | exact z.cells | fail)
    (first
      | (go_at_call 9
         (with_reducible refine (hev _ (gz _ z)).mono ?_)
         rintro e u1 ⟨v1, rfl, o1, b1⟩
         obtain ⟨A1, q1, rfl, _, _, n1⟩ := o1.shape
         have z := HN.on z b1)
      | (go_at_call 10
         (with_reducible refine (hre _).mono ?_)
         rintro e u2 ⟨v2, rfl, o2, b1⟩
         obtain ⟨A2, q2, rfl, _, _, n2⟩ := o2.shape
         have n1 := (SegC.below n1 b1).more b1.size
         have z := HN.on z b1)
      | (go_at_call 8
         (with_reducible refine (hin A1 A2 q1 q2 _ n1 n2).mono ?_)
         rintro e u3 ⟨rfl, b1⟩
         have z := HN.on z b1)
      | (go_at_call 11; (with_reducible refine (hup _).mono ?_); rintro e u4 ⟨rfl, rfl⟩)
      | (go_at_call 12; (with_reducible refine (hru _).mono ?_); rintro e u5 ⟨rfl, rfl⟩)
      | (go_at_call 13; (with_reducible refine (hpo _).mono ?_); rintro e u6 ⟨rfl, rfl⟩)
      | (go_at_call 14; (with_reducible refine (hrp _).mono ?_); rintro e u7 ⟨rfl, rfl⟩)
      | (go_at_call 16
         (with_reducible refine (hth _).mono ?_)
         rintro e u8 ⟨rfl, b1⟩
         have z := HN.on z b1)
      | (go_at_call 15
         (with_reducible refine (hla _).mono ?_)
         rintro e u9 ⟨rfl, b1⟩
         have z := HN.on z b1)
      | (go_at_call 17
         (with_reducible refine (hrl _).mono ?_)
         rintro e u10 ⟨rfl, b1⟩
         have z := HN.on z b1)
      | (go_at_call 18
         (with_reducible refine (hal _ (gz _ z)).mono ?_)
         rintro e u11 ⟨rfl, b1⟩
         have z := HN.on z b1))
  go_wp2
  go_ret
  exact ⟨rfl, gz _ z⟩
end Go.Proofs.YtmdebbkmhcfpfaaDoor
