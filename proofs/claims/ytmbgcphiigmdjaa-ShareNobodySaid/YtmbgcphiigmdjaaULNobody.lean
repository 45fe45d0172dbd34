/-
  ShareNobody, walked.
-/
import Derived.Test.YtmbgcphiigmdjaaUAlive
import Derived.Test.YtmbgcphiigmdjaaUActs
namespace Go.Proofs.Ytmbgcphiigmdjaa
open Go.RowKit Ss Ds

theorem three_boxes (w : World) (T : TypeId) (cs : List Value) (T' : TypeId) (cs' : List Value) (T'' : TypeId) (cs'' : List Value) : ∃ W, W = ((w.alloc (.cells cs.toArray T)).alloc (.cells cs'.toArray T')).alloc (.cells cs''.toArray T'') ∧ Below w.heap.size w W ∧ Box W w.heap.size T cs ∧ Box W (w.heap.size + 1) T' cs' ∧ Box W (w.heap.size + 2) T'' cs'' := by
  obtain ⟨W, rfl, B, X, Y⟩ := two_boxes w T cs T' cs'
  refine ⟨_, rfl, B.alloc B.size _, box_alloc X _, box_alloc Y _, ?_⟩
  have := Box.new ((w.alloc (.cells cs.toArray T)).alloc (.cells cs'.toArray T')) T'' cs''
  rwa [World.size_alloc, World.size_alloc] at this
set_option maxRecDepth 100000 in
set_option maxHeartbeats 16000000 in
theorem nobody_walk (s : Str) (am now : Int) (w : World) :
    Calls Try.prog 8 #[.agg (actV (s, am, now)).toArray] w fun e w' => e = .returned (.bool true) ∧ Below w.heap.size w w' := by
  have hal := fun W => alive_any W
  obtain ⟨W1, hW1, B1, X0, X1, X2⟩ := three_boxes w TAct [.string (str s), .int .i64 am, .int .i64 now] TLed [.int .i64 0, .map none] 25 [.pointer none, .pointer (some ⟨w.heap.size + 1, 0, none⟩)]
  replace hW1 := fhid hW1
  unfold actV
  go_enter Try.func8, Try.ntmps8
  go_upto_region 2 with fail
  rw [← hW1.out]
  clear hW1
  have x2l := Box.lt X2
  have hN : ∀ j, j < 2 → ∃ pa, W1.cell? ⟨w.heap.size + 2, j, none⟩ = some (.pointer pa) ∧ NoM W1 pa := fun j hj => by
    match j, hj with
    | 0, _ => exact ⟨none, Box.cell X2 0, nom_nil W1⟩
    | 1, _ => exact ⟨some ⟨w.heap.size + 1, 0, none⟩, Box.cell X2 1, nom_zero X1⟩
  replace hN := fhid hN
  replace X1 := fhid X1
  replace X2 := fhid X2
  replace X0 := fhid X0
  go_loopw [15] (fun i wr => ∃ j : Nat, j ≤ 2 ∧ i = .int .i64 (j : Nat) ∧ Below W1.heap.size W1 wr) (fun i _ => 2 - (intOf i).toNat)
  case atStart => exact ⟨0, by omega, rfl, Below.refl _ _⟩
  case round =>
    obtain ⟨j, hj, rfl, hB⟩ := hrel
    have j0 : (0 : Int) ≤ j := by omega
    have B2 := B1.trans (hB.mono B1.size)
    by_cases hlt : j < 2
    · have j1 : (j : Int) < 2 := by omega
      obtain ⟨pa, hc, hm⟩ := hN.out j hlt
      have hc2 := (hB.cell (p := ⟨w.heap.size + 2, j, none⟩) x2l).trans hc
      have hm2 := hm.below hB
      have X0r := Box.below X0.out hB (Box.lt X0.out)
      have cl := Nat.lt_of_lt_of_le x2l hB.size
      have hca : ∀ W, Below wr.heap.size wr W → W.cell? ⟨w.heap.size, 0, none⟩ = some (.string (str s)) ∧ W.cell? ⟨w.heap.size, 1, none⟩ = some (.int .i64 am) ∧ W.cell? ⟨w.heap.size, 2, none⟩ = some (.int .i64 now) := fun W hW =>
        have X := Box.below X0r hW (Box.lt X0r)
        ⟨Box.cell X 0, Box.cell X 1, Box.cell X 2⟩
      obtain ⟨c0, c1, c2⟩ := hca wr (Below.refl _ _)
      have xl := Box.lt X0r
      have xr := fhid xl
      have hu := fun W (hb : Below wr.heap.size wr W) => Used_no (hm2.below hb) s now
      have ht := fun W (hb : Below wr.heap.size wr W) => Total_no (hm2.below hb) now
      have hf := fun W (hb : Below wr.heap.size wr W) => Factor_no (hm2.below hb) s now
      have ha := fun W (hb : Below wr.heap.size wr W) => Add_no (hm2.below hb) s am now
      have hs := fun W (hb : Below wr.heap.size wr W) => Users_no (hm2.below hb)
      have hv := fun W (hb : Below wr.heap.size wr W) => Save_no (hm2.below hb)
      unfold IntP at hu ht hf
      simp only at hu ht hf
      have b0 := fhid (Below.refl wr.heap.size wr)
      clear hc hm
      replace X0r := fhid X0r
      replace hm2 := fhid hm2
      go_wp2_with (first
        | (go_at_call 16; (with_reducible refine (hu _ b0.out).mono ?_); rintro e w1 ⟨rfl, b1⟩
           have b1 := fhid b1; obtain ⟨c0, c1, c2⟩ := hca _ b1.out; have xl := Nat.lt_of_lt_of_le xr.out b1.out.size)
        | (go_at_call 20; (with_reducible refine (ht _ b1.out).mono ?_); rintro e w2 ⟨rfl, b2⟩
           have b2 := fhid (b1.out.trans (b2.mono b1.out.size)); obtain ⟨c0, c1, c2⟩ := hca _ b2.out; have xl := Nat.lt_of_lt_of_le xr.out b2.out.size)
        | (go_at_call 18; (with_reducible refine (hf _ b2.out).mono ?_); rintro e w3 ⟨rfl, b3⟩
           have b3 := fhid (b2.out.trans (b3.mono b2.out.size)); obtain ⟨c0, c1, c2⟩ := hca _ b3.out; have xl := Nat.lt_of_lt_of_le xr.out b3.out.size)
        | (go_at_call 14; (with_reducible refine (ha _ b3.out).mono ?_); rintro e w4 ⟨rfl, b4⟩
           have b4 := fhid (b3.out.trans (b4.mono b3.out.size)))
        | (go_at_call 23; (with_reducible refine (hs _ b4.out).mono ?_); rintro e w5 ⟨rfl, b5⟩
           have b5 := fhid (b4.out.trans (b5.mono b4.out.size)))
        | (go_at_call 25; (with_reducible refine (hv _ b5.out).mono ?_); rintro e w6 ⟨rfl, b6⟩
           have b6 := fhid (b5.out.trans (b6.mono b5.out.size))))
      go_roundw
      case rel => exact ⟨j + 1, by omega, by go_num, hB.trans (b6.out.mono hB.size)⟩
      case measure => simp [intOf]; omega
    · have j1 : ¬ (j : Int) < 2 := by omega
      go_wp2_with (go_at_call 12; (with_reducible refine (hal _).mono ?_); rintro e w6 ⟨rfl, b6⟩)
      go_ret
      exact ⟨rfl, B2.trans (b6.mono B2.size)⟩
end Go.Proofs.Ytmbgcphiigmdjaa
