/-
  PROVED: PoolNobody: a pool that nobody made answers an error, and has nothing, for every call.
  Conditions: the library's tables read as the program's text lays them (the card ties them); nothing else.
-/
import Derived.Test.YtbelmljphnponaaGreatDoorZ3
import Derived.Test.YtbelmljphnponaaGreatDoorZ2
import Derived.Test.YtbelmljphnponaaGreatDoorB2
set_option linter.unusedSimpArgs false
set_option linter.unusedVariables false
/-
  PoolNobody, walked.
-/
namespace Go.Proofs.YtbelmljphnponaaGreatDoor.Ps
open Go.RowKit Go.Shelf Vs Ns

theorem lst_none : Bs.lst (fun _ => false) 256 = [] := by
  unfold Bs.lst
  exact List.filter_eq_nil_iff.2 (fun _ _ => by simp)
abbrev TPtrs : TypeId := 32
set_option maxRecDepth 100000 in
set_option maxHeartbeats 16000000 in
theorem nobody_walk (a : ActC) (ha : okA a) (w : World) (hw : Env12 w) :
    Calls Tryz.prog 7 #[.agg (actV a).toArray] w (BoolP w true) := by
  have hal := fun W (hb : Below w.heap.size w W) => alive_any W (hw.below hb)
  have hls := fun W (hb : Below w.heap.size w W) => Bs.list_any (fun _ => false) W (hw.below hb).bit
  rw [lst_none, nodes_none] at hls
  have hint := fun W v v' h h' => Bs.ints_any v v' [] W h h' (by simp)
  have hdo := fun p W hm => Does_no p a W hm ha
  have he := fun w => eq_same 0 0 0 0 w
  unfold BoolP at hal ⊢
  have hw := fhid hw
  obtain ⟨k, i, ev, q⟩ := a
  unfold actV at hdo ⊢
  simp only at hdo ⊢
  generalize (Bs.word q 0 : Int) = u0 at *
  generalize (Bs.word q 1 : Int) = u1 at *
  generalize (Bs.word q 2 : Int) = u2 at *
  generalize (Bs.word q 3 : Int) = u3 at *
  clear ha
  have hst : ∃ W, W = (((w.alloc (.cells #[.int .u8 k, .int .i64 i, .int .i64 ev, .int .u64 u0, .int .u64 u1, .int .u64 u2, .int .u64 u3] TAct)).alloc (.cells #[.slice none 0 0, .int .i64 0, .int .i64 0, .int .i64 0, .int .i64 0] TPool)).alloc (.cells #[.pointer none, .pointer (some ⟨w.heap.size + 1, 0, none⟩)] TPtrs)) ∧ Box W w.heap.size TAct [.int .u8 k, .int .i64 i, .int .i64 ev, .int .u64 u0, .int .u64 u1, .int .u64 u2, .int .u64 u3] ∧ ZB W (w.heap.size + 1) ∧ Box W (w.heap.size + 1 + 1) TPtrs [.pointer none, .pointer (some ⟨w.heap.size + 1, 0, none⟩)] ∧ Below w.heap.size w W := by
    have hn : ∀ (u : World) (o : Obj) (k : Nat), u.heap.size = k → (u.alloc o).heap[k]? = some o ∧ (u.alloc o).heap.size = k + 1 := fun u o k h => by subst h; exact ⟨heap_alloc_new u o, by simp⟩
    have ho : ∀ (u : World) (o : Obj) (k : Nat) (c : Option Obj), k < u.heap.size → u.heap[k]? = c → (u.alloc o).heap[k]? = c := fun u o k c hk h => (Below.heap_alloc u o k hk).trans h
    obtain ⟨a1, z1⟩ := hn w (.cells #[.int .u8 k, .int .i64 i, .int .i64 ev, .int .u64 u0, .int .u64 u1, .int .u64 u2, .int .u64 u3] TAct) _ rfl
    obtain ⟨a2, z2⟩ := hn _ (.cells #[.slice none 0 0, .int .i64 0, .int .i64 0, .int .i64 0, .int .i64 0] TPool) _ z1
    obtain ⟨a3, z3⟩ := hn _ (.cells #[.pointer none, .pointer (some ⟨w.heap.size + 1, 0, none⟩)] TPtrs) _ z2
    exact ⟨_, rfl, ho _ _ _ _ (by omega) (ho _ _ _ _ (by omega) a1), ho _ _ _ _ (by omega) a2, a3, (((Below.refl _ _).alloc (Nat.le_refl _) _).alloc (by omega) _).alloc (by omega) _⟩
  obtain ⟨W1, hW1, X0, X1, X2, B1⟩ := hst
  replace hW1 := fhid hW1
  go_enter Tryz.func7, Tryz.ntmps7
  go_upto_region 2 with fail
  rw [← hW1.out]
  clear hW1
  have x2l := Box.lt X2
  have hN : ∀ j, j < 2 → ∃ pa, W1.cell? ⟨w.heap.size + 1 + 1, j, none⟩ = some (.pointer pa) ∧ NoMade pa W1 := fun j hj => by
    match j, hj with
    | 0, _ => exact ⟨none, Box.cell X2 0, nomade_nil W1⟩
    | 1, _ => exact ⟨some ⟨w.heap.size + 1, 0, none⟩, Box.cell X2 1, nomade_zero X1⟩
  replace hN := fhid hN
  replace X1 := fhid X1
  replace X2 := fhid X2
  replace X0 := fhid X0
  go_loopw [13] (fun i wr => ∃ j : Nat, j ≤ 2 ∧ i = .int .i64 (j : Nat) ∧ Below W1.heap.size W1 wr) (fun i _ => 2 - (intOf i).toNat)
  case atStart => exact ⟨0, by omega, rfl, Below.refl _ _⟩
  case round =>
    obtain ⟨j, hj, rfl, hB⟩ := hrel
    have j0 : (0 : Int) ≤ j := by omega
    have B2 := B1.trans (hB.mono B1.size)
    by_cases hlt : j < 2
    · have j1 : (j : Int) < 2 := by omega
      obtain ⟨pa, hc, hm⟩ := hN.out j hlt
      have hc2 := (hB.cell (p := ⟨w.heap.size + 1 + 1, j, none⟩) x2l).trans hc
      have hm2 := hm.below hB
      have X0r := Box.below X0.out hB (Box.lt X0.out)
      have cl := Nat.lt_of_lt_of_le x2l hB.size
      obtain ⟨c0, c1, c2, c3, c4, c5, c6, xl⟩ := seven X0r
      clear hc hm
      replace X0r := fhid X0r
      replace hm2 := fhid hm2
      go_upto_region 5 with (go_at_call 13; (with_reducible refine (hdo _ _ hm2.out).mono ?_); rintro e w3 ⟨rfl, b3⟩)
      have m3 := (Below.refl w3.heap.size w3).alloc (Nat.le_refl _) (.cells #[.int .u64 0, .int .u64 0, .int .u64 0, .int .u64 0] TNodes)
      have X3 := Box.new w3 TNodes [.int .u64 0, .int .u64 0, .int .u64 0, .int .u64 0]
      have T3 := b3.trans (m3.mono b3.size)
      have hm3 := fhid (hm2.out.below T3)
      have B3 := B2.trans (T3.mono B2.size)
      have E3 := hB.trans (T3.mono hB.size)
      generalize w3.heap.size = b5 at *
      generalize w3.alloc _ = W3 at *
      clear c0 c1 c2 c3 c4 c5 c6 xl hc2 cl
      have x3l := Box.lt X3
      replace X3 := fhid X3
      go_upto_region 6 with (go_at_call 23; (with_reducible refine (Node_no pa 0 _ hm3.out).mono ?_); rintro e w4 ⟨rfl, b4⟩)
      have m4 := (Below.refl w4.heap.size w4).alloc (Nat.le_refl _) (.cells #[.int .i64 0, .int .i64 0, .int .i64 0] TNd)
      have T4 := b4.trans (m4.mono b4.size)
      have hm4 := fhid (hm3.out.below T4)
      have B4 := B3.trans (T4.mono B3.size)
      have E4 := E3.trans (T4.mono E3.size)
      have X4 := Box.below X3.out T4 x3l
      generalize w4.alloc _ = W4 at *
      obtain ⟨⟨y0, y1, y2, y3⟩, -, -, -, -⟩ := Box.four X4
      have x4l := Box.lt X4
      replace X4 := fhid X4
      go_wp2_with (first
        | (go_at_call 14
           have T5 := (Below.refl W4.heap.size W4).alloc (Nat.le_refl _) (.cells #[.int .i64 0, .int .i64 1, .int .i64 2] 3)
           (with_reducible refine (In_no pa _ _ _ _ (hm4.out.below T5)).mono ?_); rintro e w5 ⟨rfl, b5'⟩
           have T6 := T5.trans (b5'.mono T5.size)
           have hm6 := fhid (hm4.out.below T6))
        | (go_at_call 19; (with_reducible refine (Free_no pa 9 _ hm6.out).mono ?_); rintro e w6 ⟨rfl, b6⟩
           have T7 := T6.trans (b6.mono T6.size)
           have hm7 := fhid (hm4.out.below T7))
        | (go_at_call 24; (with_reducible refine (Powered_no pa _ hm7.out).mono ?_); rintro e w7 ⟨rfl, b7⟩
           have T8 := T7.trans (b7.mono T7.size)
           have hm8 := fhid (hm4.out.below T8))
        | (go_at_call 22; (with_reducible refine (Now_no pa _ hm8.out).mono ?_); rintro e w8 ⟨rfl, b8⟩
           have T9 := T8.trans (b8.mono T8.size)
           have hm9 := fhid (hm4.out.below T9))
        | (go_at_call 20; (with_reducible refine (Save_no pa _ hm9.out).mono ?_); rintro e w9 ⟨rfl, b9⟩
           have T10 := T9.trans (b9.mono T9.size)))
      go_roundw
      case rel => exact ⟨j + 1, by omega, by go_num, E4.trans (T10.mono E4.size)⟩
      case measure => simp [intOf]; omega
    · obtain rfl : j = 2 := by omega
      have hr0 : ∀ W, Bs.Reads W (.slice none 0 0) [] := fun W => .inl ⟨rfl, none, 0, rfl⟩
      have hi2 := fun W v h => hint W v _ h (hr0 W)
      go_wp2_with (first
        | (go_at_call 26; (with_reducible refine (hls _ B2).mono ?_); rintro e w3 ⟨v3, rfl, o3, b3⟩
           have B3 := B2.trans (b3.mono B2.size)
           have hr3 : Bs.Reads w3 v3 [] := Bs.Reads.ofOwn (l := []) o3)
        | (go_at_call 25; go_loud ((with_reducible refine (hi2 _ _ hr3).mono ?_)); rintro e w4 ⟨rfl, b4⟩
           have B4 := B3.trans (b4.mono B3.size))
        | (go_at_call 9; (with_reducible refine (hal _ B4).mono ?_); rintro e w5 ⟨rfl, b5⟩))
      go_ret
      exact ⟨rfl, B4.trans (b5.mono B4.size)⟩
end Go.Proofs.YtbelmljphnponaaGreatDoor.Ps
/-
  PROVED: PoolNobody: a pool that nobody made answers an error, and has nothing, for every call.
  Conditions: the library's tables read as the program's text lays them (the card ties them); nothing else.
-/
namespace Go.Proofs.YtbelmljphnponaaGreatDoor.Ps
open Go.ChangeShapes Go.WideShapes Go.ChangeAt Go.WideMaps Go.WideElems Go.RowKit
set_option maxRecDepth 100000 in
theorem poolnobody_lifted (os : Os) (started : os.Started) (H : Type) (enc : TypeId × Value → H) :
    ReturnsInHanded {} Tryz.checked os 7 .any (fun w args => (Rows.poolNobodySpec.pre enc Tryz.prog Tryz.f7 [] false w args ∧ laidMetH Tryz.prog laidList w) ∧ sizedMet enc Tryz.prog Tryz.f7 (OpenSpec.ofChange Rows.poolNobodySpec) false w args)
      (Rows.poolNobodySpec.post enc Tryz.prog Tryz.f7 false true false false) := by
  refine returnsInHanded_of_change_and (C := Tryz.checked) (X := fun w _ => laidMetH Tryz.prog laidList w) (fun _ _ _ hh h => h.of_heap hh) own started (by kernel_rfl) Tryz.func7
    (ChangeSpec.witness_shaped (enc := enc) (C := Tryz.checked) (os := os) (X := fun w _ => laidMetH Tryz.prog laidList w) false (World.laidAll Tryz.prog os laidList) #[.agg #[.int .u8 0, .int .i64 0, .int .i64 0, .int .u64 0, .int .u64 0, .int .u64 0, .int .u64 0]] 8 (World.laidAll_os _ _ _) (World.shaped_of_ZipB (by kernel_rfl) (by kernel_rfl)) (by kernel_rfl) (by kernel_rfl) (by kernel_rfl) (lay_met os _)) ?_
  intro W base args ds gs before hval0 hW _ _ hL _
  have hval : ∀ (j : Nat) t v, Tryz.f7.params[j]? = some t → args[j]? = some v → Value.okWide Tryz.prog W .any base t v := hval0
  have hW' := hW
  obtain ⟨p, q, hA0, hV, rfl, hfz, hnd⟩ := hW
  have hA : DataW.TrodAll enc Tryz.prog W 0 (fun _ => true) true Tryz.f7.params.toList args.toList ds p := hA0
  rw [Tryz.params7] at hA hval
  obtain ⟨v0, d0, rfl, rfl, h0⟩ := trodAll_one hA
  obtain ⟨rfl, rfl⟩ := trodVars_none hV
  have hT := tab_of hL
  obtain ⟨a0, rfl, ok0⟩ := open_act (hval 0 46 v0 rfl rfl) h0
  have hlt : ∀ z ∈ p, z.block < W.heap.size := fun z hz => hW'.lt z (by simp [hz])
  clear hA0 hval0
  simp only [List.append_nil] at hW'
  refine (nobody_walk a0 ok0 W hT).mono fun e W' ⟨he, hb⟩ => ?_
  subst he
  refine ⟨_, rfl, ⟨_, _, _, [], p, [], hW', trodAll_mk1 (shut_bool Tryz.underlying4 _), ?_, rfl, hb.frame _, fun h => by cases h⟩⟩
  exact trodAll_mk1 (Below.trod laidOut (by kernel_rfl) (of_decide_eq_true (by kernel_rfl)) h0 hb hlt)

theorem poolnobody_holds : Rows.PoolNobodySaid :=
  OpenClaim.holds_of_wide 7 Tryz.f7 rfl rfl rfl rfl rfl rfl rfl ⟨rfl, rfl, rfl, rfl, rfl⟩ rfl rfl rfl rfl rfl (by kernel_rfl) Tryz.func7 (by kernel_rfl)
    (of_decide_eq_true (by kernel_rfl)) (by unfold Func.isWrapper; rw [if_neg (of_decide_eq_false (by kernel_rfl))]; exact ⟨rfl, rfl⟩)
    (fun os started H enc _ => poolnobody_lifted os started H enc)
theorem poolnobody_card : Rows.PoolNobodyCardSaid :=
  Claim7.holds_tied_plain_at .later [] [.data, .data, .data, .data, .data, .pinned] true Rows.poolNobodyCard.stood.harness false
    poolnobody_holds (fun _ h => by cases h) (by kernel_rfl) (fun _ h => by cases h) poolNobody_row_tie rfl ⟨rfl, rfl⟩ (by kernel_rfl) rfl
    (fun f fn hf hfn => by
      obtain rfl : f = 7 := Option.some.inj ((show Tryz.prog.funcNamed "marlinspike/marlinspikelaw12.PoolNobody" = some 7 by kernel_rfl).symm.trans hf) |>.symm
      obtain rfl : fn = Tryz.f7 := (Option.some.inj (Tryz.func7.symm.trans hfn)).symm
      exact ⟨by kernel_rfl, fun j t ht => by
        rw [Tryz.params7] at ht
        have hm : t ∈ [46] := by simpa using Array.mem_of_getElem? ht
        have hall : ([46].all fun u => !Tryz.prog.wantsStandIn u) = true := by kernel_rfl
        exact (show Tryz.prog.wantsStandIn t = false by simpa using List.all_eq_true.1 hall t hm)⟩)
    (by kernel_rfl)
end Go.Proofs.YtbelmljphnponaaGreatDoor.Ps
namespace Go.Proofs.YtbelmljphnponaaGreatDoor
open Go.RowKit
theorem pool_nobody_card : Rows.PoolNobodyCardSaid := Ps.poolnobody_card
end Go.Proofs.YtbelmljphnponaaGreatDoor
