/-
  CodeStays's walk: behind a fault nothing is got, and it and the place stay.
-/
import Derived.Test.YtbclmgakifmgfaaCBoth
import Derived.Test.YtbclmgakifmgfaaCNodesOk
import Derived.Lib.QuietBelow
import Derived.BigQuiet
import Derived.Deep.DeepCutAuto
import Derived.Deep.CutBlock
import Derived.Outline
namespace Go.Proofs.Ytbclmgakifmgfaa
open Go.RowKit

/-- A script in memory. -/
def Acts (w : World) (B : Nat) (A : Option Addr) (n : Nat) : Prop := 0 < n → ∃ b o, A = some ⟨b, o, none⟩ ∧ b < B ∧ ∀ j, j < n → ∃ (k : Nat) (lo hi : Int), k < 256 ∧ w.cell? ⟨b, o + j * 3, none⟩ = some (.int .u8 k) ∧ w.cell? ⟨b, o + j * 3 + 1, none⟩ = some (.int .i64 lo) ∧ w.cell? ⟨b, o + j * 3 + 2, none⟩ = some (.int .i64 hi)
/-- What a call may do: behind a fault nothing. -/
def Next (at_ : Nat) (why fat : Int) (at' : Nat) (why' fat' : Int) (z : Prop) : Prop := (why = 0 → at_ ≤ at' ∧ (why' = 0 → fat' = 0)) ∧ (why ≠ 0 → at' = at_ ∧ why' = why ∧ fat' = fat ∧ z)
theorem numRes_ge {l : List UInt8} {at_ : Nat} {low high : Int} (h : (numRes l at_ low high).2.2.1 = 0) : at_ ≤ (numRes l at_ low high).2.1 := by
  revert h
  unfold numRes
  split
  · split
    · intro h; simp at h
    · intro _; exact Nat.le_add_right _ _
  · intro h; simp at h
  · intro h; simp at h
theorem next_in (l : List UInt8) (at_ : Nat) (why fat low high : Int) (hf : why = 0 → fat = 0) : Next at_ why fat (inStep l at_ why fat low high).2.1 (inStep l at_ why fat low high).2.2.1 (inStep l at_ why fat low high).2.2.2 ((inStep l at_ why fat low high).1 = 0) := by
  unfold inStep
  constructor
  · rintro rfl
    rw [if_neg (by simp)]
    split
    · rename_i h; exact ⟨Nat.le_refl _, fun e => absurd e h⟩
    · rename_i h; exact ⟨numRes_ge (by simpa using h), fun _ => hf rfl⟩
  · intro h
    rw [if_pos h]
    exact ⟨rfl, rfl, rfl, rfl⟩
theorem next_text (l : List UInt8) (at_ : Nat) (why fat most : Int) (hf : why = 0 → fat = 0) : Next at_ why fat (textStep l at_ why fat most).2.1 (textStep l at_ why fat most).2.2.1 (textStep l at_ why fat most).2.2.2 ((textStep l at_ why fat most).1 = []) := by
  unfold textStep
  constructor
  · rintro rfl
    rw [if_neg (by simp)]
    split
    · rename_i h; exact ⟨Nat.le_refl _, fun e => absurd e h⟩
    · rename_i h
      have := numRes_ge (l := l) (at_ := at_) (low := 0) (high := most) (by simpa using h)
      split
      · exact ⟨Nat.le_refl _, fun e => absurd e (by simp)⟩
      · exact ⟨by show at_ ≤ _ + _; omega, fun _ => hf rfl⟩
  · intro h
    rw [if_pos h]
    exact ⟨rfl, rfl, rfl, rfl⟩
theorem next_nodes (l : List UInt8) (at_ : Nat) (why fat : Int) (hf : why = 0 → fat = 0) : Next at_ why fat (nodesStep l at_ why fat).2.1 (nodesStep l at_ why fat).2.2.1 (nodesStep l at_ why fat).2.2.2 ((nodesStep l at_ why fat).1 = fun _ => 0) := by
  unfold nodesStep
  constructor
  · rintro rfl
    rw [if_neg (by simp)]
    split
    · exact ⟨Nat.le_refl _, fun e => absurd e (by simp)⟩
    · exact ⟨Nat.le_add_right _ _, fun _ => hf rfl⟩
  · intro h
    rw [if_pos h]
    exact ⟨rfl, rfl, rfl, rfl⟩
theorem next_end (l : List UInt8) (at_ : Nat) (why fat : Int) (hf : why = 0 → fat = 0) : Next at_ why fat at_ (endStep l at_ why fat).1 (endStep l at_ why fat).2 True := by
  unfold endStep
  constructor
  · rintro rfl
    refine ⟨Nat.le_refl _, ?_⟩
    split
    · intro e; exact absurd e (by simp)
    · intro _; exact hf rfl
  · intro h
    rw [if_neg (fun e => h e.1)]
    exact ⟨rfl, rfl, rfl, trivial⟩
/-- Between the call and the questions. -/
def Mid (w : World) (g bf bt : Nat) (l : List UInt8) (at_ : Nat) (why fat : Int) (s10 s11 : Value) (wx : World) : Prop :=
  ∃ (at' : Nat) (why' fat' n : Int) (t : List UInt8) (f : Nat → Nat), s10 = .int .i64 n ∧ s11 = .string (str t) ∧ Rdr wx g l at' why' fat' ∧ wx.heap[bf]? = some (.cells #[.int .i64 why, .int .i64 fat] 47 (0, 0)) ∧ Four wx bt f ∧ Below w.heap.size w wx ∧
    Next at_ why fat at' why' fat' (n = 0 ∧ t = [] ∧ f = fun _ => 0)
theorem Next.weak {at_ at' : Nat} {why fat why' fat' : Int} {z z' : Prop} (h : Next at_ why fat at' why' fat' z) (hz : z → z') : Next at_ why fat at' why' fat' z' :=
  ⟨h.1, fun hw => ⟨(h.2 hw).1, (h.2 hw).2.1, (h.2 hw).2.2.1, hz (h.2 hw).2.2.2⟩⟩
theorem mid_of {w w5 w6 : World} {g bf bt : Nat} {l : List UInt8} {at_ at' : Nat} {why fat why' fat' : Int} (n : Int) (t : List UInt8) (f : Nat → Nat) {s10 s11 : Value} (h10 : s10 = .int .i64 n) (h11 : s11 = .string (str t)) (R : Rdr w6 g l at' why' fat')
    (F : w5.heap[bf]? = some (.cells #[.int .i64 why, .int .i64 fat] 47 (0, 0))) (T : Four w5 bt f) (y : Below w.heap.size w w5) (hg : w.heap.size ≤ g) (m1 : ¬ bf = g) (m2 : ¬ bt = g) (tn : Turns w5 w6 g)
    (hn : Next at_ why fat at' why' fat' (n = 0 ∧ t = [] ∧ f = fun _ => 0)) : Mid w g bf bt l at_ why fat s10 s11 w6 :=
  ⟨at', why', fat', n, t, f, h10, h11, R, (tn.block bf (lt_of_block F) (fun e => m1 (by injection e))).trans F, (tn.block bt T.lt (fun e => m2 (by injection e))).trans T, y.trans (tn.below hg y.size), hn⟩
theorem Four.fill {w : World} {B : Nat} {f0 : Nat → Nat} (h : Four w B f0) (f : Nat → Nat) : Four ((((w.setCell ⟨B, 0, none⟩ (.int .u64 (f 0 : Nat))).setCell ⟨B, 1, none⟩ (.int .u64 (f 1 : Nat))).setCell ⟨B, 2, none⟩ (.int .u64 (f 2 : Nat))).setCell ⟨B, 3, none⟩ (.int .u64 (f 3 : Nat))) B f :=
  block_set 3 _ (block_set 2 _ (block_set 1 _ (block_set 0 _ h)))
theorem block_other {w : World} {B b : Nat} {o : Obj} (h : w.heap[B]? = some o) (hb : B ≠ b) (i : Nat) (u : Value) : (w.setCell ⟨b, i, none⟩ u).heap[B]? = some o := (Below.heap_setCell _ _ _ _ hb).trans h
/-- A reader between two calls: behind no fault its fault is the empty one. -/
def Calm (w : World) (g : Nat) (l : List UInt8) (wr : World) : Prop := ∃ (at_ : Nat) (why fat : Int), Rdr wr g l at_ why fat ∧ (why = 0 → fat = 0) ∧ w.heap.size ≤ g ∧ Below w.heap.size w wr
theorem left_below {p : Nat} {l : List UInt8} {at_ : Nat} {why fat : Int} {w : World} (h : Rdr w p l at_ why fat) :
    Calls Try.prog 22 #[.pointer (some ⟨p, 0, none⟩)] w fun e w' => e = .returned (.int .i64 ((l.length - at_ : Nat) : Int)) ∧ Below w.heap.size w w' :=
  (left_of h).mono fun e w' ⟨he, q, hq⟩ => ⟨he, by subst hq; exact below_drewN (Below.refl _ _) q⟩
theorem nodes_zero (w : World) : (binOp .neq 26 (.agg #[.int .u64 0, .int .u64 0, .int .u64 0, .int .u64 0]) (.agg #[.int .u64 0, .int .u64 0, .int .u64 0, .int .u64 0])).run Try.prog w = .ok (.bool false) w := by kernel_rfl
theorem act_facts {w w' : World} {k : Nat} {lo hi : Int} (h : w'.heap[w.heap.size]? = (w.alloc (.cells #[.int .u8 k, .int .i64 lo, .int .i64 hi] 52)).heap[w.heap.size]?) :
    w'.cell? ⟨w.heap.size, 0, none⟩ = some (.int .u8 k) ∧ w'.cell? ⟨w.heap.size, 1, none⟩ = some (.int .i64 lo) ∧ w'.cell? ⟨w.heap.size, 2, none⟩ = some (.int .i64 hi) ∧ w.heap.size < w'.heap.size := by
  have h := h.trans (heap_alloc_new w _)
  exact ⟨by simp [World.cell?, h], by simp [World.cell?, h], by simp [World.cell?, h], lt_of_block h⟩
theorem cell_drewN (w : World) (q : Nat) (a : Addr) : (w.drewN q).cell? a = w.cell? a := rfl
set_option maxRecDepth 100000 in
set_option maxHeartbeats 1000000 in
theorem stays_walk (A Bo : Option Addr) (l : List UInt8) (n cap cb : Nat) (w : World) (hs : Seg w w.heap.size A l) (hl : l.length ≤ 140737488351232) (ha : Acts w w.heap.size Bo n) (hn : n ≤ 140737488351232) :
    Calls Try.prog 6 #[.slice A l.length cap, .slice Bo n cb] w fun e w' => e = .returned (.bool true) ∧ Below w.heap.size w w' := by
  have cN := New_any A l cap w hs (by omega)
  replace ha := fhid ha
  go_enter Try.func6, Try.ntmps6
  go_wp2_with (first
    | (go_at_call 17; (with_reducible refine cN.mono ?_); rintro e w1 ⟨g, rfl, Hg, R1, B1⟩)
    | (go_at_call 16; (with_reducible refine (alive_any _).mono ?_); rintro e w2 ⟨rfl, b2⟩
       have C2 : Calm w g l w2 := ⟨0, 0, 0, R1.below b2, fun _ => rfl, Hg, B1.trans (b2.mono B1.size)⟩))
  clear cN R1 B1 b2 hs
  go_loopw [23] (fun i wr => ∃ k : Nat, k ≤ n ∧ i = .int .i64 k ∧ Calm w g l wr) (fun i _ => n - (intOf i).toNat)
  case atStart => exact ⟨0, Nat.zero_le _, rfl, C2⟩
  case round =>
    obtain ⟨k, hk, rfl, at_, why, fat, R, hc, hg, y⟩ := hrel
    clear C2
    replace hc := fhid hc
    by_cases hlt : k < n
    · obtain ⟨b, o, rfl, hb, hcell⟩ := ha.out (by omega)
      obtain ⟨kd, lo, hi, hkd, x0, x1, x2⟩ := hcell k hlt
      replace x0 := (y.cell (p := ⟨b, o + k * 3, none⟩) hb).trans x0
      replace x1 := (y.cell (p := ⟨b, o + k * 3 + 1, none⟩) hb).trans x1
      replace x2 := (y.cell (p := ⟨b, o + k * 3 + 2, none⟩) hb).trans x2
      clear hcell
      have h2 : (k : Int) < n := by omega
      have h3 : (0 : Int) ≤ k := by omega
      have cF := fault_of (R.alloc' (.cells #[.int .u8 kd, .int .i64 lo, .int .i64 hi] 52))
      go_upto_block 2 with (first
        | (go_at_call 23; (with_reducible refine cF.mono ?_); rintro e w3 ⟨rfl, b3⟩
           have R3 := (R.alloc' (.cells #[.int .u8 kd, .int .i64 lo, .int .i64 hi] 52)).below b3
           have cL := left_of R3)
        | (go_at_call 22; (with_reducible refine cL.mono ?_); rintro e w4 ⟨rfl, q, rfl⟩
           have R4 := rdr_drew R3 q
           have a4 : Below wr.heap.size wr (w3.drewN q) := below_drewN (((Below.refl _ _).alloc (Nat.le_refl _) _).trans (b3.mono (by rw [World.size_alloc]; omega))) q
           have k4 := act_facts (b3.block wr.heap.size (by rw [World.size_alloc]; omega))
           rw [← cell_drewN w3 q, ← cell_drewN w3 q, ← cell_drewN w3 q] at k4
           obtain ⟨k4, k5, k6, k7⟩ := k4
           have k7 : wr.heap.size < (w3.drewN q).heap.size := k7
           generalize w3.drewN q = w4 at *))
      have F5 : ((w4.alloc (.cells #[.int .i64 why, .int .i64 fat] 47)).alloc (.cells #[.int .u64 0, .int .u64 0, .int .u64 0, .int .u64 0] 26)).heap[w4.heap.size]? = some (.cells #[.int .i64 why, .int .i64 fat] 47 (0, 0)) :=
        (Below.heap_alloc _ _ _ (by rw [World.size_alloc]; omega)).trans (heap_alloc_new w4 _)
      have T5 := Four.new (w4.alloc (.cells #[.int .i64 why, .int .i64 fat] 47))
      rw [World.size_alloc] at T5
      have a5 := (a4.alloc a4.size (.cells #[.int .i64 why, .int .i64 fat] 47)).alloc (by rw [World.size_alloc]; have := a4.size; omega) (.cells #[.int .u64 0, .int .u64 0, .int .u64 0, .int .u64 0] 26)
      have y5 := y.trans (a5.mono y.size)
      have c5 : Below w4.heap.size w4 _ := ((Below.refl _ w4).alloc (Nat.le_refl _) (.cells #[.int .i64 why, .int .i64 fat] 47)).alloc (by rw [World.size_alloc]; omega) (.cells #[.int .u64 0, .int .u64 0, .int .u64 0, .int .u64 0] 26)
      have Rb5 := (Rdb.of R4).below c5
      have R5 := Rb5.rdr
      have hbw : w.heap.size ≤ w4.heap.size := Nat.le_trans y.size a4.size
      have j1 := (c5.cell (p := ⟨wr.heap.size, 1, none⟩) k7).trans k5
      have j2 := (c5.cell (p := ⟨wr.heap.size, 2, none⟩) k7).trans k6
      have hgl := R4.lt
      generalize (w4.alloc _).alloc _ = w5 at *
      generalize w4.heap.size = bf at *
      have m1 : ¬ bf = g := by omega
      have m2 : ¬ bf + 1 = g := by omega
      have hbt : bf ≤ bf + 1 := by omega
      have m3 : bf ≠ bf + 1 := by omega
      generalize bf + 1 = bt at *
      clear c5 k4 k5 k6 k7 x0 x1 x2 R4 a4 b3 R3 cF cL
      have hml : (0 : Int) ≤ (kd : Int) % 5 ∧ (kd : Int) % 5 < 5 := by omega
      generalize (kd : Int) % 5 = m at *
      generalize wr.heap.size = ba at *
      go_cut [10, 11] (fun s10 s11 wx => Mid w g bf bt l at_ why fat s10 s11 wx)
      case first =>
        obtain ⟨hm0, hm5⟩ := hml
        have I1 := Int_any g l at_ why fat w5 R5
        have I2 := in_any g l at_ why fat lo hi w5 R5
        have I3 := text_any g l at_ why fat hi w5 R5
        have I4 := nodes_any g l at_ why fat w5 R5
        have I5 := end_any g l at_ why fat w5 R5
        obtain rfl | rfl | rfl | rfl | rfl : m = 0 ∨ m = 1 ∨ m = 2 ∨ m = 3 ∨ m = 4 := by omega
        · clear I2 I3 I4 I5
          go_wp2_with (go_at_call 18; (with_reducible refine I1.mono ?_); rintro e w6 ⟨rfl, R6, t6⟩)
          go_meet
          exact mid_of _ [] (fun _ => 0) rfl rfl R6 F5 T5 y5 hg m1 m2 t6 ((next_in l at_ why fat _ _ hc.out).weak fun h => ⟨h, rfl, rfl⟩)
        · clear I1 I3 I4 I5
          go_wp2_with (go_at_call 24; (with_reducible refine I2.mono ?_); rintro e w6 ⟨rfl, R6, t6⟩)
          go_meet
          exact mid_of _ [] (fun _ => 0) rfl rfl R6 F5 T5 y5 hg m1 m2 t6 ((next_in l at_ why fat _ _ hc.out).weak fun h => ⟨h, rfl, rfl⟩)
        · clear I1 I2 I4 I5
          go_wp2_with (go_at_call 20; (with_reducible refine I3.mono ?_); rintro e w6 ⟨rfl, R6, t6⟩)
          go_meet
          exact mid_of 0 _ (fun _ => 0) rfl rfl R6 F5 T5 y5 hg m1 m2 t6 ((next_text l at_ why fat _ hc.out).weak fun h => ⟨rfl, h, rfl⟩)
        · clear I1 I2 I3 I5
          have hnx := fhid (next_nodes l at_ why fat hc.out)
          generalize nodesStep l at_ why fat = s at *
          obtain ⟨f, at', why', fat'⟩ := s
          go_wp2_with (go_at_call 19; (with_reducible refine I4.mono ?_); rintro e w6 ⟨rfl, R6, t6⟩
                       have T6 : Four w6 bt fun _ => 0 := (t6.block bt T5.lt (fun e => m2 (by injection e))).trans T5
                       obtain ⟨c0, c1, c2, c3⟩ := T6.cells
                       obtain ⟨f0, f1, f2, f3⟩ := T6.frees
                       unfold agg4)
          go_meet
          have Rb6 := Rb5.turn R6 t6
          have B6 := ((((Below.refl bf w6).setCell (p := ⟨bt, 0, none⟩) hbt (.int .u64 (f 0 : Nat))).setCell (p := ⟨bt, 1, none⟩) hbt (.int .u64 (f 1 : Nat))).setCell (p := ⟨bt, 2, none⟩) hbt (.int .u64 (f 2 : Nat))).setCell (p := ⟨bt, 3, none⟩) hbt (.int .u64 (f 3 : Nat))
          have F6 := (t6.block bf (lt_of_block F5) (fun e => m1 (by injection e))).trans F5
          exact ⟨at', why', fat', 0, [], f, rfl, rfl, (Rb6.below B6).rdr, (block_other (block_other (block_other (block_other F6 m3 0 _) m3 1 _) m3 2 _) m3 3 _), T6.fill f, (y5.trans (Turns.below t6 hg y5.size)).trans (B6.mono hbw), hnx.out.weak fun h => ⟨rfl, rfl, h⟩⟩
        · clear I1 I2 I3 I4
          go_wp2_with (go_at_call 21; (with_reducible refine I5.mono ?_); rintro e w6 ⟨rfl, R6, t6⟩)
          go_meet
          exact mid_of 0 [] (fun _ => 0) rfl rfl R6 F5 T5 y5 hg m1 m2 t6 ((next_end l at_ why fat hc.out).weak fun _ => ⟨rfl, rfl, rfl⟩)
      case rest =>
        obtain ⟨at', why', fat', n1, t, f, rfl, rfl, R6, F6, T6, y6, hnx⟩ := hcut
        obtain ⟨c0, c1, _, _⟩ := two_facts F6
        obtain ⟨c2, c3, c4, c5⟩ := T6.cells
        have q0 := fun d os => cell_regrown c0 d os
        have q1 := fun d os => cell_regrown c1 d os
        have q2 := fun d os => cell_regrown c2 d os
        have q3 := fun d os => cell_regrown c3 d os
        have q4 := fun d os => cell_regrown c4 d os
        have q5 := fun d os => cell_regrown c5 d os
        have cL := fun d os => Calls.regrown_of (left_below (R6.below (below_regrown wc d os)))
        have cF := fun d os => Calls.regrown_of (fault_of (R6.below (below_regrown wc d os)))
        clear c0 c1 c2 c3 c4 c5 F6 T6 R5 Rb5 F5 T5 y5 R j1 j2
        replace R6 := fhid R6
        by_cases hw : why = 0
        · subst hw
          obtain rfl := hc.out rfl
          obtain ⟨hat, hwf⟩ := hnx.1 rfl
          have hle : ((l.length - at' : Nat) : Int) ≤ ((l.length - at_ : Nat) : Int) := by omega
          have hge : (0 : Int) ≤ ((l.length - at' : Nat) : Int) := by omega
          have d1 : decide (((l.length - at_ : Nat) : Int) < ((l.length - at' : Nat) : Int)) = false := decide_eq_false (by omega)
          replace hwf := fhid hwf
          clear hnx
          generalize ((l.length - at' : Nat) : Int) = a' at *
          generalize ((l.length - at_ : Nat) : Int) = a at *
          go_wp2_with fail
          refine wp_region_quiet_below (by kernel_rfl) (by kernel_rfl) ?_
          repeat (first | go_big_quiet_step ((exact cL _ _)) | quiet_step ((exact cL _ _)))
          refine wpQuiet_nil ?_
          rintro w9 ⟨pq, rfl⟩
          have b9 := below_regrown wc pq.d pq.os
          generalize Sort.grow (redrawn wc pq.d) pq.os = w9 at *
          go_wp2_with fail
          go_roundw
          case rel => exact ⟨k + 1, by omega, by go_num, at', why', fat', R6.out.below b9, hwf.out, hg, y6.trans (b9.mono y6.size)⟩
          case measure => simp [intOf]; omega
        · obtain ⟨rfl, rfl, rfl, rfl, rfl, rfl⟩ := hnx.2 hw
          have hq : (why' == 0) = false := by simpa using hw
          have hge : (0 : Int) ≤ ((l.length - at' : Nat) : Int) := by omega
          have se : str [] = ⟨#[]⟩ := rfl
          have hz := nodes_zero
          clear hnx hw
          generalize ((l.length - at' : Nat) : Int) = a at *
          go_wp2_with fail
          refine wp_region_quiet_below (by kernel_rfl) (by kernel_rfl) ?_
          repeat (first | go_big_quiet_step ((first | exact cL _ _ | exact cF _ _)) | quiet_step ((first | exact cL _ _ | exact cF _ _)))
          refine wpQuiet_nil ?_
          rintro w9 ⟨pq, rfl⟩
          have b9 := below_regrown wc pq.d pq.os
          generalize Sort.grow (redrawn wc pq.d) pq.os = w9 at *
          go_wp2_with fail
          go_roundw
          case rel => exact ⟨k + 1, by omega, by go_num, at', why', fat', R6.out.below b9, hc.out, hg, y6.trans (b9.mono y6.size)⟩
          case measure => simp [intOf]; omega
    · have h2 : ¬ (k : Int) < n := by omega
      go_wp2
      go_ret
      exact ⟨rfl, y⟩
end Go.Proofs.Ytbclmgakifmgfaa
