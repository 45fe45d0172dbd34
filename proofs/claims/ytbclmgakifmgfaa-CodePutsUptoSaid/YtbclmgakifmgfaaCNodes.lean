/-
  A set, read.
-/
import Derived.Test.YtbclmgakifmgfaaCTextOk
import Derived.Test.YtbclmgakifmgfaaCWord
import Derived.StillTailTactics
import Derived.Outline
namespace Go.Proofs.Ytbclmgakifmgfaa
open Go.RowKit

/-- A set's four words. -/
def agg4 (f : Nat → Nat) : Value := .agg #[.int .u64 (f 0 : Nat), .int .u64 (f 1 : Nat), .int .u64 (f 2 : Nat), .int .u64 (f 3 : Nat)]
/-- The words that begin at a place. -/
def wordsAt (l : List UInt8) (at_ : Nat) (j : Nat) : Nat := num ((l.drop (at_ + 8 * j)).take 8)
/-- What Nodes comes to. -/
def nodesStep (l : List UInt8) (at_ : Nat) (why fat : Int) : (Nat → Nat) × Nat × Int × Int :=
  if why ≠ 0 then (fun _ => 0, at_, why, fat) else if l.length - at_ < 32 then (fun _ => 0, at_, 4, l.length) else (wordsAt l at_, at_ + 32, 0, fat)
def NodesPost (w : World) (p : Nat) (l : List UInt8) (s : (Nat → Nat) × Nat × Int × Int) (e : Ending) (w' : World) : Prop := e = .returned (agg4 s.1) ∧ Rdr w' p l s.2.1 s.2.2.1 s.2.2.2 ∧ Turns w w' p
theorem left_of {p : Nat} {l : List UInt8} {at_ : Nat} {why fat : Int} {w : World} (h : Rdr w p l at_ why fat) :
    Calls Try.prog 22 #[.pointer (some ⟨p, 0, none⟩)] w fun e w' => e = .returned (.int .i64 ((l.length - at_ : Nat) : Int)) ∧ ∃ q, w' = w.drewN q := by
  obtain ⟨A, cap, h1, _, _, _, h5, h6⟩ := h
  exact Left_any p l.length cap A at_ why fat w h1 h6 h5
/-- A block of four words. -/
def Four (w : World) (B : Nat) (f : Nat → Nat) : Prop := w.heap[B]? = some (.cells #[.int .u64 (f 0 : Nat), .int .u64 (f 1 : Nat), .int .u64 (f 2 : Nat), .int .u64 (f 3 : Nat)] 26 (0, 0))
section
variable {w w' : World} {B : Nat} {f : Nat → Nat}
theorem Four.cells (h : Four w B f) : w.cell? ⟨B, 0, none⟩ = some (.int .u64 (f 0 : Nat)) ∧ w.cell? ⟨B, 1, none⟩ = some (.int .u64 (f 1 : Nat)) ∧ w.cell? ⟨B, 2, none⟩ = some (.int .u64 (f 2 : Nat)) ∧ w.cell? ⟨B, 3, none⟩ = some (.int .u64 (f 3 : Nat)) := by
  unfold Four at h; simp [World.cell?, h]
theorem Four.frees (h : Four w B f) : w.frozen? ⟨B, 0, none⟩ = false ∧ w.frozen? ⟨B, 1, none⟩ = false ∧ w.frozen? ⟨B, 2, none⟩ = false ∧ w.frozen? ⟨B, 3, none⟩ = false := by
  unfold Four at h; simp [World.frozen?, h]
theorem Four.lt (h : Four w B f) : B < w.heap.size := lt_of_block h
theorem Four.below {b : Nat} (h : Four w B f) (hb : Below b w w') (hB : B < b) : Four w' B f := (hb.block B hB).trans h
theorem Four.new (w : World) : Four (w.alloc (.cells #[.int .u64 0, .int .u64 0, .int .u64 0, .int .u64 0] 26)) w.heap.size fun _ => 0 := heap_alloc_new w _
theorem Four.at_ (h : Four w B f) (k : Nat) (hk : k < 4) : w.cell? ⟨B, k, none⟩ = some (.int .u64 (f k : Nat)) ∧ w.frozen? ⟨B, k, none⟩ = false := by
  obtain ⟨c0, c1, c2, c3⟩ := h.cells
  obtain ⟨f0, f1, f2, f3⟩ := h.frees
  match k, hk with
  | 0, _ => exact ⟨c0, f0⟩
  | 1, _ => exact ⟨c1, f1⟩
  | 2, _ => exact ⟨c2, f2⟩
  | 3, _ => exact ⟨c3, f3⟩
theorem Four.set (h : Four w B f) (k : Nat) (hk : k < 4) (n : Nat) {g : Nat → Nat} (hg : ∀ j, j < 4 → g j = if j = k then n else f j) : Four (w.setCell ⟨B, k, none⟩ (.int .u64 (n : Nat))) B g := by
  have := block_set k (.int .u64 (n : Nat)) h
  unfold Four
  rw [this, hg 0 (by omega), hg 1 (by omega), hg 2 (by omega), hg 3 (by omega)]
  match k, hk with
  | 0, _ => rfl
  | 1, _ => rfl
  | 2, _ => rfl
  | 3, _ => rfl
end
set_option maxHeartbeats 400000 in
theorem nodes_stop (a : Option Addr) (w : World) (st : ∀ w', Below w.heap.size w w' → Calls Try.prog 28 #[.pointer a] w' fun e w'' => e = .returned (.bool true) ∧ Below w'.heap.size w' w'') :
    Calls Try.prog 19 #[.pointer a] w fun e w' => e = .returned (agg4 fun _ => 0) ∧ Below w.heap.size w w' := by
  have y0 : Below w.heap.size w (w.alloc (.cells #[.int .u64 0, .int .u64 0, .int .u64 0, .int .u64 0] 26)) := (Below.refl _ _).alloc (Nat.le_refl _) _
  go_enter Try.func19, Try.ntmps19
  go_wp2_with (go_at_call 28; (with_reducible refine (st _ y0).mono ?_); rintro e w1 ⟨rfl, b1⟩
               have z1 := (Four.new w).below b1 (by rw [World.size_alloc]; omega)
               obtain ⟨c0, c1, c2, c3⟩ := z1.cells
               obtain ⟨f0, f1, f2, f3⟩ := z1.frees
               have y1 := y0.trans (b1.mono y0.size))
  exact bodyPost_ret (v := agg4 fun _ => 0) (by simp [results, Try.results19, go_sem, c0, c1, c2, c3, agg4]) rfl ⟨rfl, (((y1.setCell (p := ⟨w.heap.size, 0, none⟩) (Nat.le_refl _) _).setCell (p := ⟨w.heap.size, 1, none⟩) (Nat.le_refl _) _).setCell (p := ⟨w.heap.size, 2, none⟩) (Nat.le_refl _) _).setCell (p := ⟨w.heap.size, 3, none⟩) (Nat.le_refl _) _⟩
set_option maxRecDepth 100000 in
set_option maxHeartbeats 1000000 in
theorem nodes_short (p : Nat) (l : List UInt8) (at_ : Nat) (fat : Int) (w : World) (h : Rdr w p l at_ 0 fat) (hn : l.length - at_ < 32) :
    Calls Try.prog 19 #[.pointer (some ⟨p, 0, none⟩)] w (NodesPost w p l (fun _ => 0, at_, 4, l.length)) := by
  have y0 : Below w.heap.size w (w.alloc (.cells #[.int .u64 0, .int .u64 0, .int .u64 0, .int .u64 0] 26)) := (Below.refl _ _).alloc (Nat.le_refl _) _
  have hpw := h.lt
  have hI : ((l.length - at_ : Nat) : Int) < 32 := by omega
  have h0 := fhid h
  clear h
  go_enter Try.func19, Try.ntmps19
  go_wp2_with (first
    | (go_at_call 28; (with_reducible refine (stop_no (h0.out.below y0)).mono ?_); rintro e w1 ⟨rfl, b1⟩
       have z1 := (Four.new w).below b1 (by rw [World.size_alloc]; omega)
       have y1 := y0.trans (b1.mono y0.size)
       have h1 := h0.out.below y1
       have n1 := z1.lt
       have y2 : Below w.heap.size w (w1.alloc (.cells #[.int .u64 0, .int .u64 0, .int .u64 0, .int .u64 0] 26)) := y1.alloc (by omega) _
       replace h1 := fhid h1
       replace z1 := fhid z1)
    | (go_at_call 22; (with_reducible refine (left_of (h0.out.below y2)).mono ?_); rintro e w2 ⟨rfl, q, rfl⟩)
    | (go_at_call 29
       obtain ⟨A, cap, g1, g2, g3, g4, g5, g6⟩ := rdr_drew (h0.out.below y2) q
       (with_reducible refine (missing_any p l.length cap A at_ 0 fat _ g1).mono ?_); rintro e w3 ⟨rfl, b3⟩
       have s3 : Four w3 w1.heap.size fun _ => 0 := (b3.block w1.heap.size (by show _ < (w1.alloc _).heap.size; rw [World.size_alloc]; omega)).trans (Four.new w1)
       have z3 : Four w3 w.heap.size fun _ => 0 := (b3.block w.heap.size (by show _ < (w1.alloc _).heap.size; rw [World.size_alloc]; omega)).trans ((Below.heap_alloc w1 _ _ n1).trans z1.out)
       have y3 : Below w.heap.size w w3 := (below_drewN y2 q).trans (b3.mono y2.size)
       have g7 := g1.below b3
       obtain ⟨d0, d1, d2, d3, hq⟩ := g7.facts
       have f2 := g7.f2
       have f3 := g7.f3
       obtain ⟨c0, c1, c2, c3⟩ := z3.cells
       obtain ⟨q0, q1, q2, q3⟩ := z3.frees
       obtain ⟨c4, c5, c6, c7⟩ := s3.cells
       replace g7 := fhid g7
       have m1 : ¬ w1.heap.size = p := by have := y1.size; omega
       have m2 : ¬ w.heap.size = p := by omega
       have m3 : ¬ w.heap.size = w1.heap.size := by omega))
  have mp : p ≠ w.heap.size := fun e => m2 e.symm
  have T : ∀ {u : World} (_ : Below u.heap.size u w3) (_ : u.heap.size ≤ w.heap.size), Turns u ((((((w3.setCell ⟨p, 2, none⟩ (.int .i64 4)).setCell ⟨p, 3, none⟩ (.int .i64 l.length)).setCell ⟨w.heap.size, 0, none⟩ (.int .u64 0)).setCell ⟨w.heap.size, 1, none⟩ (.int .u64 0)).setCell ⟨w.heap.size, 2, none⟩ (.int .u64 0)).setCell ⟨w.heap.size, 3, none⟩ (.int .u64 0)) p :=
    fun hb hu => ((((((Turns.ofBelow hb p).set 2 _).set 3 _).setNew hu 0 _).setNew hu 1 _).setNew hu 2 _).setNew hu 3 _
  refine bodyPost_ret (v := agg4 fun _ => 0) (by simp [results, Try.results19, go_sem, c0, c1, c2, c3, agg4]) rfl ⟨rfl, ?_, T y3 (Nat.le_refl _)⟩
  obtain ⟨A', cap', g1', g2', g3', g4', g5', g6'⟩ := h0.out
  exact Rdr.mk' (((((((g1'.below y3).set2 _).set3 _).setOther mp 0 _).setOther mp 1 _).setOther mp 2 _).setOther mp 3 _) g2' g3' g4' g5' g6' (T y3 (Nat.le_refl _))
end Go.Proofs.Ytbclmgakifmgfaa
