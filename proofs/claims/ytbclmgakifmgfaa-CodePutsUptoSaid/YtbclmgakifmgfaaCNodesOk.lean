/-
  A set, read: the way without a fault.
-/
import Derived.Test.YtbclmgakifmgfaaCNodes
namespace Go.Proofs.Ytbclmgakifmgfaa
open Go.RowKit

/-- What holds at each round's head. -/
def NInv (w : World) (p sb : Nat) (A : Option Addr) (cap : Nat) (l : List UInt8) (at_ : Nat) (fat : Int) (k : Nat) (wr : World) : Prop :=
  Rd wr p (.slice A l.length cap) ((at_ + 8 * k : Nat) : Int) 0 fat ∧ Four wr sb (fun j => if j < k then wordsAt l at_ j else 0) ∧ Four wr w.heap.size (fun _ => 0) ∧ Turns w wr p
theorem Four.other {w : World} {B b : Nat} {f : Nat → Nat} (h : Four w B f) (hb : B ≠ b) (i : Nat) (u : Value) : Four (w.setCell ⟨b, i, none⟩ u) B f := (Below.heap_setCell _ _ _ _ hb).trans h
theorem nstep {w wr : World} {p sb cap at_ k a W : Nat} {A : Option Addr} {l : List UInt8} {fat : Int} (R1 : Rd wr p (.slice A l.length cap) a 0 fat) (R2 : Four wr sb fun j => if j < k then wordsAt l at_ j else 0) (R3 : Four wr w.heap.size fun _ => 0) (R4 : Turns w wr p)
    (ha : at_ + 8 * k = a) (hW : W = wordsAt l at_ k) (hk : k < 4) (hs : w.heap.size < sb) (hp : p < w.heap.size) :
    NInv w p sb A cap l at_ fat (k + 1) ((wr.setCell ⟨sb, k, none⟩ (.int .u64 W)).setCell ⟨p, 1, none⟩ (.int .i64 ((a : Int) + 8))).drew := by
  refine ⟨?_, ?_, ?_, ?_⟩
  · rw [show ((at_ + 8 * (k + 1) : Nat) : Int) = (a : Int) + 8 by omega]
    exact (R1.setOther (b := sb) (by omega) k _).set1 _
  · have hg : ∀ j, j < 4 → (fun j => if j < k + 1 then wordsAt l at_ j else 0) j = if j = k then W else (fun j => if j < k then wordsAt l at_ j else 0) j := fun j hj => ?_
    · exact Four.other (R2.set k hk W hg) (b := p) (by omega) 1 (.int .i64 ((a : Int) + 8))
    show (if j < k + 1 then wordsAt l at_ j else 0) = if j = k then W else if j < k then wordsAt l at_ j else 0
    by_cases hjk : j = k
    · subst hjk; rw [if_pos (by omega), if_pos rfl, hW]
    · rw [if_neg hjk]
      by_cases hl : j < k
      · rw [if_pos hl, if_pos (by omega)]
      · rw [if_neg hl, if_neg (by omega)]
  · exact (R3.other (b := sb) (by omega) k _).other (b := p) (by omega) 1 _
  · have := (R4.setNew (b := sb) (by omega) k (.int .u64 W)).set 1 (.int .i64 ((a : Int) + 8))
    exact ⟨this.os, this.tape, this.output, this.size, this.block, this.head⟩
set_option maxRecDepth 100000 in
set_option maxHeartbeats 1000000 in
theorem nodes_ok (p : Nat) (l : List UInt8) (at_ : Nat) (fat : Int) (w : World) (h : Rdr w p l at_ 0 fat) (hn : ¬ l.length - at_ < 32) :
    Calls Try.prog 19 #[.pointer (some ⟨p, 0, none⟩)] w (NodesPost w p l (wordsAt l at_, at_ + 32, 0, fat)) := by
  have y0 : Below w.heap.size w (w.alloc (.cells #[.int .u64 0, .int .u64 0, .int .u64 0, .int .u64 0] 26)) := (Below.refl _ _).alloc (Nat.le_refl _) _
  have hpw := h.lt
  have hI : ¬ ((l.length - at_ : Nat) : Int) < 32 := by omega
  obtain ⟨A, cap, g1, g2, g3, g4, g5, g6⟩ := id h
  have h0 := fhid h
  have g1 := fhid g1
  have g2 := fhid g2
  clear h
  go_enter Try.func19, Try.ntmps19
  go_wp2_with (first
    | (go_at_call 28; (with_reducible refine (stop_no (h0.out.below y0)).mono ?_); rintro e w1 ⟨rfl, b1⟩
       have z1 := (Four.new w).below b1 (by rw [World.size_alloc]; omega)
       have y1 := y0.trans (b1.mono y0.size)
       have n1 := z1.lt
       have y2 : Below w.heap.size w (w1.alloc (.cells #[.int .u64 0, .int .u64 0, .int .u64 0, .int .u64 0] 26)) := y1.alloc (by omega) _
       replace z1 := fhid z1)
    | (go_at_call 22; (with_reducible refine (left_of (h0.out.below y2)).mono ?_); rintro e w2 ⟨rfl, q, rfl⟩))
  have I0 : NInv w p w1.heap.size A cap l at_ fat 0 ((w1.alloc (.cells #[.int .u64 0, .int .u64 0, .int .u64 0, .int .u64 0] 26)).drewN q) :=
    ⟨g1.out.below (below_drewN y2 q), Four.new w1, (Below.heap_alloc w1 _ _ n1).trans z1.out, turns_drew (Turns.ofBelow y2 p) q⟩
  generalize (w1.alloc _).drewN q = w2 at *
  have hs1 := y1.size
  clear y2 y1 y0 b1
  generalize w1.heap.size = sb at *
  go_loopw [17] (fun i wr => ∃ k : Nat, k ≤ 4 ∧ i = .int .i64 k ∧ NInv w p sb A cap l at_ fat k wr) (fun i _ => 4 - (intOf i).toNat)
  case atStart => exact ⟨0, Nat.zero_le _, rfl, I0⟩
  case round =>
    obtain ⟨k, hk, rfl, R1, R2, R3, R4⟩ := hrel
    clear I0
    have hlts := R2.lt
    obtain ⟨d0, d1, d2, d3, hq⟩ := R1.facts
    have f1 := R1.f1
    replace R1 := fhid R1
    replace R3 := fhid R3
    replace R4 := fhid R4
    by_cases hlt : k < 4
    · have h2 : (k : Int) < 4 := by omega
      obtain ⟨s1, s2⟩ := R2.at_ k hlt
      rw [if_neg (by omega)] at s1
      obtain ⟨a, ha⟩ : ∃ a, at_ + 8 * k = a := ⟨_, rfl⟩
      rw [ha] at R1 d1
      have hal : a + 8 ≤ l.length := by omega
      have S : Seg wr wr.heap.size A l := (g2.out.turn g4 fun q hq hp => World.cell?_of_block (R4.out.block q.block hq (fun e => hp (by injection e)))).more R4.out.size
      have S2 := S.drop (k := a) (by omega) g3
      have hca : ¬ cap = a := by omega
      rw [if_neg hca] at S2
      have gw := getWord_any _ _ (l.length - a) (cap - a) _ wr.drew (S2.keep fun _ _ => rfl) List.length_drop.symm (by rw [List.length_drop]; omega) (by rw [List.length_drop]; omega)
      have hW := fhid (show num ((l.drop a).take 8) = wordsAt l at_ k by unfold wordsAt; rw [ha])
      generalize num ((l.drop a).take 8) = W at *
      have i1 : (0 : Int) ≤ k := by omega
      have i2 : (a : Int) ≤ l.length := by omega
      have i3 : (0 : Int) ≤ a := by omega
      replace ha := fhid ha
      replace R2 := fhid R2
      clear S S2
      go_wp2_with fail
      refine wp_region_still_tail 12 (by kernel_rfl) (by kernel_rfl) ?_
      simp only [List.take_succ_cons, List.take_zero, List.drop_succ_cons, List.drop_zero]
      iterate 10 still_step
      refine wpStill_step (fun K hK => ?_)
      go_simp
      refine ⟨_, gw, hK _ ?_⟩
      clear hK K
      still_step
      with_reducible refine wpStill_nil ?_
      change wpList _ _ _ _ _ wr.drew
      have m1 : ¬ sb = p := by omega
      have m2 : ¬ p = sb := by omega
      have e8 : IntKind.i64.wrap ((a : Int) + 8) = (a : Int) + 8 := IntWalk.i64_in _ (by omega)
      clear gw hca
      go_wp2_with fail
      go_roundw
      case rel => exact ⟨k + 1, by omega, by go_num, nstep R1.out R2.out R3.out R4.out ha.out hW.out hlt n1 hpw⟩
      case measure => simp [intOf]; omega
    · obtain rfl : k = 4 := by omega
      have h2 : ¬ ((4 : Nat) : Int) < 4 := by omega
      replace R2 : Four wr sb (wordsAt l at_) := R2
      obtain ⟨s0, s1, s2, s3⟩ := R2.cells
      obtain ⟨t0, t1, t2, t3⟩ := R3.out.cells
      obtain ⟨q0, q1, q2, q3⟩ := R3.out.frees
      have m3 : ¬ w.heap.size = sb := by omega
      have m4 : ¬ w.heap.size = p := by omega
      have mp : p ≠ w.heap.size := by omega
      generalize hw0 : wordsAt l at_ 0 = x0 at *
      generalize hw1 : wordsAt l at_ 1 = x1 at *
      generalize hw2 : wordsAt l at_ 2 = x2 at *
      generalize hw3 : wordsAt l at_ 3 = x3 at *
      replace hw0 := fhid hw0
      replace hw1 := fhid hw1
      replace hw2 := fhid hw2
      replace hw3 := fhid hw3
      clear R2
      go_wp2_with fail
      have T := ((((R4.out.setNew (Nat.le_refl _) 0 (.int .u64 x0)).setNew (Nat.le_refl _) 1 (.int .u64 x1)).setNew (Nat.le_refl _) 2 (.int .u64 x2)).setNew (Nat.le_refl _) 3 (.int .u64 x3))
      have e : agg4 (wordsAt l at_) = .agg #[.int .u64 x0, .int .u64 x1, .int .u64 x2, .int .u64 x3] := by unfold agg4; rw [hw0.out, hw1.out, hw2.out, hw3.out]
      exact bodyPost_ret (v := .agg #[.int .u64 x0, .int .u64 x1, .int .u64 x2, .int .u64 x3]) (by simp [results, Try.results19, go_sem, t0, t1, t2, t3]) rfl ⟨by rw [← e], Rdr.mk' ((((R1.out.setOther mp 0 _).setOther mp 1 _).setOther mp 2 _).setOther mp 3 _) g2.out g3 g4 (show at_ + 32 ≤ l.length by omega) g6 T, T⟩
theorem nodes_any (p : Nat) (l : List UInt8) (at_ : Nat) (why fat : Int) (w : World) (h : Rdr w p l at_ why fat) :
    Calls Try.prog 19 #[.pointer (some ⟨p, 0, none⟩)] w (NodesPost w p l (nodesStep l at_ why fat)) := by
  unfold nodesStep
  by_cases hw : why = 0
  · subst hw
    rw [if_neg (by simp)]
    by_cases hn : l.length - at_ < 32
    · rw [if_pos hn]
      exact nodes_short p l at_ fat w h hn
    · rw [if_neg hn]
      exact nodes_ok p l at_ fat w h hn
  · rw [if_pos hw]
    refine (nodes_stop _ w fun w' hb => stop_yes (h.below hb) hw).mono ?_
    rintro e w' ⟨rfl, hb⟩
    exact ⟨rfl, h.below hb, Turns.ofBelow hb p⟩
end Go.Proofs.Ytbclmgakifmgfaa
