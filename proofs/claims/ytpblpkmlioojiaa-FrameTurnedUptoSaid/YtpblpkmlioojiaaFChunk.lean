/-
  slices.Chunk over bytes, in words of 4: the iterator's contract.
-/
import Derived.RangeFuncNested
import Derived.RangeFuncBound
import Derived.RangeFuncCalls
import Derived.RangeFuncLeaves
import Derived.RangeFuncBox
import Derived.Shelf.Abstract
import Derived.Shelf.RegionOpen
import Derived.WalkKit
import Derived.OwnWalkIn
import Derived.TacticsInMore
import Derived.LoopNIn
import Derived.LoopIn
import Derived.RegionIn
import Derived.Sort.QuietIn
import Derived.Test.YtpblpkmlioojiaaFNum
namespace Go.Proofs.Ytpblpkmlioojiaa
open Go.RowKit Go.Shelf
attribute [local go_sem] Oper.semAt_some

/-- The number of a round. -/
abbrev Rd (l : List UInt8) := { k : Nat // 4 * k < l.length }
/-- The numbers of the rounds that have come. -/
def rdNums {l : List UInt8} : List (Rd l) → List Nat
  | [] => []
  | x :: r => x.1 :: rdNums r
theorem rdNums_length {l : List UInt8} (r : List (Rd l)) : (rdNums r).length = r.length := by
  induction r with
  | nil => rfl
  | cons x r ih => simp [rdNums, ih]
theorem rdNums_snoc {l : List UInt8} (r : List (Rd l)) (x : Rd l) : rdNums (r ++ [x]) = rdNums r ++ [x.1] := by
  induction r with
  | nil => rfl
  | cons y r ih => simp [rdNums, ih]
/-- The word of a round, as a slice. -/
def rdSlice (b o : Nat) (l : List UInt8) (x : Rd l) : Value := .slice (some ⟨b, o + 4 * x.1, none⟩) (min 4 (l.length - 4 * x.1)) (min 4 (l.length - 4 * x.1))
/-- What a round keeps. -/
def KpC (n₀ Bs Bn : Nat) (W W' : World) : Prop := Below n₀ W W' ∧ W'.heap[Bs]? = W.heap[Bs]? ∧ W'.heap[Bn]? = W.heap[Bn]?
theorem KpC.refl (n₀ Bs Bn : Nat) (W : World) : KpC n₀ Bs Bn W W := ⟨Below.refl _ _, rfl, rfl⟩
theorem KpC.trans {n₀ Bs Bn : Nat} {A B C : World} (h : KpC n₀ Bs Bn A B) (k : KpC n₀ Bs Bn B C) : KpC n₀ Bs Bn A C := ⟨h.1.trans k.1, k.2.1.trans h.2.1, k.2.2.trans h.2.2⟩
theorem grownDrewN (w : World) (n : Nat) (row : Option Nat) : w.grownBy (w.drewN n) row := ⟨rfl, rfl, rfl, Nat.le_refl _, fun _ _ _ => rfl⟩

set_option maxHeartbeats 1000000 in
theorem chunk_in (F : Fence) (n : Nat) (hf : F.fn 22) (hro : F.round = none) (a : Option Addr) (len cap : Nat) (w : World) :
    CallsIn F n Try.prog 22 #[.slice a len cap, .int .i64 4] w fun e w' =>
      e = .returned (.func (.func 26) #[] #[.pointer (some ⟨w.heap.size, 0, none⟩), .pointer (some ⟨w.heap.size + 1, 0, none⟩)]) ∧
      w' = (w.alloc (.cells #[.slice a len cap] 22)).alloc (.cells #[.int .i64 4] 3) := by
  refine callsIn_of_wp Try.func22 rfl hf ?_ hro
  simp only [Try.ntmps22, List.size_toArray, List.length_cons, List.length_nil, Nat.reduceAdd, Nat.reduceSub, Array.replicate_succ, Array.replicate_zero, List.push_toArray, List.append_toArray, List.nil_append, List.cons_append]
  gi_wp2
  go_ret
  exact ⟨rfl, rfl⟩

set_option maxRecDepth 100000 in
set_option maxHeartbeats 2000000 in
theorem chunk1_in (n : Nat) (hn : 1 ≤ n) (lp Bs Bn n₀ b o cap : Nat) (l : List UInt8) (hcap : l.length ≤ cap) (hlen : l.length ≤ 140737488355328)
    (J Jx : List (Rd l) → World → Prop)
    (hY : ∀ pre x W, J pre W → pre.length < rounds4 l → YieldAt Fence.wide (n - 1) Try.prog lp #[rdSlice b o l x] W fun e W' =>
      (e = .returned (.bool true) ∧ J (pre ++ [x]) W' ∧ KpC n₀ Bs Bn W W') ∨ (e = .returned (.bool false) ∧ Jx (pre ++ [x]) W'))
    (W : World) (hJ : AbidesFrom W.heap.size J) (hBs : Boxed W Bs 22 (.slice (some ⟨b, o, none⟩) l.length cap)) (hBn : Boxed W Bn 3 (.int .i64 4)) (h0 : J [] W) :
    CallsIn Fence.wide n Try.prog 26 #[.func (.yield lp) #[] #[], .pointer (some ⟨Bs, 0, none⟩), .pointer (some ⟨Bn, 0, none⟩)] W fun e W' => (∃ v, e = .returned v) ∧
      ((∃ ys : List (Rd l), rdNums ys = List.range (rounds4 l) ∧ J ys W') ∨ (∃ pre, True ∧ Jx pre W')) := by
  refine callsIn_of_wp Try.func26 rfl trivial ?_ rfl
  simp only [Try.ntmps26, List.size_toArray, List.length_cons, List.length_nil, Nat.reduceAdd, Nat.reduceSub, Array.replicate_succ, Array.replicate_zero, List.push_toArray, List.append_toArray, List.nil_append, List.cons_append]
  gi_wp2
  gi_loopw [4] (fun i wr => ∃ (k m : Nat) (pre : List (Rd l)), m = 4 * k ∧ k ≤ rounds4 l ∧ rdNums pre = List.range k ∧ i = .int .i64 m ∧ J pre wr ∧ KpC n₀ Bs Bn W wr)
    (fun i _ => l.length + 4 - (intOf i).toNat)
  case atStart => exact ⟨0, 0, [], rfl, by omega, rfl, rfl, h0, KpC.refl _ _ _ _⟩
  case round =>
    obtain ⟨k, m, pre, hm, hk, hpre, rfl, hJs, hkp⟩ := hrel
    have bS : Boxed wr Bs 22 (.slice (some ⟨b, o, none⟩) l.length cap) := hkp.2.1.trans hBs
    have bN : Boxed wr Bn 3 (.int .i64 4) := hkp.2.2.trans hBn
    have cS := bS.cell
    have cN := bN.cell
    have hkr := fhid (show k < rounds4 l ↔ m < l.length by unfold rounds4; omega)
    have hlen := fhid (show pre.length = k by rw [← rdNums_length, hpre, List.length_range])
    replace hm := fhid hm
    replace hpre := fhid hpre
    by_cases hlt : m < l.length
    · have h2 : (m : Int) < l.length := by omega
      have hne : ¬ cap = m := by omega
      have hw : (l.length : Int) - m = ((l.length - m : Nat) : Int) := by omega
      by_cases h4 : 4 ≤ l.length - m
      · gi_wp2
        gi_quiet (fail)
        generalize hw2 : wr.drewN _ = w2
        have cS2 : w2.cell? ⟨Bs, 0, none⟩ = some (.slice (some ⟨b, o, none⟩) l.length cap) := by rw [← hw2]; exact cS
        have cN2 : w2.cell? ⟨Bn, 0, none⟩ = some (.int .i64 4) := by rw [← hw2]; exact cN
        have J2 : J pre w2 := by rw [← hw2]; exact hJ _ _ _ none hJs (grownDrewN _ _ _) (fun r h => by cases h)
        have K2 : KpC n₀ Bs Bn W w2 := by rw [← hw2]; exact hkp.trans ⟨below_drewN (Below.refl _ _) _, rfl, rfl⟩
        clear cS cN hJs hkp bS bN hw2
        obtain ⟨fn, tmps, assign, body, hy, hR⟩ := hY pre ⟨k, by have := hm.out; omega⟩ w2 J2 (by rw [hlen.out]; exact hkr.out.2 hlt)
        simp only [rdSlice] at hy
        rw [← hm.out, Nat.min_eq_left (by omega)] at hy
        gi_wp2
        refine hR.mono ?_
        rintro e W3 (⟨rfl, hJ3, hk3⟩ | ⟨rfl, hJx3⟩)
        · have K3 := K2.trans hk3
          have b3 : Boxed W3 Bn 3 (.int .i64 4) := K3.2.2.trans hBn
          have c3 := b3.cell
          gi_wp2
          go_roundw
          case rel => exact ⟨k + 1, m + 4, pre ++ [⟨k, by have := hm.out; omega⟩], by have := hm.out; omega, hkr.out.2 hlt, by rw [rdNums_snoc, hpre.out, List.range_succ], by go_num, hJ3, K3⟩
          case measure => simp [intOf]; omega
        · gi_wp2
          refine bodyPost_ret (results_none rfl _ _ _) rfl ?_
          exact ⟨⟨_, rfl⟩, .inr ⟨_, trivial, hJx3⟩⟩
      · gi_wp2
        gi_quiet (fail)
        generalize hw2 : wr.drewN _ = w2
        have cS2 : w2.cell? ⟨Bs, 0, none⟩ = some (.slice (some ⟨b, o, none⟩) l.length cap) := by rw [← hw2]; exact cS
        have cN2 : w2.cell? ⟨Bn, 0, none⟩ = some (.int .i64 4) := by rw [← hw2]; exact cN
        have J2 : J pre w2 := by rw [← hw2]; exact hJ _ _ _ none hJs (grownDrewN _ _ _) (fun r h => by cases h)
        have K2 : KpC n₀ Bs Bn W w2 := by rw [← hw2]; exact hkp.trans ⟨below_drewN (Below.refl _ _) _, rfl, rfl⟩
        clear cS cN hJs hkp bS bN hw2
        obtain ⟨fn, tmps, assign, body, hy, hR⟩ := hY pre ⟨k, by have := hm.out; omega⟩ w2 J2 (by rw [hlen.out]; exact hkr.out.2 hlt)
        simp only [rdSlice] at hy
        rw [← hm.out, Nat.min_eq_right (by omega)] at hy
        gi_wp2
        refine hR.mono ?_
        rintro e W3 (⟨rfl, hJ3, hk3⟩ | ⟨rfl, hJx3⟩)
        · have K3 := K2.trans hk3
          have b3 : Boxed W3 Bn 3 (.int .i64 4) := K3.2.2.trans hBn
          have c3 := b3.cell
          gi_wp2
          go_roundw
          case rel => exact ⟨k + 1, m + 4, pre ++ [⟨k, by have := hm.out; omega⟩], by have := hm.out; omega, hkr.out.2 hlt, by rw [rdNums_snoc, hpre.out, List.range_succ], by go_num, hJ3, K3⟩
          case measure => simp [intOf]; omega
        · gi_wp2
          refine bodyPost_ret (results_none rfl _ _ _) rfl ?_
          exact ⟨⟨_, rfl⟩, .inr ⟨_, trivial, hJx3⟩⟩
    · have h2 : ¬ (m : Int) < l.length := by omega
      gi_wp2
      go_end0
      have hke : k = rounds4 l := by
        rcases Nat.lt_or_ge k (rounds4 l) with h | h
        · exact absurd (hkr.out.1 h) hlt
        · omega
      exact ⟨⟨_, rfl⟩, .inl ⟨pre, by rw [hpre.out, hke], hJs⟩⟩

set_option maxRecDepth 100000 in
set_option maxHeartbeats 1000000 in
/-- No byte: no round. -/
theorem chunk1_nil_in (n : Nat) (lp Bs Bn cap : Nat) (A : Option Addr) (J : World → Prop) (W : World) (hBs : Boxed W Bs 22 (.slice A 0 cap)) (hBn : Boxed W Bn 3 (.int .i64 4)) (h0 : J W) :
    CallsIn Fence.wide n Try.prog 26 #[.func (.yield lp) #[] #[], .pointer (some ⟨Bs, 0, none⟩), .pointer (some ⟨Bn, 0, none⟩)] W fun e W' => (∃ v, e = .returned v) ∧ J W' := by
  have cS := hBs.cell
  have cN := hBn.cell
  clear hBs hBn
  refine callsIn_of_wp Try.func26 rfl trivial ?_ rfl
  simp only [Try.ntmps26, List.size_toArray, List.length_cons, List.length_nil, Nat.reduceAdd, Nat.reduceSub, Array.replicate_succ, Array.replicate_zero, List.push_toArray, List.append_toArray, List.nil_append, List.cons_append]
  gi_wp2
  gi_loopw [4] (fun i wr => i = .int .i64 0 ∧ J wr ∧ wr = W) (fun _ _ => 0)
  case atStart => exact ⟨rfl, h0, rfl⟩
  case round =>
    obtain ⟨rfl, hJs, rfl⟩ := hrel
    gi_wp2
    go_end0
    exact ⟨⟨_, rfl⟩, hJs⟩

/-- slices.Chunk's value, at bytes: the words, each one's number. -/
theorem chunk_stops (n : Nat) (hn : 1 ≤ n) (Bs Bn n₀ cap : Nat) (A : Option Addr) (l : List UInt8) (hcap : l.length ≤ cap) (hlen : l.length ≤ 140737488355328) (b o : Nat) (hA : 0 < l.length → A = some ⟨b, o, none⟩)
    (w : World) (hs : Bs < w.heap.size) (hn1 : Bn < w.heap.size) (hBs : Boxed w Bs 22 (.slice A l.length cap)) (hBn : Boxed w Bn 3 (.int .i64 4)) :
    SeqStopsK Fence.wide n Try.prog 26 #[.pointer (some ⟨Bs, 0, none⟩), .pointer (some ⟨Bn, 0, none⟩)] (fun x : Rd l => #[rdSlice b o l x]) (KpC n₀ Bs Bn)
      (fun ys => rdNums ys = List.range (rounds4 l)) (fun _ => True) (rounds4 l) w := fun lp J Jx W hW hJ _ hY h0 => by
  have bS : Boxed W Bs 22 (.slice A l.length cap) := (hW.block Bs hs).trans hBs
  have bN : Boxed W Bn 3 (.int .i64 4) := (hW.block Bn hn1).trans hBn
  by_cases h : 0 < l.length
  · rw [hA h] at bS
    exact chunk1_in n hn lp Bs Bn n₀ b o cap l hcap hlen J Jx hY W hJ bS bN h0
  · have hl : l = [] := List.eq_nil_of_length_eq_zero (by omega)
    subst hl
    exact (chunk1_nil_in n lp Bs Bn cap A (J []) W bS bN h0).mono fun e W' ⟨he, hj⟩ => ⟨he, .inl ⟨[], rfl, hj⟩⟩
end Go.Proofs.Ytpblpkmlioojiaa
