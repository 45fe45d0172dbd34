/-
  strings.SplitSeq at ',': the iterator, which keeps what is left in a cell of its own.
-/
import Derived.RangeFuncNested
import Derived.RangeFuncBound
import Derived.RangeFuncCalls
import Derived.RangeFuncLeaves
import Derived.RangeFuncBox
import Derived.Shelf.Abstract
import Derived.Shelf.RegionOpen
import Derived.WalkKit
import Derived.OwnWalkIn
import Derived.TacticsInMore
import Derived.LoopNIn
import Derived.LoopIn
import Derived.RegionIn
import Derived.Sort.QuietIn
import Derived.Test.YtkmknogejhhajaaDoorVFmt
namespace Go.Proofs.YtkmknogejhhajaaDoor
open Go.RowKit Go.Shelf
attribute [local go_sem] Oper.semAt_some

/-- A piece: no longer than a string may be. -/
abbrev Pc := { x : List UInt8 // x.length ≤ 140737488355328 }
def raw (l : List Pc) : List (List UInt8) := l.map (·.1)
theorem raw_snoc (l : List Pc) (x : Pc) : raw (l ++ [x]) = raw l ++ [x.1] := by simp [raw]
def pcV (x : Pc) : Value := .string (str x.1)
/-- How much is left. -/
def leftLen (Bs : Nat) (W : World) : Nat := match W.cell? ⟨Bs, 0, none⟩ with
  | some (.string s) => s.size
  | _ => 0
theorem leftLen_boxed {W : World} {Bs : Nat} {T : TypeId} {s : ByteArray} (h : Boxed W Bs T (.string s)) : leftLen Bs W = s.size := by
  unfold leftLen; rw [h.cell]
theorem upTo_le (c : UInt8) (l : List UInt8) : (upTo c l).length ≤ l.length := (List.takeWhile_prefix _).length_le
theorem behind_le (c : UInt8) (l : List UInt8) : (behind c l).length ≤ l.length := by unfold behind; rw [List.length_drop]; omega
set_option maxRecDepth 100000 in
set_option maxHeartbeats 2000000 in
theorem split1_in (n : Nat) (hn : 1 ≤ n) (lp Bp Bs Bk : Nat) (_hps : Bp ≠ Bs) (_hks : Bk ≠ Bs) (l : List UInt8) (hlen : l.length ≤ 140737488355328)
    (J : List Pc → World → Prop) (Jx : World → Prop)
    (_hJd : ∀ pre W k, J pre W → J pre (World.drewN W k)) (hJs : ∀ pre W v, J pre W → J pre (World.setCell W ⟨Bs, 0, none⟩ v))
    (hJb : ∀ pre W, J pre W → Boxed W Bp 9 (.string ⟨#[44]⟩) ∧ Boxed W Bk 3 (.int .i64 0))
    (hY : ∀ pre x W, raw (pre ++ [x]) <+: pieces l → J pre W → YieldAt Fence.wide (n - 1) Tryd.prog lp #[pcV x] W fun e W' =>
      (e = .returned (.bool true) ∧ J (pre ++ [x]) W' ∧ W'.heap[Bs]? = W.heap[Bs]?) ∨ (e = .returned (.bool false) ∧ Jx W'))
    (W : World) (hBs : Boxed W Bs 9 (.string (str l))) (h0 : J [] W) :
    CallsIn Fence.wide n Tryd.prog 77 #[.func (.yield lp) #[] #[], .pointer (some ⟨Bp, 0, none⟩), .pointer (some ⟨Bs, 0, none⟩), .pointer (some ⟨Bk, 0, none⟩)] W fun e W' => (∃ v, e = .returned v) ∧
      ((∃ ys : List Pc, raw ys = pieces l ∧ J ys W') ∨ Jx W') := by
  obtain ⟨bP0, bK0⟩ := hJb [] W h0
  have cP0 := bP0.cell
  refine callsIn_of_wp Tryd.func77 rfl trivial ?_ rfl
  simp only [Tryd.ntmps77, List.size_toArray, List.length_cons, List.length_nil, Nat.reduceAdd, Nat.reduceSub, Array.replicate_succ, Array.replicate_zero, List.push_toArray, List.append_toArray, List.nil_append, List.cons_append]
  have hd : 1 ≤ n := hn
  gi_wp2
  clear cP0 bP0 bK0
  gi_loopw [] (fun wr => ∃ (pre : List Pc) (r : List UInt8), r.length ≤ 140737488355328 ∧ pieces l = raw pre ++ pieces r ∧ J pre wr ∧ Boxed wr Bs 9 (.string (str r)))
    (fun wr => leftLen Bs wr)
  case atStart => exact ⟨[], l, hlen, rfl, h0, hBs⟩
  case round =>
    obtain ⟨pre, r, hr, hpre, hJr, bS⟩ := hrel
    obtain ⟨bP, bK⟩ := hJb pre wr hJr
    have cP := bP.cell
    have cK := bK.cell
    have cS := bS.cell
    have fS := bS.frozen
    have hi := fun W => Tryd.strings_Index_one (str r) 44 W
    have hbl : (str r).data.toList = r := bl_str r
    rw [hbl] at hi
    have hsz := str_size r
    have hst := pieces_step r
    by_cases h : 44 ∈ r
    · obtain ⟨h1, h2⟩ := idx_some h
      rw [h1] at hi
      rw [if_pos h] at hst
      have e1 : (str r).extract 0 (upTo 44 r).length = str (upTo 44 r) := by rw [ext_to, bl_str, ← upTo_take]
      have e2 : (str r).extract ((upTo 44 r).length + 1) (str r).size = str (behind 44 r) := by rw [ext_from, bl_str]; rfl
      have e3 : (str r).extract ((upTo 44 r).length + 1) r.length = str (behind 44 r) := by rw [← e2, str_size]
      have hms := fhid (show (str (behind 44 r)).size < (str r).size by rw [str_size, str_size]; unfold behind; rw [List.length_drop]; omega)
      have hb := fhid (show (behind 44 r).length ≤ 140737488355328 from Nat.le_trans (behind_le 44 r) hr)
      have hu : (upTo 44 r).length ≤ 140737488355328 := by omega
      obtain ⟨x, hx⟩ : ∃ x : Pc, x.1 = upTo 44 r := ⟨⟨upTo 44 r, hu⟩, rfl⟩
      have hpc := fhid (show pieces l = raw (pre ++ [x]) ++ pieces (behind 44 r) by rw [raw_snoc, hpre, hst, hx]; simp)
      obtain ⟨fn, tmps, assign, body, hy, hR⟩ := hY pre x wr ⟨_, hpc.out.symm⟩ hJr
      simp only [pcV, hx] at hy
      generalize hk : (upTo 44 r).length = k at *
      generalize str (upTo 44 r) = F1 at *
      have hS2 := fhid (show str (behind 44 r) = str (behind 44 r) from rfl)
      generalize hF2 : str (behind 44 r) = F2 at *
      replace hF2 := fhid hF2
      generalize hS : str r = S at *
      replace hk := fhid hk
      have i0 : (0 : Int) ≤ k := by omega
      have i1 : ¬ (k : Int) < 0 := by omega
      have i2 : (k : Int) ≤ S.size := by omega
      have i3 : (k : Int) + 1 ≤ S.size := by omega
      have i4 : (S.size : Int) ≤ 140737488355328 := by omega
      have i5 : ((k : Int) + 1).toNat = k + 1 := by omega
      clear hst hpre hbl h h1 h2 hS hS2 hx hu
      gi_wp2_with (first
        | (refine ⟨trivial, ?_⟩; gi_at_call 79; refine (callsIn_wide.2 (hi _)).mono ?_; rintro e w1 ⟨rfl, rfl⟩))
      refine hR.mono ?_
      rintro e W3 (⟨rfl, hJ3, hk3⟩ | ⟨rfl, hJx3⟩)
      · have b3 : Boxed W3 Bs 9 (.string S) := hk3.trans bS
        obtain ⟨bP3, bK3⟩ := hJb _ W3 hJ3
        have c3 := b3.cell
        have f3 := b3.frozen
        have p3 := bP3.cell
        have q3 := bK3.cell
        have bF := b3.set (.string F2)
        have hJ4 := hJs _ W3 (.string F2) hJ3
        have hml := fhid (show leftLen Bs (W3.setCell ⟨Bs, 0, none⟩ (.string F2)) < leftLen Bs w1 by
          rw [leftLen_boxed bF, leftLen_boxed bS]; exact hms.out)
        replace hJ4 := fhid hJ4
        replace bF := fhid bF
        clear hJ3 hk3 hR hy
        gi_wp2
        go_roundw
        case rel => exact ⟨_, _, hb.out, hpc.out, hJ4.out, by rw [hF2.out]; exact bF.out⟩
        case measure => exact hml.out
      · gi_wp2
        refine bodyPost_ret (results_none rfl _ _ _) rfl ?_
        exact ⟨⟨_, rfl⟩, .inr hJx3⟩
    · have h1 := idx_none h
      rw [h1] at hi
      rw [if_neg h, upTo_no h] at hst
      have hpc := fhid (show raw (pre ++ [⟨r, hr⟩]) = pieces l by rw [raw_snoc, hpre, hst])
      obtain ⟨fn, tmps, assign, body, hy, hR⟩ := hY pre ⟨r, hr⟩ wr ⟨[], by rw [List.append_nil]; exact hpc.out⟩ hJr
      simp only [pcV] at hy
      generalize str r = S at *
      clear hst hpre hbl h h1
      gi_wp2_with (first
        | (refine ⟨trivial, ?_⟩; gi_at_call 79; refine (callsIn_wide.2 (hi _)).mono ?_; rintro e w1 ⟨rfl, rfl⟩))
      refine hR.mono ?_
      rintro e W3 (⟨rfl, hJ3, hk3⟩ | ⟨rfl, hJx3⟩)
      · gi_wp2
        go_end0
        exact ⟨⟨_, rfl⟩, .inl ⟨_, hpc.out, hJ3⟩⟩
      · gi_wp2
        go_end0
        exact ⟨⟨_, rfl⟩, .inr hJx3⟩
end Go.Proofs.YtkmknogejhhajaaDoor
