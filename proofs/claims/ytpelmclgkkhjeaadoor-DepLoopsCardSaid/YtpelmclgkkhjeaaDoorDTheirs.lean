/-
  The same dependency of the program's own types, its jobs where they were.
-/
import Derived.Test.YtpelmclgkkhjeaaDoorDLaw
import Derived.Test.YtpelmclgkkhjeaaDoorDDeps
namespace Go.Proofs.YtpelmclgkkhjeaaDoor
open Go.RowKit

def TheirsRel2 (B : Nat) (w : World) (any : Bool) (l : List Itm) (v0 i : Value) (wr : World) : Prop := ∃ (j : Nat) (v : Value), j ≤ l.length ∧ i = .int .i64 (j : Int) ∧ OwnIt wr TIt (w.heap.size + 1 + 1 + 1) (fun b => b < B) v (l.take j) ∧
  DB wr (w.heap.size + 1 + 1) TDep any v ∧ DB wr (w.heap.size + 1) TDep false (.slice none 0 0) ∧ DB wr w.heap.size TRDep any v0 ∧ Below w.heap.size w wr
theorem ownsItBase2 {w : World} {e : TypeId} {B base : Nat} {v : Value} {l : List Itm} (h : OwnIt w e (base + 1 + 1 + 1) (fun b => b < B) v l) : OwnIt w e base (fun b => b < B) v l := by
  obtain ⟨xs, h1, h2⟩ := h
  exact ⟨xs, ownsRow_base h1 (by omega), h2⟩
set_option maxRecDepth 100000 in
set_option maxHeartbeats 4000000 in
theorem theirs_below (B : Nat) (any : Bool) (l : List Itm) (A : Option Addr) (cap : Nat) (w : World) (hs : Its w B A l) (hBw : B ≤ w.heap.size) (hl : l.length ≤ 1000) :
    Calls Tryd.prog 6 #[.agg #[.bool any, .slice A l.length cap]] w fun e w' => ∃ v, e = .returned (.agg #[.bool any, v]) ∧ OwnIt w' TIt w.heap.size (fun b => b < B) v l ∧ Below w.heap.size w w' := by
  obtain ⟨p0, p1, p2, g0, gz⟩ := theirs_start w any (.slice A l.length cap)
  replace hs := fhid hs
  replace p0 := fhid p0
  replace p1 := fhid p1
  replace p2 := fhid p2
  go_enter Tryd.func6, Tryd.ntmps6
  go_upto_region 2 with fail
  generalize World.alloc _ _ = W at *
  obtain ⟨c0, c1, _, _, _⟩ := p0.out.facts
  go_wp2_with fail
  go_loopw [12] (fun i wr => TheirsRel2 B w any l (.slice A l.length cap) i wr) (fun i _ => l.length - (intOf i).toNat)
  case atStart => exact ⟨0, .slice none 0 0, Nat.zero_le _, rfl, OwnIt.nil _ _ _ _, p2.out, p1.out, p0.out, g0⟩
  case round =>
    obtain ⟨j, v, hjl, rfl, hO, q2, q1, q0, hB⟩ := hrel
    have hsz := hB.size
    clear c0 c1
    replace p0 := fhid True.intro
    replace p1 := fhid True.intro
    replace p2 := fhid True.intro
    have hlt2 := q2.facts.2.2.2.2
    by_cases hlt : j < l.length
    · have hsW := hs.out.below (hB.mono hBw)
      obtain ⟨bb, o, rfl, hbb, hc1, A', cp, hc2, hjc, hcm, hjs⟩ := hsW.at_ hlt
      have hsn := fhid (show l.take (j + 1) = l.take j ++ [l[j]] from List.take_succ_eq_append_getElem hlt)
      have i1 : (j : Int) < l.length := by omega
      have i0 : (0 : Int) ≤ j := by omega
      have hln : (l.take j).length ≤ 1000 := by rw [List.length_take]; omega
      clear hsW
      generalize l[j] = x at *
      obtain ⟨k, js⟩ := x
      simp only at hc1 hc2 hjc hjs
      generalize l.take j = pre at *
      have bA : Below wr.heap.size wr (wr.alloc (.cells #[.int .i64 k, .slice A' js.length cp] TRIt)) := (Below.refl _ _).alloc (Nat.le_refl _) _
      have zA : (wr.alloc (.cells #[.int .i64 k, .slice A' js.length cp] TRIt)).heap.size = wr.heap.size + 1 := World.size_alloc _ _
      have o2 := OwnIt.keepB hO (Nat.le_trans hBw hsz) bA
      have hjs2 := hjs.below (bA.mono (Nat.le_trans hBw hsz))
      obtain ⟨c4, c5, f4, f5, _⟩ := q2.facts
      replace hln := fhid hln
      replace hO := fhid hO
      replace hjs := fhid hjs
      replace hjs2 := fhid hjs2
      replace o2 := fhid o2
      replace q0 := fhid q0
      replace q1 := fhid q1
      replace q2 := fhid q2
      obtain ⟨Av, nv, cv, rfl⟩ : ∃ A n c, v = .slice A n c := by obtain ⟨A, cap, e, _⟩ := hO.out.shape; exact ⟨A, _, cap, e⟩
      have h3 : w.heap.size + 1 + 1 + 1 ≤ wr.heap.size := by omega
      go_wp2_with (first
        | (at_builtin; (refine app_it 31 TIt Tryd.underlying31 infoIt rfl _ _ rfl (w.heap.size + 1 + 1 + 1) (fun b => b < B) _ pre k js A' cp hjc hcm (wr.alloc (.cells #[.int .i64 k, .slice A' js.length cp] TRIt)) rfl o2.out (fun b hb => ⟨by rw [zA]; omega, OwnIt.ownB o2.out (by omega) b hb⟩) hjs2.out rfl (wr.heap.size + 1) (by rw [zA]) rfl (by have := hln.out; omega) (by omega) ?_; intro v3 w3 o3 hk3 b3)
           obtain ⟨A3, n3, cap3, rfl⟩ : ∃ A n c, v3 = .slice A n c := (by obtain ⟨A, cap, e, _⟩ := o3.shape; exact ⟨A, _, cap, e⟩)
           replace o3 := fhid o3
           have r2 := DB.below (DB.below q2.out bA (by omega)) b3 (by omega)
           obtain ⟨_, _, g4, g5, _⟩ := r2.facts))
      go_roundw
      case rel =>
        refine ⟨j + 1, _, by omega, by go_num, ?_, block_set 1 _ r2, block_other _ _ (DB.below (DB.below q1.out bA (by omega)) b3 (by omega)) (by omega), block_other _ _ (DB.below (DB.below q0.out bA (by omega)) b3 (by omega)) (by omega), ((hB.trans (bA.mono hsz)).trans (b3.mono (by omega))).setCell (show w.heap.size ≤ w.heap.size + 1 + 1 by omega) _⟩
        rw [hsn.out]
        exact OwnIt.setB o3.out r2 (by omega) tag_Dep_It _ _
      case measure => simp [intOf]; omega
    · obtain rfl : j = l.length := by omega
      rw [List.take_length] at hO
      have i1 : ¬ (l.length : Int) < l.length := by omega
      obtain ⟨A3, cap3, rfl, _, _, _⟩ := hO.shape
      obtain ⟨c4, c5, f4, f5, _⟩ := q2.facts
      obtain ⟨c2, c3, f2, f3, _⟩ := q1.facts
      have o3 := fhid (OwnIt.setB (OwnIt.setB hO q1 (by omega) tag_Dep_It 0 (.bool any)) (block_set 0 _ q1) (by omega) tag_Dep_It 1 (.slice A3 l.length cap3))
      replace hO := fhid hO
      replace q0 := fhid q0
      replace q1 := fhid q1
      replace q2 := fhid q2
      go_wp2_with fail
      exact bodyPost_ret (v := .agg #[.bool any, .slice A3 l.length cap3]) (by simp [results, Tryd.results6, go_sem, c2, c3]) rfl
        ⟨_, rfl, ownsItBase2 o3.out, set2 hB _ (by omega) _ _⟩
end Go.Proofs.YtpelmclgkkhjeaaDoor
