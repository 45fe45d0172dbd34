/-
  First, in the package, walked.
-/
import Derived.Test.YtppphpgippchaaaDoorFirst
namespace Go.Proofs.YtppphpgippchaaaDoor
open Go.RowKit
theorem Blk.put {w : World} {b : Nat} {p : Nat → Bool} (h : Blk w b p) (x0 x1 x2 x3 : Value) :
    ((((w.setCell ⟨b, 0, none⟩ x0).setCell ⟨b, 1, none⟩ x1).setCell ⟨b, 2, none⟩ x2).setCell ⟨b, 3, none⟩ x3).cell? ⟨b, 0, none⟩ = some x0 ∧
    ((((w.setCell ⟨b, 0, none⟩ x0).setCell ⟨b, 1, none⟩ x1).setCell ⟨b, 2, none⟩ x2).setCell ⟨b, 3, none⟩ x3).cell? ⟨b, 1, none⟩ = some x1 ∧
    ((((w.setCell ⟨b, 0, none⟩ x0).setCell ⟨b, 1, none⟩ x1).setCell ⟨b, 2, none⟩ x2).setCell ⟨b, 3, none⟩ x3).cell? ⟨b, 2, none⟩ = some x2 ∧
    ((((w.setCell ⟨b, 0, none⟩ x0).setCell ⟨b, 1, none⟩ x1).setCell ⟨b, 2, none⟩ x2).setCell ⟨b, 3, none⟩ x3).cell? ⟨b, 3, none⟩ = some x3 := by
  unfold Blk at h
  unfold World.cell? World.setCell
  simp [Array.getElem?_modify, h]
/-- What First answers. -/
def fstP (p : Nat → Bool) (n : Int) : Nat → Bool := fun j => firstB p n && firstP p n j
def FirstPost (p : Nat → Bool) (n : Int) (w : World) (e : Ending) (w' : World) : Prop :=
  e = .returned (.tuple #[nodes (fstP p n), .bool (firstB p n)]) ∧ Below w.heap.size w w'
theorem first_no (p : Nat → Bool) (n : Int) (h : n < 0 ∨ (cnt p 256 : Int) < n) : firstB p n = false ∧ nodes (fstP p n) = .agg #[.int .u64 0, .int .u64 0, .int .u64 0, .int .u64 0] := by
  have hB : firstB p n = false := by
    unfold firstB
    rcases h with h | h
    · rw [decide_eq_false (by omega)]; rfl
    · rw [decide_eq_false (p := n ≤ _) (by omega), Bool.and_false]
  refine ⟨hB, ?_⟩
  rw [← zero_nodes]
  exact nodes_congr fun j _ => by unfold fstP; rw [hB]; rfl
theorem first_yes (p : Nat → Bool) (n : Nat) (h : n ≤ cnt p 256) : firstB p n = true ∧ ∀ j, fstP p n j = firstP p n j := by
  have hB : firstB p n = true := by
    unfold firstB
    rw [decide_eq_true (by omega), decide_eq_true (by omega)]; rfl
  exact ⟨hB, fun j => by unfold fstP; rw [hB]; rfl⟩
set_option maxRecDepth 100000 in
set_option maxHeartbeats 1600000 in
theorem first_neg (p : Nat → Bool) (n : Int) (w : World) (h : n < 0) :
    Calls Tryd.prog 23 #[nodes p, .int .i64 n] w (FirstPost p n w) := by
  obtain ⟨s1, s2, s3⟩ := two_start w p
  obtain ⟨e1, e2⟩ := first_no p n (.inl h)
  unfold FirstPost
  rw [e1, e2]
  clear e1 e2
  go_enter Tryd.func23, Tryd.ntmps23
  go_wp2
  refine bodyPost_ret (v := .tuple #[.agg #[.int .u64 0, .int .u64 0, .int .u64 0, .int .u64 0], .bool false]) (by simp [results, Tryd.results23, go_sem]) rfl ⟨rfl, s3⟩
set_option maxRecDepth 100000 in
set_option maxHeartbeats 1600000 in
theorem first_many (p : Nat → Bool) (n : Int) (w : World) (h0 : 0 ≤ n) (h : (cnt p 256 : Int) < n) :
    Calls Tryd.prog 23 #[nodes p, .int .i64 n] w (FirstPost p n w) := by
  obtain ⟨s1, s2, s3⟩ := two_start w p
  obtain ⟨e1, e2⟩ := first_no p n (.inr h)
  unfold FirstPost
  rw [e1, e2]
  clear e1 e2
  have h1 : ¬ n < 0 := by omega
  go_enter Tryd.func23, Tryd.ntmps23
  go_wp2_with fail
  refine (count_any p _).mono ?_
  rintro e w1 ⟨rfl, hx⟩
  have t2 := s2.on hx
  have t3 := below_on s3 hx
  clear s1 s2 s3 hx
  obtain ⟨g0, g1, g2, g3⟩ := t2.frees
  obtain ⟨d0, d1, d2, d3⟩ := t2.four
  go_wp2
  obtain ⟨k0, k1, k2, k3⟩ := t2.put (.int .u64 0) (.int .u64 0) (.int .u64 0) (.int .u64 0)
  have hBz := below_stores t3 (show w.heap.size ≤ w.heap.size + 1 by omega) (.int .u64 0) (.int .u64 0) (.int .u64 0) (.int .u64 0)
  clear g0 g1 g2 g3 d0 d1 d2 d3 t2 t3
  generalize (((w1.setCell ⟨w.heap.size + 1, 0, none⟩ (.int .u64 0)).setCell ⟨w.heap.size + 1, 1, none⟩ (.int .u64 0)).setCell ⟨w.heap.size + 1, 2, none⟩ (.int .u64 0)).setCell ⟨w.heap.size + 1, 3, none⟩ (.int .u64 0) = wz at *
  refine bodyPost_ret (v := .tuple #[.agg #[.int .u64 0, .int .u64 0, .int .u64 0, .int .u64 0], .bool false]) (by simp [results, Tryd.results23, go_sem, k0, k1, k2, k3]) rfl ⟨rfl, hBz⟩
set_option maxRecDepth 100000 in
set_option maxHeartbeats 1600000 in
theorem first_full (p : Nat → Bool) (n : Nat) (w : World) (hT : Tab w) (h : n = cnt p 256) (hm : (n : Int) ≤ 9223372036854775807) :
    Calls Tryd.prog 23 #[nodes p, .int .i64 n] w (FirstPost p n w) := by
  obtain ⟨s1, s2, s3⟩ := two_start w p
  obtain ⟨e1, e2⟩ := first_yes p n (by omega)
  have e3 : nodes (fstP p n) = nodes p := nodes_congr fun j hj => by rw [e2 j, first_all p j hj, h]
  obtain ⟨m1, m2⟩ := nth_none p n (.inr (by omega))
  have m1 := hid m1
  have m2 := hid m2
  have hT1 := hid hT
  unfold FirstPost
  rw [e1, e3]
  clear e1 e2 e3 hT
  have h1 : ¬ (n : Int) < 0 := by omega
  have h2 : ¬ (cnt p 256 : Int) < n := by omega
  have hh := hid h
  clear h
  go_enter Tryd.func23, Tryd.ntmps23
  go_wp2_with fail
  refine (count_any p _).mono ?_
  rintro e w1 ⟨rfl, hx⟩
  have t1 := s1.on hx
  have t2 := s2.on hx
  have t3 := below_on s3 hx
  clear s1 s2 s3 hx
  obtain ⟨c0, c1, c2, c3⟩ := t1.four
  go_wp2_with fail
  refine (nth_any p n _ (tab_below hT1.out t3) hm).mono ?_
  rintro e w2 ⟨rfl, hx⟩
  rw [m1.out, m2.out]
  have u1 := t1.on hx
  have u2 := t2.on hx
  have u3 := below_on t3 hx
  clear t1 t2 t3 hx c0 c1 c2 c3
  obtain ⟨c0, c1, c2, c3⟩ := u1.four
  obtain ⟨g0, g1, g2, g3⟩ := u2.frees
  obtain ⟨d0, d1, d2, d3⟩ := u2.four
  go_wp2
  obtain ⟨k0, k1, k2, k3⟩ := (u2.stores p).four
  refine bodyPost_ret (v := .tuple #[nodes p, .bool true]) (by simp [results, Tryd.results23, go_sem, k0, k1, k2, k3]) rfl ⟨rfl, below_stores u3 (by omega) _ _ _ _⟩
set_option maxRecDepth 100000 in
set_option maxHeartbeats 1600000 in
theorem first_some (p : Nat → Bool) (n : Nat) (w : World) (hT : Tab w) (h : n < cnt p 256) (hm : (n : Int) ≤ 9223372036854775807) :
    Calls Tryd.prog 23 #[nodes p, .int .i64 n] w (FirstPost p n w) := by
  obtain ⟨s1, s2, s3⟩ := two_start w p
  obtain ⟨e1, e2⟩ := first_yes p n (by omega)
  obtain ⟨c, hc1, hc2, hc3, m1, m2⟩ := nth_spec p n h
  have e3 : nodes (fstP p n) = nodes fun j => p j && spanP 0 ((c : Int) - 1) j := nodes_congr fun j hj => by rw [e2 j, ← first_span p c n hc3 j]
  have m1 := hid m1
  have m2 := hid m2
  have hT1 := hid hT
  unfold FirstPost
  rw [e1, e3]
  clear e1 e2 e3 hT hc2 hc3
  have h1 : ¬ (n : Int) < 0 := by omega
  have h2 : ¬ (cnt p 256 : Int) < n := by omega
  have ew : IntKind.i64.wrap ((c : Int) - 1) = (c : Int) - 1 := IntWalk.i64_in _ (by omega)
  go_enter Tryd.func23, Tryd.ntmps23
  go_wp2_with fail
  refine (count_any p _).mono ?_
  rintro e w1 ⟨rfl, hx⟩
  have t1 := s1.on hx
  have t2 := s2.on hx
  have t3 := below_on s3 hx
  clear s1 s2 s3 hx
  obtain ⟨c0, c1, c2, c3⟩ := t1.four
  go_wp2_with fail
  refine (nth_any p n _ (tab_below hT1.out t3) hm).mono ?_
  rintro e w2 ⟨rfl, hx⟩
  rw [m1.out, m2.out]
  have z : Held w [(w.heap.size, p), (w.heap.size + 1, fun _ => false)] w2.drew := (Held.cons (t1.on hx) (Held.one (t2.on hx) (below_on t3 hx))).drew
  clear t1 t2 t3 hx c0 c1 c2 c3
  go_wp2_with fail
  have a := z.head.four
  obtain ⟨c0, c1, c2, c3⟩ := (show Blk w2 w.heap.size p from z.head).four
  go_region_with (first
    | (go_at_call 13; refine (span_any 0 ((c : Int) - 1) _).mono ?_; rintro e w3 ⟨rfl, hx⟩; have z := Held.on z hx; obtain ⟨c0, c1, c2, c3⟩ := z.head.four)
    | (go_at_call 17; refine (op_and p (spanP 0 ((c : Int) - 1)) _).mono ?_; rintro e w3 ⟨rfl, hx⟩; have z := Held.on z hx; obtain ⟨g0, g1, g2, g3⟩ := z.tail.head.frees; obtain ⟨d0, d1, d2, d3⟩ := z.tail.head.four))
  all_goals
    go_wp2
    obtain ⟨k0, k1, k2, k3⟩ := (z.tail.head.stores fun j => p j && spanP 0 ((c : Int) - 1) j).four
    refine bodyPost_ret (v := .tuple #[nodes fun j => p j && spanP 0 ((c : Int) - 1) j, .bool true]) (by simp [results, Tryd.results23, go_sem, k0, k1, k2, k3]) rfl ⟨rfl, below_stores z.2 (by omega) _ _ _ _⟩
theorem first_any (p : Nat → Bool) (n : Int) (w : World) (hT : Tab w) (hm : n ≤ 9223372036854775807) :
    Calls Tryd.prog 23 #[nodes p, .int .i64 n] w (FirstPost p n w) := by
  by_cases h : n < 0
  · exact first_neg p n w h
  · obtain ⟨k, rfl⟩ := Int.eq_ofNat_of_zero_le (show 0 ≤ n by omega)
    by_cases h1 : (cnt p 256 : Int) < k
    · exact first_many p k w (by omega) h1
    · by_cases h2 : k = cnt p 256
      · exact first_full p k w hT h2 hm
      · exact first_some p k w hT (by omega) hm
end Go.Proofs.YtppphpgippchaaaDoor
