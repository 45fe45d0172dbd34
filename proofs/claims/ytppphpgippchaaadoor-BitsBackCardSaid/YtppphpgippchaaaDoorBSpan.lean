/-
  Span: the numbers from one to another.
-/
import Derived.Test.YtppphpgippchaaaDoorMove
namespace Go.Proofs.YtppphpgippchaaaDoor
open Go.RowKit
theorem span_eq (l r a c : Int) (h : (a = l ∧ 0 ≤ l) ∨ (a = 0 ∧ l < 0)) (h2 : (c = r - 255 ∧ -1 ≤ r ∧ r ≤ 255) ∨ (c = -256 ∧ r < -1) ∨ (c = 0 ∧ 255 < r)) (j : Nat) (hj : j < 256) :
    (fun j => moveP (fun _ => true) a j && moveP (fun _ => true) c j) j = spanP l r j := by
  unfold moveP spanP
  rw [Bool.eq_iff_iff]
  simp
  omega
set_option maxRecDepth 100000 in
set_option maxHeartbeats 800000 in
theorem span_00 (l r : Int) (w : World) (h1 : ¬ l < 0) (h2 : ¬ r < -1) (h3 : ¬ 255 < r) :
    Calls Tryd.prog 13 #[.int .i64 l, .int .i64 r] w fun e w' => e = .returned (nodes (spanP l r)) ∧ Below w.heap.size w w' := by
  have s1 := Blk.zero w
  have s2 : Below w.heap.size w (w.alloc (.cells #[.int .u64 0, .int .u64 0, .int .u64 0, .int .u64 0] 26)) := (Below.refl _ _).alloc (Nat.le_refl _) _
  obtain ⟨q, hq, he⟩ : ∃ q : Nat → Bool, Hid (∀ j, j < 256 → q j = spanP l r j) ∧ Hid ((fun j => moveP (fun _ => true) l j && moveP (fun _ => true) (r - 255) j) = q) := ⟨_, span_eq l r l (r - 255) (.inl ⟨rfl, by omega⟩) (.inl ⟨rfl, by omega, by omega⟩), rfl⟩
  go_enter Tryd.func13, Tryd.ntmps13
  go_wp2_with fail
  refine (all_any _).mono ?_
  rintro e w1 ⟨rfl, hx⟩
  have s3 := s1.below hx s1.lt
  have s4 := s2.trans (hx.mono (Nat.le_of_lt s1.lt))
  clear s1 s2 hx
  go_wp2_with fail
  refine (move_any (fun _ => true) l _).mono ?_
  rintro e w2 ⟨rfl, hx⟩
  have s5 := s3.below hx s3.lt
  have s6 := s4.trans (hx.mono (Nat.le_of_lt s3.lt))
  clear s3 s4 hx
  go_wp2_with fail
  refine (all_any _).mono ?_
  rintro e w3 ⟨rfl, hx⟩
  have s7 := s5.below hx s5.lt
  have s8 := s6.trans (hx.mono (Nat.le_of_lt s5.lt))
  clear s5 s6 hx
  go_wp2_with fail
  refine (move_any (fun _ => true) (r - 255) _).mono ?_
  rintro e w4 ⟨rfl, hx⟩
  have s9 := s7.below hx s7.lt
  have s10 := s8.trans (hx.mono (Nat.le_of_lt s7.lt))
  clear s7 s8 hx
  go_wp2_with fail
  refine (op_and (moveP (fun _ => true) l) (moveP (fun _ => true) (r - 255)) _).mono ?_
  rintro e w5 ⟨rfl, hx⟩
  rw [he.out]
  have hr := s9.below hx s9.lt
  have hB := s10.trans (hx.mono (Nat.le_of_lt s9.lt))
  clear s9 s10 hx
  obtain ⟨g0, g1, g2, g3⟩ := hr.frees
  obtain ⟨d0, d1, d2, d3⟩ := hr.four
  go_wp2
  obtain ⟨k0, k1, k2, k3⟩ := (hr.stores q).four
  rw [← nodes_congr hq.out]
  refine bodyPost_ret (v := nodes q) (by simp [results, Tryd.results13, go_sem, k0, k1, k2, k3]) rfl ⟨rfl, below_stores hB (by omega) _ _ _ _⟩
set_option maxRecDepth 100000 in
set_option maxHeartbeats 800000 in
theorem span_01 (l r : Int) (w : World) (h1 : ¬ l < 0) (h2 : r < -1) :
    Calls Tryd.prog 13 #[.int .i64 l, .int .i64 r] w fun e w' => e = .returned (nodes (spanP l r)) ∧ Below w.heap.size w w' := by
  have s1 := Blk.zero w
  have s2 : Below w.heap.size w (w.alloc (.cells #[.int .u64 0, .int .u64 0, .int .u64 0, .int .u64 0] 26)) := (Below.refl _ _).alloc (Nat.le_refl _) _
  obtain ⟨q, hq, he⟩ : ∃ q : Nat → Bool, Hid (∀ j, j < 256 → q j = spanP l r j) ∧ Hid ((fun j => moveP (fun _ => true) l j && moveP (fun _ => true) (-256) j) = q) := ⟨_, span_eq l r l (-256) (.inl ⟨rfl, by omega⟩) (.inr (.inl ⟨rfl, by omega⟩)), rfl⟩
  go_enter Tryd.func13, Tryd.ntmps13
  go_wp2_with fail
  refine (all_any _).mono ?_
  rintro e w1 ⟨rfl, hx⟩
  have s3 := s1.below hx s1.lt
  have s4 := s2.trans (hx.mono (Nat.le_of_lt s1.lt))
  clear s1 s2 hx
  go_wp2_with fail
  refine (move_any (fun _ => true) l _).mono ?_
  rintro e w2 ⟨rfl, hx⟩
  have s5 := s3.below hx s3.lt
  have s6 := s4.trans (hx.mono (Nat.le_of_lt s3.lt))
  clear s3 s4 hx
  go_wp2_with fail
  refine (all_any _).mono ?_
  rintro e w3 ⟨rfl, hx⟩
  have s7 := s5.below hx s5.lt
  have s8 := s6.trans (hx.mono (Nat.le_of_lt s5.lt))
  clear s5 s6 hx
  go_wp2_with fail
  refine (move_any (fun _ => true) (-256) _).mono ?_
  rintro e w4 ⟨rfl, hx⟩
  have s9 := s7.below hx s7.lt
  have s10 := s8.trans (hx.mono (Nat.le_of_lt s7.lt))
  clear s7 s8 hx
  go_wp2_with fail
  refine (op_and (moveP (fun _ => true) l) (moveP (fun _ => true) (-256)) _).mono ?_
  rintro e w5 ⟨rfl, hx⟩
  rw [he.out]
  have hr := s9.below hx s9.lt
  have hB := s10.trans (hx.mono (Nat.le_of_lt s9.lt))
  clear s9 s10 hx
  obtain ⟨g0, g1, g2, g3⟩ := hr.frees
  obtain ⟨d0, d1, d2, d3⟩ := hr.four
  go_wp2
  obtain ⟨k0, k1, k2, k3⟩ := (hr.stores q).four
  rw [← nodes_congr hq.out]
  refine bodyPost_ret (v := nodes q) (by simp [results, Tryd.results13, go_sem, k0, k1, k2, k3]) rfl ⟨rfl, below_stores hB (by omega) _ _ _ _⟩
set_option maxRecDepth 100000 in
set_option maxHeartbeats 800000 in
theorem span_02 (l r : Int) (w : World) (h1 : ¬ l < 0) (h2 : 255 < r) (h3 : ¬ r < -1) :
    Calls Tryd.prog 13 #[.int .i64 l, .int .i64 r] w fun e w' => e = .returned (nodes (spanP l r)) ∧ Below w.heap.size w w' := by
  have s1 := Blk.zero w
  have s2 : Below w.heap.size w (w.alloc (.cells #[.int .u64 0, .int .u64 0, .int .u64 0, .int .u64 0] 26)) := (Below.refl _ _).alloc (Nat.le_refl _) _
  obtain ⟨q, hq, he⟩ : ∃ q : Nat → Bool, Hid (∀ j, j < 256 → q j = spanP l r j) ∧ Hid ((fun j => moveP (fun _ => true) l j && moveP (fun _ => true) 0 j) = q) := ⟨_, span_eq l r l 0 (.inl ⟨rfl, by omega⟩) (.inr (.inr ⟨rfl, by omega⟩)), rfl⟩
  go_enter Tryd.func13, Tryd.ntmps13
  go_wp2_with fail
  refine (all_any _).mono ?_
  rintro e w1 ⟨rfl, hx⟩
  have s3 := s1.below hx s1.lt
  have s4 := s2.trans (hx.mono (Nat.le_of_lt s1.lt))
  clear s1 s2 hx
  go_wp2_with fail
  refine (move_any (fun _ => true) l _).mono ?_
  rintro e w2 ⟨rfl, hx⟩
  have s5 := s3.below hx s3.lt
  have s6 := s4.trans (hx.mono (Nat.le_of_lt s3.lt))
  clear s3 s4 hx
  go_wp2_with fail
  refine (all_any _).mono ?_
  rintro e w3 ⟨rfl, hx⟩
  have s7 := s5.below hx s5.lt
  have s8 := s6.trans (hx.mono (Nat.le_of_lt s5.lt))
  clear s5 s6 hx
  go_wp2_with fail
  refine (move_any (fun _ => true) 0 _).mono ?_
  rintro e w4 ⟨rfl, hx⟩
  have s9 := s7.below hx s7.lt
  have s10 := s8.trans (hx.mono (Nat.le_of_lt s7.lt))
  clear s7 s8 hx
  go_wp2_with fail
  refine (op_and (moveP (fun _ => true) l) (moveP (fun _ => true) 0) _).mono ?_
  rintro e w5 ⟨rfl, hx⟩
  rw [he.out]
  have hr := s9.below hx s9.lt
  have hB := s10.trans (hx.mono (Nat.le_of_lt s9.lt))
  clear s9 s10 hx
  obtain ⟨g0, g1, g2, g3⟩ := hr.frees
  obtain ⟨d0, d1, d2, d3⟩ := hr.four
  go_wp2
  obtain ⟨k0, k1, k2, k3⟩ := (hr.stores q).four
  rw [← nodes_congr hq.out]
  refine bodyPost_ret (v := nodes q) (by simp [results, Tryd.results13, go_sem, k0, k1, k2, k3]) rfl ⟨rfl, below_stores hB (by omega) _ _ _ _⟩
set_option maxRecDepth 100000 in
set_option maxHeartbeats 800000 in
theorem span_10 (l r : Int) (w : World) (h1 : l < 0) (h2 : ¬ r < -1) (h3 : ¬ 255 < r) :
    Calls Tryd.prog 13 #[.int .i64 l, .int .i64 r] w fun e w' => e = .returned (nodes (spanP l r)) ∧ Below w.heap.size w w' := by
  have s1 := Blk.zero w
  have s2 : Below w.heap.size w (w.alloc (.cells #[.int .u64 0, .int .u64 0, .int .u64 0, .int .u64 0] 26)) := (Below.refl _ _).alloc (Nat.le_refl _) _
  obtain ⟨q, hq, he⟩ : ∃ q : Nat → Bool, Hid (∀ j, j < 256 → q j = spanP l r j) ∧ Hid ((fun j => moveP (fun _ => true) 0 j && moveP (fun _ => true) (r - 255) j) = q) := ⟨_, span_eq l r 0 (r - 255) (.inr ⟨rfl, by omega⟩) (.inl ⟨rfl, by omega, by omega⟩), rfl⟩
  go_enter Tryd.func13, Tryd.ntmps13
  go_wp2_with fail
  refine (all_any _).mono ?_
  rintro e w1 ⟨rfl, hx⟩
  have s3 := s1.below hx s1.lt
  have s4 := s2.trans (hx.mono (Nat.le_of_lt s1.lt))
  clear s1 s2 hx
  go_wp2_with fail
  refine (move_any (fun _ => true) 0 _).mono ?_
  rintro e w2 ⟨rfl, hx⟩
  have s5 := s3.below hx s3.lt
  have s6 := s4.trans (hx.mono (Nat.le_of_lt s3.lt))
  clear s3 s4 hx
  go_wp2_with fail
  refine (all_any _).mono ?_
  rintro e w3 ⟨rfl, hx⟩
  have s7 := s5.below hx s5.lt
  have s8 := s6.trans (hx.mono (Nat.le_of_lt s5.lt))
  clear s5 s6 hx
  go_wp2_with fail
  refine (move_any (fun _ => true) (r - 255) _).mono ?_
  rintro e w4 ⟨rfl, hx⟩
  have s9 := s7.below hx s7.lt
  have s10 := s8.trans (hx.mono (Nat.le_of_lt s7.lt))
  clear s7 s8 hx
  go_wp2_with fail
  refine (op_and (moveP (fun _ => true) 0) (moveP (fun _ => true) (r - 255)) _).mono ?_
  rintro e w5 ⟨rfl, hx⟩
  rw [he.out]
  have hr := s9.below hx s9.lt
  have hB := s10.trans (hx.mono (Nat.le_of_lt s9.lt))
  clear s9 s10 hx
  obtain ⟨g0, g1, g2, g3⟩ := hr.frees
  obtain ⟨d0, d1, d2, d3⟩ := hr.four
  go_wp2
  obtain ⟨k0, k1, k2, k3⟩ := (hr.stores q).four
  rw [← nodes_congr hq.out]
  refine bodyPost_ret (v := nodes q) (by simp [results, Tryd.results13, go_sem, k0, k1, k2, k3]) rfl ⟨rfl, below_stores hB (by omega) _ _ _ _⟩
set_option maxRecDepth 100000 in
set_option maxHeartbeats 800000 in
theorem span_11 (l r : Int) (w : World) (h1 : l < 0) (h2 : r < -1) :
    Calls Tryd.prog 13 #[.int .i64 l, .int .i64 r] w fun e w' => e = .returned (nodes (spanP l r)) ∧ Below w.heap.size w w' := by
  have s1 := Blk.zero w
  have s2 : Below w.heap.size w (w.alloc (.cells #[.int .u64 0, .int .u64 0, .int .u64 0, .int .u64 0] 26)) := (Below.refl _ _).alloc (Nat.le_refl _) _
  obtain ⟨q, hq, he⟩ : ∃ q : Nat → Bool, Hid (∀ j, j < 256 → q j = spanP l r j) ∧ Hid ((fun j => moveP (fun _ => true) 0 j && moveP (fun _ => true) (-256) j) = q) := ⟨_, span_eq l r 0 (-256) (.inr ⟨rfl, by omega⟩) (.inr (.inl ⟨rfl, by omega⟩)), rfl⟩
  go_enter Tryd.func13, Tryd.ntmps13
  go_wp2_with fail
  refine (all_any _).mono ?_
  rintro e w1 ⟨rfl, hx⟩
  have s3 := s1.below hx s1.lt
  have s4 := s2.trans (hx.mono (Nat.le_of_lt s1.lt))
  clear s1 s2 hx
  go_wp2_with fail
  refine (move_any (fun _ => true) 0 _).mono ?_
  rintro e w2 ⟨rfl, hx⟩
  have s5 := s3.below hx s3.lt
  have s6 := s4.trans (hx.mono (Nat.le_of_lt s3.lt))
  clear s3 s4 hx
  go_wp2_with fail
  refine (all_any _).mono ?_
  rintro e w3 ⟨rfl, hx⟩
  have s7 := s5.below hx s5.lt
  have s8 := s6.trans (hx.mono (Nat.le_of_lt s5.lt))
  clear s5 s6 hx
  go_wp2_with fail
  refine (move_any (fun _ => true) (-256) _).mono ?_
  rintro e w4 ⟨rfl, hx⟩
  have s9 := s7.below hx s7.lt
  have s10 := s8.trans (hx.mono (Nat.le_of_lt s7.lt))
  clear s7 s8 hx
  go_wp2_with fail
  refine (op_and (moveP (fun _ => true) 0) (moveP (fun _ => true) (-256)) _).mono ?_
  rintro e w5 ⟨rfl, hx⟩
  rw [he.out]
  have hr := s9.below hx s9.lt
  have hB := s10.trans (hx.mono (Nat.le_of_lt s9.lt))
  clear s9 s10 hx
  obtain ⟨g0, g1, g2, g3⟩ := hr.frees
  obtain ⟨d0, d1, d2, d3⟩ := hr.four
  go_wp2
  obtain ⟨k0, k1, k2, k3⟩ := (hr.stores q).four
  rw [← nodes_congr hq.out]
  refine bodyPost_ret (v := nodes q) (by simp [results, Tryd.results13, go_sem, k0, k1, k2, k3]) rfl ⟨rfl, below_stores hB (by omega) _ _ _ _⟩
set_option maxRecDepth 100000 in
set_option maxHeartbeats 800000 in
theorem span_12 (l r : Int) (w : World) (h1 : l < 0) (h2 : 255 < r) (h3 : ¬ r < -1) :
    Calls Tryd.prog 13 #[.int .i64 l, .int .i64 r] w fun e w' => e = .returned (nodes (spanP l r)) ∧ Below w.heap.size w w' := by
  have s1 := Blk.zero w
  have s2 : Below w.heap.size w (w.alloc (.cells #[.int .u64 0, .int .u64 0, .int .u64 0, .int .u64 0] 26)) := (Below.refl _ _).alloc (Nat.le_refl _) _
  obtain ⟨q, hq, he⟩ : ∃ q : Nat → Bool, Hid (∀ j, j < 256 → q j = spanP l r j) ∧ Hid ((fun j => moveP (fun _ => true) 0 j && moveP (fun _ => true) 0 j) = q) := ⟨_, span_eq l r 0 0 (.inr ⟨rfl, by omega⟩) (.inr (.inr ⟨rfl, by omega⟩)), rfl⟩
  go_enter Tryd.func13, Tryd.ntmps13
  go_wp2_with fail
  refine (all_any _).mono ?_
  rintro e w1 ⟨rfl, hx⟩
  have s3 := s1.below hx s1.lt
  have s4 := s2.trans (hx.mono (Nat.le_of_lt s1.lt))
  clear s1 s2 hx
  go_wp2_with fail
  refine (move_any (fun _ => true) 0 _).mono ?_
  rintro e w2 ⟨rfl, hx⟩
  have s5 := s3.below hx s3.lt
  have s6 := s4.trans (hx.mono (Nat.le_of_lt s3.lt))
  clear s3 s4 hx
  go_wp2_with fail
  refine (all_any _).mono ?_
  rintro e w3 ⟨rfl, hx⟩
  have s7 := s5.below hx s5.lt
  have s8 := s6.trans (hx.mono (Nat.le_of_lt s5.lt))
  clear s5 s6 hx
  go_wp2_with fail
  refine (move_any (fun _ => true) 0 _).mono ?_
  rintro e w4 ⟨rfl, hx⟩
  have s9 := s7.below hx s7.lt
  have s10 := s8.trans (hx.mono (Nat.le_of_lt s7.lt))
  clear s7 s8 hx
  go_wp2_with fail
  refine (op_and (moveP (fun _ => true) 0) (moveP (fun _ => true) 0) _).mono ?_
  rintro e w5 ⟨rfl, hx⟩
  rw [he.out]
  have hr := s9.below hx s9.lt
  have hB := s10.trans (hx.mono (Nat.le_of_lt s9.lt))
  clear s9 s10 hx
  obtain ⟨g0, g1, g2, g3⟩ := hr.frees
  obtain ⟨d0, d1, d2, d3⟩ := hr.four
  go_wp2
  obtain ⟨k0, k1, k2, k3⟩ := (hr.stores q).four
  rw [← nodes_congr hq.out]
  refine bodyPost_ret (v := nodes q) (by simp [results, Tryd.results13, go_sem, k0, k1, k2, k3]) rfl ⟨rfl, below_stores hB (by omega) _ _ _ _⟩
theorem span_any (l r : Int) (w : World) :
    Calls Tryd.prog 13 #[.int .i64 l, .int .i64 r] w fun e w' => e = .returned (nodes (spanP l r)) ∧ Below w.heap.size w w' := by
  by_cases h : l < 0
  · by_cases h1 : r < -1
    · exact span_11 l r w h h1
    · by_cases h2 : 255 < r
      · exact span_12 l r w h h2 h1
      · exact span_10 l r w h h1 h2
  · by_cases h1 : r < -1
    · exact span_01 l r w h h1
    · by_cases h2 : 255 < r
      · exact span_02 l r w h h2 h1
      · exact span_00 l r w h h1 h2
end Go.Proofs.YtppphpgippchaaaDoor
