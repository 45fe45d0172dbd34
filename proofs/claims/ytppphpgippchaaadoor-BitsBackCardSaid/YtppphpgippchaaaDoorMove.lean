/-
  Move and Span.
-/
import Derived.Test.YtppphpgippchaaaDoorDown
import Derived.Test.YtppphpgippchaaaDoorSpan
namespace Go.Proofs.YtppphpgippchaaaDoor
open Go.RowKit
/-- A set moved by any number. -/
def moveP (p : Nat → Bool) (d : Int) : Nat → Bool := fun j => decide (0 ≤ (j : Int) - d) && decide ((j : Int) - d < 256) && p ((j : Int) - d).toNat
theorem moveP_up (p : Nat → Bool) (n : Nat) (j : Nat) (hj : j < 256) : upP p n j = moveP p n j := by
  unfold upP moveP
  by_cases h : n ≤ j
  · rw [decide_eq_true h, decide_eq_true (p := 0 ≤ _) (by omega), decide_eq_true (p := _ < (256 : Int)) (by omega), show ((j : Int) - n).toNat = j - n by omega]; rfl
  · rw [decide_eq_false h, decide_eq_false (p := 0 ≤ _) (by omega)]; rfl
theorem moveP_down (p : Nat → Bool) (n : Nat) (j : Nat) : downP p n j = moveP p (-(n : Int)) j := by
  unfold downP moveP
  by_cases h : j + n < 256
  · rw [decide_eq_true h, decide_eq_true (p := 0 ≤ _) (by omega), decide_eq_true (p := _ < (256 : Int)) (by omega), show ((j : Int) - -(n : Int)).toNat = j + n by omega]; rfl
  · rw [decide_eq_false h, decide_eq_false (p := _ < (256 : Int)) (by omega)]; simp
theorem moveP_far (p : Nat → Bool) (d : Int) (h : d ≤ -256 ∨ 256 ≤ d) (j : Nat) (hj : j < 256) : false = moveP p d j := by
  unfold moveP
  rcases h with h | h
  · rw [decide_eq_false (p := _ < (256 : Int)) (by omega)]; simp
  · rw [decide_eq_false (p := 0 ≤ _) (by omega)]; rfl
theorem zero_nodes : nodes (fun _ => false) = .agg #[.int .u64 0, .int .u64 0, .int .u64 0, .int .u64 0] := by
  unfold nodes; rw [zero_word, zero_word, zero_word, zero_word]; rfl
theorem two_start (w : World) (p : Nat → Bool) :
    Blk ((w.alloc (objOf p)).alloc (.cells #[.int .u64 0, .int .u64 0, .int .u64 0, .int .u64 0] 26)) w.heap.size p ∧
    Blk ((w.alloc (objOf p)).alloc (.cells #[.int .u64 0, .int .u64 0, .int .u64 0, .int .u64 0] 26)) (w.heap.size + 1) (fun _ => false) ∧
    Below w.heap.size w ((w.alloc (objOf p)).alloc (.cells #[.int .u64 0, .int .u64 0, .int .u64 0, .int .u64 0] 26)) := by
  have h2 := Blk.zero (w.alloc (objOf p))
  rw [World.size_alloc] at h2
  exact ⟨(Blk.new w p).old _, h2, (((Below.refl _ _).alloc (Nat.le_refl _) _).alloc (by simp) _)⟩
set_option maxRecDepth 100000 in
set_option maxHeartbeats 800000 in
theorem move_far (p : Nat → Bool) (d : Int) (w : World) (h : d ≤ -256 ∨ 256 ≤ d) :
    Calls Tryd.prog 31 #[nodes p, .int .i64 d] w fun e w' => e = .returned (nodes fun _ => false) ∧ Below w.heap.size w w' := by
  obtain ⟨s1, s2, s3⟩ := two_start w p
  rw [zero_nodes]
  rcases h with h | h
  · go_enter Tryd.func31, Tryd.ntmps31
    go_wp2
    refine bodyPost_ret (v := .agg #[.int .u64 0, .int .u64 0, .int .u64 0, .int .u64 0]) (by simp [results, Tryd.results31, go_sem]) rfl ⟨rfl, ?_⟩
    exact s3
  · have h' : ¬ d ≤ -256 := by omega
    go_enter Tryd.func31, Tryd.ntmps31
    go_wp2
    refine bodyPost_ret (v := .agg #[.int .u64 0, .int .u64 0, .int .u64 0, .int .u64 0]) (by simp [results, Tryd.results31, go_sem]) rfl ⟨rfl, ?_⟩
    exact s3
set_option maxRecDepth 100000 in
set_option maxHeartbeats 800000 in
theorem move_down (p : Nat → Bool) (d : Int) (w : World) (h : -256 < d) (h' : d < 0) :
    Calls Tryd.prog 31 #[nodes p, .int .i64 d] w fun e w' => e = .returned (nodes (moveP p d)) ∧ Below w.heap.size w w' := by
  obtain ⟨s1, s2, s3⟩ := two_start w p
  have h1 : ¬ d ≤ -256 := by omega
  have h2 : ¬ 256 ≤ d := by omega
  obtain ⟨n, hn⟩ : ∃ n : Nat, -d = n := ⟨(-d).toNat, by omega⟩
  have e1 : IntKind.i64.wrap (-d) = -d := IntWalk.i64_in _ (by omega)
  have hd := hid (show d = -(n : Int) by omega)
  go_enter Tryd.func31, Tryd.ntmps31
  go_wp2_with fail
  refine (down_any p n _ _ _ (by omega) rfl rfl).mono ?_
  rintro e w1 ⟨rfl, hx⟩
  have hr := s2.below hx (by simp)
  have hB := s3.trans (hx.mono (by simp; omega))
  clear s1 s2 s3 hx
  obtain ⟨g0, g1, g2, g3⟩ := hr.frees
  obtain ⟨d0, d1, d2, d3⟩ := hr.four
  go_wp2
  obtain ⟨k0, k1, k2, k3⟩ := (hr.stores (downP p n)).four
  rw [hd.out, ← nodes_congr (p := downP p n) (q := moveP p (-(n : Int))) fun j _ => moveP_down p n j]
  refine bodyPost_ret (v := nodes (downP p n)) (by simp [results, Tryd.results31, go_sem, k0, k1, k2, k3]) rfl ⟨rfl, below_stores hB (by omega) _ _ _ _⟩
set_option maxRecDepth 100000 in
set_option maxHeartbeats 800000 in
theorem move_up (p : Nat → Bool) (n : Nat) (w : World) (h : n < 256) :
    Calls Tryd.prog 31 #[nodes p, .int .i64 n] w fun e w' => e = .returned (nodes (moveP p n)) ∧ Below w.heap.size w w' := by
  obtain ⟨s1, s2, s3⟩ := two_start w p
  have h1 : ¬ (n : Int) ≤ -256 := by omega
  have h2 : ¬ 256 ≤ (n : Int) := by omega
  have h3 : ¬ (n : Int) < 0 := by omega
  go_enter Tryd.func31, Tryd.ntmps31
  go_wp2_with fail
  refine (up_any p n _ _ _ (by omega) rfl rfl).mono ?_
  rintro e w1 ⟨rfl, hx⟩
  have hr := s2.below hx (by simp)
  have hB := s3.trans (hx.mono (by simp; omega))
  clear s1 s2 s3 hx
  obtain ⟨g0, g1, g2, g3⟩ := hr.frees
  obtain ⟨d0, d1, d2, d3⟩ := hr.four
  go_wp2
  obtain ⟨k0, k1, k2, k3⟩ := (hr.stores (upP p n)).four
  rw [← nodes_congr (p := upP p n) (q := moveP p n) fun j hj => moveP_up p n j hj]
  refine bodyPost_ret (v := nodes (upP p n)) (by simp [results, Tryd.results31, go_sem, k0, k1, k2, k3]) rfl ⟨rfl, below_stores hB (by omega) _ _ _ _⟩
theorem move_any (p : Nat → Bool) (d : Int) (w : World) :
    Calls Tryd.prog 31 #[nodes p, .int .i64 d] w fun e w' => e = .returned (nodes (moveP p d)) ∧ Below w.heap.size w w' := by
  by_cases h : d ≤ -256 ∨ 256 ≤ d
  · rw [← nodes_congr (p := fun _ => false) (q := moveP p d) fun j hj => moveP_far p d h j hj]
    exact move_far p d w h
  by_cases h0 : d < 0
  · exact move_down p d w (by omega) h0
  · obtain ⟨n, rfl⟩ := Int.eq_ofNat_of_zero_le (show 0 ≤ d by omega)
    exact move_up p n w (by omega)
theorem full_word (k : Nat) : word (fun _ => true) k = 18446744073709551615 :=
  (word_eq (x := 18446744073709551615) (by omega) fun j hj => by
    rw [show 18446744073709551615 = 2 ^ 64 - 1 by rfl, Nat.testBit_two_pow_sub_one, decide_eq_true hj]).symm
set_option maxRecDepth 100000 in
set_option maxHeartbeats 800000 in
theorem all_any (w : World) :
    Calls Tryd.prog 36 #[] w fun e w' => e = .returned (nodes fun _ => true) ∧ Below w.heap.size w w' := by
  have hz : nodes (fun _ => true) = .agg #[.int .u64 18446744073709551615, .int .u64 18446744073709551615, .int .u64 18446744073709551615, .int .u64 18446744073709551615] := by
    unfold nodes; rw [full_word, full_word, full_word, full_word]; rfl
  rw [hz]
  go_enter Tryd.func36, Tryd.ntmps36
  go_wp2
  refine bodyPost_ret (v := .agg #[.int .u64 18446744073709551615, .int .u64 18446744073709551615, .int .u64 18446744073709551615, .int .u64 18446744073709551615]) (by simp [results, Tryd.results36, go_sem]) rfl ⟨rfl, ?_⟩
  exact (Below.refl _ _).alloc (Nat.le_refl _) _
end Go.Proofs.YtppphpgippchaaaDoor
