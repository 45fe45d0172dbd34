/-
  The reference's Nth and First, walked.
-/
import Derived.Test.YtppphpgippchaaaDoorFirstW
namespace Go.Proofs.YtppphpgippchaaaDoor
open Go.RowKit
set_option maxRecDepth 100000 in
set_option maxHeartbeats 1600000 in
theorem rnth_any (p : Nat → Bool) (k : Int) (w : World) :
    Calls Tryd.prog 26 #[nodes p, .int .i64 k] w (NthPost p k w) := by
  have hll := lst_len p 256
  by_cases h : k < 0
  · obtain ⟨m1, m2⟩ := nth_none p k (.inl h)
    unfold NthPost
    rw [m1, m2]
    clear m1 m2
    go_enter Tryd.func26, Tryd.ntmps26
    go_wp2_with fail
    refine (rlist_any p _).mono ?_
    rintro e w1 ⟨v, rfl, hown, hx⟩
    have hB : Below w.heap.size w w1 := ((Below.refl _ _).alloc (Nat.le_refl _) _).trans (hx.mono (by simp))
    clear hown hx
    go_wp2
    go_ret2
    exact ⟨rfl, hB⟩
  · by_cases h2 : (cnt p 256 : Int) ≤ k
    · obtain ⟨m1, m2⟩ := nth_none p k (.inr h2)
      unfold NthPost
      rw [m1, m2]
      clear m1 m2
      have h3 : ((lst p 256).length : Int) ≤ k := by rw [lst_count]; exact h2
      go_enter Tryd.func26, Tryd.ntmps26
      go_wp2_with fail
      refine (rlist_any p _).mono ?_
      rintro e w1 ⟨v, rfl, hown, hx⟩
      have hB : Below w.heap.size w w1 := ((Below.refl _ _).alloc (Nat.le_refl _) _).trans (hx.mono (by simp))
      rcases hown.2 with ⟨rfl, h0⟩ | ⟨g, cap, cur, rfl, _⟩
      · have h4 : (0 : Int) ≤ k := by omega
        clear hown hx
        go_wp2
        go_ret2
        exact ⟨rfl, hB⟩
      · clear hown hx
        go_wp2
        go_ret2
        exact ⟨rfl, hB⟩
    · obtain ⟨n, rfl⟩ := Int.eq_ofNat_of_zero_le (show 0 ≤ k by omega)
      obtain ⟨c, hc1, hc2, hc3, m1, m2⟩ := nth_spec p n (by omega)
      have hg : (lst p 256)[n]? = some c := by
        have hl : n < (lst p 256).length := by rw [lst_count]; omega
        have e := m2
        unfold nthN at e
        rw [if_pos m1, Int.toNat_natCast, List.getD_eq_getElem?_getD, List.getElem?_eq_getElem hl] at e
        rw [List.getElem?_eq_getElem hl]
        exact congrArg some e
      have hl : n < (lst p 256).length := by rw [lst_count]; omega
      unfold NthPost
      rw [m1, m2]
      clear m1 m2 hc2 hc3
      have h3 : ¬ ((lst p 256).length : Int) ≤ n := by omega
      have hgg := hid hg
      clear hg
      go_enter Tryd.func26, Tryd.ntmps26
      go_wp2_with fail
      refine (rlist_any p _).mono ?_
      rintro e w1 ⟨v, rfl, hown, hx⟩
      have hB : Below w.heap.size w w1 := ((Below.refl _ _).alloc (Nat.le_refl _) _).trans (hx.mono (by simp))
      rcases hown.2 with ⟨rfl, h0⟩ | ⟨g, cap, cur, rfl, _⟩
      · omega
      · have hcell : w1.cell? ⟨g, n, none⟩ = some (.int .i64 c) := by
          rw [hown.cellAt n (by omega), List.getElem?_map, hgg.out]; rfl
        clear hown hx
        go_wp2
        go_ret2
        exact ⟨rfl, hB⟩
set_option maxRecDepth 100000 in
set_option maxHeartbeats 1600000 in
theorem rfirst_no (p : Nat → Bool) (n : Int) (w : World) (h : n < 0 ∨ (cnt p 256 : Int) < n) :
    Calls Tryd.prog 24 #[nodes p, .int .i64 n] w (FirstPost p n w) := by
  obtain ⟨s1, s2, s3⟩ := two_start w p
  obtain ⟨e1, e2⟩ := first_no p n h
  unfold FirstPost
  rw [e1, e2]
  clear e1 e2
  have hll := lst_len p 256
  go_enter Tryd.func24, Tryd.ntmps24
  go_wp2_with fail
  refine (rlist_any p _).mono ?_
  rintro e w1 ⟨v, rfl, hown, hx⟩
  have t2 := s2.on hx
  have t3 := below_on s3 hx
  obtain ⟨k0, k1, k2, k3⟩ := t2.put (.int .u64 0) (.int .u64 0) (.int .u64 0) (.int .u64 0)
  have hBz := below_stores t3 (show w.heap.size ≤ w.heap.size + 1 by omega) (.int .u64 0) (.int .u64 0) (.int .u64 0) (.int .u64 0)
  obtain ⟨g0, g1, g2, g3⟩ := t2.frees
  obtain ⟨d0, d1, d2, d3⟩ := t2.four
  have k := hid (And.intro k0 (And.intro k1 (And.intro k2 k3)))
  have hBz := hid hBz
  clear s1 s2 s3 hx k0 k1 k2 k3
  rcases h with h | h
  · clear hown
    go_wp2
    obtain ⟨k0, k1, k2, k3⟩ := k.out
    have hBy := hBz.out
    clear g0 g1 g2 g3 d0 d1 d2 d3 t2 t3 k hBz
    generalize (((w1.setCell ⟨w.heap.size + 1, 0, none⟩ (.int .u64 0)).setCell ⟨w.heap.size + 1, 1, none⟩ (.int .u64 0)).setCell ⟨w.heap.size + 1, 2, none⟩ (.int .u64 0)).setCell ⟨w.heap.size + 1, 3, none⟩ (.int .u64 0) = wz at *
    refine bodyPost_ret (v := .tuple #[.agg #[.int .u64 0, .int .u64 0, .int .u64 0, .int .u64 0], .bool false]) (by simp [results, Tryd.results24, go_sem, k0, k1, k2, k3]) rfl ⟨rfl, hBy⟩
  · have h4 : ¬ n < 0 := by omega
    have h3 : ((lst p 256).length : Int) < n := by rw [lst_count]; exact h
    rcases hown.2 with ⟨rfl, h0⟩ | ⟨g, cap, cur, rfl, _⟩
    · have h5 : 0 < n := by omega
      clear hown
      go_wp2
      obtain ⟨k0, k1, k2, k3⟩ := k.out
      have hBy := hBz.out
      clear g0 g1 g2 g3 d0 d1 d2 d3 t2 t3 k hBz
      generalize (((w1.setCell ⟨w.heap.size + 1, 0, none⟩ (.int .u64 0)).setCell ⟨w.heap.size + 1, 1, none⟩ (.int .u64 0)).setCell ⟨w.heap.size + 1, 2, none⟩ (.int .u64 0)).setCell ⟨w.heap.size + 1, 3, none⟩ (.int .u64 0) = wz at *
      refine bodyPost_ret (v := .tuple #[.agg #[.int .u64 0, .int .u64 0, .int .u64 0, .int .u64 0], .bool false]) (by simp [results, Tryd.results24, go_sem, k0, k1, k2, k3]) rfl ⟨rfl, hBy⟩
    · clear hown
      go_wp2
      obtain ⟨k0, k1, k2, k3⟩ := k.out
      have hBy := hBz.out
      clear g0 g1 g2 g3 d0 d1 d2 d3 t2 t3 k hBz
      generalize (((w1.setCell ⟨w.heap.size + 1, 0, none⟩ (.int .u64 0)).setCell ⟨w.heap.size + 1, 1, none⟩ (.int .u64 0)).setCell ⟨w.heap.size + 1, 2, none⟩ (.int .u64 0)).setCell ⟨w.heap.size + 1, 3, none⟩ (.int .u64 0) = wz at *
      refine bodyPost_ret (v := .tuple #[.agg #[.int .u64 0, .int .u64 0, .int .u64 0, .int .u64 0], .bool false]) (by simp [results, Tryd.results24, go_sem, k0, k1, k2, k3]) rfl ⟨rfl, hBy⟩
set_option maxRecDepth 100000 in
set_option maxHeartbeats 1600000 in
theorem rfirst_yes (p : Nat → Bool) (n : Nat) (w : World) (h : n ≤ cnt p 256) :
    Calls Tryd.prog 24 #[nodes p, .int .i64 n] w (FirstPost p n w) := by
  obtain ⟨s1, s2, s3⟩ := two_start w p
  obtain ⟨e1, e2⟩ := first_yes p n h
  obtain ⟨q, hq⟩ : ∃ q : Nat → Bool, Hid (memP (((lst p 256).take n).map fun k : Nat => (k : Int)) = q) := ⟨_, rfl⟩
  have e3 : nodes (fstP p n) = nodes q := nodes_congr fun j hj => by rw [e2 j, ← hq.out, first_take p n j hj]
  unfold FirstPost
  rw [e1, e3]
  clear e1 e2 e3
  have hll := lst_len p 256
  have hn : n ≤ (lst p 256).length := by rw [lst_count]; exact h
  have htl : ((lst p 256).take n).length = n := by rw [List.length_take]; omega
  have htl := hid htl
  have h3 : ¬ ((lst p 256).length : Int) < n := by omega
  have h4 : ¬ (n : Int) < 0 := by omega
  go_enter Tryd.func24, Tryd.ntmps24
  go_wp2_with fail
  refine (rlist_any p _).mono ?_
  rintro e w1 ⟨v, rfl, hown, hx⟩
  have t2 := s2.on hx
  have t3 := below_on s3 hx
  clear s1 s2 s3 hx
  rcases hown.2 with ⟨rfl, h0⟩ | ⟨g, cap, cur, rfl, hg, hcur, hcap, hcap2, _, _⟩
  · obtain rfl : n = 0 := by omega
    clear hown
    go_wp2_with fail
    refine (rof_any _ [] _ (.inl ⟨rfl, none, 0, rfl⟩) (by simp)).mono ?_
    rintro e w2 ⟨rfl, hx⟩
    rw [show memP [] = q from hq.out]
    have u2 := t2.on hx
    have u3 := below_on t3 hx
    clear t2 t3 hx
    obtain ⟨g0, g1, g2, g3⟩ := u2.frees
    obtain ⟨d0, d1, d2, d3⟩ := u2.four
    go_wp2
    obtain ⟨k0, k1, k2, k3⟩ := (u2.stores q).four
    refine bodyPost_ret (v := .tuple #[nodes q, .bool true]) (by simp [results, Tryd.results24, go_sem, k0, k1, k2, k3]) rfl ⟨rfl, below_stores u3 (by omega) _ _ _ _⟩
  · have hR : Reads w1 (.slice (some ⟨g, 0, none⟩) n cap) (((lst p 256).take n).map fun k : Nat => (k : Int)) := by
      refine .inr ⟨g, 0, cap, by rw [List.length_map, htl.out], ?_, ?_⟩
      · have := hown.lt g rfl; exact this.2
      · intro k x hk
        rw [List.getElem?_map] at hk
        obtain ⟨m, hm, rfl⟩ := Option.map_eq_some_iff.1 hk
        rw [List.getElem?_take] at hm
        split at hm
        · rename_i hkn
          rw [Nat.zero_add, hown.cellAt k (by omega), List.getElem?_map, hm]; rfl
        · cases hm
    have hR := hid hR
    have hnc : (n : Int) ≤ cap := by omega
    clear hown
    go_wp2_with fail
    refine (rof_any _ _ _ hR.out (by rw [List.length_map, htl.out]; omega)).mono ?_
    rintro e w2 ⟨rfl, hx⟩
    rw [hq.out]
    have u2 := t2.on hx
    have u3 := below_on t3 hx
    clear t2 t3 hx hR
    obtain ⟨g0, g1, g2, g3⟩ := u2.frees
    obtain ⟨d0, d1, d2, d3⟩ := u2.four
    go_wp2
    obtain ⟨k0, k1, k2, k3⟩ := (u2.stores q).four
    refine bodyPost_ret (v := .tuple #[nodes q, .bool true]) (by simp [results, Tryd.results24, go_sem, k0, k1, k2, k3]) rfl ⟨rfl, below_stores u3 (by omega) _ _ _ _⟩
theorem rfirst_any (p : Nat → Bool) (n : Int) (w : World) :
    Calls Tryd.prog 24 #[nodes p, .int .i64 n] w (FirstPost p n w) := by
  by_cases h : n < 0 ∨ (cnt p 256 : Int) < n
  · exact rfirst_no p n w h
  · obtain ⟨k, rfl⟩ := Int.eq_ofNat_of_zero_le (show 0 ≤ n by omega)
    exact rfirst_yes p k w (by omega)
end Go.Proofs.YtppphpgippchaaaDoor
