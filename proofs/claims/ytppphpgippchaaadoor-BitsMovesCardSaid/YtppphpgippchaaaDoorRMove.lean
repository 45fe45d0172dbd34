/-
  The reference's Move.
-/
import Derived.Test.YtppphpgippchaaaDoorMove
import Derived.Test.YtppphpgippchaaaDoorInts
namespace Go.Proofs.YtppphpgippchaaaDoor
open Go.RowKit
theorem mem_lst (p : Nat → Bool) (n : Nat) : n ∈ lst p 256 ↔ n < 256 ∧ p n = true := by
  unfold lst; rw [List.mem_filter, List.mem_range]
/-- The numbers of a set, each moved. -/
def movedL (p : Nat → Bool) (d : Int) : List Int := (lst p 256).map fun n : Nat => (n : Int) + d
theorem movedL_all (p : Nat → Bool) (d : Int) (j : Nat) : memP (movedL p d) j = moveP p d j := by
  unfold memP movedL moveP
  rw [Bool.eq_iff_iff, decide_eq_true_iff, List.mem_map]
  simp only [Bool.and_eq_true, decide_eq_true_iff]
  constructor
  · rintro ⟨n, hn, e⟩
    rw [mem_lst] at hn
    refine ⟨⟨by omega, by omega⟩, ?_⟩
    rw [show ((j : Int) - d).toNat = n by omega]; exact hn.2
  · rintro ⟨⟨h1, h2⟩, h3⟩
    exact ⟨((j : Int) - d).toNat, (mem_lst p _).2 ⟨by omega, h3⟩, by omega⟩
theorem own_stores {w : World} {base n b : Nat} {e : TypeId} {v : Value} {xs : List Value} (h : w.ownsRow base e 1 v n xs) (hb : b < base) (x0 x1 x2 x3 : Value) :
    ((((w.setCell ⟨b, 0, none⟩ x0).setCell ⟨b, 1, none⟩ x1).setCell ⟨b, 2, none⟩ x2).setCell ⟨b, 3, none⟩ x3).ownsRow base e 1 v n xs :=
  ownsRow_setCell_below (ownsRow_setCell_below (ownsRow_setCell_below (ownsRow_setCell_below h hb _) hb _) hb _) hb _
theorem own_drew {w : World} {base n : Nat} {e : TypeId} {v : Value} {xs : List Value} (h : w.ownsRow base e 1 v n xs) : w.drew.ownsRow base e 1 v n xs := h
set_option maxRecDepth 100000 in
set_option maxHeartbeats 1600000 in
theorem rmove_any (p : Nat → Bool) (d : Int) (w : World) :
    Calls Tryd.prog 32 #[nodes p, .int .i64 d] w fun e w' => e = .returned (nodes (moveP p d)) ∧ Below w.heap.size w w' := by
  obtain ⟨s1, s2, s3, s4⟩ := moved_start w p
  go_enter Tryd.func32, Tryd.ntmps32
  go_wp2_with fail
  refine (rlist_any p _).mono ?_
  rintro e w1 ⟨v, rfl, hown, hx⟩
  have hr := s2.below hx (by simp)
  have ht := s3.below hx (by simp)
  have hB := s4.trans (hx.mono (by simp; omega))
  rw [show (((w.alloc (objOf p)).alloc (.cells #[.int .u64 0, .int .u64 0, .int .u64 0, .int .u64 0] 26)).alloc (.cells #[.int .u64 0, .int .u64 0, .int .u64 0, .int .u64 0] 26)).heap.size = w.heap.size + 3 by simp] at hown
  clear s1 s2 s3 s4 hx
  rcases hown.2 with ⟨rfl, h0⟩ | ⟨g, cap, cur, rfl, hg, _⟩
  · have hz := hid (show ∀ j, j < 256 → (fun _ => false : Nat → Bool) j = moveP p d j from fun j _ => by
      rw [← movedL_all]; unfold movedL; rw [List.length_eq_zero_iff.1 h0]; simp [memP])
    clear hown h0
    go_wp2_with fail
    refine wp_loop_rounds 1 ?_
    rw [rounds_succ]
    obtain ⟨c0, c1, c2, c3⟩ := ht.four
    obtain ⟨g0, g1, g2, g3⟩ := hr.frees
    obtain ⟨d0, d1, d2, d3⟩ := hr.four
    go_wp2
    obtain ⟨k0, k1, k2, k3⟩ := (hr.stores fun _ => false).four
    rw [← nodes_congr hz.out]
    refine bodyPost_ret (v := nodes fun _ => false) (by simp [results, Tryd.results32, go_sem, k0, k1, k2, k3]) rfl ⟨rfl, below_stores hB (by omega) _ _ _ _⟩
  · have hll := lst_len p 256
    by_cases hd : -256 < d ∧ d < 256
    · obtain ⟨hd1, hd2⟩ := hd
      have hb1 : decide (-256 < d) = true := decide_eq_true hd1
      have hb2 : decide (d < 256) = true := decide_eq_true hd2
      go_wp2_with fail
      go_loopw [7] (fun i wr => ∃ k : Nat, k ≤ (lst p 256).length ∧ i = .int .i64 k ∧ wr.ownsRow (w.heap.size + 3) 3 1 (.slice (some ⟨g, 0, none⟩) (lst p 256).length cap) (lst p 256).length ((lst p 256).map iv) ∧ Blk wr (w.heap.size + 1 + 1) (memP ((movedL p d).take k)) ∧ Blk wr (w.heap.size + 1) (fun _ => false) ∧ Below w.heap.size w wr) (fun i _ => (lst p 256).length - (intOf i).toNat)
      case atStart => exact ⟨0, by omega, rfl, hown, ht.congr fun j _ => by simp [memP], hr, hB⟩
      case round =>
        clear ht hr hB hown
        obtain ⟨k, hk, rfl, hown, ht, hr, hB⟩ := hrel
        by_cases hlt : k < (lst p 256).length
        · obtain ⟨n, hn⟩ : ∃ n, (lst p 256)[k]? = some n := ⟨(lst p 256)[k], List.getElem?_eq_getElem hlt⟩
          have hn2 := ((mem_lst p n).1 (List.mem_of_getElem? hn)).1
          have hcell : wr.cell? ⟨g, k, none⟩ = some (.int .i64 n) := by
            rw [hown.cellAt k (by omega), List.getElem?_map, hn]; rfl
          have hm := hid (memP_take (movedL p d) k ((n : Int) + d) (by unfold movedL; rw [List.getElem?_map, hn]; rfl))
          obtain ⟨c0, c1, c2, c3⟩ := ht.four
          have h0 : (0 : Int) ≤ k := by omega
          have h1 : (k : Int) < (lst p 256).length := by omega
          have e1 : IntKind.i64.wrap ((n : Int) + d) = (n : Int) + d := IntWalk.i64_in _ (by omega)
          have gown := hid hown
          clear hn hown
          go_wp2_with fail
          go_region_with (go_at_call 35; refine (with_any (memP ((movedL p d).take k)) ((n : Int) + d) _).mono ?_; rintro e w1 ⟨rfl, hx⟩; have ht1 := ht.drew.below hx ht.lt; have hr1 := hr.drew.below hx hr.lt; have hB1 := hB.drew.trans (hx.mono hB.size); have hown1 := hid (own_below (own_drew gown.out) hx); clear hx; obtain ⟨f0, f1, f2, f3⟩ := ht1.frees; obtain ⟨d0, d1, d2, d3⟩ := ht1.four)
          all_goals
            go_wp2
            go_roundw
            case rel => exact ⟨k + 1, by omega, by go_num, own_stores hown1.out (by omega) _ _ _ _, (ht1.stores _).congr (fun j _ => hm.out j), hr1.others (by omega) _ _ _ _, below_stores hB1 (by omega) _ _ _ _⟩
            case measure => simp [intOf]; omega
        · obtain rfl : k = (lst p 256).length := by omega
          have hs' : Blk wr (w.heap.size + 1 + 1) (moveP p d) := by
            rw [show (lst p 256).length = (movedL p d).length by simp [movedL], List.take_length] at ht
            exact ht.congr fun j _ => movedL_all p d j
          obtain ⟨c0, c1, c2, c3⟩ := hs'.four
          obtain ⟨g0, g1, g2, g3⟩ := hr.frees
          obtain ⟨d0, d1, d2, d3⟩ := hr.four
          clear hown
          go_wp2
          obtain ⟨k0, k1, k2, k3⟩ := (hr.stores (moveP p d)).four
          refine bodyPost_ret (v := nodes (moveP p d)) (by simp [results, Tryd.results32, go_sem, k0, k1, k2, k3]) rfl ⟨rfl, below_stores hB (by omega) _ _ _ _⟩
    · have hz := hid fun j hj => moveP_far p d (by omega) j hj
      clear hown
      go_wp2_with fail
      go_loopw [7] (fun i wr => ∃ k : Nat, k ≤ (lst p 256).length ∧ i = .int .i64 k ∧ Blk wr (w.heap.size + 1 + 1) (fun _ => false) ∧ Blk wr (w.heap.size + 1) (fun _ => false) ∧ Below w.heap.size w wr) (fun i _ => (lst p 256).length - (intOf i).toNat)
      case atStart => exact ⟨0, by omega, rfl, ht, hr, hB⟩
      case round =>
        clear ht hr hB
        obtain ⟨k, hk, rfl, ht, hr, hB⟩ := hrel
        by_cases hlt : k < (lst p 256).length
        · by_cases h1 : -256 < d
          · have h2 : ¬ d < 256 := by omega
            go_wp2
            go_roundw
            case rel => exact ⟨k + 1, by omega, by go_num, ht, hr, hB⟩
            case measure => simp [intOf]; omega
          · go_wp2
            go_roundw
            case rel => exact ⟨k + 1, by omega, by go_num, ht, hr, hB⟩
            case measure => simp [intOf]; omega
        · obtain rfl : k = (lst p 256).length := by omega
          obtain ⟨c0, c1, c2, c3⟩ := ht.four
          obtain ⟨g0, g1, g2, g3⟩ := hr.frees
          obtain ⟨d0, d1, d2, d3⟩ := hr.four
          go_wp2
          obtain ⟨k0, k1, k2, k3⟩ := (hr.stores fun _ => false).four
          rw [← nodes_congr hz.out]
          refine bodyPost_ret (v := nodes fun _ => false) (by simp [results, Tryd.results32, go_sem, k0, k1, k2, k3]) rfl ⟨rfl, below_stores hB (by omega) _ _ _ _⟩
end Go.Proofs.YtppphpgippchaaaDoor
