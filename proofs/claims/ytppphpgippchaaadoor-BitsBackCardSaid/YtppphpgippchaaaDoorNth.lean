/-
  Nth: the k-th number of a set.
-/
import Derived.Test.YtppphpgippchaaaDoorList
namespace Go.Proofs.YtppphpgippchaaaDoor
open Go.RowKit
/-- Whether there is a k-th number, and which. -/
def nthB (p : Nat → Bool) (k : Int) : Bool := decide (0 ≤ k) && decide (k < cnt p 256)
def nthN (p : Nat → Bool) (k : Int) : Nat := if nthB p k then (lst p 256).getD k.toNat 0 else 0
theorem lst_prefix (p : Nat → Bool) (a d : Nat) : ∃ r, lst p (a + d) = lst p a ++ r := by
  induction d with
  | zero => exact ⟨[], by simp⟩
  | succ d ih =>
    obtain ⟨r, hr⟩ := ih
    cases h : p (a + d) with
    | true => exact ⟨r ++ [a + d], by rw [show a + (d + 1) = (a + d) + 1 by omega, lst_in p _ h, hr, List.append_assoc]⟩
    | false => exact ⟨r, by rw [show a + (d + 1) = (a + d) + 1 by omega, lst_out p _ h, hr]⟩
theorem cnt_mono (p : Nat → Bool) (a d : Nat) : cnt p a ≤ cnt p (a + d) := by
  rw [cnt_add]; omega
theorem nth_found (p : Nat → Bool) (j t c k : Nat) (hj : j < 4) (hc : c < 64) (hk : cnt p (64 * j + t) = k) (h : lst p (64 * j + (c + 1)) = lst p (64 * j + t) ++ [64 * j + c]) :
    nthB p k = true ∧ nthN p k = 64 * j + c := by
  obtain ⟨r, hr⟩ := lst_prefix p (64 * j + (c + 1)) (256 - (64 * j + (c + 1)))
  rw [show 64 * j + (c + 1) + (256 - (64 * j + (c + 1))) = 256 by omega, h] at hr
  have hl : (lst p (64 * j + t)).length = k := by rw [lst_count, hk]
  have hlen := congrArg List.length hr
  rw [lst_count] at hlen
  simp only [List.length_append, List.length_cons, List.length_nil, hl] at hlen
  have hB : nthB p k = true := by
    unfold nthB
    rw [decide_eq_true (by omega), decide_eq_true (by omega)]; rfl
  refine ⟨hB, ?_⟩
  unfold nthN
  rw [if_pos hB, hr, Int.toNat_natCast, List.append_assoc, List.getD_eq_getElem?_getD, List.getElem?_append_right (by omega), hl, Nat.sub_self]
  rfl
theorem nth_none (p : Nat → Bool) (k : Int) (h : k < 0 ∨ (cnt p 256 : Int) ≤ k) : nthB p k = false ∧ nthN p k = 0 := by
  have hB : nthB p k = false := by
    unfold nthB
    rcases h with h | h
    · rw [decide_eq_false (by omega)]; rfl
    · rw [decide_eq_false (p := k < _) (by omega), Bool.and_false]
  exact ⟨hB, by unfold nthN; rw [hB]; rfl⟩
def NthPost (p : Nat → Bool) (k : Int) (w : World) (e : Ending) (w' : World) : Prop :=
  e = .returned (.tuple #[.int .i64 (nthN p k : Nat), .bool (nthB p k)]) ∧ Below w.heap.size w w'
set_option maxRecDepth 100000 in
set_option maxHeartbeats 1600000 in
theorem nth_neg (p : Nat → Bool) (k : Int) (w : World) (h : k < 0) :
    Calls Tryd.prog 25 #[nodes p, .int .i64 k] w (NthPost p k w) := by
  obtain ⟨e1, e2⟩ := nth_none p k (.inl h)
  have e1 := hid e1
  have e2 := hid e2
  go_enter Tryd.func25, Tryd.ntmps25
  go_wp2
  go_ret2
  exact ⟨by rw [e1.out, e2.out]; rfl, (Below.refl _ _).alloc (Nat.le_refl _) _⟩
set_option maxRecDepth 100000 in
set_option maxHeartbeats 1600000 in
theorem nth_nat (p : Nat → Bool) (k : Nat) (w : World) (hT : Tab w) (hkm : (k : Int) ≤ 9223372036854775807) :
    Calls Tryd.prog 25 #[nodes p, .int .i64 k] w (NthPost p k w) := by
  have hT1 := hid (tab_below hT ((Below.refl _ _).alloc (Nat.le_refl _) (objOf p)))
  have hk0 : (0 : Int) ≤ k := by omega
  clear hT
  go_enter Tryd.func25, Tryd.ntmps25
  go_wp2
  go_loop [1, 12] (fun x i => ∃ j kk : Nat, j ≤ 4 ∧ i = .int .i64 j ∧ x = .int .i64 kk ∧ Hid (kk + cnt p (64 * j) = k)) (fun _ i => 4 - (intOf i).toNat)
  case atStart => exact ⟨0, k, by omega, rfl, rfl, by show k + cnt p (64 * 0) = k; rfl⟩
  case round =>
    obtain ⟨j, kk, hj, rfl, rfl, hkk⟩ := hrel
    have hkk2 : (kk : Int) ≤ k := by have := hkk.out; omega
    have hcw := cnt_word p j
    have hcl := cnt_le (word p j).testBit 64
    by_cases hlt : j < 4
    · have hix := index_at p j hlt
      have hjb : decide ((j : Int) < 4) = true := by rw [decide_eq_true_iff]; omega
      by_cases hn : cnt (word p j).testBit 64 ≤ kk
      · have hcw := hid hcw
        clear hcw
        go_wp2_with (go_at_call 42; refine (ones_any (word p j) _ (word_lt p j)).mono ?_; rintro e w1 ⟨rfl, rfl⟩)
        go_round
        case rel => exact ⟨j + 1, kk - cnt (word p j).testBit 64, by omega, by go_num, by rw [Int.ofNat_sub hn], by show _ = _; have := hkk.out; have := cnt_word p j; omega⟩
        case measure => simp [intOf]; omega
      · have hcw := hid hcw
        clear hcw
        have hnb : decide ((cnt (word p j).testBit 64 : Int) ≤ kk) = false := by rw [decide_eq_false_iff_not]; omega
        go_wp2_with (go_at_call 42; refine (ones_any (word p j) _ (word_lt p j)).mono ?_; rintro e w1 ⟨rfl, rfl⟩)
        go_loop [7, 25] (fun x i => ∃ t n : Nat, t ≤ 64 ∧ n ≤ kk ∧ i = .int .i64 n ∧ x = .int .u64 (rest p j t) ∧ Hid (cnt p (64 * j + t) = cnt p (64 * j) + n)) (fun _ i => kk - (intOf i).toNat)
        case atStart => exact ⟨0, 0, by omega, by omega, rfl, by rw [rest_zero], by show _ = _; rfl⟩
        case round =>
          obtain ⟨t, n, ht, hnk, rfl, rfl, hcn⟩ := hrel
          have hz : rest p j t ≠ 0 := by
            intro h
            have e := congrArg List.length (rest_none p j t h ht)
            rw [lst_count, lst_count, cnt_word, hcn.out] at e
            omega
          obtain ⟨c, hc, hc1, hc2, hc3, hc4, hc5⟩ := rest_some p j t hz
          have hxl := rest_lt p j t
          have hx0 : 0 < rest p j t := by omega
          have kc := hid hc
          have kl := hid hc3
          have kr := hid hc4
          have hnz := hid hz
          clear hc hc3 hc4 hz
          by_cases hlt2 : n < kk
          · go_wp2_with (go_at_call 43; refine (withoutLowest_any (rest p j t) _ hxl hx0).mono ?_; rintro e w' ⟨rfl, rfl⟩; rw [kr.out])
            go_round
            case rel => exact ⟨c + 1, n + 1, by omega, by omega, by go_num, rfl, by show _ = _; have := congrArg List.length kl.out; rw [lst_count, List.length_append, lst_count, hcn.out] at this; simpa [Nat.add_assoc] using this⟩
            case measure => simp [intOf]; omega
          · obtain rfl : n = kk := by omega
            go_wp2_with (go_at_call 44; refine (tz_any (rest p j t) _ hxl hnz.out hT1.out).mono ?_; rintro e w' ⟨rfl, rfl⟩; rw [kc.out])
            go_ret2
            obtain ⟨g1, g2⟩ := nth_found p j t c k hlt hc2 (by rw [hcn.out]; have := hkk.out; omega) kl.out
            exact ⟨by rw [g1, g2, show ((64 * j + c : Nat) : Int) = (j : Int) * 64 + c by omega]; rfl, (Below.refl _ _).alloc (Nat.le_refl _) _⟩
    · obtain rfl : j = 4 := by omega
      have hcw := hid hcw
      clear hcw
      go_wp2
      go_ret2
      obtain ⟨g1, g2⟩ := nth_none p k (.inr (by have := hkk.out; rw [show 64 * 4 = 256 by rfl] at this; omega))
      exact ⟨by rw [g1, g2]; rfl, (Below.refl _ _).alloc (Nat.le_refl _) _⟩
theorem nth_any (p : Nat → Bool) (k : Int) (w : World) (hT : Tab w) (hkm : k ≤ 9223372036854775807) :
    Calls Tryd.prog 25 #[nodes p, .int .i64 k] w (NthPost p k w) := by
  by_cases h : k < 0
  · exact nth_neg p k w h
  · obtain ⟨n, rfl⟩ := Int.eq_ofNat_of_zero_le (show 0 ≤ k by omega)
    exact nth_nat p n w hT hkm
end Go.Proofs.YtppphpgippchaaaDoor
