/-
  The document's own table and Events; Up, Powered and Late of both.
-/
import Derived.Test.YtmdebbkmhcfpfaaDoorEEvents
namespace Go.Proofs.YtmdebbkmhcfpfaaDoor
open Go.RowKit

set_option maxRecDepth 100000 in
set_option maxHeartbeats 8000000 in
theorem to_any (s e : Int) (w : World) (h0 : 0 ≤ s) (h1 : s ≤ 7) (h2 : 1 ≤ e) (h3 : e ≤ 11) : Calls Tryd.prog 21 #[.int .i64 s, .int .i64 e] w fun r w' => r = .returned (.int .i64 (tabE s e - 1)) ∧ w' = w := by
  rcases (show s = 0 ∨ s = 1 ∨ s = 2 ∨ s = 3 ∨ s = 4 ∨ s = 5 ∨ s = 6 ∨ s = 7 by omega) with rfl | rfl | rfl | rfl | rfl | rfl | rfl | rfl
  all_goals rcases (show e = 1 ∨ e = 2 ∨ e = 3 ∨ e = 4 ∨ e = 5 ∨ e = 6 ∨ e = 7 ∨ e = 8 ∨ e = 9 ∨ e = 10 ∨ e = 11 by omega) with rfl | rfl | rfl | rfl | rfl | rfl | rfl | rfl | rfl | rfl | rfl
  all_goals
    clear h0 h1 h2 h3
    go_enter Tryd.func21, Tryd.ntmps21
    go_wp2
    go_ret
    exact ⟨fret1 (by decide), rfl⟩
set_option maxRecDepth 100000 in
set_option maxHeartbeats 4000000 in
theorem rEvents_any (s : Int) (w : World) : Calls Tryd.prog 10 #[.int .i64 s] w (IntsPost w (eventsP s)) := by
  unfold eventsP
  cases h : stOk s with
  | false =>
    rw [if_neg (by decide)]
    have h := of_decide_eq_false h
    by_cases h0 : 0 ≤ s
    · have h7 : ¬ s ≤ 7 := fun h7 => h ⟨h0, h7⟩
      clear h
      go_enter Tryd.func10, Tryd.ntmps10
      go_wp2_with fail
      go_loopw [3, 4] (fun v i wr => ∃ k : Nat, k ≤ 12 ∧ i = .int .i64 (k : Int) ∧ v = .slice none 0 0 ∧ Below w.heap.size w wr) (fun _ i => fun _ => (12 - intOf i).toNat)
      case atStart => exact ⟨1, by omega, rfl, rfl, Below.refl _ _⟩
      case round =>
        obtain ⟨k, hk, rfl, rfl, hB⟩ := hrel
        by_cases hlt : k < 12
        · have i1 : (k : Int) ≤ 11 := by omega
          go_wp2_with fail
          go_roundw
          case rel => exact ⟨k + 1, by omega, by go_num, rfl, hB⟩
          case measure => simp [intOf]; omega
        · have i1 : ¬ (k : Int) ≤ 11 := by omega
          go_wp2_with fail
          go_ret
          exact ⟨_, rfl, ownsRow_nil _ _ _ _, hB⟩
    · clear h
      go_enter Tryd.func10, Tryd.ntmps10
      go_wp2_with fail
      go_loopw [3, 4] (fun v i wr => ∃ k : Nat, k ≤ 12 ∧ i = .int .i64 (k : Int) ∧ v = .slice none 0 0 ∧ Below w.heap.size w wr) (fun _ i => fun _ => (12 - intOf i).toNat)
      case atStart => exact ⟨1, by omega, rfl, rfl, Below.refl _ _⟩
      case round =>
        obtain ⟨k, hk, rfl, rfl, hB⟩ := hrel
        by_cases hlt : k < 12
        · have i1 : (k : Int) ≤ 11 := by omega
          go_wp2_with fail
          go_roundw
          case rel => exact ⟨k + 1, by omega, by go_num, rfl, hB⟩
          case measure => simp [intOf]; omega
        · have i1 : ¬ (k : Int) ≤ 11 := by omega
          go_wp2_with fail
          go_ret
          exact ⟨_, rfl, ownsRow_nil _ _ _ _, hB⟩
  | true =>
    rw [if_pos rfl]
    obtain ⟨n, rfl, hn⟩ := st_nat h
    clear h
    rw [Int.toNat_natCast, ← ev_all]
    have i0 : (n : Int) ≥ 0 := by omega
    have i7 : (n : Int) ≤ 7 := by omega
    have hz := tab_zero n hn
    have hto := fun (k : Nat) (h1 : 1 ≤ k) (h2 : k < 12) W => to_any n k W (by omega) i7 (by omega) (by omega)
    unfold tabE at hto
    simp only [Int.toNat_natCast] at hto
    go_enter Tryd.func10, Tryd.ntmps10
    go_wp2_with fail
    go_loopw [3, 4] (fun v i wr => ∃ k : Nat, 1 ≤ k ∧ k ≤ 12 ∧ i = .int .i64 (k : Int) ∧ OwnI wr w.heap.size v (evUpto n k) ∧ Below w.heap.size w wr) (fun _ i => fun _ => (12 - intOf i).toNat)
    case atStart => exact ⟨1, by omega, by omega, rfl, by rw [ev_no hz]; exact ownsRow_nil _ _ _ _, Below.refl _ _⟩
    case round =>
      obtain ⟨k, hk1, hk, rfl, hO, hB⟩ := hrel
      by_cases hlt : k < 12
      · have hs1 := fun h => ev_yes (s := n) (k := k) h
        have hs2 := fun h => ev_no (s := n) (k := k) h
        have hl := ev_len n k
        have ht := fun W => hto k hk1 hlt W
        have hx0 := (tab_le n hn k hlt).1
        generalize hE : evUpto n k = E at *
        generalize hE2 : evUpto n (k + 1) = E2 at *
        generalize tabN n k = x at *
        have i1 : (k : Int) ≤ 11 := by omega
        replace hO := fhid hO
        replace hB := fhid hB
        by_cases hx : x = 0
        · obtain rfl := hs2 hx
          subst hx
          clear hs1 hs2
          go_wp2_with (go_at_call 21; (with_reducible refine (ht _).mono ?_); rintro e w3 ⟨rfl, rfl⟩)
          go_roundw
          case rel => exact ⟨k + 1, by omega, by omega, by go_num, by rw [hE2]; exact hO.out, hB.out⟩
          case measure => simp [intOf]; omega
        · obtain rfl := hs1 hx
          have i9 : x - 1 ≥ 0 := by omega
          clear hs1 hs2
          go_wp2_with (first | (go_at_call 21; (with_reducible refine (ht _).mono ?_); rintro e w3 ⟨rfl, rfl⟩) | (at_builtin; (refine app_int rfl _ _ rfl w.heap.size _ E k w3 rfl hO.out rfl w3.heap.size rfl rfl (by omega) hB.out.size ?_; intro v3 w4 o3 _ b3)) | fail)
          go_roundw
          case rel => exact ⟨k + 1, by omega, by omega, by go_num, by rw [hE2]; exact o3, hB.out.trans b3⟩
          case measure => simp [intOf]; omega
      · obtain rfl : k = 12 := by omega
        go_wp2_with fail
        go_ret
        exact ⟨_, rfl, hO, hB⟩
theorem rUp_any (s : Int) (w : World) : Calls Tryd.prog 12 #[.int .i64 s] w fun e w' => e = .returned (.bool (upB s)) ∧ w' = w := by
  obtain ⟨b, hb⟩ : ∃ b, upB s = b := ⟨_, rfl⟩
  rw [hb]
  by_cases h2 : 2 ≤ s ∧ s ≤ 5
  · obtain rfl : b = true := by rw [← hb]; exact decide_eq_true h2
    rcases (show s = 2 ∨ s = 3 ∨ s = 4 ∨ s = 5 by omega) with rfl | rfl | rfl | rfl
    all_goals
      clear hb h2
      go_enter Tryd.func12, Tryd.ntmps12
      go_wp2
      go_ret
      exact ⟨rfl, rfl⟩
  · obtain rfl : b = false := by rw [← hb]; exact decide_eq_false h2
    have b2 : (s == 2) = false := by simpa using (show ¬ s = 2 by omega)
    have b3 : (s == 3) = false := by simpa using (show ¬ s = 3 by omega)
    have b4 : (s == 4) = false := by simpa using (show ¬ s = 4 by omega)
    have b5 : (s == 5) = false := by simpa using (show ¬ s = 5 by omega)
    clear hb h2
    go_enter Tryd.func12, Tryd.ntmps12
    go_wp2
    go_ret
    exact ⟨rfl, rfl⟩
theorem powered_any (s : Int) (w : World) : Calls Tryd.prog 13 #[.int .i64 s] w fun e w' => e = .returned (.bool (powB s)) ∧ w' = w := by
  have hu := fun W => up_any s W
  unfold powB
  cases h : upB s with
  | true =>
    rw [h] at hu
    clear h
    go_enter Tryd.func13, Tryd.ntmps13
    go_wp2_with (go_at_call 11; (with_reducible refine (hu _).mono ?_); rintro e w3 ⟨rfl, rfl⟩)
    go_ret
    exact ⟨rfl, rfl⟩
  | false =>
    rw [h] at hu
    clear h
    by_cases h1 : s = 1
    · subst h1
      go_enter Tryd.func13, Tryd.ntmps13
      go_wp2_with (go_at_call 11; (with_reducible refine (hu _).mono ?_); rintro e w3 ⟨rfl, rfl⟩)
      go_ret
      exact ⟨rfl, rfl⟩
    · have b1 : (s == 1) = false := by simpa using h1
      rw [decide_eq_false h1]
      by_cases h7 : s = 7
      · subst h7
        go_enter Tryd.func13, Tryd.ntmps13
        go_wp2_with (go_at_call 11; (with_reducible refine (hu _).mono ?_); rintro e w3 ⟨rfl, rfl⟩)
        go_ret
        exact ⟨rfl, rfl⟩
      · have b7 : (s == 7) = false := by simpa using h7
        rw [decide_eq_false h7]
        go_enter Tryd.func13, Tryd.ntmps13
        go_wp2_with (go_at_call 11; (with_reducible refine (hu _).mono ?_); rintro e w3 ⟨rfl, rfl⟩)
        go_ret
        exact ⟨rfl, rfl⟩
theorem rPowered_any (s : Int) (w : World) : Calls Tryd.prog 14 #[.int .i64 s] w fun e w' => e = .returned (.bool (powB s)) ∧ w' = w := by
  have hu := fun W => rUp_any s W
  unfold powB
  cases h : upB s with
  | true =>
    rw [h] at hu
    clear h
    go_enter Tryd.func14, Tryd.ntmps14
    go_wp2_with (go_at_call 12; (with_reducible refine (hu _).mono ?_); rintro e w3 ⟨rfl, rfl⟩)
    go_ret
    exact ⟨rfl, rfl⟩
  | false =>
    rw [h] at hu
    clear h
    by_cases h1 : s = 1
    · subst h1
      go_enter Tryd.func14, Tryd.ntmps14
      go_wp2_with (go_at_call 12; (with_reducible refine (hu _).mono ?_); rintro e w3 ⟨rfl, rfl⟩)
      go_ret
      exact ⟨rfl, rfl⟩
    · have b1 : (s == 1) = false := by simpa using h1
      rw [decide_eq_false h1]
      by_cases h7 : s = 7
      · subst h7
        go_enter Tryd.func14, Tryd.ntmps14
        go_wp2_with (go_at_call 12; (with_reducible refine (hu _).mono ?_); rintro e w3 ⟨rfl, rfl⟩)
        go_ret
        exact ⟨rfl, rfl⟩
      · have b7 : (s == 7) = false := by simpa using h7
        rw [decide_eq_false h7]
        go_enter Tryd.func14, Tryd.ntmps14
        go_wp2_with (go_at_call 12; (with_reducible refine (hu _).mono ?_); rintro e w3 ⟨rfl, rfl⟩)
        go_ret
        exact ⟨rfl, rfl⟩
end Go.Proofs.YtmdebbkmhcfpfaaDoor
