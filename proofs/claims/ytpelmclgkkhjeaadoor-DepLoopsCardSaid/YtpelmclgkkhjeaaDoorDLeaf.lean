/-
  The smallest calls.
-/
import Derived.Test.YtpelmclgkkhjeaaDoorDBase
namespace Go.Proofs.YtpelmclgkkhjeaaDoor
open Go.RowKit

set_option maxHeartbeats 400000 in
theorem isDigit_any (c : UInt8) (w : World) : Calls Tryd.prog 38 #[.int .u8 (c.toNat : Int)] w fun e w' => e = .returned (.bool (isDig c)) ∧ w = w' := by
  have h := isDig_iff c
  generalize isDig c = r at *
  generalize c.toNat = n at *
  by_cases h1 : (48 : Int) ≤ n <;> by_cases h2 : (n : Int) ≤ 57
  all_goals
    first
      | (have e : r = true := h.2 (by omega)
         subst e
         clear h
         go_enter Tryd.func38, Tryd.ntmps38
         go_wp2
         go_ret
         exact ⟨rfl, rfl⟩)
      | (have e : r = false := by cases r with | false => rfl | true => exact absurd (h.1 rfl) (by omega)
         subst e
         clear h
         go_enter Tryd.func38, Tryd.ntmps38
         go_wp2
         go_ret
         exact ⟨rfl, rfl⟩)
set_option maxHeartbeats 400000 in
theorem isSmall_any (c : UInt8) (w : World) : Calls Tryd.prog 28 #[.int .u8 (c.toNat : Int)] w fun e w' => e = .returned (.bool (isSm c)) ∧ w = w' := by
  have h := isSm_iff c
  generalize isSm c = r at *
  generalize c.toNat = n at *
  by_cases h1 : (97 : Int) ≤ n <;> by_cases h2 : (n : Int) ≤ 122
  all_goals
    first
      | (have e : r = true := h.2 (by omega)
         subst e
         clear h
         go_enter Tryd.func28, Tryd.ntmps28
         go_wp2
         go_ret
         exact ⟨rfl, rfl⟩)
      | (have e : r = false := by cases r with | false => rfl | true => exact absurd (h.1 rfl) (by omega)
         subst e
         clear h
         go_enter Tryd.func28, Tryd.ntmps28
         go_wp2
         go_ret
         exact ⟨rfl, rfl⟩)
/-- A fault at a byte, or at the end: some fault there is. -/
def Wrong (i : Int) (w : World) (e : Ending) (w' : World) : Prop := ∃ y : Int, y ≠ 0 ∧ e = .returned (.agg #[.int .i64 y, .int .i64 i]) ∧ Below w.heap.size w w'
set_option maxHeartbeats 400000 in
theorem wrong_any (s : ByteArray) (i : Int) (w : World) : Calls Tryd.prog 18 #[.string s, .int .i64 i] w (Wrong i w) := by
  by_cases hk : i = (s.size : Int)
  · subst hk
    go_enter Tryd.func18, Tryd.ntmps18
    go_wp2
    exact bodyPost_ret (v := .agg #[.int .i64 4, .int .i64 s.size]) (by simp [results, Tryd.results18, go_sem]) rfl ⟨4, by decide, rfl, (Below.refl _ _).alloc (Nat.le_refl _) _⟩
  · have h1 : (i == (s.size : Int)) = false := by simpa using hk
    go_enter Tryd.func18, Tryd.ntmps18
    go_wp2
    exact bodyPost_ret (v := .agg #[.int .i64 3, .int .i64 i]) (by simp [results, Tryd.results18, go_sem]) rfl ⟨3, by decide, rfl, (Below.refl _ _).alloc (Nat.le_refl _) _⟩
set_option maxHeartbeats 400000 in
theorem stands_any (s : ByteArray) (k : Nat) (i m : Int) (c : UInt8) (w : World) (hi : i = k) (hm : m = (c.toNat : Int)) : Calls Tryd.prog 16 #[.string s, .int .i64 i, .int .u8 m] w fun e w' => e = .returned (.bool (decide ((bl s)[k]? = some c))) ∧ w = w' := by
  subst hi
  subst hm
  by_cases h : k < s.size
  · have e : decide ((bl s)[k]? = some c) = ((s[k].toNat : Int) == (c.toNat : Int)) := by
      rw [List.getElem?_eq_getElem (by rw [bl_len]; exact h), bl_get s k h]
      rw [Bool.eq_iff_iff]
      simp [← UInt8.toNat_inj]
      omega
    rw [e]
    have h1 : (k : Int) < s.size := by omega
    have h0 : (0 : Int) ≤ k := by omega
    go_enter Tryd.func16, Tryd.ntmps16
    go_wp2
    go_ret
    exact ⟨rfl, rfl⟩
  · have e : decide ((bl s)[k]? = some c) = false := by
      rw [List.getElem?_eq_none (by rw [bl_len]; omega)]; rfl
    rw [e]
    have h1 : ¬ (k : Int) < s.size := by omega
    go_enter Tryd.func16, Tryd.ntmps16
    go_wp2
    go_ret
    exact ⟨rfl, rfl⟩
theorem between_any (a : Bool) (w : World) : Calls Tryd.prog 17 #[.bool a] w fun e w' => e = .returned (.int .u8 ((sepT a).toNat : Int)) ∧ w = w' := by
  cases a with
  | true =>
    go_enter Tryd.func17, Tryd.ntmps17
    go_wp2
    go_ret
    exact ⟨rfl, rfl⟩
  | false =>
    go_enter Tryd.func17, Tryd.ntmps17
    go_wp2
    go_ret
    exact ⟨rfl, rfl⟩
set_option maxHeartbeats 400000 in
theorem word_any (k : Int) (w : World) : Calls Tryd.prog 31 #[.int .i64 k] w fun e w' => e = .returned (.string (str (word k))) ∧ w = w' := by
  by_cases h1 : k = 1
  · subst h1; go_enter Tryd.func31, Tryd.ntmps31
    go_wp2
    go_ret
    exact ⟨rfl, rfl⟩
  by_cases h2 : k = 2
  · subst h2; go_enter Tryd.func31, Tryd.ntmps31
    go_wp2
    go_ret
    exact ⟨rfl, rfl⟩
  by_cases h3 : k = 3
  · subst h3; go_enter Tryd.func31, Tryd.ntmps31
    go_wp2
    go_ret
    exact ⟨rfl, rfl⟩
  by_cases h4 : k = 4
  · subst h4; go_enter Tryd.func31, Tryd.ntmps31
    go_wp2
    go_ret
    exact ⟨rfl, rfl⟩
  by_cases h5 : k = 5
  · subst h5; go_enter Tryd.func31, Tryd.ntmps31
    go_wp2
    go_ret
    exact ⟨rfl, rfl⟩
  have e : word k = [63] := by unfold word; rw [if_neg h1, if_neg h2, if_neg h3, if_neg h4, if_neg h5]
  rw [e]
  clear e
  have b1 : (k == 1) = false := by simpa using h1
  have b2 : (k == 2) = false := by simpa using h2
  have b3 : (k == 3) = false := by simpa using h3
  have b4 : (k == 4) = false := by simpa using h4
  have b5 : (k == 5) = false := by simpa using h5
  go_enter Tryd.func31, Tryd.ntmps31
  go_wp2
  go_ret
  exact ⟨rfl, rfl⟩
theorem word_at (s : ByteArray) (k : Nat) : ((str (word k)).toList == s.toList) = decide (bl s = word k) := by
  rw [str_eq, bl_str]
  exact decide_eq_decide.2 eq_comm
theorem kindOf_at {s : List UInt8} {k : Nat} (h0 : 1 ≤ k) (h1 : k ≤ 5) (h : ∀ j : Nat, 1 ≤ j → j < k → s ≠ word j) (hk : s = word k) : kindOf s = k := by
  unfold kindOf
  match k, h0, h1, h, hk with
  | 1, _, _, _, hk => exact if_pos hk
  | 2, _, _, h, hk => rw [if_neg (show s ≠ word 1 from h 1 (by decide) (by decide))]; exact if_pos hk
  | 3, _, _, h, hk => rw [if_neg (show s ≠ word 1 from h 1 (by decide) (by decide)), if_neg (show s ≠ word 2 from h 2 (by decide) (by decide))]; exact if_pos hk
  | 4, _, _, h, hk => rw [if_neg (show s ≠ word 1 from h 1 (by decide) (by decide)), if_neg (show s ≠ word 2 from h 2 (by decide) (by decide)), if_neg (show s ≠ word 3 from h 3 (by decide) (by decide))]; exact if_pos hk
  | 5, _, _, h, hk => rw [if_neg (show s ≠ word 1 from h 1 (by decide) (by decide)), if_neg (show s ≠ word 2 from h 2 (by decide) (by decide)), if_neg (show s ≠ word 3 from h 3 (by decide) (by decide)), if_neg (show s ≠ word 4 from h 4 (by decide) (by decide))]; exact if_pos hk
theorem kindOf_none {s : List UInt8} (h : ∀ j : Nat, 1 ≤ j → j < 6 → s ≠ word j) : kindOf s = 0 := by
  unfold kindOf
  rw [if_neg (show s ≠ word 1 from h 1 (by decide) (by decide)), if_neg (show s ≠ word 2 from h 2 (by decide) (by decide)), if_neg (show s ≠ word 3 from h 3 (by decide) (by decide)), if_neg (show s ≠ word 4 from h 4 (by decide) (by decide)), if_neg (show s ≠ word 5 from h 5 (by decide) (by decide))]
set_option maxHeartbeats 1000000 in
theorem kindOf_any (s : ByteArray) (w : World) : Calls Tryd.prog 29 #[.string s] w fun e w' => e = .returned (.int .i64 (kindOf (bl s))) ∧ w = w' := by
  go_enter Tryd.func29, Tryd.ntmps29
  go_wp2_with fail
  go_loop [3] (fun i => ∃ k : Nat, 1 ≤ k ∧ k ≤ 6 ∧ i = .int .i64 (k : Int) ∧ Hid (∀ j : Nat, 1 ≤ j → j < k → bl s ≠ word j)) (fun i => 6 - (intOf i).toNat)
  case atStart => exact ⟨1, by decide, by decide, rfl, fhid fun j h h' => by omega⟩
  case round =>
    obtain ⟨k, h0, h6, rfl, hj⟩ := hrel
    by_cases hlt : k ≤ 5
    · have hw := fun W => word_any (k : Int) W
      have hq := word_at s k
      have q1 : (k : Int) ≤ 5 := by omega
      have q0 : (1 : Int) ≤ k := by omega
      obtain ⟨S, hS⟩ : ∃ S, str (word k) = S := ⟨_, rfl⟩
      rw [hS] at hw hq
      by_cases hk : bl s = word k
      · rw [decide_eq_true hk] at hq
        have hE := fhid (kindOf_at h0 hlt hj.out hk)
        clear hk hS hj
        go_wp2_with (go_at_call 31; (with_reducible refine (hw _).mono ?_); rintro e w1 ⟨rfl, rfl⟩)
        go_ret
        exact ⟨fret1 hE.out.symm, rfl⟩
      · rw [decide_eq_false hk] at hq
        have hE := fhid (show ∀ j : Nat, 1 ≤ j → j < k + 1 → bl s ≠ word j from fun j h h' => by
          by_cases e : j = k
          · subst e; exact hk
          · exact hj.out j h (by omega))
        clear hk hS hj
        go_wp2_with (go_at_call 31; (with_reducible refine (hw _).mono ?_); rintro e w1 ⟨rfl, rfl⟩)
        go_round
        case rel => exact ⟨k + 1, by omega, by omega, by go_num, hE⟩
        case measure => simp [intOf]; omega
    · obtain rfl : k = 6 := by omega
      have hE := fhid (kindOf_none hj.out)
      clear hj
      go_wp2_with fail
      go_ret
      exact ⟨fret1 hE.out.symm, rfl⟩
theorem namesJobs_any (k : Int) (w : World) : Calls Tryd.prog 23 #[.int .i64 k] w fun e w' => e = .returned (.bool (decide (1 ≤ k ∧ k ≤ 4))) ∧ w = w' := by
  by_cases h1 : 1 ≤ k <;> by_cases h2 : k ≤ 4
  all_goals
    go_enter Tryd.func23, Tryd.ntmps23
    go_wp2
    go_ret
    exact ⟨fretb (by simp [h1, h2]), rfl⟩
theorem ended_cases (s : Int) : (s = 3 ∧ ended s = true) ∨ (s = 4 ∧ ended s = true) ∨ (s = 5 ∧ ended s = true) ∨ (s = 6 ∧ ended s = true) ∨ (s ≠ 3 ∧ s ≠ 4 ∧ s ≠ 5 ∧ s ≠ 6 ∧ ended s = false) := by
  by_cases h3 : s = 3
  · exact .inl ⟨h3, by rw [h3]; rfl⟩
  by_cases h4 : s = 4
  · exact .inr (.inl ⟨h4, by rw [h4]; rfl⟩)
  by_cases h5 : s = 5
  · exact .inr (.inr (.inl ⟨h5, by rw [h5]; rfl⟩))
  by_cases h6 : s = 6
  · exact .inr (.inr (.inr (.inl ⟨h6, by rw [h6]; rfl⟩)))
  refine .inr (.inr (.inr (.inr ⟨h3, h4, h5, h6, ?_⟩)))
  cases e : ended s with
  | false => rfl
  | true => exact absurd (ended_iff.1 e) (by omega)
theorem state_cases (s : Int) : s = 2 ∨ s = 3 ∨ s = 4 ∨ s = 6 ∨ s = 7 ∨ ((s == 2) = false ∧ (s == 3) = false ∧ (s == 4) = false ∧ (s == 6) = false ∧ (s == 7) = false) := by
  simp only [beq_eq_false_iff_ne]
  omega
set_option maxHeartbeats 400000 in
theorem Ended_any (s : Int) (w : World) : Calls Tryd.prog 25 #[.int .i64 s] w fun e w' => e = .returned (.bool (ended s)) ∧ w = w' := by
  rcases ended_cases s with ⟨rfl, _⟩ | ⟨rfl, _⟩ | ⟨rfl, _⟩ | ⟨rfl, _⟩ | ⟨h3, h4, h5, h6, e⟩
  iterate 4 (· go_enter Tryd.func25, Tryd.ntmps25
               go_wp2
               go_ret
               exact ⟨rfl, rfl⟩)
  · rw [e]
    clear e
    have b3 : (s == 3) = false := by simpa using h3
    have b4 : (s == 4) = false := by simpa using h4
    have b5 : (s == 5) = false := by simpa using h5
    have b6 : (s == 6) = false := by simpa using h6
    go_enter Tryd.func25, Tryd.ntmps25
    go_wp2
    go_ret
    exact ⟨rfl, rfl⟩
set_option maxHeartbeats 1000000 in
theorem holds_any (k s : Int) (w : World) : Calls Tryd.prog 24 #[.int .i64 k, .int .i64 s] w fun e w' => e = .returned (.bool (holdsP k s)) ∧ w = w' := by
  have he := fun W => Ended_any s W
  have hE := fhid (show holdsP k s = if k = 1 then decide (s = 2) || ended s else if k = 2 then decide (s = 3) else if k = 3 then decide (s = 4) || decide (s = 6) else ended s from rfl)
  generalize ended s = r at *
  generalize holdsP k s = q at *
  by_cases h1 : k = 1
  · subst h1
    by_cases h2 : s = 2
    all_goals
      go_enter Tryd.func24, Tryd.ntmps24
      go_wp2_with (go_at_call 25; (with_reducible refine (he _).mono ?_); rintro e w1 ⟨rfl, rfl⟩)
      go_ret
      exact ⟨fretb (by rw [hE.out]; simp [h2]), rfl⟩
  by_cases h2 : k = 2
  · subst h2
    by_cases h3 : s = 3
    all_goals
      go_enter Tryd.func24, Tryd.ntmps24
      go_wp2_with fail
      go_ret
      exact ⟨fretb (by rw [hE.out]; simp [h3]), rfl⟩
  by_cases h3 : k = 3
  · subst h3
    by_cases h4 : s = 4 <;> by_cases h6 : s = 6
    all_goals
      go_enter Tryd.func24, Tryd.ntmps24
      go_wp2_with fail
      go_ret
      exact ⟨fretb (by rw [hE.out]; simp [h4, h6]), rfl⟩
  have b1 : (k == 1) = false := by simpa using h1
  have b2 : (k == 2) = false := by simpa using h2
  have b3 : (k == 3) = false := by simpa using h3
  go_enter Tryd.func24, Tryd.ntmps24
  go_wp2_with (go_at_call 25; (with_reducible refine (he _).mono ?_); rintro e w1 ⟨rfl, rfl⟩)
  go_ret
  exact ⟨fretb (by rw [hE.out, if_neg h1, if_neg h2, if_neg h3]), rfl⟩
set_option maxHeartbeats 1000000 in
theorem One_any (k s : Int) (w : World) : Calls Tryd.prog 12 #[.int .i64 k, .int .i64 s] w fun e w' => e = .returned (.int .i64 (oneP k s)) ∧ w = w' := by
  have hn := fun W => namesJobs_any k W
  have hh := fun W => holds_any k s W
  have he := fun W => Ended_any s W
  have hE := fhid (show oneP k s = if 1 ≤ k ∧ k ≤ 4 then (if holdsP k s = true then 1 else if (ended s || decide (s = 7)) = true then 2 else 0) else 0 from rfl)
  generalize ended s = r at *
  generalize holdsP k s = q at *
  generalize oneP k s = x at *
  by_cases h1 : 1 ≤ k ∧ k ≤ 4
  · rw [decide_eq_true h1] at hn
    have hE2 := fhid (hE.out.trans (if_pos h1))
    clear hE h1
    cases q with
    | true =>
      go_enter Tryd.func12, Tryd.ntmps12
      go_wp2_with (first
        | (go_at_call 23; (with_reducible refine (hn _).mono ?_); rintro e w1 ⟨rfl, rfl⟩)
        | (go_at_call 24; (with_reducible refine (hh _).mono ?_); rintro e w1 ⟨rfl, rfl⟩))
      go_ret
      exact ⟨fret1 (by rw [hE2.out]; rfl), rfl⟩
    | false =>
      cases r with
      | true =>
        go_enter Tryd.func12, Tryd.ntmps12
        go_wp2_with (first
          | (go_at_call 23; (with_reducible refine (hn _).mono ?_); rintro e w1 ⟨rfl, rfl⟩)
          | (go_at_call 24; (with_reducible refine (hh _).mono ?_); rintro e w1 ⟨rfl, rfl⟩)
          | (go_at_call 25; (with_reducible refine (he _).mono ?_); rintro e w1 ⟨rfl, rfl⟩))
        go_ret
        exact ⟨fret1 (by rw [hE2.out]; rfl), rfl⟩
      | false =>
        rcases state_cases s with rfl | rfl | rfl | rfl | rfl | ⟨b2, b3, b4, b6, b7⟩
        all_goals
          go_enter Tryd.func12, Tryd.ntmps12
          go_wp2_with (first
            | (go_at_call 23; (with_reducible refine (hn _).mono ?_); rintro e w1 ⟨rfl, rfl⟩)
            | (go_at_call 24; (with_reducible refine (hh _).mono ?_); rintro e w1 ⟨rfl, rfl⟩)
            | (go_at_call 25; (with_reducible refine (he _).mono ?_); rintro e w1 ⟨rfl, rfl⟩))
          go_ret
          exact ⟨fret1 (by rw [hE2.out]; simp_all), rfl⟩
  · rw [decide_eq_false h1] at hn
    have hE2 := fhid (hE.out.trans (if_neg h1))
    clear hE h1
    go_enter Tryd.func12, Tryd.ntmps12
    go_wp2_with (go_at_call 23; (with_reducible refine (hn _).mono ?_); rintro e w1 ⟨rfl, rfl⟩)
    go_ret
    exact ⟨fret1 hE2.out.symm, rfl⟩
theorem holds_one {k : Int} (h : k = 1) (s : Int) : holdsP k s = (decide (s = 2) || ended s) := by subst h; rfl
end Go.Proofs.YtpelmclgkkhjeaaDoor
