/-
  A job's number, read.
-/
import Derived.Test.YtpelmclgkkhjeaaDoorDLeaf
namespace Go.Proofs.YtpelmclgkkhjeaaDoor
open Go.RowKit

theorem fault_facts {w w' : World} {a b : Int} (hb : Below (w.alloc (.cells #[.int .i64 a, .int .i64 b] 43)).heap.size (w.alloc (.cells #[.int .i64 a, .int .i64 b] 43)) w') :
    w'.cell? ⟨w.heap.size, 0, none⟩ = some (.int .i64 a) ∧ w'.cell? ⟨w.heap.size, 1, none⟩ = some (.int .i64 b) ∧ w'.frozen? ⟨w.heap.size, 0, none⟩ = false ∧ w'.frozen? ⟨w.heap.size, 1, none⟩ = false ∧ w.heap.size < w'.heap.size := by
  have h := (hb.block w.heap.size (by rw [World.size_alloc]; omega)).trans (heap_alloc_new w _)
  exact ⟨by simp [World.cell?, h], by simp [World.cell?, h], by simp [World.frozen?, h], by simp [World.frozen?, h], lt_of_block h⟩
theorem takeWhile_len {p : UInt8 → Bool} (l : List UInt8) (j : Nat) (hj : j ≤ l.length) (ha : ∀ i (h : i < l.length), i < j → p l[i] = true) (hs : ∀ h : j < l.length, p l[j] = false) : (l.takeWhile p).length = j := by
  induction l generalizing j with
  | nil => simp at hj; subst hj; rfl
  | cons x r ih =>
    cases j with
    | zero =>
      have := hs (by simp)
      simp at this
      simp [this]
    | succ j =>
      have h0 := ha 0 (by simp) (by omega)
      simp at h0
      rw [List.takeWhile_cons, if_pos h0, List.length_cons, ih j (by simpa using hj) (fun i h hi => by have := ha (i + 1) (by rw [List.length_cons]; omega) (by omega); rwa [List.getElem_cons_succ] at this) (fun h => by have := hs (by rw [List.length_cons]; omega); rwa [List.getElem_cons_succ] at this)]
def AllTo (r : List UInt8) (j : Nat) : Prop := ∀ i (h : i < r.length), i < j → isDig r[i] = true
theorem AllTo.zero (r : List UInt8) : AllTo r 0 := fun _ _ h => absurd h (Nat.not_lt_zero _)
theorem AllTo.succ {r : List UInt8} {j : Nat} (h : AllTo r j) (hj : j < r.length) (hd : isDig r[j] = true) : AllTo r (j + 1) := fun i hi hlt => by
  by_cases he : i = j
  · subst he; exact hd
  · exact h i hi (by omega)
theorem dval_take_succ (r : List UInt8) (j : Nat) (hj : j < r.length) : dval (r.take (j + 1)) = 10 * dval (r.take j) + dv r[j] := by
  rw [List.take_succ_eq_append_getElem hj, dval_snoc]
theorem dval_take_le {r : List UInt8} {j : Nat} (h : AllTo r j) (hj : j ≤ r.length) (h6 : j ≤ 6) : dval (r.take j) < 1000000 := by
  have hl : (r.take j).length = j := by rw [List.length_take]; omega
  have := dval_lt j (r.take j) hl (by
    rw [List.all_eq_true]
    intro x hx
    obtain ⟨i, hi, rfl⟩ := List.getElem_of_mem hx
    rw [List.getElem_take]
    exact h i (by omega) (by omega))
  have : (10 : Nat) ^ j ≤ 10 ^ 6 := Nat.pow_le_pow_right (by decide) h6
  omega
theorem tw_stop {r : List UInt8} {j : Nat} (h : AllTo r j) (hj : j ≤ r.length) (hs : ∀ h : j < r.length, isDig r[j] = false) : (r.takeWhile isDig).length = j ∧ r.takeWhile isDig = r.take j := by
  have hl := takeWhile_len (p := isDig) r j hj h hs
  refine ⟨hl, ?_⟩
  have := List.prefix_iff_eq_take.1 (List.takeWhile_prefix isDig (l := r))
  rw [this, hl]
theorem tw_more {r : List UInt8} {j : Nat} (h : AllTo r (j + 1)) (hj : j < r.length) : j < (r.takeWhile isDig).length := by
  have : ∀ (r : List UInt8) (j : Nat), AllTo r (j + 1) → j < r.length → j < (r.takeWhile isDig).length := by
    intro r
    induction r with
    | nil => intro j _ h; exact absurd h (Nat.not_lt_zero _)
    | cons x r ih =>
      intro j h hj
      have h0 := h 0 (by simp) (by omega)
      rw [List.getElem_cons_zero] at h0
      rw [List.takeWhile_cons, if_pos h0, List.length_cons]
      cases j with
      | zero => omega
      | succ j =>
        have := ih j (fun i hi hlt => by have := h (i + 1) (by rw [List.length_cons]; omega) (by omega); rwa [List.getElem_cons_succ] at this) (by simpa using hj)
        omega
  exact this r j h hj
theorem drop_get (s : ByteArray) (a j : Nat) (h : a + j < s.size) (h' : j < ((bl s).drop a).length) : ((bl s).drop a)[j] = s[a + j]'h := by
  rw [List.getElem_drop, bl_get]
theorem pJob_nought {r : List UInt8} (h : r.head? = some 48) : pJob r = none := by unfold pJob; rw [if_pos h]
theorem pJob_many {r : List UInt8} (h : AllTo r 7) (hj : 6 < r.length) : pJob r = none := by
  have := tw_more h hj
  unfold pJob
  rw [if_pos (show (r.takeWhile isDig).length = 0 ∨ 6 < (r.takeWhile isDig).length from .inr this)]
  split <;> rfl
theorem pJob_none {r : List UInt8} (hs : ∀ h : 0 < r.length, isDig r[0] = false) : pJob r = none := by
  have := (tw_stop (AllTo.zero r) (Nat.zero_le _) hs).1
  unfold pJob
  rw [if_pos (show (r.takeWhile isDig).length = 0 ∨ 6 < (r.takeWhile isDig).length from .inl this)]
  split <;> rfl
theorem pJob_some {r : List UInt8} {j : Nat} (h0 : r.head? ≠ some 48) (h : AllTo r j) (hj : j ≤ r.length) (h1 : 1 ≤ j) (h6 : j ≤ 6) (hs : ∀ h : j < r.length, isDig r[j] = false) : pJob r = some (((dval (r.take j) : Nat) : Int), r.drop j) := by
  obtain ⟨a, b⟩ := tw_stop h hj hs
  unfold pJob
  rw [if_neg h0, if_neg (by omega), a, b]
/-- What a call that reads a job hands back. -/
def JobPost (w : World) (s : ByteArray) (a : Nat) (e : Ending) (w' : World) : Prop := Below w.heap.size w w' ∧ match pJob ((bl s).drop a) with
  | none => ∃ y i : Int, y ≠ 0 ∧ e = .returned (.tuple #[.int .i64 0, .int .i64 0, .agg #[.int .i64 y, .int .i64 i]])
  | some (n, r) => ∃ c : Nat, a < c ∧ c ≤ s.size ∧ r = (bl s).drop c ∧ e = .returned (.tuple #[.int .i64 n, .int .i64 c, .agg #[.int .i64 0, .int .i64 0]])
theorem JobPost.bad {w : World} {s : ByteArray} {a : Nat} {e : Ending} {w' : World} (hb : Below w.heap.size w w') (h : pJob ((bl s).drop a) = none) {y i : Int} (hy : y ≠ 0) (he : e = .returned (.tuple #[.int .i64 0, .int .i64 0, .agg #[.int .i64 y, .int .i64 i]])) : JobPost w s a e w' := by
  refine ⟨hb, ?_⟩
  rw [h]
  exact ⟨y, i, hy, he⟩
theorem JobPost.good {w : World} {s : ByteArray} {a : Nat} {e : Ending} {w' : World} (hb : Below w.heap.size w w') {n : Int} {j : Nat} (h : pJob ((bl s).drop a) = some (n, ((bl s).drop a).drop j)) (h1 : 1 ≤ j) (hj : a + j ≤ s.size) (he : e = .returned (.tuple #[.int .i64 n, .int .i64 ((a : Int) + j), .agg #[.int .i64 0, .int .i64 0]])) : JobPost w s a e w' := by
  refine ⟨hb, ?_⟩
  rw [h]
  exact ⟨a + j, by omega, hj, by rw [List.drop_drop], by rw [he]; push_cast; rfl⟩
theorem set2 {B : Nat} {a w : World} (h : Below B a w) (b : Nat) (hb : B ≤ b) (u v : Value) : Below B a ((w.setCell ⟨b, 0, none⟩ u).setCell ⟨b, 1, none⟩ v) := (h.setCell hb _).setCell hb _
set_option maxRecDepth 100000 in
set_option maxHeartbeats 2000000 in
theorem readJob_any (s : ByteArray) (a : Nat) (ai : Int) (w : World) (hai : ai = a) (hs : s.size ≤ 140737488355328) (ha : a ≤ s.size) :
    Calls Tryd.prog 30 #[.string s, .int .i64 ai] w (JobPost w s a) := by
  subst hai
  obtain ⟨r, hr⟩ : ∃ r, (bl s).drop a = r := ⟨_, rfl⟩
  have hrl : r.length = s.size - a := by rw [← hr, List.length_drop, bl_len]
  have hget : ∀ j (h : a + j < s.size) (h' : j < r.length), r[j] = s[a + j] := fun j h h' => by subst hr; exact drop_get s a j h h'
  have hhd : r.head? = (bl s)[a]? := by rw [← hr, List.head?_drop]
  have hbad := fun w' (hb : Below w.heap.size w w') (h : pJob r = none) e => @JobPost.bad w s a e w' hb (by rw [hr]; exact h)
  have hgood := fun w' (hb : Below w.heap.size w w') (n : Int) (j : Nat) (h : pJob r = some (n, r.drop j)) e => @JobPost.good w s a e w' hb n j (by rw [hr]; exact h)
  have hst := fun W => stands_any s a a 48 48 W rfl rfl
  have hai0 : (0 : Int) ≤ a := by omega
  have hai1 : (a : Int) ≤ s.size := by omega
  have hsi : (s.size : Int) ≤ 140737488355328 := by omega
  replace hr := fhid hr
  replace hrl := fhid hrl
  replace hget := fhid hget
  by_cases h48 : (bl s)[a]? = some 48
  · rw [decide_eq_true h48] at hst
    have hp := fhid (pJob_nought (hhd.trans h48))
    clear hhd h48
    go_enter Tryd.func30, Tryd.ntmps30
    go_wp2_with (first
      | (go_at_call 16; (with_reducible refine (hst _).mono ?_); rintro e w1 ⟨rfl, rfl⟩)
      | (go_at_call 18; (with_reducible refine (wrong_any s a _).mono ?_); rintro e w1 ⟨y, hy, rfl, b1⟩
         replace hy := fhid hy
         obtain ⟨c0, c1, f0, f1, hz⟩ := fault_facts b1))
    exact bodyPost_ret (v := .tuple #[.int .i64 0, .int .i64 0, .agg #[.int .i64 y, .int .i64 (a : Int)]]) (by simp [results, Tryd.results30, go_sem, c0, c1]) rfl
      (hbad _ (set2 (((Below.refl _ _).alloc (Nat.le_refl _) _).trans (b1.mono (by rw [World.size_alloc]; omega))) _ (Nat.le_refl _) _ _) hp.out _ hy.out rfl)
  · rw [decide_eq_false h48] at hst
    have h48' := fhid (show r.head? ≠ some 48 by rw [hhd]; exact h48)
    clear hhd h48
    go_enter Tryd.func30, Tryd.ntmps30
    go_wp2_with (go_at_call 16; (with_reducible refine (hst _).mono ?_); rintro e w1 ⟨rfl, rfl⟩)
    go_loop [7, 8] (fun n i => ∃ j : Nat, j ≤ 6 ∧ j ≤ r.length ∧ i = .int .i64 ((a : Int) + (j : Int)) ∧ AllTo r j ∧ n = .int .i64 ((dval (r.take j) : Nat) : Int)) (fun _ i => s.size - (intOf i).toNat)
    case atStart => exact ⟨0, Nat.zero_le _, Nat.zero_le _, by simp, AllTo.zero r, rfl⟩
    case round =>
      obtain ⟨j, hj6, hjl, rfl, hall, rfl⟩ := hrel
      replace hall := fhid hall
      have hn := dval_take_le hall.out hjl hj6
      have hj0 : (0 : Int) ≤ j := by omega
      have hji : (j : Int) ≤ 6 := by omega
      have hsub : (a : Int) + j - a = j := by omega
      by_cases hlt : a + j < s.size
      · have hjr : j < r.length := by rw [hrl.out]; omega
        have hg := hget.out j hlt hjr
        have hd := isDigit_any s[a + j]
        have hix : ∀ (h : ((a : Int) + j).toNat < s.size), s[((a : Int) + j).toNat] = s[a + j] := fun h => by congr 1
        have htn : ((a : Int) + j).toNat = a + j := by omega
        have i1 : (a : Int) + j < s.size := by omega
        have i0 : (0 : Int) ≤ (a : Int) + j := by omega
        by_cases hdg : isDig s[a + j] = true
        · have hrange := (isDig_iff _).1 hdg
          rw [hdg] at hd
          have hall' := fhid (hall.out.succ hjr (by rw [hg]; exact hdg))
          by_cases h6 : j = 6
          · subst h6
            have hp := fhid (pJob_many hall'.out (by omega))
            clear hrange
            go_wp2_with (first
              | (go_at_call 38; (with_reducible refine (hd _).mono ?_); rintro e w1 ⟨rfl, rfl⟩)
              | (go_at_call 18; (with_reducible refine (wrong_any s _ _).mono ?_); rintro e w1 ⟨y, hy, rfl, b1⟩
                 replace hy := fhid hy
                 obtain ⟨c0, c1, f0, f1, hz⟩ := fault_facts b1))
            exact bodyPost_ret (v := .tuple #[.int .i64 0, .int .i64 0, .agg #[.int .i64 y, .int .i64 ((a : Int) + 6)]]) (by simp [results, Tryd.results30, go_sem, c0, c1]) rfl
              (hbad _ (set2 (((Below.refl _ _).alloc (Nat.le_refl _) _).trans (b1.mono (by rw [World.size_alloc]; omega))) _ (Nat.le_refl _) _ _) hp.out _ hy.out rfl)
          · have e6 : ((j : Int) == 6) = false := by simp; omega
            have e7 : ¬ (j : Int) = 6 := by omega
            have hds := fhid (show ((dval (r.take (j + 1)) : Nat) : Int) = 10 * ((dval (r.take j) : Nat) : Int) + ((s[a + j].toNat : Int) - 48) by
              rw [dval_take_succ r j hjr, hg]; unfold dv; omega)
            generalize dval (r.take j) = d at *
            obtain ⟨h3, h4⟩ := hrange
            have i3 : (48 : Int) ≤ s[a + j].toNat := by omega
            have i4 : (s[a + j].toNat : Int) ≤ 57 := by omega
            have i5 : (d : Int) ≤ 1000000 := by omega
            have i6 : (0 : Int) ≤ d := by omega
            clear hg
            go_wp2_with (first
              | (go_at_call 38; (with_reducible refine (hd _).mono ?_); rintro e w1 ⟨rfl, rfl⟩))
            go_round
            case rel => exact ⟨j + 1, by omega, by omega, by rw [show (a : Int) + j + 1 = (a : Int) + ((j + 1 : Nat) : Int) by omega], hall'.out, by rw [hds.out]⟩
            case measure => simp [intOf]; omega
        · have hdf : isDig s[a + j] = false := by simpa using hdg
          rw [hdf] at hd
          have hst : ∀ h : j < r.length, isDig r[j] = false := fun h => by rw [hg]; exact hdf
          by_cases h0 : j = 0
          · subst h0
            have hp := fhid (pJob_none hst)
            have hd0 := hd
            rw [show s[a + 0] = s[a] from rfl] at hd0
            have i2 : (a : Int) < s.size := by omega
            clear hd
            go_wp2_with (first
              | (go_at_call 38; (with_reducible refine (hd0 _).mono ?_); rintro e w1 ⟨rfl, rfl⟩)
              | (go_at_call 18; (with_reducible refine (wrong_any s _ _).mono ?_); rintro e w1 ⟨y, hy, rfl, b1⟩
                 replace hy := fhid hy
                 obtain ⟨c0, c1, f0, f1, hz⟩ := fault_facts b1))
            exact bodyPost_ret (v := .tuple #[.int .i64 0, .int .i64 0, .agg #[.int .i64 y, .int .i64 (a : Int)]]) (by simp [results, Tryd.results30, go_sem, c0, c1]) rfl
              (hbad _ (set2 (((Below.refl _ _).alloc (Nat.le_refl _) _).trans (b1.mono (by rw [World.size_alloc]; omega))) _ (Nat.le_refl _) _ _) hp.out _ hy.out rfl)
          · have hp := fhid (pJob_some h48'.out hall.out hjl (by omega) hj6 hst)
            have e6 : ((a : Int) + j == a) = false := by simp; omega
            have e7 : ¬ (a : Int) + j = a := by omega
            go_wp2_with (first
              | (go_at_call 38; (with_reducible refine (hd _).mono ?_); rintro e w1 ⟨rfl, rfl⟩))
            exact bodyPost_ret (v := .tuple #[.int .i64 (dval (r.take j) : Nat), .int .i64 ((a : Int) + j), .agg #[.int .i64 0, .int .i64 0]]) (by simp [results, Tryd.results30, go_sem]) rfl
              (hgood _ ((Below.refl _ _).alloc (Nat.le_refl _) _) _ _ hp.out _ (by omega) (by omega) rfl)
      · have hjl2 : j = r.length := by rw [hrl.out] at *; omega
        have hjs : a + j ≤ s.size := by have := hrl.out; omega
        have i1 : ¬ (a : Int) + j < s.size := by omega
        have hst : ∀ h : j < r.length, isDig r[j] = false := fun h => absurd h (by omega)
        clear hjl2
        by_cases h0 : j = 0
        · subst h0
          have hp := fhid (pJob_none hst)
          go_wp2_with (first
            | (go_at_call 18; (with_reducible refine (wrong_any s _ _).mono ?_); rintro e w1 ⟨y, hy, rfl, b1⟩
               replace hy := fhid hy
               obtain ⟨c0, c1, f0, f1, hz⟩ := fault_facts b1))
          exact bodyPost_ret (v := .tuple #[.int .i64 0, .int .i64 0, .agg #[.int .i64 y, .int .i64 (a : Int)]]) (by simp [results, Tryd.results30, go_sem, c0, c1]) rfl
            (hbad _ (set2 (((Below.refl _ _).alloc (Nat.le_refl _) _).trans (b1.mono (by rw [World.size_alloc]; omega))) _ (Nat.le_refl _) _ _) hp.out _ hy.out rfl)
        · have hp := fhid (pJob_some h48'.out hall.out hjl (by omega) hj6 hst)
          have e6 : ((a : Int) + j == a) = false := by simp; omega
          have e7 : ¬ (a : Int) + j = a := by omega
          go_wp2
          exact bodyPost_ret (v := .tuple #[.int .i64 (dval (r.take j) : Nat), .int .i64 ((a : Int) + j), .agg #[.int .i64 0, .int .i64 0]]) (by simp [results, Tryd.results30, go_sem]) rfl
            (hgood _ ((Below.refl _ _).alloc (Nat.le_refl _) _) _ _ hp.out _ (by omega) hjs rfl)
end Go.Proofs.YtpelmclgkkhjeaaDoor
