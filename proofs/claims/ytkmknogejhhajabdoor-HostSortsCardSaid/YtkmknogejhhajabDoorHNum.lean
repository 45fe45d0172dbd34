/-
  A number, read.
-/
import Derived.Test.YtkmknogejhhajabDoorHLeaf
namespace Go.Proofs.YtkmknogejhhajabDoor
open Go.RowKit

theorem heap_alloc_new (w : World) (o : Obj) : (w.alloc o).heap[w.heap.size]? = some o := by
  show (w.heap.push o)[w.heap.size]? = _
  simp
theorem lt_of_block {w : World} {b : Nat} {o : Obj} (h : w.heap[b]? = some o) : b < w.heap.size := (Array.getElem?_eq_some_iff.1 h).1
theorem fault_facts {w w' : World} {a b : Int} (hb : Below (w.alloc (.cells #[.int .i64 a, .int .i64 b] 40)).heap.size (w.alloc (.cells #[.int .i64 a, .int .i64 b] 40)) w') :
    w'.cell? ⟨w.heap.size, 0, none⟩ = some (.int .i64 a) ∧ w'.cell? ⟨w.heap.size, 1, none⟩ = some (.int .i64 b) ∧ w'.frozen? ⟨w.heap.size, 0, none⟩ = false ∧ w'.frozen? ⟨w.heap.size, 1, none⟩ = false ∧ w.heap.size < w'.heap.size := by
  have h := (hb.block w.heap.size (by rw [World.size_alloc]; omega)).trans (heap_alloc_new w _)
  exact ⟨by simp [World.cell?, h], by simp [World.cell?, h], by simp [World.frozen?, h], by simp [World.frozen?, h], lt_of_block h⟩
/-- What a call that reads a number hands back. -/
def numV (a : Nat) : Res Nat → Value
  | .ok n k => .tuple #[.int .i64 n, .int .i64 ((a : Int) + (k : Int)), .agg #[.int .i64 0, .int .i64 0]]
  | .bad e k => .tuple #[.int .i64 0, .int .i64 0, .agg #[.int .i64 e, .int .i64 ((a : Int) + (k : Int))]]
def AllTo (r : List UInt8) (j : Nat) : Prop := ∀ i (h : i < r.length), i < j → isDig r[i] = true
theorem AllTo.zero (r : List UInt8) : AllTo r 0 := fun _ _ h => absurd h (Nat.not_lt_zero _)
theorem AllTo.succ {r : List UInt8} {j : Nat} (h : AllTo r j) (hj : j < r.length) (hd : isDig r[j] = true) : AllTo r (j + 1) := fun i hi hlt => by
  by_cases he : i = j
  · subst he; exact hd
  · exact h i hi (by omega)
theorem dval_take_succ (r : List UInt8) (j : Nat) (hj : j < r.length) : dval (r.take (j + 1)) = 10 * dval (r.take j) + dv r[j] := by
  rw [List.take_succ_eq_append_getElem hj, dval_snoc]
theorem dval_take_le {r : List UInt8} {j : Nat} (h : AllTo r j) (hj : j ≤ r.length) (h6 : j ≤ 6) : dval (r.take j) < 1000000 := by
  have hl : (r.take j).length = j := by rw [List.length_take]; omega
  have := dval_lt j (r.take j) hl (by
    rw [List.all_eq_true]
    intro x hx
    obtain ⟨i, hi, rfl⟩ := List.getElem_of_mem hx
    rw [List.getElem_take]
    exact h i (by omega) (by omega))
  have : (10 : Nat) ^ j ≤ 10 ^ 6 := Nat.pow_le_pow_right (by decide) h6
  omega
theorem tw_stop {r : List UInt8} {j : Nat} (h : AllTo r j) (hj : j ≤ r.length) (hs : ∀ h : j < r.length, isDig r[j] = false) : (r.takeWhile isDig).length = j ∧ r.takeWhile isDig = r.take j := by
  have hl := takeWhile_len (p := isDig) r j hj h hs
  refine ⟨hl, ?_⟩
  have := List.prefix_iff_eq_take.1 (List.takeWhile_prefix isDig (l := r))
  rw [this, hl]
theorem tw_more {r : List UInt8} {j : Nat} (h : AllTo r (j + 1)) (hj : j < r.length) : j < (r.takeWhile isDig).length := by
  have : ∀ (r : List UInt8) (j : Nat), AllTo r (j + 1) → j < r.length → j < (r.takeWhile isDig).length := by
    intro r
    induction r with
    | nil => intro j _ h; exact absurd h (Nat.not_lt_zero _)
    | cons x r ih =>
      intro j h hj
      have h0 := h 0 (by simp) (by omega)
      rw [List.getElem_cons_zero] at h0
      rw [List.takeWhile_cons, if_pos h0, List.length_cons]
      cases j with
      | zero => omega
      | succ j =>
        have := ih j (fun i hi hlt => by have := h (i + 1) (by rw [List.length_cons]; omega) (by omega); rwa [List.getElem_cons_succ] at this) (by simpa using hj)
        omega
  exact this r j h hj
theorem pNum_many {r : List UInt8} (h : AllTo r 7) (hj : 6 < r.length) : pNum r = .bad 3 6 := by
  unfold pNum
  rw [if_pos (tw_more h hj)]
theorem pNum_none {r : List UInt8} (hs : ∀ h : 0 < r.length, isDig r[0] = false) : pNum r = .bad (wrg r) 0 := by
  have := tw_stop (AllTo.zero r) (Nat.zero_le _) hs
  unfold pNum
  rw [if_neg (by omega), if_pos (by omega)]
theorem pNum_some {r : List UInt8} {j : Nat} (h : AllTo r j) (hj : j ≤ r.length) (h1 : 1 ≤ j) (h6 : j ≤ 6) (hs : ∀ h : j < r.length, isDig r[j] = false) : pNum r = .ok (dval (r.take j)) j := by
  obtain ⟨a, b⟩ := tw_stop h hj hs
  unfold pNum
  rw [if_neg (by omega), if_neg (by omega), a, b]
theorem drop_get (s : ByteArray) (a j : Nat) (h : a + j < s.size) (h' : j < ((bl s).drop a).length) : ((bl s).drop a)[j] = s[a + j]'h := by
  rw [List.getElem_drop, bl_get]
def NumPost (w : World) (a : Nat) (x : Res Nat) (e : Ending) (w' : World) : Prop := e = .returned (numV a x) ∧ Below w.heap.size w w'
theorem wr_more (s : ByteArray) (k : Nat) (h : k < s.size) : wrg ((bl s).drop k) = 3 := by
  unfold wrg
  rw [if_neg]
  intro h0
  have := congrArg List.length h0
  rw [List.length_drop, bl_len] at this
  simp at this
  omega
theorem wrong_in (s : ByteArray) (k : Nat) (i : Int) (w : World) (hi : i = k) (h : k < s.size) : Calls Tryd.prog 45 #[.string s, .int .i64 i] w fun e w' => e = .returned (.agg #[.int .i64 3, .int .i64 i]) ∧ Below w.heap.size w w' := by
  have := wrong_any s k i w hi (by omega)
  rwa [wr_more s k h] at this
set_option maxRecDepth 100000 in
set_option maxHeartbeats 1000000 in
theorem readNumber_any (s : ByteArray) (a : Nat) (ai : Int) (w : World) (hai : ai = a) (hs : s.size ≤ 140737488355328) (ha : a ≤ s.size) :
    Calls Tryd.prog 64 #[.string s, .int .i64 ai] w (NumPost w a (pNum ((bl s).drop a))) := by
  subst hai
  obtain ⟨r, hr⟩ : ∃ r, (bl s).drop a = r := ⟨_, rfl⟩
  have hrl : r.length = s.size - a := by rw [← hr, List.length_drop, bl_len]
  have hget : ∀ j (h : a + j < s.size) (h' : j < r.length), r[j] = s[a + j] := fun j h h' => by subst hr; exact drop_get s a j h h'
  have hwa : wrg ((bl s).drop a) = wrg r := by rw [hr]
  rw [hr]
  replace hr := fhid hr
  replace hrl := fhid hrl
  replace hget := fhid hget
  replace hwa := fhid hwa
  go_enter Tryd.func64, Tryd.ntmps64
  go_wp2
  go_loop [7, 8] (fun n i => ∃ j : Nat, j ≤ 6 ∧ j ≤ r.length ∧ i = .int .i64 ((a : Int) + (j : Int)) ∧ AllTo r j ∧ n = .int .i64 ((dval (r.take j) : Nat) : Int)) (fun _ i => s.size - (intOf i).toNat)
  case atStart => exact ⟨0, Nat.zero_le _, Nat.zero_le _, by simp, AllTo.zero r, rfl⟩
  case round =>
    obtain ⟨j, hj6, hjl, rfl, hall, rfl⟩ := hrel
    replace hall := fhid hall
    have hn := dval_take_le hall.out hjl hj6
    have hj0 : (0 : Int) ≤ j := by omega
    have hji : (j : Int) ≤ 6 := by omega
    have hai0 : (0 : Int) ≤ a := by omega
    have hai1 : (a : Int) ≤ s.size := by omega
    have hsi : (s.size : Int) ≤ 140737488355328 := by omega
    have hsub : (a : Int) + j - a = j := by omega
    by_cases hlt : a + j < s.size
    · have hjr : j < r.length := by rw [hrl.out]; omega
      have hg := hget.out j hlt hjr
      have hd := isDigit_any s[a + j]
      have hix : ∀ (h : ((a : Int) + j).toNat < s.size), s[((a : Int) + j).toNat] = s[a + j] := fun h => by congr 1
      have htn : ((a : Int) + j).toNat = a + j := by omega
      have i1 : (a : Int) + j < s.size := by omega
      have i0 : (0 : Int) ≤ (a : Int) + j := by omega
      by_cases hdg : isDig s[a + j] = true
      · rw [hdg] at hd
        have hall' := fhid (hall.out.succ hjr (by rw [hg]; exact hdg))
        by_cases h6 : j = 6
        · subst h6
          have hp := fhid (show pNum r = .bad 3 6 from pNum_many hall'.out (by omega))
          go_wp2_with (first
            | (go_at_call 12; (with_reducible refine (hd _).mono ?_); rintro e w1 ⟨rfl, rfl⟩)
            | (go_at_call 45; (with_reducible refine (wrong_in s (a + 6) _ _ (by omega) (by omega)).mono ?_); rintro e w1 ⟨rfl, b1⟩
               obtain ⟨c0, c1, f0, f1, hz⟩ := fault_facts b1))
          exact bodyPost_ret (v := .tuple #[.int .i64 0, .int .i64 0, .agg #[.int .i64 3, .int .i64 ((a : Int) + 6)]]) (by simp [results, Tryd.results64, go_sem, c0, c1]) rfl ⟨by rw [hp.out]; rfl, ((((Below.refl _ _).alloc (Nat.le_refl _) _).trans (b1.mono (by rw [World.size_alloc]; omega))).setCell (p := ⟨w.heap.size, 0, none⟩) (Nat.le_refl _) _).setCell (p := ⟨w.heap.size, 1, none⟩) (Nat.le_refl _) _⟩
        · have e6 : ((j : Int) == 6) = false := by simp; omega
          have e7 : ¬ (j : Int) = 6 := by omega
          have hds := fhid (dval_take_succ r j hjr)
          have had := fun W => addDigit_any (dval (r.take j)) s[a + j] W hdg (by omega)
          go_wp2_with (first
            | (go_at_call 12; (with_reducible refine (hd _).mono ?_); rintro e w1 ⟨rfl, rfl⟩)
            | (go_at_call 13; (with_reducible refine (had _).mono ?_); rintro e w1 ⟨rfl, rfl⟩))
          go_round
          case rel => exact ⟨j + 1, by omega, by omega, by rw [show (a : Int) + j + 1 = (a : Int) + ((j + 1 : Nat) : Int) by omega], hall'.out, by rw [hds.out, hg]; simp⟩
          case measure => simp [intOf]; omega
      · have hdf : isDig s[a + j] = false := by simpa using hdg
        rw [hdf] at hd
        have hst : ∀ h : j < r.length, isDig r[j] = false := fun h => by rw [hg]; exact hdf
        by_cases h0 : j = 0
        · subst h0
          have hp := fhid (pNum_none hst)
          have hd0 := hd
          rw [show s[a + 0] = s[a] from rfl] at hd0
          have i2 : (a : Int) < s.size := by omega
          clear hd
          go_wp2_with (first
            | (go_at_call 12; (with_reducible refine (hd0 _).mono ?_); rintro e w1 ⟨rfl, rfl⟩)
            | (go_at_call 45; (with_reducible refine (wrong_any s a _ _ (by omega) (by omega)).mono ?_); rintro e w1 ⟨rfl, b1⟩
               obtain ⟨c0, c1, f0, f1, hz⟩ := fault_facts b1))
          exact bodyPost_ret (v := .tuple #[.int .i64 0, .int .i64 0, .agg #[.int .i64 (wrg ((bl s).drop a)), .int .i64 (a : Int)]]) (by simp [results, Tryd.results64, go_sem, c0, c1]) rfl ⟨by rw [hp.out, hwa.out]; simp [numV], ((((Below.refl _ _).alloc (Nat.le_refl _) _).trans (b1.mono (by rw [World.size_alloc]; omega))).setCell (p := ⟨w.heap.size, 0, none⟩) (Nat.le_refl _) _).setCell (p := ⟨w.heap.size, 1, none⟩) (Nat.le_refl _) _⟩
        · have hp := fhid (pNum_some hall.out hjl (by omega) hj6 hst)
          have e6 : ((a : Int) + j == a) = false := by simp; omega
          have e7 : ¬ (a : Int) + j = a := by omega
          go_wp2_with (first
            | (go_at_call 12; (with_reducible refine (hd _).mono ?_); rintro e w1 ⟨rfl, rfl⟩))
          exact bodyPost_ret (v := .tuple #[.int .i64 (dval (r.take j) : Nat), .int .i64 ((a : Int) + j), .agg #[.int .i64 0, .int .i64 0]]) (by simp [results, Tryd.results64, go_sem]) rfl ⟨by rw [hp.out]; rfl, (Below.refl _ _).alloc (Nat.le_refl _) _⟩
    · have hjl2 : j = r.length := by rw [hrl.out] at *; omega
      have i1 : ¬ (a : Int) + j < s.size := by omega
      have hst : ∀ h : j < r.length, isDig r[j] = false := fun h => absurd h (by omega)
      clear hjl2
      by_cases h0 : j = 0
      · subst h0
        have hp := fhid (pNum_none hst)
        go_wp2_with (first
          | (go_at_call 45; (with_reducible refine (wrong_any s a _ _ (by omega) (by omega)).mono ?_); rintro e w1 ⟨rfl, b1⟩
             obtain ⟨c0, c1, f0, f1, hz⟩ := fault_facts b1))
        exact bodyPost_ret (v := .tuple #[.int .i64 0, .int .i64 0, .agg #[.int .i64 (wrg ((bl s).drop a)), .int .i64 (a : Int)]]) (by simp [results, Tryd.results64, go_sem, c0, c1]) rfl ⟨by rw [hp.out, hwa.out]; simp [numV], ((((Below.refl _ _).alloc (Nat.le_refl _) _).trans (b1.mono (by rw [World.size_alloc]; omega))).setCell (p := ⟨w.heap.size, 0, none⟩) (Nat.le_refl _) _).setCell (p := ⟨w.heap.size, 1, none⟩) (Nat.le_refl _) _⟩
      · have hp := fhid (pNum_some hall.out hjl (by omega) hj6 hst)
        have e6 : ((a : Int) + j == a) = false := by simp; omega
        have e7 : ¬ (a : Int) + j = a := by omega
        go_wp2
        exact bodyPost_ret (v := .tuple #[.int .i64 (dval (r.take j) : Nat), .int .i64 ((a : Int) + j), .agg #[.int .i64 0, .int .i64 0]]) (by simp [results, Tryd.results64, go_sem]) rfl ⟨by rw [hp.out]; rfl, (Below.refl _ _).alloc (Nat.le_refl _) _⟩
end Go.Proofs.YtkmknogejhhajabDoor
