/-
  A part of a list's text, read.
-/
import Derived.Test.YtkmknogejhhajabDoorHRanges
namespace Go.Proofs.YtkmknogejhhajabDoor
open Go.RowKit

theorem block_set {w : World} {b : Nat} {cs : Array Value} {t : TypeId} (i : Nat) (u : Value) (h : w.heap[b]? = some (.cells cs t (0, 0))) : (w.setCell ⟨b, i, none⟩ u).heap[b]? = some (.cells (cs.setIfInBounds i u) t (0, 0)) := by
  have hlt := lt_of_block h
  have h' : w.heap[b] = .cells cs t (0, 0) := by simpa [Array.getElem?_eq_getElem hlt] using h
  show (w.heap.modify b _)[b]? = _
  rw [Array.getElem?_eq_getElem (by simpa using hlt), Array.getElem_modify_self, h']
  rfl
theorem block_other {w : World} {b c : Nat} {o : Option Obj} (i : Nat) (u : Value) (h : w.heap[b]? = o) (hne : b ≠ c) : (w.setCell ⟨c, i, none⟩ u).heap[b]? = o := (Below.heap_setCell _ _ _ _ hne).trans h
/-- A part's block, and a fault's. -/
def PB (w : World) (b : Nat) (p : ByteArray) (v : Value) (c : Int) : Prop := w.heap[b]? = some (.cells #[.string p, v, .int .i64 c] 51 (0, 0))
def FB (w : World) (b : Nat) (e f : Int) : Prop := w.heap[b]? = some (.cells #[.int .i64 e, .int .i64 f] 40 (0, 0))
theorem PB.facts {w : World} {b : Nat} {p : ByteArray} {v : Value} {c : Int} (h : PB w b p v c) : w.cell? ⟨b, 0, none⟩ = some (.string p) ∧ w.cell? ⟨b, 1, none⟩ = some v ∧ w.cell? ⟨b, 2, none⟩ = some (.int .i64 c) ∧ w.frozen? ⟨b, 0, none⟩ = false ∧ w.frozen? ⟨b, 1, none⟩ = false ∧ w.frozen? ⟨b, 2, none⟩ = false ∧ b < w.heap.size := by
  unfold PB at h
  exact ⟨by simp [World.cell?, h], by simp [World.cell?, h], by simp [World.cell?, h], by simp [World.frozen?, h], by simp [World.frozen?, h], by simp [World.frozen?, h], lt_of_block h⟩
theorem FB.facts {w : World} {b : Nat} {e f : Int} (h : FB w b e f) : w.cell? ⟨b, 0, none⟩ = some (.int .i64 e) ∧ w.cell? ⟨b, 1, none⟩ = some (.int .i64 f) ∧ w.frozen? ⟨b, 0, none⟩ = false ∧ w.frozen? ⟨b, 1, none⟩ = false ∧ b < w.heap.size := by
  unfold FB at h
  exact ⟨by simp [World.cell?, h], by simp [World.cell?, h], by simp [World.frozen?, h], by simp [World.frozen?, h], lt_of_block h⟩
theorem PB.below {w w' : World} {B b : Nat} {p : ByteArray} {v : Value} {c : Int} (h : PB w b p v c) (hb : Below B w w') (hB : b < B) : PB w' b p v c := (hb.block b hB).trans h
theorem FB.below {w w' : World} {B b : Nat} {e f : Int} (h : FB w b e f) (hb : Below B w w') (hB : b < B) : FB w' b e f := (hb.block b hB).trans h
theorem new_at (w : World) (o : Obj) (b : Nat) (hb : b = w.heap.size) : (w.alloc o).heap[b]? = some o := by subst hb; exact heap_alloc_new w o
theorem old_at (w : World) (o : Obj) (b : Nat) {x : Option Obj} (h : w.heap[b]? = x) (hb : b < w.heap.size) : (w.alloc o).heap[b]? = x := (Below.heap_alloc _ _ _ hb).trans h
/-- What a call that reads a part hands back. -/
def PartPost (w : World) (a : Nat) (R : Res (List UInt8 × List (Nat × Nat × Nat))) (e : Ending) (w' : World) : Prop := Below w.heap.size w w' ∧ match R with
  | .bad er k => e = .returned (.tuple #[.agg #[.string ⟨#[]⟩, .slice none 0 0, .int .i64 0], .int .i64 0, .agg #[.int .i64 er, .int .i64 ((a : Int) + (k : Int))]])
  | .ok x k => ∃ v kept, e = .returned (.tuple #[.agg #[.string (str x.1), v, .int .i64 (partCount x.2 : Nat)], .int .i64 ((a : Int) + (k : Int)), .agg #[.int .i64 0, .int .i64 0]]) ∧ OwnR w' w.heap.size v kept ∧ (partCount x.2 ≤ 256 → kept = x.2)
theorem start_facts (w : World) : PB ((w.alloc (.cells #[.string ⟨#[]⟩, .slice none 0 0, .int .i64 0] 51)).alloc (.cells #[.int .i64 0, .int .i64 0] 40)) w.heap.size ⟨#[]⟩ (.slice none 0 0) 0 ∧ FB ((w.alloc (.cells #[.string ⟨#[]⟩, .slice none 0 0, .int .i64 0] 51)).alloc (.cells #[.int .i64 0, .int .i64 0] 40)) (w.heap.size + 1) 0 0 :=
  ⟨old_at _ _ _ (heap_alloc_new w _) (by simp), new_at _ _ _ (by simp)⟩
set_option maxRecDepth 100000 in
set_option maxHeartbeats 2000000 in
theorem part_noneA (s : ByteArray) (a : Nat) (w : World) (_hs : s.size ≤ 1099511627776) (ha : a ≤ s.size) (h0 : a = s.size) :
    Calls Tryd.prog 27 #[.string s, .int .i64 a] w (PartPost w a (.bad (wrg ((bl s).drop a)) 0)) := by
  have hw := fun W => wrong_any s a a W rfl ha
  obtain ⟨p0, p1⟩ := start_facts w
  have i1 : ¬ (a : Int) < s.size := by omega
  clear h0
  go_enter Tryd.func27, Tryd.ntmps27
  go_wp2
  go_loop [7] (fun e => e = .int .i64 (a : Int)) (fun i => s.size - (intOf i).toNat)
  case atStart => rfl
  case round =>
    subst hrel
    go_wp2_with (first
      | (go_at_call 45; (with_reducible refine (hw _).mono ?_); rintro e w2 ⟨rfl, b1⟩
         obtain ⟨c0, c1, c2, f0, f1, f2, z0⟩ := (p0.below b1 (by simp; omega)).facts
         obtain ⟨c3, c4, f3, f4, z1⟩ := (p1.below b1 (by simp)).facts))
    have hbx : Below w.heap.size w w2 := (((Below.refl _ _).alloc (Nat.le_refl _) _).alloc (by simp) _).trans (b1.mono (by simp; omega))
    have zb := hbx.size
    refine bodyPost_ret (v := .tuple #[.agg #[.string ⟨#[]⟩, .slice none 0 0, .int .i64 0], .int .i64 0, .agg #[.int .i64 (wrg ((bl s).drop a)), .int .i64 (a : Int)]]) (by simp [results, Tryd.results27, go_sem, c0, c1, c2, c3, c4]) rfl ⟨?_, by simp⟩
    repeat' (first | (with_reducible exact hbx) | (with_reducible apply Below.drew) | (with_reducible apply Below.setCell) | (with_reducible apply Below.alloc))
    all_goals (first | omega | (simp; done) | (simp; omega))
set_option maxRecDepth 100000 in
set_option maxHeartbeats 2000000 in
theorem part_noneB (s : ByteArray) (a : Nat) (w : World) (_hs : s.size ≤ 1099511627776) (ha : a ≤ s.size) (h0 : a < s.size) (hb : isBare (s[a]'h0) = false) :
    Calls Tryd.prog 27 #[.string s, .int .i64 a] w (PartPost w a (.bad (wrg ((bl s).drop a)) 0)) := by
  have hw := fun W => wrong_any s a a W rfl ha
  obtain ⟨p0, p1⟩ := start_facts w
  have i1 : (a : Int) < s.size := by omega
  have i2 : (0 : Int) ≤ a := by omega
  have hd := isPrefix_any s[a]
  rw [hb] at hd
  go_enter Tryd.func27, Tryd.ntmps27
  go_wp2
  go_loop [7] (fun e => e = .int .i64 (a : Int)) (fun i => s.size - (intOf i).toNat)
  case atStart => rfl
  case round =>
    subst hrel
    go_wp2_with (first
      | (go_at_call 44; (with_reducible refine (hd _).mono ?_); rintro e w1 ⟨rfl, rfl⟩)
      | (go_at_call 45; (with_reducible refine (hw _).mono ?_); rintro e w2 ⟨rfl, b1⟩
         obtain ⟨c0, c1, c2, f0, f1, f2, z0⟩ := (p0.below b1 (by simp; omega)).facts
         obtain ⟨c3, c4, f3, f4, z1⟩ := (p1.below b1 (by simp)).facts))
    have hbx : Below w.heap.size w w2 := (((Below.refl _ _).alloc (Nat.le_refl _) _).alloc (by simp) _).trans (b1.mono (by simp; omega))
    have zb := hbx.size
    refine bodyPost_ret (v := .tuple #[.agg #[.string ⟨#[]⟩, .slice none 0 0, .int .i64 0], .int .i64 0, .agg #[.int .i64 (wrg ((bl s).drop a)), .int .i64 (a : Int)]]) (by simp [results, Tryd.results27, go_sem, c0, c1, c2, c3, c4]) rfl ⟨?_, by simp⟩
    repeat' (first | (with_reducible exact hbx) | (with_reducible apply Below.drew) | (with_reducible apply Below.setCell) | (with_reducible apply Below.alloc))
    all_goals (first | omega | (simp; done) | (simp; omega))
set_option maxRecDepth 100000 in
set_option maxHeartbeats 2000000 in
theorem part_endA (s : ByteArray) (a : Nat) (w : World) (hs : s.size ≤ 1099511627776) (m : Nat) (hm : a + m ≤ s.size) (hm1 : 1 ≤ m) (hall : ∀ i (h : a + i < s.size), i < m → isBare (s[a + i]'h) = true) (hend : a + m = s.size) (hst : ¬ (bl s)[a + m]? = some 91) :
    Calls Tryd.prog 27 #[.string s, .int .i64 a] w (PartPost w a (.ok (((bl s).drop a).take m, []) m)) := by
  have st := fun W => stands_any s (a + m) ((a : Int) + m) 91 91 W (by omega) rfl
  rw [decide_eq_false hst] at st
  clear hst
  have i3 : (0 : Int) ≤ a := by omega
  have i4 : (a : Int) ≤ 1099511627776 := by omega
  have i5 : (s.size : Int) ≤ 1099511627776 := by omega
  have i6 : (0 : Int) ≤ m := by omega
  have i7 : (m : Int) ≤ 1099511627776 := by omega
  have hms : (a : Int) + m ≤ s.size := by omega
  have hmn : a + m ≤ s.size := hm
  replace hm := fhid hm
  replace hall := fhid hall
  obtain ⟨p0, p1⟩ := start_facts w
  replace p0 := fhid p0
  replace p1 := fhid p1
  go_enter Tryd.func27, Tryd.ntmps27
  go_wp2
  go_loop [7] (fun e => ∃ j : Nat, j ≤ m ∧ e = .int .i64 ((a : Int) + (j : Int))) (fun i => s.size - (intOf i).toNat)
  case atStart => exact ⟨0, Nat.zero_le _, by simp⟩
  case round =>
    obtain ⟨j, hj, rfl⟩ := hrel
    have htn : ((a : Int) + j).toNat = a + j := by omega
    have hj0 : (0 : Int) ≤ j := by omega
    have hjm : (j : Int) ≤ m := by omega
    by_cases hlt : j < m
    · have hjs : a + j < s.size := by omega
      have hd := isPrefix_any s[a + j]
      rw [hall.out j hjs hlt] at hd
      have i1 : (a : Int) + j < s.size := by omega
      have i0 : (0 : Int) ≤ (a : Int) + j := by omega
      go_wp2_with (go_at_call 44; (with_reducible refine (hd _).mono ?_); rintro e w1 ⟨rfl, rfl⟩)
      go_round
      case rel => exact ⟨j + 1, by omega, by rw [show (a : Int) + j + 1 = (a : Int) + ((j + 1 : Nat) : Int) by omega]⟩
      case measure => simp [intOf]; omega
    · obtain rfl : j = m := by omega
      have i0 : (0 : Int) ≤ (a : Int) + j := by omega
      have e5 : ((a : Int) + j == a) = false := by simp; omega
      have e6 : ¬ (a : Int) + j = a := by omega
      have hle : (a : Int) ≤ (a : Int) + j := by omega
      have i1 : ¬ (a : Int) + j < s.size := by omega
      clear hend
      go_wp2_with (first
        | (go_at_call 46; (with_reducible refine (st _).mono ?_); rintro e w1 ⟨rfl, rfl⟩))
      have hbx : Below w.heap.size w w := Below.refl _ _
      obtain ⟨c0, c1, c2, f0, f1, f2, z0⟩ := p0.out.facts
      obtain ⟨c3, c4, f3, f4, z1⟩ := p1.out.facts
      refine bodyPost_ret (v := .tuple #[.agg #[.string (s.extract a (a + j)), .slice none 0 0, .int .i64 1], .int .i64 ((a : Int) + j), .agg #[.int .i64 0, .int .i64 0]]) (by simp [results, Tryd.results27, go_sem]) rfl ⟨?_, ?_⟩
      · repeat' (first | (with_reducible exact hbx) | (with_reducible apply Below.drew) | (with_reducible apply Below.setCell) | (with_reducible apply Below.alloc))
        all_goals (first | omega | (simp; done) | (simp; omega))
      · refine ⟨.slice none 0 0, [], ?_, OwnR.nil _ _, fun _ => rfl⟩
        rw [ext_str, show a + j - a = j by omega]
        rfl
set_option maxRecDepth 100000 in
set_option maxHeartbeats 2000000 in
theorem part_endB (s : ByteArray) (a : Nat) (w : World) (hs : s.size ≤ 1099511627776) (m : Nat) (hm : a + m ≤ s.size) (hm1 : 1 ≤ m) (hall : ∀ i (h : a + i < s.size), i < m → isBare (s[a + i]'h) = true) (hend : a + m < s.size) (hb : isBare (s[a + m]'hend) = false) (h44 : (s[a + m]'hend) = 44) (hst : ¬ (bl s)[a + m]? = some 91) :
    Calls Tryd.prog 27 #[.string s, .int .i64 a] w (PartPost w a (.ok (((bl s).drop a).take m, []) m)) := by
  have st := fun W => stands_any s (a + m) ((a : Int) + m) 91 91 W (by omega) rfl
  rw [decide_eq_false hst] at st
  have h44i : (((s[a + m]'hend).toNat : Int) == 44) = true := by rw [h44]; rfl
  have h44j : (((s[a + m]'hend).toNat : Int) != 44) = false := by rw [h44]; rfl
  clear h44
  clear hst
  have i3 : (0 : Int) ≤ a := by omega
  have i4 : (a : Int) ≤ 1099511627776 := by omega
  have i5 : (s.size : Int) ≤ 1099511627776 := by omega
  have i6 : (0 : Int) ≤ m := by omega
  have i7 : (m : Int) ≤ 1099511627776 := by omega
  have hms : (a : Int) + m ≤ s.size := by omega
  have hmn : a + m ≤ s.size := hm
  replace hm := fhid hm
  replace hall := fhid hall
  obtain ⟨p0, p1⟩ := start_facts w
  replace p0 := fhid p0
  replace p1 := fhid p1
  go_enter Tryd.func27, Tryd.ntmps27
  go_wp2
  go_loop [7] (fun e => ∃ j : Nat, j ≤ m ∧ e = .int .i64 ((a : Int) + (j : Int))) (fun i => s.size - (intOf i).toNat)
  case atStart => exact ⟨0, Nat.zero_le _, by simp⟩
  case round =>
    obtain ⟨j, hj, rfl⟩ := hrel
    have htn : ((a : Int) + j).toNat = a + j := by omega
    have hj0 : (0 : Int) ≤ j := by omega
    have hjm : (j : Int) ≤ m := by omega
    by_cases hlt : j < m
    · have hjs : a + j < s.size := by omega
      have hd := isPrefix_any s[a + j]
      rw [hall.out j hjs hlt] at hd
      have i1 : (a : Int) + j < s.size := by omega
      have i0 : (0 : Int) ≤ (a : Int) + j := by omega
      go_wp2_with (go_at_call 44; (with_reducible refine (hd _).mono ?_); rintro e w1 ⟨rfl, rfl⟩)
      go_round
      case rel => exact ⟨j + 1, by omega, by rw [show (a : Int) + j + 1 = (a : Int) + ((j + 1 : Nat) : Int) by omega]⟩
      case measure => simp [intOf]; omega
    · obtain rfl : j = m := by omega
      have i0 : (0 : Int) ≤ (a : Int) + j := by omega
      have e5 : ((a : Int) + j == a) = false := by simp; omega
      have e6 : ¬ (a : Int) + j = a := by omega
      have hle : (a : Int) ≤ (a : Int) + j := by omega
      have hjs : a + j < s.size := hend
      have hd := isPrefix_any s[a + j]
      rw [hb] at hd
      have i1 : (a : Int) + j < s.size := by omega
      go_wp2_with (first
        | (go_at_call 44; (with_reducible refine (hd _).mono ?_); rintro e w1 ⟨rfl, rfl⟩)
        | (go_at_call 46; (with_reducible refine (st _).mono ?_); rintro e w1 ⟨rfl, rfl⟩))
      have hbx : Below w.heap.size w w := Below.refl _ _
      obtain ⟨c0, c1, c2, f0, f1, f2, z0⟩ := p0.out.facts
      obtain ⟨c3, c4, f3, f4, z1⟩ := p1.out.facts
      refine bodyPost_ret (v := .tuple #[.agg #[.string (s.extract a (a + j)), .slice none 0 0, .int .i64 1], .int .i64 ((a : Int) + j), .agg #[.int .i64 0, .int .i64 0]]) (by simp [results, Tryd.results27, go_sem]) rfl ⟨?_, ?_⟩
      · repeat' (first | (with_reducible exact hbx) | (with_reducible apply Below.drew) | (with_reducible apply Below.setCell) | (with_reducible apply Below.alloc))
        all_goals (first | omega | (simp; done) | (simp; omega))
      · refine ⟨.slice none 0 0, [], ?_, OwnR.nil _ _, fun _ => rfl⟩
        rw [ext_str, show a + j - a = j by omega]
        rfl
set_option maxRecDepth 100000 in
set_option maxHeartbeats 2000000 in
theorem part_bad (s : ByteArray) (a : Nat) (w : World) (hs : s.size ≤ 1099511627776) (m : Nat) (hm : a + m ≤ s.size) (hm1 : 1 ≤ m) (hall : ∀ i (h : a + i < s.size), i < m → isBare (s[a + i]'h) = true) (hend : a + m < s.size) (hb : isBare (s[a + m]'hend) = false) (h44 : ¬ (s[a + m]'hend) = 44) (hst : ¬ (bl s)[a + m]? = some 91) :
    Calls Tryd.prog 27 #[.string s, .int .i64 a] w (PartPost w a (.bad 3 m)) := by
  have st := fun W => stands_any s (a + m) ((a : Int) + m) 91 91 W (by omega) rfl
  rw [decide_eq_false hst] at st
  have h44i : (((s[a + m]'hend).toNat : Int) == 44) = false := by
    rw [Bool.eq_false_iff]
    intro h
    exact h44 (UInt8.toNat_inj.1 (by simp at h; exact_mod_cast h))
  have h44j : ¬ ((s[a + m]'hend).toNat : Int) = 44 := by
    intro h
    exact h44 (UInt8.toNat_inj.1 (by exact_mod_cast h))
  clear h44
  clear hst
  have i3 : (0 : Int) ≤ a := by omega
  have i4 : (a : Int) ≤ 1099511627776 := by omega
  have i5 : (s.size : Int) ≤ 1099511627776 := by omega
  have i6 : (0 : Int) ≤ m := by omega
  have i7 : (m : Int) ≤ 1099511627776 := by omega
  have hms : (a : Int) + m ≤ s.size := by omega
  have hmn : a + m ≤ s.size := hm
  replace hm := fhid hm
  replace hall := fhid hall
  obtain ⟨p0, p1⟩ := start_facts w
  replace p0 := fhid p0
  replace p1 := fhid p1
  go_enter Tryd.func27, Tryd.ntmps27
  go_wp2
  go_loop [7] (fun e => ∃ j : Nat, j ≤ m ∧ e = .int .i64 ((a : Int) + (j : Int))) (fun i => s.size - (intOf i).toNat)
  case atStart => exact ⟨0, Nat.zero_le _, by simp⟩
  case round =>
    obtain ⟨j, hj, rfl⟩ := hrel
    have htn : ((a : Int) + j).toNat = a + j := by omega
    have hj0 : (0 : Int) ≤ j := by omega
    have hjm : (j : Int) ≤ m := by omega
    by_cases hlt : j < m
    · have hjs : a + j < s.size := by omega
      have hd := isPrefix_any s[a + j]
      rw [hall.out j hjs hlt] at hd
      have i1 : (a : Int) + j < s.size := by omega
      have i0 : (0 : Int) ≤ (a : Int) + j := by omega
      go_wp2_with (go_at_call 44; (with_reducible refine (hd _).mono ?_); rintro e w1 ⟨rfl, rfl⟩)
      go_round
      case rel => exact ⟨j + 1, by omega, by rw [show (a : Int) + j + 1 = (a : Int) + ((j + 1 : Nat) : Int) by omega]⟩
      case measure => simp [intOf]; omega
    · obtain rfl : j = m := by omega
      have i0 : (0 : Int) ≤ (a : Int) + j := by omega
      have e5 : ((a : Int) + j == a) = false := by simp; omega
      have e6 : ¬ (a : Int) + j = a := by omega
      have hle : (a : Int) ≤ (a : Int) + j := by omega
      have hjs : a + j < s.size := hend
      have hd := isPrefix_any s[a + j]
      rw [hb] at hd
      have i1 : (a : Int) + j < s.size := by omega
      go_wp2_with (first
        | (go_at_call 44; (with_reducible refine (hd _).mono ?_); rintro e w1 ⟨rfl, rfl⟩)
        | (go_at_call 46; (with_reducible refine (st _).mono ?_); rintro e w1 ⟨rfl, rfl⟩)
        | (go_at_call 45; (with_reducible refine (wrong_in s (a + j) _ _ (by omega) (by omega)).mono ?_); rintro e w2 ⟨rfl, b1⟩
           have q0 := old_at _ (.cells #[.string (s.extract a (a + j)), .slice none 0 0, .int .i64 1] 51) _ p0.out (lt_of_block p0.out)
           have q1 := old_at _ (.cells #[.string (s.extract a (a + j)), .slice none 0 0, .int .i64 1] 51) _ p1.out (lt_of_block p1.out)
           obtain ⟨c0, c1, c2, f0, f1, f2, z0⟩ := (PB.below q0 b1 (lt_of_block q0)).facts
           obtain ⟨c3, c4, f3, f4, z1⟩ := (FB.below q1 b1 (lt_of_block q1)).facts
           clear q0 q1))
      have hbx : Below w.heap.size w w2 := ((((Below.refl _ _).alloc (Nat.le_refl _) _).alloc (by simp) _).alloc (by simp; omega) _).trans (b1.mono (by simp; omega))
      have zb := hbx.size
      refine bodyPost_ret (v := .tuple #[.agg #[.string ⟨#[]⟩, .slice none 0 0, .int .i64 0], .int .i64 0, .agg #[.int .i64 3, .int .i64 ((a : Int) + j)]]) (by simp [results, Tryd.results27, go_sem, c0, c1, c2, c3, c4]) rfl ⟨?_, rfl⟩
      repeat' (first | (with_reducible exact hbx) | (with_reducible apply Below.drew) | (with_reducible apply Below.setCell) | (with_reducible apply Below.alloc))
      all_goals (first | omega | (simp; done) | (simp; omega))
/-- The blocks, behind the ranges' reading. -/
theorem sets_facts {w1 : World} {b : Nat} {p : ByteArray} {v : Value} {c e f : Int} (h0 : PB w1 b ⟨#[]⟩ (.slice none 0 0) 0) (h1 : FB w1 (b + 1) 0 0) (h2 : PB w1 (b + 1 + 1) p (.slice none 0 0) 1) (h3 : FB w1 (b + 1 + 1 + 1) 0 0) {W : World}
    (hW : (((w1.setCell ⟨b + 1 + 1, 1, none⟩ v).setCell ⟨b + 1 + 1, 2, none⟩ (.int .i64 c)).setCell ⟨b + 1 + 1 + 1, 0, none⟩ (.int .i64 e)).setCell ⟨b + 1 + 1 + 1, 1, none⟩ (.int .i64 f) = W) :
    PB W b ⟨#[]⟩ (.slice none 0 0) 0 ∧ FB W (b + 1) 0 0 ∧ PB W (b + 1 + 1) p v c ∧ FB W (b + 1 + 1 + 1) e f ∧ Below b w1 W := by
  subst hW
  refine ⟨?_, ?_, ?_, ?_, ?_⟩
  · exact block_other _ _ (block_other _ _ (block_other _ _ (block_other _ _ h0 (by omega)) (by omega)) (by omega)) (by omega)
  · exact block_other _ _ (block_other _ _ (block_other _ _ (block_other _ _ h1 (by omega)) (by omega)) (by omega)) (by omega)
  · exact block_other _ _ (block_other _ _ (block_set 2 _ (block_set 1 _ h2)) (by omega)) (by omega)
  · exact block_set 1 _ (block_set 0 _ (block_other _ _ (block_other _ _ h3 (by omega)) (by omega)))
  · refine Below.setCell (Below.setCell (Below.setCell (Below.setCell (Below.refl _ _) ?_ _) ?_ _) ?_ _) ?_ _
    all_goals (dsimp only; omega)
theorem own_sets4 {w : World} {b base : Nat} {v : Value} {rs : List (Nat × Nat × Nat)} {u0 u1 u2 u3 : Value} (h : OwnR w base v rs) (hb : b + 1 + 1 + 1 < base) : OwnR ((((w.setCell ⟨b + 1 + 1, 1, none⟩ u0).setCell ⟨b + 1 + 1, 2, none⟩ u1).setCell ⟨b + 1 + 1 + 1, 0, none⟩ u2).setCell ⟨b + 1 + 1 + 1, 1, none⟩ u3) base v rs := by
  refine ⟨h.1, ?_⟩
  rcases h.2 with ⟨rfl, hn⟩ | ⟨g, cap, cur, rfl, hg, hh, rest⟩
  · exact .inl ⟨rfl, hn⟩
  · exact .inr ⟨g, cap, cur, rfl, hg, block_other _ _ (block_other _ _ (block_other _ _ (block_other _ _ hh (by omega)) (by omega)) (by omega)) (by omega), rest⟩
theorem own_sets5 {w : World} {b base : Nat} {v : Value} {rs : List (Nat × Nat × Nat)} {u0 u1 u2 u3 u4 : Value} (h : OwnR w base v rs) (hb : b + 1 < base) : OwnR (((((w.setCell ⟨b, 0, none⟩ u0).setCell ⟨b, 1, none⟩ u1).setCell ⟨b, 2, none⟩ u2).setCell ⟨b + 1, 0, none⟩ u3).setCell ⟨b + 1, 1, none⟩ u4) base v rs := by
  refine ⟨h.1, ?_⟩
  rcases h.2 with ⟨rfl, hn⟩ | ⟨g, cap, cur, rfl, hg, hh, rest⟩
  · exact .inl ⟨rfl, hn⟩
  · exact .inr ⟨g, cap, cur, rfl, hg, block_other _ _ (block_other _ _ (block_other _ _ (block_other _ _ (block_other _ _ hh (by omega)) (by omega)) (by omega)) (by omega)) (by omega), rest⟩
set_option maxRecDepth 100000 in
set_option maxHeartbeats 2000000 in
theorem part_ranges_bad (s : ByteArray) (a : Nat) (w : World) (hs : s.size ≤ 1099511627776) (m : Nat) (hm : a + m ≤ s.size) (hm1 : 1 ≤ m) (hall : ∀ i (h : a + i < s.size), i < m → isBare (s[a + i]'h) = true) (hend : a + m < s.size) (hb : isBare (s[a + m]'hend) = false) (hst : (bl s)[a + m]? = some 91) (F : Nat) (hF : s.size - (a + m + 1) < F) (e k : Nat) (he : e ≠ 0) (hq : pRanges F ((bl s).drop (a + m + 1)) = .bad e k) :
    Calls Tryd.prog 27 #[.string s, .int .i64 a] w (PartPost w a (.bad e (m + 1 + k))) := by
  have st := fun W => stands_any s (a + m) ((a : Int) + m) 91 91 W (by omega) rfl
  rw [decide_eq_true hst] at st
  have hr := fun W => readRanges_any s (a + m + 1) ((a : Int) + m + 1) F W (by omega) hs (by omega) hF
  rw [hq] at hr
  have e1 : ((e : Int) != 0) = true := by simpa using he
  have e2 : ¬ (e : Int) = 0 := by omega
  clear hq he
  clear hst
  have i3 : (0 : Int) ≤ a := by omega
  have i4 : (a : Int) ≤ 1099511627776 := by omega
  have i5 : (s.size : Int) ≤ 1099511627776 := by omega
  have i6 : (0 : Int) ≤ m := by omega
  have i7 : (m : Int) ≤ 1099511627776 := by omega
  have hms : (a : Int) + m ≤ s.size := by omega
  have hmn : a + m ≤ s.size := hm
  replace hm := fhid hm
  replace hall := fhid hall
  obtain ⟨p0, p1⟩ := start_facts w
  replace p0 := fhid p0
  replace p1 := fhid p1
  go_enter Tryd.func27, Tryd.ntmps27
  go_wp2
  go_loop [7] (fun e => ∃ j : Nat, j ≤ m ∧ e = .int .i64 ((a : Int) + (j : Int))) (fun i => s.size - (intOf i).toNat)
  case atStart => exact ⟨0, Nat.zero_le _, by simp⟩
  case round =>
    obtain ⟨j, hj, rfl⟩ := hrel
    have htn : ((a : Int) + j).toNat = a + j := by omega
    have hj0 : (0 : Int) ≤ j := by omega
    have hjm : (j : Int) ≤ m := by omega
    by_cases hlt : j < m
    · have hjs : a + j < s.size := by omega
      have hd := isPrefix_any s[a + j]
      rw [hall.out j hjs hlt] at hd
      have i1 : (a : Int) + j < s.size := by omega
      have i0 : (0 : Int) ≤ (a : Int) + j := by omega
      go_wp2_with (go_at_call 44; (with_reducible refine (hd _).mono ?_); rintro e w1 ⟨rfl, rfl⟩)
      go_round
      case rel => exact ⟨j + 1, by omega, by rw [show (a : Int) + j + 1 = (a : Int) + ((j + 1 : Nat) : Int) by omega]⟩
      case measure => simp [intOf]; omega
    · obtain rfl : j = m := by omega
      have i0 : (0 : Int) ≤ (a : Int) + j := by omega
      have e5 : ((a : Int) + j == a) = false := by simp; omega
      have e6 : ¬ (a : Int) + j = a := by omega
      have hle : (a : Int) ≤ (a : Int) + j := by omega
      have hjs : a + j < s.size := hend
      have hd := isPrefix_any s[a + j]
      rw [hb] at hd
      have i1 : (a : Int) + j < s.size := by omega
      go_wp2_with (first
        | (go_at_call 44; (with_reducible refine (hd _).mono ?_); rintro e w1 ⟨rfl, rfl⟩)
        | (go_at_call 46; (with_reducible refine (st _).mono ?_); rintro e w1 ⟨rfl, rfl⟩))
      refine (hr _).mono ?_
      rintro e' w2 ⟨b1, rfl⟩
      have s0 : PB w2 w.heap.size ⟨#[]⟩ (.slice none 0 0) 0 := (b1.block _ (by simp; omega)).trans (old_at _ _ _ (old_at _ _ _ p0.out (by simp; omega)) (by simp; omega))
      have s1 : FB w2 (w.heap.size + 1) 0 0 := (b1.block _ (by simp)).trans (old_at _ _ _ (old_at _ _ _ p1.out (by simp)) (by simp))
      have s2 : PB w2 (w.heap.size + 1 + 1) (s.extract a (a + j)) (.slice none 0 0) 1 := (b1.block _ (by simp)).trans (old_at _ _ _ (new_at _ _ _ (by simp)) (by simp))
      have s3 : FB w2 (w.heap.size + 1 + 1 + 1) 0 0 := (b1.block _ (by simp)).trans (new_at _ _ _ (by simp))
      have b2 : Below w.heap.size w w2 := (((((Below.refl _ _).alloc (Nat.le_refl _) _).alloc (by simp) _).alloc (by simp; omega) _).alloc (by simp; omega) _).trans (b1.mono (by simp; omega))
      obtain ⟨e0, e1', e2', g0, g1, g2, y2⟩ := s2.facts
      obtain ⟨e3, e4, g3, g4, y3⟩ := s3.facts
      replace s0 := fhid s0
      replace s1 := fhid s1
      replace s2 := fhid s2
      replace s3 := fhid s3
      go_upto_region 10 with fail
      generalize hW : (((w2.setCell ⟨w.heap.size + 1 + 1, 1, none⟩ (.slice none 0 0)).setCell ⟨w.heap.size + 1 + 1, 2, none⟩ (.int .i64 0)).setCell ⟨w.heap.size + 1 + 1 + 1, 0, none⟩ (.int .i64 e)).setCell ⟨w.heap.size + 1 + 1 + 1, 1, none⟩ (.int .i64 ((a : Int) + j + 1 + k)) = W
      obtain ⟨q0, q1, q2, q3, b3⟩ := sets_facts s0.out s1.out s2.out s3.out hW
      have hbx := b2.trans b3
      clear hW s0 s1 s2 s3 b1 b2 b3 p0 p1 e0 e1' e2' e3 e4 g0 g1 g2 g3 g4
      obtain ⟨c0, c1, c2, f0, f1, f2, z0⟩ := q0.facts
      obtain ⟨c3, c4, f3, f4, z1⟩ := q1.facts
      obtain ⟨c5, c6, c7, f5, f6, f7, z2⟩ := q2.facts
      obtain ⟨c8, c9, f8, f9, z3⟩ := q3.facts
      replace q0 := fhid q0
      replace q1 := fhid q1
      replace q2 := fhid q2
      replace q3 := fhid q3
      go_wp2_with fail
      go_region
      go_wp2_with fail
      have zb := hbx.size
      refine bodyPost_ret (v := .tuple #[.agg #[.string ⟨#[]⟩, .slice none 0 0, .int .i64 0], .int .i64 0, .agg #[.int .i64 e, .int .i64 ((a : Int) + j + 1 + k)]]) (by simp [results, Tryd.results27, go_sem, c0, c1, c2, c3, c4]) rfl ⟨?_, by show _ = _; rw [show (a : Int) + j + 1 + k = (a : Int) + ((j + 1 + k : Nat) : Int) by omega]⟩
      repeat' (first | (with_reducible exact hbx) | (with_reducible apply Below.drew) | (with_reducible apply Below.setCell) | (with_reducible apply Below.alloc))
      all_goals (first | omega | (simp; done) | (simp; omega))
set_option maxRecDepth 100000 in
set_option maxHeartbeats 2000000 in
theorem part_ranges_A (s : ByteArray) (a : Nat) (w : World) (hs : s.size ≤ 1099511627776) (m : Nat) (hm : a + m ≤ s.size) (hm1 : 1 ≤ m) (hall : ∀ i (h : a + i < s.size), i < m → isBare (s[a + i]'h) = true) (hend : a + m < s.size) (hb : isBare (s[a + m]'hend) = false) (hst : (bl s)[a + m]? = some 91) (F : Nat) (hF : s.size - (a + m + 1) < F) (xs : List (Nat × Nat × Nat)) (k : Nat) (hq : pRanges F ((bl s).drop (a + m + 1)) = .ok xs k) (hend2 : a + m + 1 + k = s.size) :
    Calls Tryd.prog 27 #[.string s, .int .i64 a] w (PartPost w a (.ok (((bl s).drop a).take m, xs) (m + 1 + k))) := by
  have st := fun W => stands_any s (a + m) ((a : Int) + m) 91 91 W (by omega) rfl
  rw [decide_eq_true hst] at st
  have hr := fun W => readRanges_any s (a + m + 1) ((a : Int) + m + 1) F W (by omega) hs (by omega) hF
  rw [hq] at hr
  obtain ⟨k1, k2, k3, _⟩ := pRanges_ok _ _ _ _ hq
  rw [List.length_drop, bl_len] at k2
  have hkb : (a : Int) + m + 1 + k ≤ s.size := by omega
  have hk0 : (0 : Int) ≤ k := by omega
  have hpc : partCount xs = cntOf xs := by unfold partCount; rw [if_neg k3]; rfl
  have htn2 : ((a : Int) + m + 1 + k).toNat = a + m + 1 + k := by omega
  have i02 : (0 : Int) ≤ (a : Int) + m + 1 + k := by omega
  replace hpc := fhid hpc
  clear hq k1 k2 k3
  have i12 : ¬ (a : Int) + m + 1 + k < s.size := by omega
  clear hend2
  clear hst
  have i3 : (0 : Int) ≤ a := by omega
  have i4 : (a : Int) ≤ 1099511627776 := by omega
  have i5 : (s.size : Int) ≤ 1099511627776 := by omega
  have i6 : (0 : Int) ≤ m := by omega
  have i7 : (m : Int) ≤ 1099511627776 := by omega
  have hms : (a : Int) + m ≤ s.size := by omega
  have hmn : a + m ≤ s.size := hm
  replace hm := fhid hm
  replace hall := fhid hall
  obtain ⟨p0, p1⟩ := start_facts w
  replace p0 := fhid p0
  replace p1 := fhid p1
  go_enter Tryd.func27, Tryd.ntmps27
  go_wp2
  go_loop [7] (fun e => ∃ j : Nat, j ≤ m ∧ e = .int .i64 ((a : Int) + (j : Int))) (fun i => s.size - (intOf i).toNat)
  case atStart => exact ⟨0, Nat.zero_le _, by simp⟩
  case round =>
    obtain ⟨j, hj, rfl⟩ := hrel
    have htn : ((a : Int) + j).toNat = a + j := by omega
    have hj0 : (0 : Int) ≤ j := by omega
    have hjm : (j : Int) ≤ m := by omega
    by_cases hlt : j < m
    · have hjs : a + j < s.size := by omega
      have hd := isPrefix_any s[a + j]
      rw [hall.out j hjs hlt] at hd
      have i1 : (a : Int) + j < s.size := by omega
      have i0 : (0 : Int) ≤ (a : Int) + j := by omega
      go_wp2_with (go_at_call 44; (with_reducible refine (hd _).mono ?_); rintro e w1 ⟨rfl, rfl⟩)
      go_round
      case rel => exact ⟨j + 1, by omega, by rw [show (a : Int) + j + 1 = (a : Int) + ((j + 1 : Nat) : Int) by omega]⟩
      case measure => simp [intOf]; omega
    · obtain rfl : j = m := by omega
      have i0 : (0 : Int) ≤ (a : Int) + j := by omega
      have e5 : ((a : Int) + j == a) = false := by simp; omega
      have e6 : ¬ (a : Int) + j = a := by omega
      have hle : (a : Int) ≤ (a : Int) + j := by omega
      have hjs : a + j < s.size := hend
      have hd := isPrefix_any s[a + j]
      rw [hb] at hd
      have i1 : (a : Int) + j < s.size := by omega
      go_wp2_with (first
        | (go_at_call 44; (with_reducible refine (hd _).mono ?_); rintro e w1 ⟨rfl, rfl⟩)
        | (go_at_call 46; (with_reducible refine (st _).mono ?_); rintro e w1 ⟨rfl, rfl⟩))
      refine (hr _).mono ?_
      rintro e' w2 ⟨b1, v, kept, rfl, own, hkx⟩
      obtain ⟨Av, cv, rfl, _, _, _⟩ := own.shape
      replace own := fhid own
      replace hkx := fhid hkx
      have s0 : PB w2 w.heap.size ⟨#[]⟩ (.slice none 0 0) 0 := (b1.block _ (by simp; omega)).trans (old_at _ _ _ (old_at _ _ _ p0.out (by simp; omega)) (by simp; omega))
      have s1 : FB w2 (w.heap.size + 1) 0 0 := (b1.block _ (by simp)).trans (old_at _ _ _ (old_at _ _ _ p1.out (by simp)) (by simp))
      have s2 : PB w2 (w.heap.size + 1 + 1) (s.extract a (a + j)) (.slice none 0 0) 1 := (b1.block _ (by simp)).trans (old_at _ _ _ (new_at _ _ _ (by simp)) (by simp))
      have s3 : FB w2 (w.heap.size + 1 + 1 + 1) 0 0 := (b1.block _ (by simp)).trans (new_at _ _ _ (by simp))
      have b2 : Below w.heap.size w w2 := (((((Below.refl _ _).alloc (Nat.le_refl _) _).alloc (by simp) _).alloc (by simp; omega) _).alloc (by simp; omega) _).trans (b1.mono (by simp; omega))
      obtain ⟨e0, e1', e2', g0, g1, g2, y2⟩ := s2.facts
      obtain ⟨e3, e4, g3, g4, y3⟩ := s3.facts
      replace s0 := fhid s0
      replace s1 := fhid s1
      replace s2 := fhid s2
      replace s3 := fhid s3
      go_upto_region 10 with fail
      generalize hW : (((w2.setCell ⟨w.heap.size + 1 + 1, 1, none⟩ (.slice Av kept.length cv)).setCell ⟨w.heap.size + 1 + 1, 2, none⟩ (.int .i64 (cntOf xs : Nat))).setCell ⟨w.heap.size + 1 + 1 + 1, 0, none⟩ (.int .i64 0)).setCell ⟨w.heap.size + 1 + 1 + 1, 1, none⟩ (.int .i64 0) = W
      obtain ⟨q0, q1, q2, q3, b3⟩ := sets_facts s0.out s1.out s2.out s3.out hW
      have hbx := b2.trans b3
      have own2 : OwnR W (w.heap.size + 1 + 1 + 1 + 1) (.slice Av kept.length cv) kept := by
        rw [← hW]
        exact own_sets4 (ownsRow_base own.out (by simp)) (by omega)
      replace own2 := fhid own2
      clear own
      clear hW s0 s1 s2 s3 b1 b2 b3 p0 p1 e0 e1' e2' e3 e4 g0 g1 g2 g3 g4
      obtain ⟨c0, c1, c2, f0, f1, f2, z0⟩ := q0.facts
      obtain ⟨c3, c4, f3, f4, z1⟩ := q1.facts
      obtain ⟨c5, c6, c7, f5, f6, f7, z2⟩ := q2.facts
      obtain ⟨c8, c9, f8, f9, z3⟩ := q3.facts
      replace q0 := fhid q0
      replace q1 := fhid q1
      replace q2 := fhid q2
      replace q3 := fhid q3
      go_wp2_with fail
      have zb := hbx.size
      refine bodyPost_ret (v := .tuple #[.agg #[.string (s.extract a (a + j)), .slice Av kept.length cv, .int .i64 (cntOf xs : Nat)], .int .i64 ((a : Int) + j + 1 + k), .agg #[.int .i64 0, .int .i64 0]]) (by simp [results, Tryd.results27, go_sem, c0, c1, c2, c3, c4]) rfl ⟨?_, ?_⟩
      · repeat' (first | (with_reducible exact hbx) | (with_reducible apply Below.drew) | (with_reducible apply Below.setCell) | (with_reducible apply Below.alloc))
        all_goals (first | omega | (simp; done) | (simp; omega))
      · refine ⟨.slice Av kept.length cv, kept, ?_, ownsRow_base (own_sets5 own2.out (by omega)) (by omega), ?_⟩
        · rw [ext_str, show a + j - a = j by omega, hpc.out, show (a : Int) + j + 1 + k = (a : Int) + ((j + 1 + k : Nat) : Int) by omega]
        · rw [hpc.out]; exact hkx.out
set_option maxRecDepth 100000 in
set_option maxHeartbeats 2000000 in
theorem part_ranges_B (s : ByteArray) (a : Nat) (w : World) (hs : s.size ≤ 1099511627776) (m : Nat) (hm : a + m ≤ s.size) (hm1 : 1 ≤ m) (hall : ∀ i (h : a + i < s.size), i < m → isBare (s[a + i]'h) = true) (hend : a + m < s.size) (hb : isBare (s[a + m]'hend) = false) (hst : (bl s)[a + m]? = some 91) (F : Nat) (hF : s.size - (a + m + 1) < F) (xs : List (Nat × Nat × Nat)) (k : Nat) (hq : pRanges F ((bl s).drop (a + m + 1)) = .ok xs k) (hend2 : a + m + 1 + k < s.size) (h44 : (s[a + m + 1 + k]'hend2) = 44) :
    Calls Tryd.prog 27 #[.string s, .int .i64 a] w (PartPost w a (.ok (((bl s).drop a).take m, xs) (m + 1 + k))) := by
  have st := fun W => stands_any s (a + m) ((a : Int) + m) 91 91 W (by omega) rfl
  rw [decide_eq_true hst] at st
  have hr := fun W => readRanges_any s (a + m + 1) ((a : Int) + m + 1) F W (by omega) hs (by omega) hF
  rw [hq] at hr
  obtain ⟨k1, k2, k3, _⟩ := pRanges_ok _ _ _ _ hq
  rw [List.length_drop, bl_len] at k2
  have hkb : (a : Int) + m + 1 + k ≤ s.size := by omega
  have hk0 : (0 : Int) ≤ k := by omega
  have hpc : partCount xs = cntOf xs := by unfold partCount; rw [if_neg k3]; rfl
  have htn2 : ((a : Int) + m + 1 + k).toNat = a + m + 1 + k := by omega
  have i02 : (0 : Int) ≤ (a : Int) + m + 1 + k := by omega
  replace hpc := fhid hpc
  clear hq k1 k2 k3
  have i12 : (a : Int) + m + 1 + k < s.size := by omega
  have h44i : (((s[a + m + 1 + k]'hend2).toNat : Int) == 44) = true := by rw [h44]; rfl
  have h44j : (((s[a + m + 1 + k]'hend2).toNat : Int) != 44) = false := by rw [h44]; rfl
  clear h44
  clear hst
  have i3 : (0 : Int) ≤ a := by omega
  have i4 : (a : Int) ≤ 1099511627776 := by omega
  have i5 : (s.size : Int) ≤ 1099511627776 := by omega
  have i6 : (0 : Int) ≤ m := by omega
  have i7 : (m : Int) ≤ 1099511627776 := by omega
  have hms : (a : Int) + m ≤ s.size := by omega
  have hmn : a + m ≤ s.size := hm
  replace hm := fhid hm
  replace hall := fhid hall
  obtain ⟨p0, p1⟩ := start_facts w
  replace p0 := fhid p0
  replace p1 := fhid p1
  go_enter Tryd.func27, Tryd.ntmps27
  go_wp2
  go_loop [7] (fun e => ∃ j : Nat, j ≤ m ∧ e = .int .i64 ((a : Int) + (j : Int))) (fun i => s.size - (intOf i).toNat)
  case atStart => exact ⟨0, Nat.zero_le _, by simp⟩
  case round =>
    obtain ⟨j, hj, rfl⟩ := hrel
    have htn : ((a : Int) + j).toNat = a + j := by omega
    have hj0 : (0 : Int) ≤ j := by omega
    have hjm : (j : Int) ≤ m := by omega
    by_cases hlt : j < m
    · have hjs : a + j < s.size := by omega
      have hd := isPrefix_any s[a + j]
      rw [hall.out j hjs hlt] at hd
      have i1 : (a : Int) + j < s.size := by omega
      have i0 : (0 : Int) ≤ (a : Int) + j := by omega
      go_wp2_with (go_at_call 44; (with_reducible refine (hd _).mono ?_); rintro e w1 ⟨rfl, rfl⟩)
      go_round
      case rel => exact ⟨j + 1, by omega, by rw [show (a : Int) + j + 1 = (a : Int) + ((j + 1 : Nat) : Int) by omega]⟩
      case measure => simp [intOf]; omega
    · obtain rfl : j = m := by omega
      have i0 : (0 : Int) ≤ (a : Int) + j := by omega
      have e5 : ((a : Int) + j == a) = false := by simp; omega
      have e6 : ¬ (a : Int) + j = a := by omega
      have hle : (a : Int) ≤ (a : Int) + j := by omega
      have hjs : a + j < s.size := hend
      have hd := isPrefix_any s[a + j]
      rw [hb] at hd
      have i1 : (a : Int) + j < s.size := by omega
      go_wp2_with (first
        | (go_at_call 44; (with_reducible refine (hd _).mono ?_); rintro e w1 ⟨rfl, rfl⟩)
        | (go_at_call 46; (with_reducible refine (st _).mono ?_); rintro e w1 ⟨rfl, rfl⟩))
      refine (hr _).mono ?_
      rintro e' w2 ⟨b1, v, kept, rfl, own, hkx⟩
      obtain ⟨Av, cv, rfl, _, _, _⟩ := own.shape
      replace own := fhid own
      replace hkx := fhid hkx
      have s0 : PB w2 w.heap.size ⟨#[]⟩ (.slice none 0 0) 0 := (b1.block _ (by simp; omega)).trans (old_at _ _ _ (old_at _ _ _ p0.out (by simp; omega)) (by simp; omega))
      have s1 : FB w2 (w.heap.size + 1) 0 0 := (b1.block _ (by simp)).trans (old_at _ _ _ (old_at _ _ _ p1.out (by simp)) (by simp))
      have s2 : PB w2 (w.heap.size + 1 + 1) (s.extract a (a + j)) (.slice none 0 0) 1 := (b1.block _ (by simp)).trans (old_at _ _ _ (new_at _ _ _ (by simp)) (by simp))
      have s3 : FB w2 (w.heap.size + 1 + 1 + 1) 0 0 := (b1.block _ (by simp)).trans (new_at _ _ _ (by simp))
      have b2 : Below w.heap.size w w2 := (((((Below.refl _ _).alloc (Nat.le_refl _) _).alloc (by simp) _).alloc (by simp; omega) _).alloc (by simp; omega) _).trans (b1.mono (by simp; omega))
      obtain ⟨e0, e1', e2', g0, g1, g2, y2⟩ := s2.facts
      obtain ⟨e3, e4, g3, g4, y3⟩ := s3.facts
      replace s0 := fhid s0
      replace s1 := fhid s1
      replace s2 := fhid s2
      replace s3 := fhid s3
      go_upto_region 10 with fail
      generalize hW : (((w2.setCell ⟨w.heap.size + 1 + 1, 1, none⟩ (.slice Av kept.length cv)).setCell ⟨w.heap.size + 1 + 1, 2, none⟩ (.int .i64 (cntOf xs : Nat))).setCell ⟨w.heap.size + 1 + 1 + 1, 0, none⟩ (.int .i64 0)).setCell ⟨w.heap.size + 1 + 1 + 1, 1, none⟩ (.int .i64 0) = W
      obtain ⟨q0, q1, q2, q3, b3⟩ := sets_facts s0.out s1.out s2.out s3.out hW
      have hbx := b2.trans b3
      have own2 : OwnR W (w.heap.size + 1 + 1 + 1 + 1) (.slice Av kept.length cv) kept := by
        rw [← hW]
        exact own_sets4 (ownsRow_base own.out (by simp)) (by omega)
      replace own2 := fhid own2
      clear own
      clear hW s0 s1 s2 s3 b1 b2 b3 p0 p1 e0 e1' e2' e3 e4 g0 g1 g2 g3 g4
      obtain ⟨c0, c1, c2, f0, f1, f2, z0⟩ := q0.facts
      obtain ⟨c3, c4, f3, f4, z1⟩ := q1.facts
      obtain ⟨c5, c6, c7, f5, f6, f7, z2⟩ := q2.facts
      obtain ⟨c8, c9, f8, f9, z3⟩ := q3.facts
      replace q0 := fhid q0
      replace q1 := fhid q1
      replace q2 := fhid q2
      replace q3 := fhid q3
      go_wp2_with fail
      have zb := hbx.size
      refine bodyPost_ret (v := .tuple #[.agg #[.string (s.extract a (a + j)), .slice Av kept.length cv, .int .i64 (cntOf xs : Nat)], .int .i64 ((a : Int) + j + 1 + k), .agg #[.int .i64 0, .int .i64 0]]) (by simp [results, Tryd.results27, go_sem, c0, c1, c2, c3, c4]) rfl ⟨?_, ?_⟩
      · repeat' (first | (with_reducible exact hbx) | (with_reducible apply Below.drew) | (with_reducible apply Below.setCell) | (with_reducible apply Below.alloc))
        all_goals (first | omega | (simp; done) | (simp; omega))
      · refine ⟨.slice Av kept.length cv, kept, ?_, ownsRow_base (own_sets5 own2.out (by omega)) (by omega), ?_⟩
        · rw [ext_str, show a + j - a = j by omega, hpc.out, show (a : Int) + j + 1 + k = (a : Int) + ((j + 1 + k : Nat) : Int) by omega]
        · rw [hpc.out]; exact hkx.out
set_option maxRecDepth 100000 in
set_option maxHeartbeats 2000000 in
theorem part_ranges_C (s : ByteArray) (a : Nat) (w : World) (hs : s.size ≤ 1099511627776) (m : Nat) (hm : a + m ≤ s.size) (hm1 : 1 ≤ m) (hall : ∀ i (h : a + i < s.size), i < m → isBare (s[a + i]'h) = true) (hend : a + m < s.size) (hb : isBare (s[a + m]'hend) = false) (hst : (bl s)[a + m]? = some 91) (F : Nat) (hF : s.size - (a + m + 1) < F) (xs : List (Nat × Nat × Nat)) (k : Nat) (hq : pRanges F ((bl s).drop (a + m + 1)) = .ok xs k) (hend2 : a + m + 1 + k < s.size) (h44 : ¬ (s[a + m + 1 + k]'hend2) = 44) :
    Calls Tryd.prog 27 #[.string s, .int .i64 a] w (PartPost w a (.bad 3 (m + 1 + k))) := by
  have st := fun W => stands_any s (a + m) ((a : Int) + m) 91 91 W (by omega) rfl
  rw [decide_eq_true hst] at st
  have hr := fun W => readRanges_any s (a + m + 1) ((a : Int) + m + 1) F W (by omega) hs (by omega) hF
  rw [hq] at hr
  obtain ⟨k1, k2, k3, _⟩ := pRanges_ok _ _ _ _ hq
  rw [List.length_drop, bl_len] at k2
  have hkb : (a : Int) + m + 1 + k ≤ s.size := by omega
  have hk0 : (0 : Int) ≤ k := by omega
  have hpc : partCount xs = cntOf xs := by unfold partCount; rw [if_neg k3]; rfl
  have htn2 : ((a : Int) + m + 1 + k).toNat = a + m + 1 + k := by omega
  have i02 : (0 : Int) ≤ (a : Int) + m + 1 + k := by omega
  replace hpc := fhid hpc
  clear hq k1 k2 k3
  have i12 : (a : Int) + m + 1 + k < s.size := by omega
  have h44i : (((s[a + m + 1 + k]'hend2).toNat : Int) == 44) = false := by
    rw [Bool.eq_false_iff]
    intro h
    exact h44 (UInt8.toNat_inj.1 (by simp at h; exact_mod_cast h))
  have h44j : ¬ ((s[a + m + 1 + k]'hend2).toNat : Int) = 44 := by
    intro h
    exact h44 (UInt8.toNat_inj.1 (by exact_mod_cast h))
  clear h44
  clear hst
  have i3 : (0 : Int) ≤ a := by omega
  have i4 : (a : Int) ≤ 1099511627776 := by omega
  have i5 : (s.size : Int) ≤ 1099511627776 := by omega
  have i6 : (0 : Int) ≤ m := by omega
  have i7 : (m : Int) ≤ 1099511627776 := by omega
  have hms : (a : Int) + m ≤ s.size := by omega
  have hmn : a + m ≤ s.size := hm
  replace hm := fhid hm
  replace hall := fhid hall
  obtain ⟨p0, p1⟩ := start_facts w
  replace p0 := fhid p0
  replace p1 := fhid p1
  go_enter Tryd.func27, Tryd.ntmps27
  go_wp2
  go_loop [7] (fun e => ∃ j : Nat, j ≤ m ∧ e = .int .i64 ((a : Int) + (j : Int))) (fun i => s.size - (intOf i).toNat)
  case atStart => exact ⟨0, Nat.zero_le _, by simp⟩
  case round =>
    obtain ⟨j, hj, rfl⟩ := hrel
    have htn : ((a : Int) + j).toNat = a + j := by omega
    have hj0 : (0 : Int) ≤ j := by omega
    have hjm : (j : Int) ≤ m := by omega
    by_cases hlt : j < m
    · have hjs : a + j < s.size := by omega
      have hd := isPrefix_any s[a + j]
      rw [hall.out j hjs hlt] at hd
      have i1 : (a : Int) + j < s.size := by omega
      have i0 : (0 : Int) ≤ (a : Int) + j := by omega
      go_wp2_with (go_at_call 44; (with_reducible refine (hd _).mono ?_); rintro e w1 ⟨rfl, rfl⟩)
      go_round
      case rel => exact ⟨j + 1, by omega, by rw [show (a : Int) + j + 1 = (a : Int) + ((j + 1 : Nat) : Int) by omega]⟩
      case measure => simp [intOf]; omega
    · obtain rfl : j = m := by omega
      have i0 : (0 : Int) ≤ (a : Int) + j := by omega
      have e5 : ((a : Int) + j == a) = false := by simp; omega
      have e6 : ¬ (a : Int) + j = a := by omega
      have hle : (a : Int) ≤ (a : Int) + j := by omega
      have hjs : a + j < s.size := hend
      have hd := isPrefix_any s[a + j]
      rw [hb] at hd
      have i1 : (a : Int) + j < s.size := by omega
      go_wp2_with (first
        | (go_at_call 44; (with_reducible refine (hd _).mono ?_); rintro e w1 ⟨rfl, rfl⟩)
        | (go_at_call 46; (with_reducible refine (st _).mono ?_); rintro e w1 ⟨rfl, rfl⟩))
      refine (hr _).mono ?_
      rintro e' w2 ⟨b1, v, kept, rfl, own, hkx⟩
      obtain ⟨Av, cv, rfl, _, _, _⟩ := own.shape
      replace own := fhid own
      replace hkx := fhid hkx
      have s0 : PB w2 w.heap.size ⟨#[]⟩ (.slice none 0 0) 0 := (b1.block _ (by simp; omega)).trans (old_at _ _ _ (old_at _ _ _ p0.out (by simp; omega)) (by simp; omega))
      have s1 : FB w2 (w.heap.size + 1) 0 0 := (b1.block _ (by simp)).trans (old_at _ _ _ (old_at _ _ _ p1.out (by simp)) (by simp))
      have s2 : PB w2 (w.heap.size + 1 + 1) (s.extract a (a + j)) (.slice none 0 0) 1 := (b1.block _ (by simp)).trans (old_at _ _ _ (new_at _ _ _ (by simp)) (by simp))
      have s3 : FB w2 (w.heap.size + 1 + 1 + 1) 0 0 := (b1.block _ (by simp)).trans (new_at _ _ _ (by simp))
      have b2 : Below w.heap.size w w2 := (((((Below.refl _ _).alloc (Nat.le_refl _) _).alloc (by simp) _).alloc (by simp; omega) _).alloc (by simp; omega) _).trans (b1.mono (by simp; omega))
      obtain ⟨e0, e1', e2', g0, g1, g2, y2⟩ := s2.facts
      obtain ⟨e3, e4, g3, g4, y3⟩ := s3.facts
      replace s0 := fhid s0
      replace s1 := fhid s1
      replace s2 := fhid s2
      replace s3 := fhid s3
      go_upto_region 10 with fail
      generalize hW : (((w2.setCell ⟨w.heap.size + 1 + 1, 1, none⟩ (.slice Av kept.length cv)).setCell ⟨w.heap.size + 1 + 1, 2, none⟩ (.int .i64 (cntOf xs : Nat))).setCell ⟨w.heap.size + 1 + 1 + 1, 0, none⟩ (.int .i64 0)).setCell ⟨w.heap.size + 1 + 1 + 1, 1, none⟩ (.int .i64 0) = W
      obtain ⟨q0, q1, q2, q3, b3⟩ := sets_facts s0.out s1.out s2.out s3.out hW
      have hbx := b2.trans b3
      have own2 : OwnR W (w.heap.size + 1 + 1 + 1 + 1) (.slice Av kept.length cv) kept := by
        rw [← hW]
        exact own_sets4 (ownsRow_base own.out (by simp)) (by omega)
      replace own2 := fhid own2
      clear own
      clear hW s0 s1 s2 s3 b1 b2 b3 p0 p1 e0 e1' e2' e3 e4 g0 g1 g2 g3 g4
      obtain ⟨c0, c1, c2, f0, f1, f2, z0⟩ := q0.facts
      obtain ⟨c3, c4, f3, f4, z1⟩ := q1.facts
      obtain ⟨c5, c6, c7, f5, f6, f7, z2⟩ := q2.facts
      obtain ⟨c8, c9, f8, f9, z3⟩ := q3.facts
      replace q0 := fhid q0
      replace q1 := fhid q1
      replace q2 := fhid q2
      replace q3 := fhid q3
      go_wp2_with (go_at_call 45; (with_reducible refine (wrong_in s (a + j + 1 + k) _ _ (by omega) hend2).mono ?_); rintro e w3 ⟨rfl, b4⟩
                   obtain ⟨d0, d1, d2, g0, g1, g2, y0⟩ := (q0.out.below b4 z0).facts
                   obtain ⟨d3, d4, g3, g4, y1⟩ := (q1.out.below b4 z1).facts)
      have hby := hbx.trans (b4.mono hbx.size)
      clear hbx
      have hbx := hby
      have zb := hbx.size
      refine bodyPost_ret (v := .tuple #[.agg #[.string ⟨#[]⟩, .slice none 0 0, .int .i64 0], .int .i64 0, .agg #[.int .i64 3, .int .i64 ((a : Int) + j + 1 + k)]]) (by simp [results, Tryd.results27, go_sem, d0, d1, d2, d3, d4]) rfl ⟨?_, by show _ = _; rw [show (a : Int) + j + 1 + k = (a : Int) + ((j + 1 + k : Nat) : Int) by omega]; rfl⟩
      repeat' (first | (with_reducible exact hbx) | (with_reducible apply Below.drew) | (with_reducible apply Below.setCell) | (with_reducible apply Below.alloc))
      all_goals (first | omega | (simp; done) | (simp; omega))
end Go.Proofs.YtkmknogejhhajabDoor
