/-
  Parts: HPart HPartAll HDig HNames HExpand.
-/
import Derived.Test.YtjpihophigjbpaaGreatDoorH1
import Derived.Test.YtjpihophigjbpaaGreatDoorS0
import Derived.Lib.AppendIntMem
import Derived.Deep.RegionLaw
import Derived.BigRegion
set_option linter.unusedSimpArgs false
set_option linter.unusedVariables false
/-
  A part of a list's text, read.
-/
namespace Go.Proofs.YtjpihophigjbpaaGreatDoor.Hs
open Go.RowKit

theorem block_set {w : World} {b : Nat} {cs : Array Value} {t : TypeId} (i : Nat) (u : Value) (h : w.heap[b]? = some (.cells cs t (0, 0))) : (w.setCell ⟨b, i, none⟩ u).heap[b]? = some (.cells (cs.setIfInBounds i u) t (0, 0)) := by
  have hlt := lt_of_block h
  have h' : w.heap[b] = .cells cs t (0, 0) := by simpa [Array.getElem?_eq_getElem hlt] using h
  show (w.heap.modify b _)[b]? = _
  rw [Array.getElem?_eq_getElem (by simpa using hlt), Array.getElem_modify_self, h']
  rfl
theorem block_other {w : World} {b c : Nat} {o : Option Obj} (i : Nat) (u : Value) (h : w.heap[b]? = o) (hne : b ≠ c) : (w.setCell ⟨c, i, none⟩ u).heap[b]? = o := (Below.heap_setCell _ _ _ _ hne).trans h
/-- A part's block, and a fault's. -/
def PB (w : World) (b : Nat) (p : ByteArray) (v : Value) (c : Int) : Prop := w.heap[b]? = some (.cells #[.string p, v, .int .i64 c] 112 (0, 0))
def FB (w : World) (b : Nat) (e f : Int) : Prop := w.heap[b]? = some (.cells #[.int .i64 e, .int .i64 f] 88 (0, 0))
theorem PB.facts {w : World} {b : Nat} {p : ByteArray} {v : Value} {c : Int} (h : PB w b p v c) : w.cell? ⟨b, 0, none⟩ = some (.string p) ∧ w.cell? ⟨b, 1, none⟩ = some v ∧ w.cell? ⟨b, 2, none⟩ = some (.int .i64 c) ∧ w.frozen? ⟨b, 0, none⟩ = false ∧ w.frozen? ⟨b, 1, none⟩ = false ∧ w.frozen? ⟨b, 2, none⟩ = false ∧ b < w.heap.size := by
  unfold PB at h
  exact ⟨by simp [World.cell?, h], by simp [World.cell?, h], by simp [World.cell?, h], by simp [World.frozen?, h], by simp [World.frozen?, h], by simp [World.frozen?, h], lt_of_block h⟩
theorem FB.facts {w : World} {b : Nat} {e f : Int} (h : FB w b e f) : w.cell? ⟨b, 0, none⟩ = some (.int .i64 e) ∧ w.cell? ⟨b, 1, none⟩ = some (.int .i64 f) ∧ w.frozen? ⟨b, 0, none⟩ = false ∧ w.frozen? ⟨b, 1, none⟩ = false ∧ b < w.heap.size := by
  unfold FB at h
  exact ⟨by simp [World.cell?, h], by simp [World.cell?, h], by simp [World.frozen?, h], by simp [World.frozen?, h], lt_of_block h⟩
theorem PB.below {w w' : World} {B b : Nat} {p : ByteArray} {v : Value} {c : Int} (h : PB w b p v c) (hb : Below B w w') (hB : b < B) : PB w' b p v c := (hb.block b hB).trans h
theorem FB.below {w w' : World} {B b : Nat} {e f : Int} (h : FB w b e f) (hb : Below B w w') (hB : b < B) : FB w' b e f := (hb.block b hB).trans h
theorem new_at (w : World) (o : Obj) (b : Nat) (hb : b = w.heap.size) : (w.alloc o).heap[b]? = some o := by subst hb; exact heap_alloc_new w o
theorem old_at (w : World) (o : Obj) (b : Nat) {x : Option Obj} (h : w.heap[b]? = x) (hb : b < w.heap.size) : (w.alloc o).heap[b]? = x := (Below.heap_alloc _ _ _ hb).trans h
/-- What a call that reads a part hands back. -/
def PartPost (w : World) (a : Nat) (R : Res (List UInt8 × List (Nat × Nat × Nat))) (e : Ending) (w' : World) : Prop := Below w.heap.size w w' ∧ match R with
  | .bad er k => e = .returned (.tuple #[.agg #[.string ⟨#[]⟩, .slice none 0 0, .int .i64 0], .int .i64 0, .agg #[.int .i64 er, .int .i64 ((a : Int) + (k : Int))]])
  | .ok x k => ∃ v kept, e = .returned (.tuple #[.agg #[.string (str x.1), v, .int .i64 (partCount x.2 : Nat)], .int .i64 ((a : Int) + (k : Int)), .agg #[.int .i64 0, .int .i64 0]]) ∧ OwnR w' w.heap.size v kept ∧ (partCount x.2 ≤ 256 → kept = x.2)
theorem start_facts (w : World) : PB ((w.alloc (.cells #[.string ⟨#[]⟩, .slice none 0 0, .int .i64 0] 112)).alloc (.cells #[.int .i64 0, .int .i64 0] 88)) w.heap.size ⟨#[]⟩ (.slice none 0 0) 0 ∧ FB ((w.alloc (.cells #[.string ⟨#[]⟩, .slice none 0 0, .int .i64 0] 112)).alloc (.cells #[.int .i64 0, .int .i64 0] 88)) (w.heap.size + 1) 0 0 :=
  ⟨old_at _ _ _ (heap_alloc_new w _) (by simp), new_at _ _ _ (by simp)⟩
set_option maxRecDepth 100000 in
set_option maxHeartbeats 2000000 in
theorem part_noneA (s : ByteArray) (a : Nat) (w : World) (_hs : s.size ≤ 1099511627776) (ha : a ≤ s.size) (h0 : a = s.size) :
    Calls Tryz.prog 59 #[.string s, .int .i64 a] w (PartPost w a (.bad (wrg ((bl s).drop a)) 0)) := by
  have hw := fun W => wrong_any s a a W rfl ha
  obtain ⟨p0, p1⟩ := start_facts w
  have i1 : ¬ (a : Int) < s.size := by omega
  clear h0
  go_enter Tryz.func59, Tryz.ntmps59
  go_wp2
  go_loop [7] (fun e => e = .int .i64 (a : Int)) (fun i => s.size - (intOf i).toNat)
  case atStart => rfl
  case round =>
    subst hrel
    go_wp2_with (first
      | (go_at_call 91; (with_reducible refine (hw _).mono ?_); rintro e w2 ⟨rfl, b1⟩
         obtain ⟨c0, c1, c2, f0, f1, f2, z0⟩ := (p0.below b1 (by simp; omega)).facts
         obtain ⟨c3, c4, f3, f4, z1⟩ := (p1.below b1 (by simp)).facts))
    have hbx : Below w.heap.size w w2 := (((Below.refl _ _).alloc (Nat.le_refl _) _).alloc (by simp) _).trans (b1.mono (by simp; omega))
    have zb := hbx.size
    refine bodyPost_ret (v := .tuple #[.agg #[.string ⟨#[]⟩, .slice none 0 0, .int .i64 0], .int .i64 0, .agg #[.int .i64 (wrg ((bl s).drop a)), .int .i64 (a : Int)]]) (by simp [results, Tryz.results59, go_sem, c0, c1, c2, c3, c4]) rfl ⟨?_, by simp⟩
    repeat' (first | (with_reducible exact hbx) | (with_reducible apply Below.drew) | (with_reducible apply Below.setCell) | (with_reducible apply Below.alloc))
    all_goals (first | omega | (simp; done) | (simp; omega))
set_option maxRecDepth 100000 in
set_option maxHeartbeats 2000000 in
theorem part_noneB (s : ByteArray) (a : Nat) (w : World) (_hs : s.size ≤ 1099511627776) (ha : a ≤ s.size) (h0 : a < s.size) (hb : isBare (s[a]'h0) = false) :
    Calls Tryz.prog 59 #[.string s, .int .i64 a] w (PartPost w a (.bad (wrg ((bl s).drop a)) 0)) := by
  have hw := fun W => wrong_any s a a W rfl ha
  obtain ⟨p0, p1⟩ := start_facts w
  have i1 : (a : Int) < s.size := by omega
  have i2 : (0 : Int) ≤ a := by omega
  have hd := isPrefix_any s[a]
  rw [hb] at hd
  go_enter Tryz.func59, Tryz.ntmps59
  go_wp2
  go_loop [7] (fun e => e = .int .i64 (a : Int)) (fun i => s.size - (intOf i).toNat)
  case atStart => rfl
  case round =>
    subst hrel
    go_wp2_with (first
      | (go_at_call 90; (with_reducible refine (hd _).mono ?_); rintro e w1 ⟨rfl, rfl⟩)
      | (go_at_call 91; (with_reducible refine (hw _).mono ?_); rintro e w2 ⟨rfl, b1⟩
         obtain ⟨c0, c1, c2, f0, f1, f2, z0⟩ := (p0.below b1 (by simp; omega)).facts
         obtain ⟨c3, c4, f3, f4, z1⟩ := (p1.below b1 (by simp)).facts))
    have hbx : Below w.heap.size w w2 := (((Below.refl _ _).alloc (Nat.le_refl _) _).alloc (by simp) _).trans (b1.mono (by simp; omega))
    have zb := hbx.size
    refine bodyPost_ret (v := .tuple #[.agg #[.string ⟨#[]⟩, .slice none 0 0, .int .i64 0], .int .i64 0, .agg #[.int .i64 (wrg ((bl s).drop a)), .int .i64 (a : Int)]]) (by simp [results, Tryz.results59, go_sem, c0, c1, c2, c3, c4]) rfl ⟨?_, by simp⟩
    repeat' (first | (with_reducible exact hbx) | (with_reducible apply Below.drew) | (with_reducible apply Below.setCell) | (with_reducible apply Below.alloc))
    all_goals (first | omega | (simp; done) | (simp; omega))
set_option maxRecDepth 100000 in
set_option maxHeartbeats 2000000 in
theorem part_endA (s : ByteArray) (a : Nat) (w : World) (hs : s.size ≤ 1099511627776) (m : Nat) (hm : a + m ≤ s.size) (hm1 : 1 ≤ m) (hall : ∀ i (h : a + i < s.size), i < m → isBare (s[a + i]'h) = true) (hend : a + m = s.size) (hst : ¬ (bl s)[a + m]? = some 91) :
    Calls Tryz.prog 59 #[.string s, .int .i64 a] w (PartPost w a (.ok (((bl s).drop a).take m, []) m)) := by
  have st := fun W => stands_any s (a + m) ((a : Int) + m) 91 91 W (by omega) rfl
  rw [decide_eq_false hst] at st
  clear hst
  have i3 : (0 : Int) ≤ a := by omega
  have i4 : (a : Int) ≤ 1099511627776 := by omega
  have i5 : (s.size : Int) ≤ 1099511627776 := by omega
  have i6 : (0 : Int) ≤ m := by omega
  have i7 : (m : Int) ≤ 1099511627776 := by omega
  have hms : (a : Int) + m ≤ s.size := by omega
  have hmn : a + m ≤ s.size := hm
  replace hm := fhid hm
  replace hall := fhid hall
  obtain ⟨p0, p1⟩ := start_facts w
  replace p0 := fhid p0
  replace p1 := fhid p1
  go_enter Tryz.func59, Tryz.ntmps59
  go_wp2
  go_loop [7] (fun e => ∃ j : Nat, j ≤ m ∧ e = .int .i64 ((a : Int) + (j : Int))) (fun i => s.size - (intOf i).toNat)
  case atStart => exact ⟨0, Nat.zero_le _, by simp⟩
  case round =>
    obtain ⟨j, hj, rfl⟩ := hrel
    have htn : ((a : Int) + j).toNat = a + j := by omega
    have hj0 : (0 : Int) ≤ j := by omega
    have hjm : (j : Int) ≤ m := by omega
    by_cases hlt : j < m
    · have hjs : a + j < s.size := by omega
      have hd := isPrefix_any s[a + j]
      rw [hall.out j hjs hlt] at hd
      have i1 : (a : Int) + j < s.size := by omega
      have i0 : (0 : Int) ≤ (a : Int) + j := by omega
      go_wp2_with (go_at_call 90; (with_reducible refine (hd _).mono ?_); rintro e w1 ⟨rfl, rfl⟩)
      go_round
      case rel => exact ⟨j + 1, by omega, by rw [show (a : Int) + j + 1 = (a : Int) + ((j + 1 : Nat) : Int) by omega]⟩
      case measure => simp [intOf]; omega
    · obtain rfl : j = m := by omega
      have i0 : (0 : Int) ≤ (a : Int) + j := by omega
      have e5 : ((a : Int) + j == a) = false := by simp; omega
      have e6 : ¬ (a : Int) + j = a := by omega
      have hle : (a : Int) ≤ (a : Int) + j := by omega
      have i1 : ¬ (a : Int) + j < s.size := by omega
      clear hend
      go_wp2_with (first
        | (go_at_call 92; (with_reducible refine (st _).mono ?_); rintro e w1 ⟨rfl, rfl⟩))
      have hbx : Below w.heap.size w w := Below.refl _ _
      obtain ⟨c0, c1, c2, f0, f1, f2, z0⟩ := p0.out.facts
      obtain ⟨c3, c4, f3, f4, z1⟩ := p1.out.facts
      refine bodyPost_ret (v := .tuple #[.agg #[.string (s.extract a (a + j)), .slice none 0 0, .int .i64 1], .int .i64 ((a : Int) + j), .agg #[.int .i64 0, .int .i64 0]]) (by simp [results, Tryz.results59, go_sem]) rfl ⟨?_, ?_⟩
      · repeat' (first | (with_reducible exact hbx) | (with_reducible apply Below.drew) | (with_reducible apply Below.setCell) | (with_reducible apply Below.alloc))
        all_goals (first | omega | (simp; done) | (simp; omega))
      · refine ⟨.slice none 0 0, [], ?_, OwnR.nil _ _, fun _ => rfl⟩
        rw [ext_str, show a + j - a = j by omega]
        rfl
set_option maxRecDepth 100000 in
set_option maxHeartbeats 2000000 in
theorem part_endB (s : ByteArray) (a : Nat) (w : World) (hs : s.size ≤ 1099511627776) (m : Nat) (hm : a + m ≤ s.size) (hm1 : 1 ≤ m) (hall : ∀ i (h : a + i < s.size), i < m → isBare (s[a + i]'h) = true) (hend : a + m < s.size) (hb : isBare (s[a + m]'hend) = false) (h44 : (s[a + m]'hend) = 44) (hst : ¬ (bl s)[a + m]? = some 91) :
    Calls Tryz.prog 59 #[.string s, .int .i64 a] w (PartPost w a (.ok (((bl s).drop a).take m, []) m)) := by
  have st := fun W => stands_any s (a + m) ((a : Int) + m) 91 91 W (by omega) rfl
  rw [decide_eq_false hst] at st
  have h44i : (((s[a + m]'hend).toNat : Int) == 44) = true := by rw [h44]; rfl
  have h44j : (((s[a + m]'hend).toNat : Int) != 44) = false := by rw [h44]; rfl
  clear h44
  clear hst
  have i3 : (0 : Int) ≤ a := by omega
  have i4 : (a : Int) ≤ 1099511627776 := by omega
  have i5 : (s.size : Int) ≤ 1099511627776 := by omega
  have i6 : (0 : Int) ≤ m := by omega
  have i7 : (m : Int) ≤ 1099511627776 := by omega
  have hms : (a : Int) + m ≤ s.size := by omega
  have hmn : a + m ≤ s.size := hm
  replace hm := fhid hm
  replace hall := fhid hall
  obtain ⟨p0, p1⟩ := start_facts w
  replace p0 := fhid p0
  replace p1 := fhid p1
  go_enter Tryz.func59, Tryz.ntmps59
  go_wp2
  go_loop [7] (fun e => ∃ j : Nat, j ≤ m ∧ e = .int .i64 ((a : Int) + (j : Int))) (fun i => s.size - (intOf i).toNat)
  case atStart => exact ⟨0, Nat.zero_le _, by simp⟩
  case round =>
    obtain ⟨j, hj, rfl⟩ := hrel
    have htn : ((a : Int) + j).toNat = a + j := by omega
    have hj0 : (0 : Int) ≤ j := by omega
    have hjm : (j : Int) ≤ m := by omega
    by_cases hlt : j < m
    · have hjs : a + j < s.size := by omega
      have hd := isPrefix_any s[a + j]
      rw [hall.out j hjs hlt] at hd
      have i1 : (a : Int) + j < s.size := by omega
      have i0 : (0 : Int) ≤ (a : Int) + j := by omega
      go_wp2_with (go_at_call 90; (with_reducible refine (hd _).mono ?_); rintro e w1 ⟨rfl, rfl⟩)
      go_round
      case rel => exact ⟨j + 1, by omega, by rw [show (a : Int) + j + 1 = (a : Int) + ((j + 1 : Nat) : Int) by omega]⟩
      case measure => simp [intOf]; omega
    · obtain rfl : j = m := by omega
      have i0 : (0 : Int) ≤ (a : Int) + j := by omega
      have e5 : ((a : Int) + j == a) = false := by simp; omega
      have e6 : ¬ (a : Int) + j = a := by omega
      have hle : (a : Int) ≤ (a : Int) + j := by omega
      have hjs : a + j < s.size := hend
      have hd := isPrefix_any s[a + j]
      rw [hb] at hd
      have i1 : (a : Int) + j < s.size := by omega
      go_wp2_with (first
        | (go_at_call 90; (with_reducible refine (hd _).mono ?_); rintro e w1 ⟨rfl, rfl⟩)
        | (go_at_call 92; (with_reducible refine (st _).mono ?_); rintro e w1 ⟨rfl, rfl⟩))
      have hbx : Below w.heap.size w w := Below.refl _ _
      obtain ⟨c0, c1, c2, f0, f1, f2, z0⟩ := p0.out.facts
      obtain ⟨c3, c4, f3, f4, z1⟩ := p1.out.facts
      refine bodyPost_ret (v := .tuple #[.agg #[.string (s.extract a (a + j)), .slice none 0 0, .int .i64 1], .int .i64 ((a : Int) + j), .agg #[.int .i64 0, .int .i64 0]]) (by simp [results, Tryz.results59, go_sem]) rfl ⟨?_, ?_⟩
      · repeat' (first | (with_reducible exact hbx) | (with_reducible apply Below.drew) | (with_reducible apply Below.setCell) | (with_reducible apply Below.alloc))
        all_goals (first | omega | (simp; done) | (simp; omega))
      · refine ⟨.slice none 0 0, [], ?_, OwnR.nil _ _, fun _ => rfl⟩
        rw [ext_str, show a + j - a = j by omega]
        rfl
set_option maxRecDepth 100000 in
set_option maxHeartbeats 2000000 in
theorem part_bad (s : ByteArray) (a : Nat) (w : World) (hs : s.size ≤ 1099511627776) (m : Nat) (hm : a + m ≤ s.size) (hm1 : 1 ≤ m) (hall : ∀ i (h : a + i < s.size), i < m → isBare (s[a + i]'h) = true) (hend : a + m < s.size) (hb : isBare (s[a + m]'hend) = false) (h44 : ¬ (s[a + m]'hend) = 44) (hst : ¬ (bl s)[a + m]? = some 91) :
    Calls Tryz.prog 59 #[.string s, .int .i64 a] w (PartPost w a (.bad 3 m)) := by
  have st := fun W => stands_any s (a + m) ((a : Int) + m) 91 91 W (by omega) rfl
  rw [decide_eq_false hst] at st
  have h44i : (((s[a + m]'hend).toNat : Int) == 44) = false := by
    rw [Bool.eq_false_iff]
    intro h
    exact h44 (UInt8.toNat_inj.1 (by simp at h; exact_mod_cast h))
  have h44j : ¬ ((s[a + m]'hend).toNat : Int) = 44 := by
    intro h
    exact h44 (UInt8.toNat_inj.1 (by exact_mod_cast h))
  clear h44
  clear hst
  have i3 : (0 : Int) ≤ a := by omega
  have i4 : (a : Int) ≤ 1099511627776 := by omega
  have i5 : (s.size : Int) ≤ 1099511627776 := by omega
  have i6 : (0 : Int) ≤ m := by omega
  have i7 : (m : Int) ≤ 1099511627776 := by omega
  have hms : (a : Int) + m ≤ s.size := by omega
  have hmn : a + m ≤ s.size := hm
  replace hm := fhid hm
  replace hall := fhid hall
  obtain ⟨p0, p1⟩ := start_facts w
  replace p0 := fhid p0
  replace p1 := fhid p1
  go_enter Tryz.func59, Tryz.ntmps59
  go_wp2
  go_loop [7] (fun e => ∃ j : Nat, j ≤ m ∧ e = .int .i64 ((a : Int) + (j : Int))) (fun i => s.size - (intOf i).toNat)
  case atStart => exact ⟨0, Nat.zero_le _, by simp⟩
  case round =>
    obtain ⟨j, hj, rfl⟩ := hrel
    have htn : ((a : Int) + j).toNat = a + j := by omega
    have hj0 : (0 : Int) ≤ j := by omega
    have hjm : (j : Int) ≤ m := by omega
    by_cases hlt : j < m
    · have hjs : a + j < s.size := by omega
      have hd := isPrefix_any s[a + j]
      rw [hall.out j hjs hlt] at hd
      have i1 : (a : Int) + j < s.size := by omega
      have i0 : (0 : Int) ≤ (a : Int) + j := by omega
      go_wp2_with (go_at_call 90; (with_reducible refine (hd _).mono ?_); rintro e w1 ⟨rfl, rfl⟩)
      go_round
      case rel => exact ⟨j + 1, by omega, by rw [show (a : Int) + j + 1 = (a : Int) + ((j + 1 : Nat) : Int) by omega]⟩
      case measure => simp [intOf]; omega
    · obtain rfl : j = m := by omega
      have i0 : (0 : Int) ≤ (a : Int) + j := by omega
      have e5 : ((a : Int) + j == a) = false := by simp; omega
      have e6 : ¬ (a : Int) + j = a := by omega
      have hle : (a : Int) ≤ (a : Int) + j := by omega
      have hjs : a + j < s.size := hend
      have hd := isPrefix_any s[a + j]
      rw [hb] at hd
      have i1 : (a : Int) + j < s.size := by omega
      go_wp2_with (first
        | (go_at_call 90; (with_reducible refine (hd _).mono ?_); rintro e w1 ⟨rfl, rfl⟩)
        | (go_at_call 92; (with_reducible refine (st _).mono ?_); rintro e w1 ⟨rfl, rfl⟩)
        | (go_at_call 91; (with_reducible refine (wrong_in s (a + j) _ _ (by omega) (by omega)).mono ?_); rintro e w2 ⟨rfl, b1⟩
           have q0 := old_at _ (.cells #[.string (s.extract a (a + j)), .slice none 0 0, .int .i64 1] 112) _ p0.out (lt_of_block p0.out)
           have q1 := old_at _ (.cells #[.string (s.extract a (a + j)), .slice none 0 0, .int .i64 1] 112) _ p1.out (lt_of_block p1.out)
           obtain ⟨c0, c1, c2, f0, f1, f2, z0⟩ := (PB.below q0 b1 (lt_of_block q0)).facts
           obtain ⟨c3, c4, f3, f4, z1⟩ := (FB.below q1 b1 (lt_of_block q1)).facts
           clear q0 q1))
      have hbx : Below w.heap.size w w2 := ((((Below.refl _ _).alloc (Nat.le_refl _) _).alloc (by simp) _).alloc (by simp; omega) _).trans (b1.mono (by simp; omega))
      have zb := hbx.size
      refine bodyPost_ret (v := .tuple #[.agg #[.string ⟨#[]⟩, .slice none 0 0, .int .i64 0], .int .i64 0, .agg #[.int .i64 3, .int .i64 ((a : Int) + j)]]) (by simp [results, Tryz.results59, go_sem, c0, c1, c2, c3, c4]) rfl ⟨?_, rfl⟩
      repeat' (first | (with_reducible exact hbx) | (with_reducible apply Below.drew) | (with_reducible apply Below.setCell) | (with_reducible apply Below.alloc))
      all_goals (first | omega | (simp; done) | (simp; omega))
/-- The blocks, behind the ranges' reading. -/
theorem sets_facts {w1 : World} {b : Nat} {p : ByteArray} {v : Value} {c e f : Int} (h0 : PB w1 b ⟨#[]⟩ (.slice none 0 0) 0) (h1 : FB w1 (b + 1) 0 0) (h2 : PB w1 (b + 1 + 1) p (.slice none 0 0) 1) (h3 : FB w1 (b + 1 + 1 + 1) 0 0) {W : World}
    (hW : (((w1.setCell ⟨b + 1 + 1, 1, none⟩ v).setCell ⟨b + 1 + 1, 2, none⟩ (.int .i64 c)).setCell ⟨b + 1 + 1 + 1, 0, none⟩ (.int .i64 e)).setCell ⟨b + 1 + 1 + 1, 1, none⟩ (.int .i64 f) = W) :
    PB W b ⟨#[]⟩ (.slice none 0 0) 0 ∧ FB W (b + 1) 0 0 ∧ PB W (b + 1 + 1) p v c ∧ FB W (b + 1 + 1 + 1) e f ∧ Below b w1 W := by
  subst hW
  refine ⟨?_, ?_, ?_, ?_, ?_⟩
  · exact block_other _ _ (block_other _ _ (block_other _ _ (block_other _ _ h0 (by omega)) (by omega)) (by omega)) (by omega)
  · exact block_other _ _ (block_other _ _ (block_other _ _ (block_other _ _ h1 (by omega)) (by omega)) (by omega)) (by omega)
  · exact block_other _ _ (block_other _ _ (block_set 2 _ (block_set 1 _ h2)) (by omega)) (by omega)
  · exact block_set 1 _ (block_set 0 _ (block_other _ _ (block_other _ _ h3 (by omega)) (by omega)))
  · refine Below.setCell (Below.setCell (Below.setCell (Below.setCell (Below.refl _ _) ?_ _) ?_ _) ?_ _) ?_ _
    all_goals (dsimp only; omega)
theorem own_sets4 {w : World} {b base : Nat} {v : Value} {rs : List (Nat × Nat × Nat)} {u0 u1 u2 u3 : Value} (h : OwnR w base v rs) (hb : b + 1 + 1 + 1 < base) : OwnR ((((w.setCell ⟨b + 1 + 1, 1, none⟩ u0).setCell ⟨b + 1 + 1, 2, none⟩ u1).setCell ⟨b + 1 + 1 + 1, 0, none⟩ u2).setCell ⟨b + 1 + 1 + 1, 1, none⟩ u3) base v rs := by
  refine ⟨h.1, ?_⟩
  rcases h.2 with ⟨rfl, hn⟩ | ⟨g, cap, cur, rfl, hg, hh, rest⟩
  · exact .inl ⟨rfl, hn⟩
  · exact .inr ⟨g, cap, cur, rfl, hg, block_other _ _ (block_other _ _ (block_other _ _ (block_other _ _ hh (by omega)) (by omega)) (by omega)) (by omega), rest⟩
theorem own_sets5 {w : World} {b base : Nat} {v : Value} {rs : List (Nat × Nat × Nat)} {u0 u1 u2 u3 u4 : Value} (h : OwnR w base v rs) (hb : b + 1 < base) : OwnR (((((w.setCell ⟨b, 0, none⟩ u0).setCell ⟨b, 1, none⟩ u1).setCell ⟨b, 2, none⟩ u2).setCell ⟨b + 1, 0, none⟩ u3).setCell ⟨b + 1, 1, none⟩ u4) base v rs := by
  refine ⟨h.1, ?_⟩
  rcases h.2 with ⟨rfl, hn⟩ | ⟨g, cap, cur, rfl, hg, hh, rest⟩
  · exact .inl ⟨rfl, hn⟩
  · exact .inr ⟨g, cap, cur, rfl, hg, block_other _ _ (block_other _ _ (block_other _ _ (block_other _ _ (block_other _ _ hh (by omega)) (by omega)) (by omega)) (by omega)) (by omega), rest⟩
set_option maxRecDepth 100000 in
set_option maxHeartbeats 2000000 in
theorem part_ranges_bad (s : ByteArray) (a : Nat) (w : World) (hs : s.size ≤ 1099511627776) (m : Nat) (hm : a + m ≤ s.size) (hm1 : 1 ≤ m) (hall : ∀ i (h : a + i < s.size), i < m → isBare (s[a + i]'h) = true) (hend : a + m < s.size) (hb : isBare (s[a + m]'hend) = false) (hst : (bl s)[a + m]? = some 91) (F : Nat) (hF : s.size - (a + m + 1) < F) (e k : Nat) (he : e ≠ 0) (hq : pRanges F ((bl s).drop (a + m + 1)) = .bad e k) :
    Calls Tryz.prog 59 #[.string s, .int .i64 a] w (PartPost w a (.bad e (m + 1 + k))) := by
  have st := fun W => stands_any s (a + m) ((a : Int) + m) 91 91 W (by omega) rfl
  rw [decide_eq_true hst] at st
  have hr := fun W => readRanges_any s (a + m + 1) ((a : Int) + m + 1) F W (by omega) hs (by omega) hF
  rw [hq] at hr
  have e1 : ((e : Int) != 0) = true := by simpa using he
  have e2 : ¬ (e : Int) = 0 := by omega
  clear hq he
  clear hst
  have i3 : (0 : Int) ≤ a := by omega
  have i4 : (a : Int) ≤ 1099511627776 := by omega
  have i5 : (s.size : Int) ≤ 1099511627776 := by omega
  have i6 : (0 : Int) ≤ m := by omega
  have i7 : (m : Int) ≤ 1099511627776 := by omega
  have hms : (a : Int) + m ≤ s.size := by omega
  have hmn : a + m ≤ s.size := hm
  replace hm := fhid hm
  replace hall := fhid hall
  obtain ⟨p0, p1⟩ := start_facts w
  replace p0 := fhid p0
  replace p1 := fhid p1
  go_enter Tryz.func59, Tryz.ntmps59
  go_wp2
  go_loop [7] (fun e => ∃ j : Nat, j ≤ m ∧ e = .int .i64 ((a : Int) + (j : Int))) (fun i => s.size - (intOf i).toNat)
  case atStart => exact ⟨0, Nat.zero_le _, by simp⟩
  case round =>
    obtain ⟨j, hj, rfl⟩ := hrel
    have htn : ((a : Int) + j).toNat = a + j := by omega
    have hj0 : (0 : Int) ≤ j := by omega
    have hjm : (j : Int) ≤ m := by omega
    by_cases hlt : j < m
    · have hjs : a + j < s.size := by omega
      have hd := isPrefix_any s[a + j]
      rw [hall.out j hjs hlt] at hd
      have i1 : (a : Int) + j < s.size := by omega
      have i0 : (0 : Int) ≤ (a : Int) + j := by omega
      go_wp2_with (go_at_call 90; (with_reducible refine (hd _).mono ?_); rintro e w1 ⟨rfl, rfl⟩)
      go_round
      case rel => exact ⟨j + 1, by omega, by rw [show (a : Int) + j + 1 = (a : Int) + ((j + 1 : Nat) : Int) by omega]⟩
      case measure => simp [intOf]; omega
    · obtain rfl : j = m := by omega
      have i0 : (0 : Int) ≤ (a : Int) + j := by omega
      have e5 : ((a : Int) + j == a) = false := by simp; omega
      have e6 : ¬ (a : Int) + j = a := by omega
      have hle : (a : Int) ≤ (a : Int) + j := by omega
      have hjs : a + j < s.size := hend
      have hd := isPrefix_any s[a + j]
      rw [hb] at hd
      have i1 : (a : Int) + j < s.size := by omega
      go_wp2_with (first
        | (go_at_call 90; (with_reducible refine (hd _).mono ?_); rintro e w1 ⟨rfl, rfl⟩)
        | (go_at_call 92; (with_reducible refine (st _).mono ?_); rintro e w1 ⟨rfl, rfl⟩))
      refine (hr _).mono ?_
      rintro e' w2 ⟨b1, rfl⟩
      have s0 : PB w2 w.heap.size ⟨#[]⟩ (.slice none 0 0) 0 := (b1.block _ (by simp; omega)).trans (old_at _ _ _ (old_at _ _ _ p0.out (by simp; omega)) (by simp; omega))
      have s1 : FB w2 (w.heap.size + 1) 0 0 := (b1.block _ (by simp)).trans (old_at _ _ _ (old_at _ _ _ p1.out (by simp)) (by simp))
      have s2 : PB w2 (w.heap.size + 1 + 1) (s.extract a (a + j)) (.slice none 0 0) 1 := (b1.block _ (by simp)).trans (old_at _ _ _ (new_at _ _ _ (by simp)) (by simp))
      have s3 : FB w2 (w.heap.size + 1 + 1 + 1) 0 0 := (b1.block _ (by simp)).trans (new_at _ _ _ (by simp))
      have b2 : Below w.heap.size w w2 := (((((Below.refl _ _).alloc (Nat.le_refl _) _).alloc (by simp) _).alloc (by simp; omega) _).alloc (by simp; omega) _).trans (b1.mono (by simp; omega))
      obtain ⟨e0, e1', e2', g0, g1, g2, y2⟩ := s2.facts
      obtain ⟨e3, e4, g3, g4, y3⟩ := s3.facts
      replace s0 := fhid s0
      replace s1 := fhid s1
      replace s2 := fhid s2
      replace s3 := fhid s3
      go_upto_region 10 with fail
      generalize hW : (((w2.setCell ⟨w.heap.size + 1 + 1, 1, none⟩ (.slice none 0 0)).setCell ⟨w.heap.size + 1 + 1, 2, none⟩ (.int .i64 0)).setCell ⟨w.heap.size + 1 + 1 + 1, 0, none⟩ (.int .i64 e)).setCell ⟨w.heap.size + 1 + 1 + 1, 1, none⟩ (.int .i64 ((a : Int) + j + 1 + k)) = W
      obtain ⟨q0, q1, q2, q3, b3⟩ := sets_facts s0.out s1.out s2.out s3.out hW
      have hbx := b2.trans b3
      clear hW s0 s1 s2 s3 b1 b2 b3 p0 p1 e0 e1' e2' e3 e4 g0 g1 g2 g3 g4
      obtain ⟨c0, c1, c2, f0, f1, f2, z0⟩ := q0.facts
      obtain ⟨c3, c4, f3, f4, z1⟩ := q1.facts
      obtain ⟨c5, c6, c7, f5, f6, f7, z2⟩ := q2.facts
      obtain ⟨c8, c9, f8, f9, z3⟩ := q3.facts
      replace q0 := fhid q0
      replace q1 := fhid q1
      replace q2 := fhid q2
      replace q3 := fhid q3
      go_wp2_with fail
      go_region
      go_wp2_with fail
      have zb := hbx.size
      refine bodyPost_ret (v := .tuple #[.agg #[.string ⟨#[]⟩, .slice none 0 0, .int .i64 0], .int .i64 0, .agg #[.int .i64 e, .int .i64 ((a : Int) + j + 1 + k)]]) (by simp [results, Tryz.results59, go_sem, c0, c1, c2, c3, c4]) rfl ⟨?_, by show _ = _; rw [show (a : Int) + j + 1 + k = (a : Int) + ((j + 1 + k : Nat) : Int) by omega]⟩
      repeat' (first | (with_reducible exact hbx) | (with_reducible apply Below.drew) | (with_reducible apply Below.setCell) | (with_reducible apply Below.alloc))
      all_goals (first | omega | (simp; done) | (simp; omega))
set_option maxRecDepth 100000 in
set_option maxHeartbeats 2000000 in
theorem part_ranges_A (s : ByteArray) (a : Nat) (w : World) (hs : s.size ≤ 1099511627776) (m : Nat) (hm : a + m ≤ s.size) (hm1 : 1 ≤ m) (hall : ∀ i (h : a + i < s.size), i < m → isBare (s[a + i]'h) = true) (hend : a + m < s.size) (hb : isBare (s[a + m]'hend) = false) (hst : (bl s)[a + m]? = some 91) (F : Nat) (hF : s.size - (a + m + 1) < F) (xs : List (Nat × Nat × Nat)) (k : Nat) (hq : pRanges F ((bl s).drop (a + m + 1)) = .ok xs k) (hend2 : a + m + 1 + k = s.size) :
    Calls Tryz.prog 59 #[.string s, .int .i64 a] w (PartPost w a (.ok (((bl s).drop a).take m, xs) (m + 1 + k))) := by
  have st := fun W => stands_any s (a + m) ((a : Int) + m) 91 91 W (by omega) rfl
  rw [decide_eq_true hst] at st
  have hr := fun W => readRanges_any s (a + m + 1) ((a : Int) + m + 1) F W (by omega) hs (by omega) hF
  rw [hq] at hr
  obtain ⟨k1, k2, k3, _⟩ := pRanges_ok _ _ _ _ hq
  rw [List.length_drop, bl_len] at k2
  have hkb : (a : Int) + m + 1 + k ≤ s.size := by omega
  have hk0 : (0 : Int) ≤ k := by omega
  have hpc : partCount xs = cntOf xs := by unfold partCount; rw [if_neg k3]; rfl
  have htn2 : ((a : Int) + m + 1 + k).toNat = a + m + 1 + k := by omega
  have i02 : (0 : Int) ≤ (a : Int) + m + 1 + k := by omega
  replace hpc := fhid hpc
  clear hq k1 k2 k3
  have i12 : ¬ (a : Int) + m + 1 + k < s.size := by omega
  clear hend2
  clear hst
  have i3 : (0 : Int) ≤ a := by omega
  have i4 : (a : Int) ≤ 1099511627776 := by omega
  have i5 : (s.size : Int) ≤ 1099511627776 := by omega
  have i6 : (0 : Int) ≤ m := by omega
  have i7 : (m : Int) ≤ 1099511627776 := by omega
  have hms : (a : Int) + m ≤ s.size := by omega
  have hmn : a + m ≤ s.size := hm
  replace hm := fhid hm
  replace hall := fhid hall
  obtain ⟨p0, p1⟩ := start_facts w
  replace p0 := fhid p0
  replace p1 := fhid p1
  go_enter Tryz.func59, Tryz.ntmps59
  go_wp2
  go_loop [7] (fun e => ∃ j : Nat, j ≤ m ∧ e = .int .i64 ((a : Int) + (j : Int))) (fun i => s.size - (intOf i).toNat)
  case atStart => exact ⟨0, Nat.zero_le _, by simp⟩
  case round =>
    obtain ⟨j, hj, rfl⟩ := hrel
    have htn : ((a : Int) + j).toNat = a + j := by omega
    have hj0 : (0 : Int) ≤ j := by omega
    have hjm : (j : Int) ≤ m := by omega
    by_cases hlt : j < m
    · have hjs : a + j < s.size := by omega
      have hd := isPrefix_any s[a + j]
      rw [hall.out j hjs hlt] at hd
      have i1 : (a : Int) + j < s.size := by omega
      have i0 : (0 : Int) ≤ (a : Int) + j := by omega
      go_wp2_with (go_at_call 90; (with_reducible refine (hd _).mono ?_); rintro e w1 ⟨rfl, rfl⟩)
      go_round
      case rel => exact ⟨j + 1, by omega, by rw [show (a : Int) + j + 1 = (a : Int) + ((j + 1 : Nat) : Int) by omega]⟩
      case measure => simp [intOf]; omega
    · obtain rfl : j = m := by omega
      have i0 : (0 : Int) ≤ (a : Int) + j := by omega
      have e5 : ((a : Int) + j == a) = false := by simp; omega
      have e6 : ¬ (a : Int) + j = a := by omega
      have hle : (a : Int) ≤ (a : Int) + j := by omega
      have hjs : a + j < s.size := hend
      have hd := isPrefix_any s[a + j]
      rw [hb] at hd
      have i1 : (a : Int) + j < s.size := by omega
      go_wp2_with (first
        | (go_at_call 90; (with_reducible refine (hd _).mono ?_); rintro e w1 ⟨rfl, rfl⟩)
        | (go_at_call 92; (with_reducible refine (st _).mono ?_); rintro e w1 ⟨rfl, rfl⟩))
      refine (hr _).mono ?_
      rintro e' w2 ⟨b1, v, kept, rfl, own, hkx⟩
      obtain ⟨Av, cv, rfl, _, _, _⟩ := own.shape
      replace own := fhid own
      replace hkx := fhid hkx
      have s0 : PB w2 w.heap.size ⟨#[]⟩ (.slice none 0 0) 0 := (b1.block _ (by simp; omega)).trans (old_at _ _ _ (old_at _ _ _ p0.out (by simp; omega)) (by simp; omega))
      have s1 : FB w2 (w.heap.size + 1) 0 0 := (b1.block _ (by simp)).trans (old_at _ _ _ (old_at _ _ _ p1.out (by simp)) (by simp))
      have s2 : PB w2 (w.heap.size + 1 + 1) (s.extract a (a + j)) (.slice none 0 0) 1 := (b1.block _ (by simp)).trans (old_at _ _ _ (new_at _ _ _ (by simp)) (by simp))
      have s3 : FB w2 (w.heap.size + 1 + 1 + 1) 0 0 := (b1.block _ (by simp)).trans (new_at _ _ _ (by simp))
      have b2 : Below w.heap.size w w2 := (((((Below.refl _ _).alloc (Nat.le_refl _) _).alloc (by simp) _).alloc (by simp; omega) _).alloc (by simp; omega) _).trans (b1.mono (by simp; omega))
      obtain ⟨e0, e1', e2', g0, g1, g2, y2⟩ := s2.facts
      obtain ⟨e3, e4, g3, g4, y3⟩ := s3.facts
      replace s0 := fhid s0
      replace s1 := fhid s1
      replace s2 := fhid s2
      replace s3 := fhid s3
      go_upto_region 10 with fail
      generalize hW : (((w2.setCell ⟨w.heap.size + 1 + 1, 1, none⟩ (.slice Av kept.length cv)).setCell ⟨w.heap.size + 1 + 1, 2, none⟩ (.int .i64 (cntOf xs : Nat))).setCell ⟨w.heap.size + 1 + 1 + 1, 0, none⟩ (.int .i64 0)).setCell ⟨w.heap.size + 1 + 1 + 1, 1, none⟩ (.int .i64 0) = W
      obtain ⟨q0, q1, q2, q3, b3⟩ := sets_facts s0.out s1.out s2.out s3.out hW
      have hbx := b2.trans b3
      have own2 : OwnR W (w.heap.size + 1 + 1 + 1 + 1) (.slice Av kept.length cv) kept := by
        rw [← hW]
        exact own_sets4 (ownsRow_base own.out (by simp)) (by omega)
      replace own2 := fhid own2
      clear own
      clear hW s0 s1 s2 s3 b1 b2 b3 p0 p1 e0 e1' e2' e3 e4 g0 g1 g2 g3 g4
      obtain ⟨c0, c1, c2, f0, f1, f2, z0⟩ := q0.facts
      obtain ⟨c3, c4, f3, f4, z1⟩ := q1.facts
      obtain ⟨c5, c6, c7, f5, f6, f7, z2⟩ := q2.facts
      obtain ⟨c8, c9, f8, f9, z3⟩ := q3.facts
      replace q0 := fhid q0
      replace q1 := fhid q1
      replace q2 := fhid q2
      replace q3 := fhid q3
      go_wp2_with fail
      have zb := hbx.size
      refine bodyPost_ret (v := .tuple #[.agg #[.string (s.extract a (a + j)), .slice Av kept.length cv, .int .i64 (cntOf xs : Nat)], .int .i64 ((a : Int) + j + 1 + k), .agg #[.int .i64 0, .int .i64 0]]) (by simp [results, Tryz.results59, go_sem, c0, c1, c2, c3, c4]) rfl ⟨?_, ?_⟩
      · repeat' (first | (with_reducible exact hbx) | (with_reducible apply Below.drew) | (with_reducible apply Below.setCell) | (with_reducible apply Below.alloc))
        all_goals (first | omega | (simp; done) | (simp; omega))
      · refine ⟨.slice Av kept.length cv, kept, ?_, ownsRow_base (own_sets5 own2.out (by omega)) (by omega), ?_⟩
        · rw [ext_str, show a + j - a = j by omega, hpc.out, show (a : Int) + j + 1 + k = (a : Int) + ((j + 1 + k : Nat) : Int) by omega]
        · rw [hpc.out]; exact hkx.out
set_option maxRecDepth 100000 in
set_option maxHeartbeats 2000000 in
theorem part_ranges_B (s : ByteArray) (a : Nat) (w : World) (hs : s.size ≤ 1099511627776) (m : Nat) (hm : a + m ≤ s.size) (hm1 : 1 ≤ m) (hall : ∀ i (h : a + i < s.size), i < m → isBare (s[a + i]'h) = true) (hend : a + m < s.size) (hb : isBare (s[a + m]'hend) = false) (hst : (bl s)[a + m]? = some 91) (F : Nat) (hF : s.size - (a + m + 1) < F) (xs : List (Nat × Nat × Nat)) (k : Nat) (hq : pRanges F ((bl s).drop (a + m + 1)) = .ok xs k) (hend2 : a + m + 1 + k < s.size) (h44 : (s[a + m + 1 + k]'hend2) = 44) :
    Calls Tryz.prog 59 #[.string s, .int .i64 a] w (PartPost w a (.ok (((bl s).drop a).take m, xs) (m + 1 + k))) := by
  have st := fun W => stands_any s (a + m) ((a : Int) + m) 91 91 W (by omega) rfl
  rw [decide_eq_true hst] at st
  have hr := fun W => readRanges_any s (a + m + 1) ((a : Int) + m + 1) F W (by omega) hs (by omega) hF
  rw [hq] at hr
  obtain ⟨k1, k2, k3, _⟩ := pRanges_ok _ _ _ _ hq
  rw [List.length_drop, bl_len] at k2
  have hkb : (a : Int) + m + 1 + k ≤ s.size := by omega
  have hk0 : (0 : Int) ≤ k := by omega
  have hpc : partCount xs = cntOf xs := by unfold partCount; rw [if_neg k3]; rfl
  have htn2 : ((a : Int) + m + 1 + k).toNat = a + m + 1 + k := by omega
  have i02 : (0 : Int) ≤ (a : Int) + m + 1 + k := by omega
  replace hpc := fhid hpc
  clear hq k1 k2 k3
  have i12 : (a : Int) + m + 1 + k < s.size := by omega
  have h44i : (((s[a + m + 1 + k]'hend2).toNat : Int) == 44) = true := by rw [h44]; rfl
  have h44j : (((s[a + m + 1 + k]'hend2).toNat : Int) != 44) = false := by rw [h44]; rfl
  clear h44
  clear hst
  have i3 : (0 : Int) ≤ a := by omega
  have i4 : (a : Int) ≤ 1099511627776 := by omega
  have i5 : (s.size : Int) ≤ 1099511627776 := by omega
  have i6 : (0 : Int) ≤ m := by omega
  have i7 : (m : Int) ≤ 1099511627776 := by omega
  have hms : (a : Int) + m ≤ s.size := by omega
  have hmn : a + m ≤ s.size := hm
  replace hm := fhid hm
  replace hall := fhid hall
  obtain ⟨p0, p1⟩ := start_facts w
  replace p0 := fhid p0
  replace p1 := fhid p1
  go_enter Tryz.func59, Tryz.ntmps59
  go_wp2
  go_loop [7] (fun e => ∃ j : Nat, j ≤ m ∧ e = .int .i64 ((a : Int) + (j : Int))) (fun i => s.size - (intOf i).toNat)
  case atStart => exact ⟨0, Nat.zero_le _, by simp⟩
  case round =>
    obtain ⟨j, hj, rfl⟩ := hrel
    have htn : ((a : Int) + j).toNat = a + j := by omega
    have hj0 : (0 : Int) ≤ j := by omega
    have hjm : (j : Int) ≤ m := by omega
    by_cases hlt : j < m
    · have hjs : a + j < s.size := by omega
      have hd := isPrefix_any s[a + j]
      rw [hall.out j hjs hlt] at hd
      have i1 : (a : Int) + j < s.size := by omega
      have i0 : (0 : Int) ≤ (a : Int) + j := by omega
      go_wp2_with (go_at_call 90; (with_reducible refine (hd _).mono ?_); rintro e w1 ⟨rfl, rfl⟩)
      go_round
      case rel => exact ⟨j + 1, by omega, by rw [show (a : Int) + j + 1 = (a : Int) + ((j + 1 : Nat) : Int) by omega]⟩
      case measure => simp [intOf]; omega
    · obtain rfl : j = m := by omega
      have i0 : (0 : Int) ≤ (a : Int) + j := by omega
      have e5 : ((a : Int) + j == a) = false := by simp; omega
      have e6 : ¬ (a : Int) + j = a := by omega
      have hle : (a : Int) ≤ (a : Int) + j := by omega
      have hjs : a + j < s.size := hend
      have hd := isPrefix_any s[a + j]
      rw [hb] at hd
      have i1 : (a : Int) + j < s.size := by omega
      go_wp2_with (first
        | (go_at_call 90; (with_reducible refine (hd _).mono ?_); rintro e w1 ⟨rfl, rfl⟩)
        | (go_at_call 92; (with_reducible refine (st _).mono ?_); rintro e w1 ⟨rfl, rfl⟩))
      refine (hr _).mono ?_
      rintro e' w2 ⟨b1, v, kept, rfl, own, hkx⟩
      obtain ⟨Av, cv, rfl, _, _, _⟩ := own.shape
      replace own := fhid own
      replace hkx := fhid hkx
      have s0 : PB w2 w.heap.size ⟨#[]⟩ (.slice none 0 0) 0 := (b1.block _ (by simp; omega)).trans (old_at _ _ _ (old_at _ _ _ p0.out (by simp; omega)) (by simp; omega))
      have s1 : FB w2 (w.heap.size + 1) 0 0 := (b1.block _ (by simp)).trans (old_at _ _ _ (old_at _ _ _ p1.out (by simp)) (by simp))
      have s2 : PB w2 (w.heap.size + 1 + 1) (s.extract a (a + j)) (.slice none 0 0) 1 := (b1.block _ (by simp)).trans (old_at _ _ _ (new_at _ _ _ (by simp)) (by simp))
      have s3 : FB w2 (w.heap.size + 1 + 1 + 1) 0 0 := (b1.block _ (by simp)).trans (new_at _ _ _ (by simp))
      have b2 : Below w.heap.size w w2 := (((((Below.refl _ _).alloc (Nat.le_refl _) _).alloc (by simp) _).alloc (by simp; omega) _).alloc (by simp; omega) _).trans (b1.mono (by simp; omega))
      obtain ⟨e0, e1', e2', g0, g1, g2, y2⟩ := s2.facts
      obtain ⟨e3, e4, g3, g4, y3⟩ := s3.facts
      replace s0 := fhid s0
      replace s1 := fhid s1
      replace s2 := fhid s2
      replace s3 := fhid s3
      go_upto_region 10 with fail
      generalize hW : (((w2.setCell ⟨w.heap.size + 1 + 1, 1, none⟩ (.slice Av kept.length cv)).setCell ⟨w.heap.size + 1 + 1, 2, none⟩ (.int .i64 (cntOf xs : Nat))).setCell ⟨w.heap.size + 1 + 1 + 1, 0, none⟩ (.int .i64 0)).setCell ⟨w.heap.size + 1 + 1 + 1, 1, none⟩ (.int .i64 0) = W
      obtain ⟨q0, q1, q2, q3, b3⟩ := sets_facts s0.out s1.out s2.out s3.out hW
      have hbx := b2.trans b3
      have own2 : OwnR W (w.heap.size + 1 + 1 + 1 + 1) (.slice Av kept.length cv) kept := by
        rw [← hW]
        exact own_sets4 (ownsRow_base own.out (by simp)) (by omega)
      replace own2 := fhid own2
      clear own
      clear hW s0 s1 s2 s3 b1 b2 b3 p0 p1 e0 e1' e2' e3 e4 g0 g1 g2 g3 g4
      obtain ⟨c0, c1, c2, f0, f1, f2, z0⟩ := q0.facts
      obtain ⟨c3, c4, f3, f4, z1⟩ := q1.facts
      obtain ⟨c5, c6, c7, f5, f6, f7, z2⟩ := q2.facts
      obtain ⟨c8, c9, f8, f9, z3⟩ := q3.facts
      replace q0 := fhid q0
      replace q1 := fhid q1
      replace q2 := fhid q2
      replace q3 := fhid q3
      go_wp2_with fail
      have zb := hbx.size
      refine bodyPost_ret (v := .tuple #[.agg #[.string (s.extract a (a + j)), .slice Av kept.length cv, .int .i64 (cntOf xs : Nat)], .int .i64 ((a : Int) + j + 1 + k), .agg #[.int .i64 0, .int .i64 0]]) (by simp [results, Tryz.results59, go_sem, c0, c1, c2, c3, c4]) rfl ⟨?_, ?_⟩
      · repeat' (first | (with_reducible exact hbx) | (with_reducible apply Below.drew) | (with_reducible apply Below.setCell) | (with_reducible apply Below.alloc))
        all_goals (first | omega | (simp; done) | (simp; omega))
      · refine ⟨.slice Av kept.length cv, kept, ?_, ownsRow_base (own_sets5 own2.out (by omega)) (by omega), ?_⟩
        · rw [ext_str, show a + j - a = j by omega, hpc.out, show (a : Int) + j + 1 + k = (a : Int) + ((j + 1 + k : Nat) : Int) by omega]
        · rw [hpc.out]; exact hkx.out
set_option maxRecDepth 100000 in
set_option maxHeartbeats 2000000 in
theorem part_ranges_C (s : ByteArray) (a : Nat) (w : World) (hs : s.size ≤ 1099511627776) (m : Nat) (hm : a + m ≤ s.size) (hm1 : 1 ≤ m) (hall : ∀ i (h : a + i < s.size), i < m → isBare (s[a + i]'h) = true) (hend : a + m < s.size) (hb : isBare (s[a + m]'hend) = false) (hst : (bl s)[a + m]? = some 91) (F : Nat) (hF : s.size - (a + m + 1) < F) (xs : List (Nat × Nat × Nat)) (k : Nat) (hq : pRanges F ((bl s).drop (a + m + 1)) = .ok xs k) (hend2 : a + m + 1 + k < s.size) (h44 : ¬ (s[a + m + 1 + k]'hend2) = 44) :
    Calls Tryz.prog 59 #[.string s, .int .i64 a] w (PartPost w a (.bad 3 (m + 1 + k))) := by
  have st := fun W => stands_any s (a + m) ((a : Int) + m) 91 91 W (by omega) rfl
  rw [decide_eq_true hst] at st
  have hr := fun W => readRanges_any s (a + m + 1) ((a : Int) + m + 1) F W (by omega) hs (by omega) hF
  rw [hq] at hr
  obtain ⟨k1, k2, k3, _⟩ := pRanges_ok _ _ _ _ hq
  rw [List.length_drop, bl_len] at k2
  have hkb : (a : Int) + m + 1 + k ≤ s.size := by omega
  have hk0 : (0 : Int) ≤ k := by omega
  have hpc : partCount xs = cntOf xs := by unfold partCount; rw [if_neg k3]; rfl
  have htn2 : ((a : Int) + m + 1 + k).toNat = a + m + 1 + k := by omega
  have i02 : (0 : Int) ≤ (a : Int) + m + 1 + k := by omega
  replace hpc := fhid hpc
  clear hq k1 k2 k3
  have i12 : (a : Int) + m + 1 + k < s.size := by omega
  have h44i : (((s[a + m + 1 + k]'hend2).toNat : Int) == 44) = false := by
    rw [Bool.eq_false_iff]
    intro h
    exact h44 (UInt8.toNat_inj.1 (by simp at h; exact_mod_cast h))
  have h44j : ¬ ((s[a + m + 1 + k]'hend2).toNat : Int) = 44 := by
    intro h
    exact h44 (UInt8.toNat_inj.1 (by exact_mod_cast h))
  clear h44
  clear hst
  have i3 : (0 : Int) ≤ a := by omega
  have i4 : (a : Int) ≤ 1099511627776 := by omega
  have i5 : (s.size : Int) ≤ 1099511627776 := by omega
  have i6 : (0 : Int) ≤ m := by omega
  have i7 : (m : Int) ≤ 1099511627776 := by omega
  have hms : (a : Int) + m ≤ s.size := by omega
  have hmn : a + m ≤ s.size := hm
  replace hm := fhid hm
  replace hall := fhid hall
  obtain ⟨p0, p1⟩ := start_facts w
  replace p0 := fhid p0
  replace p1 := fhid p1
  go_enter Tryz.func59, Tryz.ntmps59
  go_wp2
  go_loop [7] (fun e => ∃ j : Nat, j ≤ m ∧ e = .int .i64 ((a : Int) + (j : Int))) (fun i => s.size - (intOf i).toNat)
  case atStart => exact ⟨0, Nat.zero_le _, by simp⟩
  case round =>
    obtain ⟨j, hj, rfl⟩ := hrel
    have htn : ((a : Int) + j).toNat = a + j := by omega
    have hj0 : (0 : Int) ≤ j := by omega
    have hjm : (j : Int) ≤ m := by omega
    by_cases hlt : j < m
    · have hjs : a + j < s.size := by omega
      have hd := isPrefix_any s[a + j]
      rw [hall.out j hjs hlt] at hd
      have i1 : (a : Int) + j < s.size := by omega
      have i0 : (0 : Int) ≤ (a : Int) + j := by omega
      go_wp2_with (go_at_call 90; (with_reducible refine (hd _).mono ?_); rintro e w1 ⟨rfl, rfl⟩)
      go_round
      case rel => exact ⟨j + 1, by omega, by rw [show (a : Int) + j + 1 = (a : Int) + ((j + 1 : Nat) : Int) by omega]⟩
      case measure => simp [intOf]; omega
    · obtain rfl : j = m := by omega
      have i0 : (0 : Int) ≤ (a : Int) + j := by omega
      have e5 : ((a : Int) + j == a) = false := by simp; omega
      have e6 : ¬ (a : Int) + j = a := by omega
      have hle : (a : Int) ≤ (a : Int) + j := by omega
      have hjs : a + j < s.size := hend
      have hd := isPrefix_any s[a + j]
      rw [hb] at hd
      have i1 : (a : Int) + j < s.size := by omega
      go_wp2_with (first
        | (go_at_call 90; (with_reducible refine (hd _).mono ?_); rintro e w1 ⟨rfl, rfl⟩)
        | (go_at_call 92; (with_reducible refine (st _).mono ?_); rintro e w1 ⟨rfl, rfl⟩))
      refine (hr _).mono ?_
      rintro e' w2 ⟨b1, v, kept, rfl, own, hkx⟩
      obtain ⟨Av, cv, rfl, _, _, _⟩ := own.shape
      replace own := fhid own
      replace hkx := fhid hkx
      have s0 : PB w2 w.heap.size ⟨#[]⟩ (.slice none 0 0) 0 := (b1.block _ (by simp; omega)).trans (old_at _ _ _ (old_at _ _ _ p0.out (by simp; omega)) (by simp; omega))
      have s1 : FB w2 (w.heap.size + 1) 0 0 := (b1.block _ (by simp)).trans (old_at _ _ _ (old_at _ _ _ p1.out (by simp)) (by simp))
      have s2 : PB w2 (w.heap.size + 1 + 1) (s.extract a (a + j)) (.slice none 0 0) 1 := (b1.block _ (by simp)).trans (old_at _ _ _ (new_at _ _ _ (by simp)) (by simp))
      have s3 : FB w2 (w.heap.size + 1 + 1 + 1) 0 0 := (b1.block _ (by simp)).trans (new_at _ _ _ (by simp))
      have b2 : Below w.heap.size w w2 := (((((Below.refl _ _).alloc (Nat.le_refl _) _).alloc (by simp) _).alloc (by simp; omega) _).alloc (by simp; omega) _).trans (b1.mono (by simp; omega))
      obtain ⟨e0, e1', e2', g0, g1, g2, y2⟩ := s2.facts
      obtain ⟨e3, e4, g3, g4, y3⟩ := s3.facts
      replace s0 := fhid s0
      replace s1 := fhid s1
      replace s2 := fhid s2
      replace s3 := fhid s3
      go_upto_region 10 with fail
      generalize hW : (((w2.setCell ⟨w.heap.size + 1 + 1, 1, none⟩ (.slice Av kept.length cv)).setCell ⟨w.heap.size + 1 + 1, 2, none⟩ (.int .i64 (cntOf xs : Nat))).setCell ⟨w.heap.size + 1 + 1 + 1, 0, none⟩ (.int .i64 0)).setCell ⟨w.heap.size + 1 + 1 + 1, 1, none⟩ (.int .i64 0) = W
      obtain ⟨q0, q1, q2, q3, b3⟩ := sets_facts s0.out s1.out s2.out s3.out hW
      have hbx := b2.trans b3
      have own2 : OwnR W (w.heap.size + 1 + 1 + 1 + 1) (.slice Av kept.length cv) kept := by
        rw [← hW]
        exact own_sets4 (ownsRow_base own.out (by simp)) (by omega)
      replace own2 := fhid own2
      clear own
      clear hW s0 s1 s2 s3 b1 b2 b3 p0 p1 e0 e1' e2' e3 e4 g0 g1 g2 g3 g4
      obtain ⟨c0, c1, c2, f0, f1, f2, z0⟩ := q0.facts
      obtain ⟨c3, c4, f3, f4, z1⟩ := q1.facts
      obtain ⟨c5, c6, c7, f5, f6, f7, z2⟩ := q2.facts
      obtain ⟨c8, c9, f8, f9, z3⟩ := q3.facts
      replace q0 := fhid q0
      replace q1 := fhid q1
      replace q2 := fhid q2
      replace q3 := fhid q3
      go_wp2_with (go_at_call 91; (with_reducible refine (wrong_in s (a + j + 1 + k) _ _ (by omega) hend2).mono ?_); rintro e w3 ⟨rfl, b4⟩
                   obtain ⟨d0, d1, d2, g0, g1, g2, y0⟩ := (q0.out.below b4 z0).facts
                   obtain ⟨d3, d4, g3, g4, y1⟩ := (q1.out.below b4 z1).facts)
      have hby := hbx.trans (b4.mono hbx.size)
      clear hbx
      have hbx := hby
      have zb := hbx.size
      refine bodyPost_ret (v := .tuple #[.agg #[.string ⟨#[]⟩, .slice none 0 0, .int .i64 0], .int .i64 0, .agg #[.int .i64 3, .int .i64 ((a : Int) + j + 1 + k)]]) (by simp [results, Tryz.results59, go_sem, d0, d1, d2, d3, d4]) rfl ⟨?_, by show _ = _; rw [show (a : Int) + j + 1 + k = (a : Int) + ((j + 1 + k : Nat) : Int) by omega]; rfl⟩
      repeat' (first | (with_reducible exact hbx) | (with_reducible apply Below.drew) | (with_reducible apply Below.setCell) | (with_reducible apply Below.alloc))
      all_goals (first | omega | (simp; done) | (simp; omega))
end Go.Proofs.YtjpihophigjbpaaGreatDoor.Hs
/-
  A part, read: all cases together.
-/
namespace Go.Proofs.YtjpihophigjbpaaGreatDoor.Hs
open Go.RowKit

theorem pRanges_bad : ∀ (f : Nat) (r : List UInt8) (e k : Nat), r.length < f → pRanges f r = .bad e k → e ≠ 0
  | 0, r, e, k, hf, _ => absurd hf (Nat.not_lt_zero _)
  | f + 1, r, e, k, hf, h => by
    unfold pRanges at h
    split at h
    · rename_i hp
      injection h with h1 _
      have := pRange_bad hp
      omega
    · split at h
      · simp at h
      · split at h
        · rename_i hc
          have hl := (List.getElem?_eq_some_iff.1 hc).1
          split at h
          · rename_i hq
            injection h with h1 _
            have := pRanges_bad f _ _ _ (by rw [List.length_drop]; omega) hq
            omega
          · simp at h
        · injection h with h1 _
          unfold wrg at h1
          split at h1 <;> omega
theorem tw_take {p : UInt8 → Bool} (r : List UInt8) : r.takeWhile p = r.take (r.takeWhile p).length := List.prefix_iff_eq_take.1 (List.takeWhile_prefix p)
theorem tw_next {p : UInt8 → Bool} (r : List UInt8) (h : (r.takeWhile p).length < r.length) : p r[(r.takeWhile p).length] = false := by
  induction r with
  | nil => simp at h
  | cons x r ih =>
    by_cases hx : p x = true
    · have e : (x :: r).takeWhile p = x :: r.takeWhile p := by rw [List.takeWhile_cons, if_pos hx]
      simp only [e, List.length_cons, List.getElem_cons_succ] at h ⊢
      exact ih (by omega)
    · have e : (x :: r).takeWhile p = [] := by rw [List.takeWhile_cons, if_neg hx]
      simp only [e, List.length_nil, List.getElem_cons_zero]
      simpa using hx
theorem readPart_any (s : ByteArray) (a : Nat) (ai : Int) (w : World) (hai : ai = a) (hs : s.size ≤ 1099511627776) (ha : a ≤ s.size) :
    Calls Tryz.prog 59 #[.string s, .int .i64 ai] w (PartPost w a (pPart ((bl s).drop a))) := by
  subst hai
  have hRl : ((bl s).drop a).length = s.size - a := by rw [List.length_drop, bl_len]
  have hget : ∀ i, (bl s)[a + i]? = ((bl s).drop a)[i]? := fun i => by rw [List.getElem?_drop]
  have hat : ∀ i (h : a + i < s.size), ((bl s).drop a)[i]? = some (s[a + i]'h) := fun i h => by
    rw [List.getElem?_eq_getElem (by omega), drop_get s a i h]
  have hle : (((bl s).drop a).takeWhile isBare).length ≤ ((bl s).drop a).length := (List.takeWhile_prefix isBare).length_le
  have htk := tw_take (p := isBare) ((bl s).drop a)
  have hall : ∀ i (h : a + i < s.size), i < (((bl s).drop a).takeWhile isBare).length → isBare (s[a + i]'h) = true := fun i h hi => by
    have := takeWhile_pre (p := isBare) ((bl s).drop a) i hi (by omega)
    rwa [drop_get s a i h] at this
  have hnext : ∀ h : a + (((bl s).drop a).takeWhile isBare).length < s.size, isBare (s[a + (((bl s).drop a).takeWhile isBare).length]'h) = false := fun h => by
    have := tw_next (p := isBare) ((bl s).drop a) (by omega)
    rwa [drop_get s a _ h] at this
  unfold pPart
  generalize hm : (((bl s).drop a).takeWhile isBare).length = m at *
  by_cases h0 : m = 0
  · have hnil : ((bl s).drop a).takeWhile isBare = [] := List.eq_nil_of_length_eq_zero (by omega)
    rw [if_pos hnil]
    by_cases he : a = s.size
    · exact part_noneA s a w hs ha he
    · have hlt : a + m < s.size := by omega
      have hb := hnext hlt
      subst h0
      exact part_noneB s a w hs ha (by omega) hb
  · have hnn : ((bl s).drop a).takeWhile isBare ≠ [] := fun h => h0 (by rw [← hm, h]; rfl)
    rw [if_neg hnn]
    by_cases he : a + m = s.size
    · have hn : ((bl s).drop a)[m]? = none := List.getElem?_eq_none (by omega)
      rw [if_neg (by rw [hn]; decide)]
      unfold pEnd
      rw [if_pos (.inl hn), htk]
      exact part_endA s a w hs m (by omega) (by omega) hall he (by rw [hget, hn]; decide)
    · have hlt : a + m < s.size := by omega
      have hb := hnext hlt
      have hg := hat m hlt
      by_cases h91 : ((bl s).drop a)[m]? = some 91
      · rw [if_pos h91]
        have hst : (bl s)[a + m]? = some 91 := by rw [hget]; exact h91
        have hdd : ((bl s).drop a).drop (m + 1) = (bl s).drop (a + m + 1) := by rw [List.drop_drop]; rfl
        have hF : s.size - (a + m + 1) < ((bl s).drop a).length + 1 := by omega
        cases hq : pRanges (((bl s).drop a).length + 1) (((bl s).drop a).drop (m + 1)) with
        | bad e k =>
          have hne := pRanges_bad _ _ _ _ (by rw [List.length_drop]; omega) hq
          rw [hdd] at hq
          exact part_ranges_bad s a w hs m (by omega) (by omega) hall hlt hb hst _ hF e k hne hq
        | ok xs k =>
          have hk := (pRanges_ok _ _ _ _ hq).2.1
          rw [List.length_drop] at hk
          rw [hdd] at hq
          show Calls _ _ _ _ (PartPost w a (pEnd ((bl s).drop a) (((bl s).drop a).takeWhile isBare) xs (m + 1 + k)))
          unfold pEnd
          by_cases he2 : a + m + 1 + k = s.size
          · have hn : ((bl s).drop a)[m + 1 + k]? = none := List.getElem?_eq_none (by omega)
            rw [if_pos (.inl hn), htk]
            exact part_ranges_A s a w hs m (by omega) (by omega) hall hlt hb hst _ hF xs k hq he2
          · have hlt2 : a + m + 1 + k < s.size := by omega
            have hg2 := hat (m + 1 + k) (by omega)
            have e : s[a + (m + 1 + k)]'(by omega) = s[a + m + 1 + k]'hlt2 := by congr 1; omega
            rw [e] at hg2
            by_cases h44 : (s[a + m + 1 + k]'hlt2) = 44
            · rw [if_pos (.inr (by rw [hg2, h44])), htk]
              exact part_ranges_B s a w hs m (by omega) (by omega) hall hlt hb hst _ hF xs k hq hlt2 h44
            · rw [if_neg (by rw [hg2]; simpa using h44)]
              exact part_ranges_C s a w hs m (by omega) (by omega) hall hlt hb hst _ hF xs k hq hlt2 h44
      · rw [if_neg h91]
        have hst : ¬ (bl s)[a + m]? = some 91 := by rw [hget]; exact h91
        unfold pEnd
        by_cases h44 : (s[a + m]'hlt) = 44
        · rw [if_pos (.inr (by rw [hg, h44])), htk]
          exact part_endB s a w hs m (by omega) (by omega) hall hlt hb h44 hst
        · rw [if_neg (by rw [hg]; simpa using h44)]
          exact part_bad s a w hs m (by omega) (by omega) hall hlt hb h44 hst
end Go.Proofs.YtjpihophigjbpaaGreatDoor.Hs
/-
  A number's digits, filled up.
-/
namespace Go.Proofs.YtjpihophigjbpaaGreatDoor.Hs
open Go.RowKit

theorem frets {a b : ByteArray} (h : a = b) : Ending.returned (.string a) = .returned (.string b) := by rw [h]
/-- The library's table of powers of ten reads as the program's text lays it. -/
def Tab (w : World) : Prop := Lib.TabIs Tryz.prog w "internal/strconv.uint64pow10" .u64 Lib.pow10Tab
theorem tab_below {w w' : World} (h : Tab w) (hb : Below w.heap.size w w') : Tab w' := ((Lib.tabBelow_of_tabIs h).on hb).here
theorem below_grow (w : World) (k : Nat) (os : Array Obj) : Below w.heap.size w (Go.Sort.grow (w.drewN k) os) :=
  ⟨rfl, rfl, rfl, by show _ ≤ (w.heap ++ os).size; rw [Array.size_append]; omega, fun j hj => by
    show (w.heap ++ os)[j]? = _
    rw [Array.getElem?_append_left hj]⟩
theorem str_app (a b : List UInt8) : str a ++ str b = str (a ++ b) := by
  apply ByteArray.ext
  simp [str]
theorem repeat_nought (c : Nat) : Lib.repeatL [48] c = List.replicate c 48 := by
  induction c with
  | zero => rfl
  | succ c ih => rw [Lib.repeatL, ih]; rfl
theorem itoa_any (n : Nat) (w : World) (hT : Tab w) (hn : n ≤ 1000000000) : Calls Tryz.prog 26 #[.int .i64 n] w fun e w' => e = .returned (.string (str (dec n))) ∧ Below w.heap.size w w' := by
  refine (Tryz.strconv_Itoa n (by omega) (by omega) w hT).mono ?_
  rintro e w' ⟨rfl, k, os, rfl⟩
  refine ⟨?_, below_grow w k os⟩
  rw [Lib.itoa_nonneg]
  rfl
theorem noughts_any (c : Nat) (ci : Int) (w : World) (hci : ci = c) (hc : c ≤ 1000) : Calls Tryz.prog 134 #[.string ⟨#[48]⟩, .int .i64 ci] w fun e w' => e = .returned (.string (str (List.replicate c 48))) ∧ Below w.heap.size w w' := by
  subst hci
  have h := Tryz.strings_Repeat ⟨#[48]⟩ c w (by omega) (by show 1 * c ≤ _; omega)
  rw [show (⟨#[48]⟩ : ByteArray).data.toList = [48] from rfl, repeat_nought] at h
  exact h
set_option maxHeartbeats 400000 in
theorem digits_any (n wd : Nat) (w : World) (hT : Tab w) (hn : n ≤ 1000000000) (hw : wd ≤ 1000) : Calls Tryz.prog 94 #[.int .i64 n, .int .i64 wd] w fun e w' => e = .returned (.string (str (dig n wd))) ∧ Below w.heap.size w w' := by
  have h1 := itoa_any n w hT hn
  have h2 := fun (ci : Int) (hci : ci = ((wd - (dec n).length : Nat) : Int)) W => noughts_any (wd - (dec n).length) ci W hci (by omega)
  have hl : (dec n).length ≤ 10 := dec_len_le 10 n (by omega) (by omega)
  have hsz := str_size (dec n)
  have hd := fhid (show str (List.replicate (wd - (dec n).length) 48) ++ str (dec n) = str (dig n wd) by rw [str_app]; rfl)
  have i1 : ((dec n).length : Int) ≤ 10 := by omega
  have i2 : (wd : Int) ≤ 1000 := by omega
  have i3 : (0 : Int) ≤ wd := by omega
  have i4 : (0 : Int) ≤ (dec n).length := by omega
  clear hT hl hn hw
  have h3 := h2 (max ((wd : Int) - ((dec n).length : Nat)) 0) (by omega)
  clear h2
  have hN : ¬ 9223372036854775807 < (str (List.replicate (wd - (dec n).length) (48 : UInt8))).size + (dec n).length := by rw [str_size, List.length_replicate]; omega
  generalize str (List.replicate (wd - (dec n).length) (48 : UInt8)) = t2 at *
  generalize str (dig n wd) = t at *
  go_enter Tryz.func94, Tryz.ntmps94
  go_wp2_with (first
    | (go_at_call 26; (with_reducible refine h1.mono ?_); rintro e w1 ⟨rfl, b1⟩)
    | (go_at_call 134; (with_reducible refine (h3 _).mono ?_); rintro e w2 ⟨rfl, b2⟩))
  go_ret
  exact ⟨frets hd.out, b1.trans (b2.mono b1.size)⟩
end Go.Proofs.YtjpihophigjbpaaGreatDoor.Hs
/-
  A part's names.
-/
namespace Go.Proofs.YtjpihophigjbpaaGreatDoor.Hs
open Go.RowKit

theorem keep_block {w w' : World} {base b n : Nat} {T : TypeId} {v : Value} {xs : List Value} {cs : Array Value} {fr : Nat × Nat} (h : w.heap[b]? = some (.cells cs T fr)) (g : w.grownBy w' v.ownBlock) (ho : w.ownsRow base 9 1 v n xs) (hT : T ≠ 9) : w'.heap[b]? = some (.cells cs T fr) :=
  (g.block b (lt_of_block h) (own_tag ho h hT)).trans h
def SB (w : World) (b : Nat) (x0 x1 x2 : Int) : Prop := w.heap[b]? = some (.cells #[.int .i64 x0, .int .i64 x1, .int .i64 x2] 148 (0, 0))
theorem SB.facts {w : World} {b : Nat} {x0 x1 x2 : Int} (h : SB w b x0 x1 x2) : w.cell? ⟨b, 0, none⟩ = some (.int .i64 x0) ∧ w.cell? ⟨b, 1, none⟩ = some (.int .i64 x1) ∧ w.cell? ⟨b, 2, none⟩ = some (.int .i64 x2) ∧ b < w.heap.size := by
  unfold SB at h
  exact ⟨by simp [World.cell?, h], by simp [World.cell?, h], by simp [World.cell?, h], lt_of_block h⟩
theorem SB.below {w w' : World} {B b : Nat} {x0 x1 x2 : Int} (h : SB w b x0 x1 x2) (hb : Below B w w') (hB : b < B) : SB w' b x0 x1 x2 := (hb.block b hB).trans h
/-- One name more, inside a region that draws its order. -/
theorem step_name {w : World} {ops : Array Oper} {o : Oper} {a : Act} {K : Act → World → Prop} {Q : Exit → Act → World → Prop} {E : Prop} (hgd : o.guard = none) (s x : Operand) (ho : o.op = .call { callee := .builtin .append, args := #[s, x], argTypes := #[51, 51] })
    (base : Nat) (v : Value) (ns : List (List UInt8)) (n : List UInt8) (S : ByteArray) (hS : S = str n) (w0 : World) (hs : a.eval s = v) (hown : OwnS w0 base v ns)
    (hw : w = w0.alloc (.cells #[.string S] 9)) (g : Nat) (hg : g = w0.heap.size) (hx : a.eval x = .slice (some ⟨g, 0, none⟩) 1 1) (hlen : ns.length ≤ 1048576) (hbase : base ≤ w0.heap.size)
    (h : ∀ v' w', OwnS w' base v' (ns ++ [n]) → w0.grownBy w' v.ownBlock → Below base w0 w' → K (a.put o.dst v') w') : if Region.wanted o (yielded ops a.tmps) = true then Oper.wp Tryz.prog o a w K Q else E := by
  have hwt : Region.wanted o (yielded ops a.tmps) = true := by simp [Region.wanted, hgd]
  rw [if_pos hwt]
  subst hS
  subst hw
  subst hg
  obtain ⟨i0, hi, hz0, hz1, hz2⟩ := info_parts infoString
  obtain ⟨v', w', hrun, h2, h3, _, _⟩ := run_append_own_at (P := Tryz.prog) (w0.alloc (.cells #[.string (str n)] 9)) base 51 o.type 9 i0 (.string ⟨#[]⟩) 1 16 Tryz.underlying51 hi hz0 hz1 hz2 rfl (by decide) v ns.length (SV ns) (World.ownsRow.alloc hown _) ⟨w0.heap.size, 0, none⟩ 1 1 [.string (str n)] rfl
    (fun j u hj => by
      cases j with
      | zero =>
        have : u = .string (str n) := by simpa using hj.symm
        subst this
        show (w0.alloc _).cell? ⟨w0.heap.size, 0, none⟩ = _
        simp
      | succ j => simp at hj)
    (fun u hu => by simp at hu; subst hu; rfl) (by unfold maxLen; omega) (by omega) (by rw [World.size_alloc]; omega)
  have hb : Below base w0 w' := ((Below.refl _ _).alloc hbase _).trans ((Below.refl _ _).grown h3 (by rw [World.size_alloc]; omega) (fun k hk => ownsRow_ge hown k hk))
  unfold Oper.wp
  simp [execOp, ho, resolve, invoke, builtin, hs, hx, hrun, Result.andThen]
  refine h v' w' ?_ ⟨h3.os, h3.tape, h3.output, Nat.le_trans (by rw [World.size_alloc]; omega) h3.size, fun k hk hne => (h3.block k (by rw [World.size_alloc]; omega) hne).trans (Below.heap_alloc _ _ _ hk)⟩ hb
  unfold OwnS
  rw [SV_app, List.length_append]
  exact h2
/-- A part's names, in memory of the call's own. -/
def NamesPost (w : World) (ns : List (List UInt8)) (e : Ending) (w' : World) : Prop := ∃ v, e = .returned v ∧ OwnS w' w.heap.size v ns ∧ Below w.heap.size w w'
theorem one_own (w : World) (base : Nat) (S : ByteArray) (p : List UInt8) (hS : S = str p) (h : base ≤ w.heap.size) (g : Nat) (hg : g = w.heap.size) : OwnS (w.alloc (.cells #[.string S] 9)) base (.slice (some ⟨g, 0, none⟩) 1 1) [p] := by
  subst hS
  subst hg
  exact ⟨rfl, .inr ⟨w.heap.size, 1, #[.string (str p)], rfl, h, heap_alloc_new w _, Nat.le_refl _, by unfold maxLen; omega, rfl, rfl⟩⟩
set_option maxRecDepth 100000 in
set_option maxHeartbeats 1000000 in
theorem names_one (p : List UInt8) (A : Option Addr) (cap : Nat) (cnt : Int) (w : World) :
    Calls Tryz.prog 60 #[.agg #[.string (str p), .slice A 0 cap, .int .i64 cnt]] w (NamesPost w [p]) := by
  obtain ⟨S, hS⟩ : ∃ S, str p = S := ⟨_, rfl⟩
  rw [hS]
  replace hS := fhid hS
  go_enter Tryz.func60, Tryz.ntmps60
  go_wp2
  go_ret
  exact ⟨_, rfl, one_own _ _ S p hS.out.symm (by simp) _ (by simp), ((Below.refl _ _).alloc (Nat.le_refl _) _).alloc (by simp) _⟩
theorem names_take (p : List UInt8) (rs : List (Nat × Nat × Nat)) (k : Nat) (h : k < rs.length) : (rs.take (k + 1)).flatMap (spanNames p) = (rs.take k).flatMap (spanNames p) ++ spanNames p rs[k] := by
  rw [List.take_succ_eq_append_getElem h, List.flatMap_append, List.flatMap_cons, List.flatMap_nil, List.append_nil]
theorem names_le (p : List UInt8) (rs : List (Nat × Nat × Nat)) (k : Nat) : ((rs.take k).flatMap (spanNames p)).length ≤ cntOf rs := by
  have h : (rs.flatMap (spanNames p)).length = cntOf rs := by
    unfold cntOf
    rw [List.length_flatMap]
    congr 1
    exact List.map_congr_left fun x _ => by unfold spanNames spanCount; simp
  rw [← h]
  conv => rhs; rw [← List.take_append_drop k rs]
  rw [List.flatMap_append, List.length_append]
  omega
theorem digits_at (n wd : Nat) (ni : Int) (w : World) (hT : Tab w) (hni : ni = n) (hn : n ≤ 1000000000) (hw : wd ≤ 1000) : Calls Tryz.prog 94 #[.int .i64 ni, .int .i64 wd] w fun e w' => e = .returned (.string (str (dig n wd))) ∧ Below w.heap.size w w' := by
  subst hni
  exact digits_any n wd w hT hn hw
set_option maxRecDepth 100000 in
set_option maxHeartbeats 4000000 in
theorem names_many (p : List UInt8) (A : Option Addr) (cap : Nat) (rs : List (Nat × Nat × Nat)) (cnt : Int) (w : World) (hT : Tab w) (hr : SegC w w.heap.size A (RV rs)) (h0 : rs ≠ []) (hb : ∀ x ∈ rs, x.1 ≤ x.2.1 ∧ x.2.1 < 1000000 ∧ x.2.2 ≤ 6)
    (hc : cntOf rs ≤ 256) (hp : p.length ≤ 1099511627776) (hn : rs.length ≤ 256) :
    Calls Tryz.prog 60 #[.agg #[.string (str p), .slice A rs.length cap, .int .i64 cnt]] w (NamesPost w (rs.flatMap (spanNames p))) := by
  obtain ⟨S, hS⟩ : ∃ S, str p = S := ⟨_, rfl⟩
  have hSz : S.size ≤ 1099511627776 := by rw [← hS, str_size]; exact hp
  rw [hS]
  have hl : ¬ (rs.length : Int) = 0 := by
    intro h
    exact h0 (List.eq_nil_of_length_eq_zero (by omega))
  have hl2 : ((rs.length : Int) == 0) = false := by simpa using hl
  replace hS := fhid hS
  replace hT := fhid hT
  replace hr := fhid hr
  replace hb := fhid hb
  replace hc := fhid hc
  clear h0
  go_enter Tryz.func60, Tryz.ntmps60
  go_wp2
  go_loopw [3, 17] (fun s3 i wr => ∃ k : Nat, k ≤ rs.length ∧ i = .int .i64 k ∧ OwnS wr (w.heap.size + 1) s3 ((rs.take k).flatMap (spanNames p)) ∧ PB wr w.heap.size S (.slice A rs.length cap) cnt ∧ Below w.heap.size w wr) (fun _ i _ => rs.length - (intOf i).toNat)
  case atStart => exact ⟨0, Nat.zero_le _, rfl, OwnS.nil _ _, heap_alloc_new w _, (Below.refl _ _).alloc (Nat.le_refl _) _⟩
  case round =>
    obtain ⟨k, hk, rfl, hown, hpb, hB⟩ := hrel
    have hsz := hB.size
    by_cases hlt : k < rs.length
    · have hsn := fhid (names_take p rs k hlt)
      have hle := names_le p rs (k + 1)
      rw [hsn.out, List.length_append] at hle
      have hbk := hb.out rs[k] (List.getElem_mem hlt)
      obtain ⟨b, o, rfl, hbb, hcell⟩ := hr.out (by rw [RV_len]; omega)
      obtain ⟨g0, g1, g2⟩ := RV_get rs k hlt
      have rv := RV_len rs
      obtain ⟨⟨x0, x1, x2⟩, hx⟩ : ∃ x, rs[k] = x := ⟨_, rfl⟩
      rw [hx] at hsn hle hbk g0 g1 g2
      simp only at hbk g0 g1 g2
      have cell : ∀ i v, (RV rs)[i]? = some v → wr.cell? ⟨b, o + i, none⟩ = some v := fun i v h => by
        obtain ⟨hi, rfl⟩ := List.getElem?_eq_some_iff.1 h
        exact (hB.cell (p := ⟨b, o + i, none⟩) hbb).trans (hcell i hi)
      have c0 := cell _ _ g0
      have c1 := cell _ _ g1
      have c2 := cell _ _ g2
      rw [show 3 * k = k * 3 by omega] at c0 c1 c2
      have c1' : wr.cell? ⟨b, o + k * 3 + 1, none⟩ = some (.int .i64 x1) := by rw [Nat.add_assoc]; exact c1
      have c2' : wr.cell? ⟨b, o + k * 3 + 2, none⟩ = some (.int .i64 x2) := by rw [Nat.add_assoc]; exact c2
      have q0 := hpb.facts
      have i1 : (k : Int) < rs.length := by omega
      have i0 : (0 : Int) ≤ k := by omega
      clear cell g0 g1 g2 rv hcell c1 c2 hx
      obtain ⟨pre, hpre⟩ : ∃ pre, (rs.take k).flatMap (spanNames p) = pre := ⟨_, rfl⟩
      rw [hpre] at hsn hown hle
      have hsl : (spanNames p (x0, x1, x2)).length = x1 + 1 - x0 := by simp [spanNames]
      have hlen : pre.length + (x1 + 1 - x0) ≤ 256 := by have := hc.out; omega
      obtain ⟨hx01, hx1, hx2⟩ := hbk
      have j0 : (0 : Int) ≤ x0 := by omega
      have j1 : (x0 : Int) ≤ x1 := by omega
      have j2 : (x1 : Int) < 1000000 := by omega
      replace hpre := fhid hpre
      replace hown := fhid hown
      replace hsl := fhid hsl
      obtain ⟨pc0, pc1, pc2, _, _, _, pz⟩ := q0
      replace hpb := fhid hpb
      obtain ⟨wo, rfl⟩ : ∃ wo : World, wo = wr := ⟨_, rfl⟩
      go_wp2_with fail
      go_loopw [3, 6] (fun s3 s6 wi => ∃ t : Nat, t ≤ x1 + 1 - x0 ∧ s6 = .int .i64 ((x0 : Int) + (t : Int)) ∧ OwnS wi (w.heap.size + 1) s3 (pre ++ (List.range t).map fun i => p ++ dig (x0 + i) x2) ∧ PB wi w.heap.size S (.slice (some ⟨b, o, none⟩) rs.length cap) cnt ∧ SB wi wo.heap.size x0 x1 x2 ∧ Below w.heap.size w wi) (fun _ s6 _ => x1 + 1 - (intOf s6).toNat)
      case atStart =>
        refine ⟨0, Nat.zero_le _, by simp, ?_, hpb.out.below ((Below.refl _ _).alloc (Nat.le_refl _) _) pz, heap_alloc_new wo _, hB.alloc hsz _⟩
        rw [List.range_zero, List.map_nil, List.append_nil]
        exact hown.out.below ((Below.refl _ _).alloc (Nat.le_refl _) _)
      case round =>
        obtain ⟨t, ht, rfl, ho, hpi, hsi, hBi⟩ := hrel
        have hszi := hBi.size
        obtain ⟨d0, d1, d2, dz⟩ := hsi.facts
        obtain ⟨e0, e1, e2, _, _, _, ez⟩ := hpi.facts
        have ht0 : (0 : Int) ≤ t := by omega
        have ht1 : (t : Int) ≤ 1000000 := by omega
        clear c0 c1' c2' pc0 pc1 pc2
        by_cases htl : t < x1 + 1 - x0
        · have hle2 : (x0 : Int) + t ≤ x1 := by omega
          have hdg := fun W (hW : Below w.heap.size w W) => digits_at (x0 + t) x2 ((x0 : Int) + (t : Int)) W (tab_below hT.out hW) (by omega) (by omega) (by omega)
          obtain ⟨D, hD⟩ : ∃ D, str (dig (x0 + t) x2) = D := ⟨_, rfl⟩
          rw [hD] at hdg
          have hDl : D.size ≤ 1000 := by
            rw [← hD, str_size, dig_len]
            have := dec_len_le 10 (x0 + t) (by omega) (by omega)
            omega
          have hN : ¬ 9223372036854775807 < S.size + D.size := by omega
          have hN0 := fhid hN
          have hSD : S ++ D = str (p ++ dig (x0 + t) x2) := by rw [← hS.out, ← hD, str_app]
          obtain ⟨Q, hQ⟩ : ∃ Q, str (p ++ dig (x0 + t) x2) = Q := ⟨_, rfl⟩
          rw [hQ] at hSD
          replace hQ := fhid hQ
          have hol : (pre ++ (List.range t).map fun i => p ++ dig (x0 + i) x2).length ≤ 1048576 := by simp; omega
          have hnx := fhid (show (pre ++ (List.range (t + 1)).map fun i => p ++ dig (x0 + i) x2) = (pre ++ (List.range t).map fun i => p ++ dig (x0 + i) x2) ++ [p ++ dig (x0 + t) x2] by rw [List.range_succ, List.map_append, List.append_assoc]; rfl)
          clear hD hDl
          generalize (pre ++ (List.range t).map fun i => p ++ dig (x0 + i) x2) = cur at *
          replace ho := fhid ho
          replace hpi := fhid hpi
          replace hsi := fhid hsi
          replace hol := fhid hol
          clear hN
          have hN : ¬ 9223372036854775807 < S.size + D.size := hN0.out
          replace hlen := fhid hlen
          replace hSz := fhid hSz
          replace htl := fhid htl
          replace ht := fhid ht
          replace hle := fhid hle
          have zz : Below wr.heap.size wr wr.drew := (Below.refl _ _).drew
          replace hx1 := fhid hx1
          replace hx2 := fhid hx2
          replace hn := fhid hn
          replace hp := fhid hp
          go_upto_region 10 with fail
          go_region_law (first
            | (refine step_name rfl _ _ rfl (w.heap.size + 1) _ cur _ _ hQ.out.symm _ rfl (ho.out.below zz) rfl _ (by first | rfl | simp) rfl hol.out (by have := zz.size; omega) ?_
               intro v3 w3 o3 g3 b3)
            | (go_simp
               go_at_call 94
               (with_reducible refine (hdg _ (hBi.trans (zz.mono hszi))).mono ?_)
               rintro e u1 ⟨rfl, b1⟩
               have zz := zz.trans (b1.mono zz.size)
               obtain ⟨d0, d1, d2, _⟩ := (hsi.out.below zz dz).facts
               obtain ⟨e0, e1, e2, _, _, _, _⟩ := (hpi.out.below zz ez).facts))
          all_goals
            go_wp2_with fail
            go_roundw
            case rel =>
              have k1 : PB w3 w.heap.size S (.slice (some ⟨b, o, none⟩) rs.length cap) cnt := keep_block (hpi.out.below zz ez) g3 (ho.out.below zz) (by decide)
              have k2 : SB w3 wo.heap.size x0 x1 x2 := keep_block (hsi.out.below zz dz) g3 (ho.out.below zz) (by decide)
              exact ⟨t + 1, by have := htl.out; omega, by rw [show (x0 : Int) + t + 1 = (x0 : Int) + ((t + 1 : Nat) : Int) by omega], by rw [hnx.out]; exact o3, k1, k2, (hBi.trans (zz.mono hszi)).trans (b3.mono (by omega))⟩
            case measure => have := htl.out; simp [intOf]; omega
        · have hle2 : ¬ (x0 : Int) + t ≤ x1 := by omega
          have hte : t = x1 + 1 - x0 := by omega
          have hfin := fhid (show (rs.take (k + 1)).flatMap (spanNames p) = pre ++ (List.range t).map fun i => p ++ dig (x0 + i) x2 by rw [hsn.out, hte]; rfl)
          clear hte
          replace ho := fhid ho
          replace hpi := fhid hpi
          go_wp2_with fail
          go_roundw
          case rel => exact ⟨k + 1, by omega, by go_num, by rw [hfin.out]; exact ho.out, hpi.out, hBi⟩
          case measure => simp [intOf]; omega
    · obtain rfl : k = rs.length := by omega
      have i1 : ¬ (rs.length : Int) < rs.length := by omega
      rw [List.take_length] at hown
      replace hown := fhid hown
      go_wp2_with fail
      go_ret
      exact ⟨_, rfl, hown.out.base (by omega), hB⟩
end Go.Proofs.YtjpihophigjbpaaGreatDoor.Hs
/-
  Expand, walked.
-/
namespace Go.Proofs.YtjpihophigjbpaaGreatDoor.Hs
open Go.RowKit

theorem cnt_ge (rs : List (Nat × Nat × Nat)) (hb : ∀ x ∈ rs, x.1 ≤ x.2.1) : rs.length ≤ cntOf rs := by
  induction rs with
  | nil => exact Nat.zero_le _
  | cons x r ih =>
    have h1 := hb x (by simp)
    have h2 := ih (fun y hy => hb y (by simp [hy]))
    have : cntOf (x :: r) = spanCount x + cntOf r := by simp [cntOf]
    have : spanCount x = x.2.1 + 1 - x.1 := rfl
    rw [List.length_cons]; omega
theorem names_any (p : List UInt8) (A : Option Addr) (cap : Nat) (rs : List (Nat × Nat × Nat)) (cnt : Int) (w : World) (hT : Tab w) (hr : SegC w w.heap.size A (RV rs)) (hb : ∀ x ∈ rs, x.1 ≤ x.2.1 ∧ x.2.1 < 1000000 ∧ x.2.2 ≤ 6)
    (hc : partCount rs ≤ 256) (hp : p.length ≤ 1099511627776) :
    Calls Tryz.prog 60 #[.agg #[.string (str p), .slice A rs.length cap, .int .i64 cnt]] w (NamesPost w (partNames p rs)) := by
  by_cases h0 : rs = []
  · subst h0
    exact names_one p A cap cnt w
  · unfold partCount at hc
    rw [if_neg h0] at hc
    unfold partNames
    rw [if_neg h0]
    exact names_many p A cap rs cnt w hT hr h0 hb hc hp (by have := cnt_ge rs (fun x hx => (hb x hx).1); unfold cntOf at this; omega)
theorem pPart_bad {r : List UInt8} {e k : Nat} (h : pPart r = .bad e k) : e ≠ 0 := by
  unfold pPart at h
  split at h
  · injection h with h1 _
    unfold wrg at h1
    split at h1 <;> omega
  · split at h
    · split at h
      · rename_i hq
        injection h with h1 _
        have := pRanges_bad _ _ _ _ (by rw [List.length_drop]; omega) hq
        omega
      · unfold pEnd at h
        split at h
        · simp at h
        · injection h with h1 _; omega
    · unfold pEnd at h
      split at h
      · simp at h
      · injection h with h1 _; omega
/-- What Expand hands back. -/
def ExpPost (w : World) (R : List (List UInt8) × Nat × Nat) (e : Ending) (w' : World) : Prop := ∃ v, e = .returned (.tuple #[v, .agg #[.int .i64 R.2.1, .int .i64 R.2.2]]) ∧ OwnS w' w.heap.size v R.1 ∧ Below w.heap.size w w'
theorem own_fset {w : World} {b : Nat} {v : Value} {ns : List (List UInt8)} {u0 u1 : Value} (h : OwnS w (b + 1) v ns) : OwnS ((w.setCell ⟨b, 0, none⟩ u0).setCell ⟨b, 1, none⟩ u1) b v ns := by
  refine ⟨h.1, ?_⟩
  rcases h.2 with ⟨rfl, hn⟩ | ⟨g, cap, cur, rfl, hg, hh, rest⟩
  · exact .inl ⟨rfl, hn⟩
  · exact .inr ⟨g, cap, cur, rfl, by omega, block_other _ _ (block_other _ _ hh (by omega)) (by omega), rest⟩
theorem exp_bad {f a : Nat} {r : List UInt8} {ns : List (List UInt8)} {e k : Nat} (hp : pPart r = .bad e k) : pExpand (f + 1) a r ns = ([], e, a + k) := by
  unfold pExpand; rw [hp]
theorem exp_many {f a : Nat} {r : List UInt8} {ns : List (List UInt8)} {x : List UInt8 × List (Nat × Nat × Nat)} {k : Nat} (hp : pPart r = .ok x k) (h : 256 < ns.length + partCount x.2) : pExpand (f + 1) a r ns = ([], 5, a) := by
  unfold pExpand; rw [hp]; simp only; rw [if_pos h]
theorem exp_end {f a : Nat} {r : List UInt8} {ns : List (List UInt8)} {x : List UInt8 × List (Nat × Nat × Nat)} {k : Nat} (hp : pPart r = .ok x k) (h : ¬ 256 < ns.length + partCount x.2) (hk : k = r.length) : pExpand (f + 1) a r ns = (ns ++ partNames x.1 x.2, 0, 0) := by
  unfold pExpand; rw [hp]; simp only; rw [if_neg h, if_pos hk]
theorem exp_more {f a : Nat} {r : List UInt8} {ns : List (List UInt8)} {x : List UInt8 × List (Nat × Nat × Nat)} {k : Nat} (hp : pPart r = .ok x k) (h : ¬ 256 < ns.length + partCount x.2) (hk : ¬ k = r.length) : pExpand (f + 1) a r ns = pExpand f (a + k + 1) (r.drop (k + 1)) (ns ++ partNames x.1 x.2) := by
  conv => lhs; unfold pExpand
  rw [hp]; simp only; rw [if_neg h, if_neg hk]
set_option maxRecDepth 100000 in
set_option maxHeartbeats 400000 in
theorem Expand_none (s : ByteArray) (w : World) (h : bl s = []) : Calls Tryz.prog 40 #[.string s] w (ExpPost w ([], 0, 0)) := by
  have h1 : s.toList = [] := by rw [ByteArray.toList_eq]; exact h
  clear h
  go_enter Tryz.func40, Tryz.ntmps40
  go_wp2
  refine bodyPost_ret (v := .tuple #[.slice none 0 0, .agg #[.int .i64 0, .int .i64 0]]) (by simp [results, Tryz.results40, go_sem]) rfl ⟨_, rfl, OwnS.nil _ _, ?_⟩
  exact (Below.refl _ _).alloc (Nat.le_refl _) _
set_option maxRecDepth 100000 in
set_option maxHeartbeats 4000000 in
theorem Expand_some (s : ByteArray) (w : World) (hT : Tab w) (hs : s.size ≤ 1099511627776) (h0 : bl s ≠ []) : Calls Tryz.prog 40 #[.string s] w (ExpPost w (pExpand (s.size + 1) 0 (bl s) [])) := by
  have h1 : ¬ s.toList = [] := by rw [ByteArray.toList_eq]; exact h0
  have h2 : s.toList.isEmpty = false := by simpa using h1
  have hrp := fun a W (h : a ≤ s.size) => readPart_any s a a W rfl hs h
  obtain ⟨C, hC⟩ : ∃ C, pExpand (s.size + 1) 0 (bl s) [] = C := ⟨_, rfl⟩
  rw [hC]
  replace hC := fhid hC
  replace hT := fhid hT
  replace hrp := fhid hrp
  clear h0
  go_enter Tryz.func40, Tryz.ntmps40
  go_wp2
  go_loopw [4, 5] (fun s4 s5 wr => ∃ (a f : Nat) (ns : List (List UInt8)), s5 = .int .i64 (a : Int) ∧ a ≤ s.size ∧ s.size - a < f ∧ C = pExpand f a ((bl s).drop a) ns ∧ OwnS wr (w.heap.size + 1) s4 ns ∧ ns.length ≤ 256 ∧ FBox wr w.heap.size ∧ Below w.heap.size w wr) (fun _ s5 _ => s.size + 1 - (intOf s5).toNat)
  case atStart => exact ⟨0, s.size + 1, [], rfl, Nat.zero_le _, by omega, by rw [← hC.out]; rfl, OwnS.nil _ _, by simp, FBox.new w, (Below.refl _ _).alloc (Nat.le_refl _) _⟩
  case round =>
    obtain ⟨a, f, ns, rfl, ha, hf, hfin, hown, hnl, hbx0, hB⟩ := hrel
    cases f with
    | zero => exact absurd hf (Nat.not_lt_zero _)
    | succ f =>
    have hsz := hB.size
    have hcall := hrp.out a wr ha
    have hRl : ((bl s).drop a).length = s.size - a := by rw [List.length_drop, bl_len]
    have z0 := hbx0.facts.2.2.2.2
    have i0 : (0 : Int) ≤ a := by omega
    have i1 : (a : Int) ≤ 1099511627776 := by omega
    have i2 : (s.size : Int) ≤ 1099511627776 := by omega
    have i3 : (ns.length : Int) ≤ 256 := by omega
    have i4 : (0 : Int) ≤ ns.length := by omega
    obtain ⟨An, cn, rfl, _, _, _⟩ := hown.shape
    replace hfin := fhid hfin
    replace hown := fhid hown
    replace hbx0 := fhid hbx0
    replace hnl := fhid hnl
    cases hp : pPart ((bl s).drop a) with
    | bad e k =>
      rw [hp] at hcall
      have E := fhid (hfin.out.trans (exp_bad hp))
      have he := pPart_bad hp
      have e1 : ((e : Int) != 0) = true := by simpa using he
      have e2 : ¬ (e : Int) = 0 := by omega
      clear hp he
      go_wp2_with fail
      refine hcall.mono ?_
      rintro e' w1 ⟨b1, rfl⟩
      have hbx := hB.trans (b1.mono hsz)
      obtain ⟨c0, c1, f0, f1, y0⟩ := (hbx0.out.below b1 z0).facts
      have n0 := Nat.ne_of_lt y0
      clear b1
      go_wp2_with fail
      go_region
      go_wp2_with fail
      have zb := hbx.size
      refine bodyPost_ret (v := .tuple #[.slice none 0 0, .agg #[.int .i64 e, .int .i64 ((a : Int) + k)]]) (by simp [results, Tryz.results40, go_sem, c0, c1, y0]) rfl ⟨_, by rw [E.out]; simp; rfl, by rw [E.out]; exact OwnS.nil _ _, ?_⟩
      repeat' (first | (with_reducible exact hbx) | (with_reducible apply Below.drew) | (with_reducible apply Below.setCell) | (with_reducible apply Below.alloc))
      all_goals (first | omega | (simp; done) | (simp; omega))
    | ok x k =>
      obtain ⟨p, rs⟩ := x
      rw [hp] at hcall
      obtain ⟨k1, k2, hbare, hpl, hrs⟩ := pPart_ok hp
      have hpl2 : p.length ≤ 1099511627776 := by omega
      have j0 : (0 : Int) ≤ k := by omega
      have j1 : (k : Int) ≤ 1099511627776 := by omega
      replace hrs := fhid hrs
      replace hpl2 := fhid hpl2
      go_wp2_with fail
      refine hcall.mono ?_
      rintro e' w1 ⟨b1, v, kept, rfl, own, hkx⟩
      obtain ⟨Av, cv, rfl, _, _, hseg⟩ := own.shape
      have hbx := hB.trans (b1.mono hsz)
      have hb2 := hbx0.out.below b1 z0
      obtain ⟨c0, c1, f0, f1, y0⟩ := hb2.facts
      have n0 := Nat.ne_of_lt y0
      have hown1 := fhid (hown.out.below b1)
      replace hb2 := fhid hb2
      replace hkx := fhid hkx
      replace hseg := fhid hseg
      clear b1 own hcall
      by_cases hmany : 256 < ns.length + partCount rs
      · have E := fhid (hfin.out.trans (exp_many hp hmany))
        have t1 : (partCount rs : Int) > 256 - ns.length := by omega
        clear hp hmany
        generalize partCount rs = cnt at *
        go_wp2_with fail
        have zb := hbx.size
        refine bodyPost_ret (v := .tuple #[.slice none 0 0, .agg #[.int .i64 5, .int .i64 (a : Int)]]) (by simp [results, Tryz.results40, go_sem, c0, c1, y0]) rfl ⟨_, by rw [E.out]; rfl, by rw [E.out]; exact OwnS.nil _ _, ?_⟩
        repeat' (first | (with_reducible exact hbx) | (with_reducible apply Below.drew) | (with_reducible apply Below.setCell) | (with_reducible apply Below.alloc))
        all_goals (first | omega | (simp; done) | (simp; omega))
      · have t1 : ¬ (partCount rs : Int) > 256 - ns.length := by omega
        have hke := hkx.out (by show partCount rs ≤ 256; omega)
        simp only at hke
        subst hke
        have hpc : partCount kept ≤ 256 := by omega
        have hnn : (partNames p kept).length + ns.length ≤ 256 := by rw [partNames_length]; omega
        have hmk := fhid hmany
        have hnm := fun W (b : Below w1.heap.size w1 W) => names_any p Av cv kept (partCount kept : Nat) W (tab_below hT.out (hbx.trans (b.mono hbx.size))) ((hseg.out.below b).more b.size) hrs.out hpc hpl2.out
        replace hnm := fhid hnm
        replace hpc := fhid hpc
        replace hnn := fhid hnn
        by_cases hkl : k = ((bl s).drop a).length
        · have E := fhid (hfin.out.trans (exp_end hp hmany hkl))
          have t2 : ((a : Int) + k == (s.size : Int)) = true := by simp; omega
          clear hmany hp hkl
          go_wp2_with (first
            | (go_at_call 60
               (with_reducible refine (hnm.out _ (((Below.refl _ _).alloc (Nat.le_refl _) _).alloc (by simp) _)).mono ?_)
               rintro e2 w2 ⟨v2, rfl, o2, b2⟩
               obtain ⟨A2, c2, rfl, _, _, s2⟩ := o2.shape
               have y2 : Below w1.heap.size w1 w2 := (((Below.refl _ _).alloc (Nat.le_refl _) _).alloc (by simp) _).trans (b2.mono (by simp; omega))
               clear o2 b2)
            | (at_builtin
               refine app_names rfl _ _ rfl (w.heap.size + 1) _ ns rfl (hown1.out.below y2) _ A2 (partNames p kept) c2 rfl s2 (fun h => by subst h; exact Strs.none_ s2) (by have := hnn.out; omega) (by have := y2.size; omega) ?_
               intro v3 w3 o3 g3 b3
               have hx3 := y2.size
               have b4 : FBox w3 w.heap.size := (hb2.out.below y2 y0).below b3 (by omega)
               have b5 : Below w.heap.size w w3 := (hbx.trans (y2.mono hbx.size)).trans (b3.mono (by omega))
               obtain ⟨d0, d1, g0, g1, z3⟩ := b4.facts
               have m0 := Nat.ne_of_lt z3
               obtain ⟨A3, c3, rfl, _, _, _⟩ := o3.shape
               have o3 := fhid o3))
          have zb := b5.size
          refine bodyPost_ret (v := .tuple #[.slice A3 (ns ++ partNames p kept).length c3, .agg #[.int .i64 0, .int .i64 0]]) (by simp [results, Tryz.results40, go_sem, d0, d1]) rfl ⟨_, by rw [E.out]; rfl, by rw [E.out]; exact own_fset o3.out, ?_⟩
          repeat' (first | (with_reducible exact b5) | (with_reducible apply Below.drew) | (with_reducible apply Below.setCell) | (with_reducible apply Below.alloc))
          all_goals (first | omega | (simp; done) | (simp; omega))
        · have E := fhid (hfin.out.trans (exp_more hp hmany hkl))
          have hdd := fhid (show ((bl s).drop a).drop (k + 1) = (bl s).drop (a + k + 1) by rw [List.drop_drop]; rfl)
          have t2 : ((a : Int) + k == (s.size : Int)) = false := by simp; omega
          have t3 : ¬ (a : Int) + k = s.size := by omega
          have hka : a + k < s.size := by omega
          clear hmany hp hkl
          go_wp2_with (first
            | (go_at_call 60
               (with_reducible refine (hnm.out _ (((Below.refl _ _).alloc (Nat.le_refl _) _).alloc (by simp) _)).mono ?_)
               rintro e2 w2 ⟨v2, rfl, o2, b2⟩
               obtain ⟨A2, c2, rfl, _, _, s2⟩ := o2.shape
               have y2 : Below w1.heap.size w1 w2 := (((Below.refl _ _).alloc (Nat.le_refl _) _).alloc (by simp) _).trans (b2.mono (by simp; omega))
               clear o2 b2)
            | (at_builtin
               refine app_names rfl _ _ rfl (w.heap.size + 1) _ ns rfl (hown1.out.below y2) _ A2 (partNames p kept) c2 rfl s2 (fun h => by subst h; exact Strs.none_ s2) (by have := hnn.out; omega) (by have := y2.size; omega) ?_
               intro v3 w3 o3 g3 b3
               have hx3 := y2.size
               have b4 : FBox w3 w.heap.size := (hb2.out.below y2 y0).below b3 (by omega)
               have b5 : Below w.heap.size w w3 := (hbx.trans (y2.mono hbx.size)).trans (b3.mono (by omega))
               obtain ⟨d0, d1, g0, g1, z3⟩ := b4.facts
               have m0 := Nat.ne_of_lt z3
               obtain ⟨A3, c3, rfl, _, _, _⟩ := o3.shape
               have o3 := fhid o3))
          go_roundw
          case rel => exact ⟨a + k + 1, f, ns ++ partNames p kept, by rw [show (a : Int) + k + 1 = ((a + k + 1 : Nat) : Int) by omega], by omega, by omega, by rw [E.out, hdd.out], by have h := o3.out; rw [List.length_append] at h; exact h, by have := hnn.out; rw [List.length_append]; omega, b4, b5⟩
          case measure => simp [intOf]; omega
theorem Expand_any (s : ByteArray) (w : World) (hT : Tab w) (hs : s.size ≤ 1099511627776) : Calls Tryz.prog 40 #[.string s] w (ExpPost w (expand (bl s))) := by
  unfold expand
  by_cases h : bl s = []
  · rw [if_pos h]; exact Expand_none s w h
  · rw [if_neg h, bl_len]; exact Expand_some s w hT hs h
end Go.Proofs.YtjpihophigjbpaaGreatDoor.Hs
