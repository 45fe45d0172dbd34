/-
  A range, read.
-/
import Derived.Test.YtkmknogejhhajabDoorHNum
import Derived.BigRegion
import Derived.Deep.DeepCutAuto
namespace Go.Proofs.YtkmknogejhhajabDoor
open Go.RowKit

theorem bcell {W w1 : World} (hb : Below W.heap.size W w1) : (∀ b o, b < W.heap.size → w1.cell? ⟨b, o, none⟩ = W.cell? ⟨b, o, none⟩) ∧ (∀ b o, b < W.heap.size → w1.frozen? ⟨b, o, none⟩ = W.frozen? ⟨b, o, none⟩) :=
  ⟨fun b o h => hb.cell (p := ⟨b, o, none⟩) h, fun b o h => hb.frozen (p := ⟨b, o, none⟩) h⟩
/-- What a call that reads a range hands back. -/
def rangeV (a : Nat) : Res (Nat × Nat × Nat) → Value
  | .ok x k => .tuple #[.agg #[.int .i64 x.1, .int .i64 x.2.1, .int .i64 x.2.2], .int .i64 ((a : Int) + (k : Int)), .agg #[.int .i64 0, .int .i64 0]]
  | .bad e k => .tuple #[.agg #[.int .i64 0, .int .i64 0, .int .i64 0], .int .i64 0, .agg #[.int .i64 e, .int .i64 ((a : Int) + (k : Int))]]
def RangePost (w : World) (a : Nat) (x : Res (Nat × Nat × Nat)) (e : Ending) (w' : World) : Prop := e = .returned (rangeV a x) ∧ Below w.heap.size w w'
theorem pNum_bad {r : List UInt8} {e k : Nat} (h : pNum r = .bad e k) : e ≠ 0 := by
  unfold pNum at h
  split at h
  · injection h with h1 _; omega
  · split at h
    · injection h with h1 _
      unfold wrg at h1
      split at h1 <;> omega
    · simp at h
/-- The two blocks of a result, behind a call. -/
theorem two_facts {w w1 : World} (b1 : Below ((w.alloc (.cells #[.int .i64 0, .int .i64 0, .int .i64 0] 77)).alloc (.cells #[.int .i64 0, .int .i64 0] 40)).heap.size ((w.alloc (.cells #[.int .i64 0, .int .i64 0, .int .i64 0] 77)).alloc (.cells #[.int .i64 0, .int .i64 0] 40)) w1) :
    (w1.cell? ⟨w.heap.size, 0, none⟩ = some (.int .i64 0) ∧ w1.cell? ⟨w.heap.size, 1, none⟩ = some (.int .i64 0) ∧ w1.cell? ⟨w.heap.size, 2, none⟩ = some (.int .i64 0) ∧ w1.cell? ⟨w.heap.size + 1, 0, none⟩ = some (.int .i64 0) ∧ w1.cell? ⟨w.heap.size + 1, 1, none⟩ = some (.int .i64 0)) ∧
    (w1.frozen? ⟨w.heap.size, 0, none⟩ = false ∧ w1.frozen? ⟨w.heap.size, 1, none⟩ = false ∧ w1.frozen? ⟨w.heap.size, 2, none⟩ = false ∧ w1.frozen? ⟨w.heap.size + 1, 0, none⟩ = false ∧ w1.frozen? ⟨w.heap.size + 1, 1, none⟩ = false) ∧
    (w.heap.size < w1.heap.size ∧ w.heap.size + 1 < w1.heap.size) ∧ Below w.heap.size w w1 := by
  have h0 := (b1.block w.heap.size (by simp; omega)).trans ((Below.heap_alloc _ _ _ (by simp)).trans (heap_alloc_new w _))
  have g1 := heap_alloc_new (w.alloc (.cells #[.int .i64 0, .int .i64 0, .int .i64 0] 77)) (.cells #[.int .i64 0, .int .i64 0] 40)
  rw [World.size_alloc] at g1
  have h1 := (b1.block (w.heap.size + 1) (by simp)).trans g1
  have hz := lt_of_block h1
  refine ⟨⟨?_, ?_, ?_, ?_, ?_⟩, ⟨?_, ?_, ?_, ?_, ?_⟩, ⟨by omega, hz⟩, (((Below.refl _ _).alloc (Nat.le_refl _) _).alloc (by simp) _).trans (b1.mono (by simp; omega))⟩
  all_goals simp [World.cell?, World.frozen?, h0, h1]
set_option maxRecDepth 100000 in
set_option maxHeartbeats 1000000 in
theorem readRange_bad1 (s : ByteArray) (a : Nat) (w : World) (hs : s.size ≤ 140737488355328) (ha : a ≤ s.size) (e k : Nat) (hp : pNum ((bl s).drop a) = .bad e k) :
    Calls Tryd.prog 58 #[.string s, .int .i64 a] w (RangePost w a (.bad e k)) := by
  have hn := fun W => readNumber_any s a a W rfl hs ha
  have he := pNum_bad hp
  rw [hp] at hn
  have e1 : ((e : Int) != 0) = true := by simpa using he
  have e2 : ¬ (e : Int) = 0 := by omega
  clear hp he hs ha
  go_enter Tryd.func58, Tryd.ntmps58
  go_wp2_with fail
  refine (hn _).mono ?_
  rintro e' w1 ⟨rfl, b1⟩
  obtain ⟨⟨c0, c1, c2, c3, c4⟩, ⟨f0, f1, f2, f3, f4⟩, ⟨z0, z1⟩, b2⟩ := two_facts b1
  have n0 := Nat.ne_of_lt z0
  have n1 := Nat.ne_of_lt z1
  clear b1
  simp only [numV]
  go_wp2_with fail
  go_region
  go_wp2
  refine bodyPost_ret (v := .tuple #[.agg #[.int .i64 0, .int .i64 0, .int .i64 0], .int .i64 0, .agg #[.int .i64 e, .int .i64 ((a : Int) + (k : Int))]]) (by simp [results, Tryd.results58, go_sem, c0, c1, c2, c3, c4, z0, z1]) rfl ⟨rfl, ?_⟩
  · have zb := b2.size
    repeat' (first | (with_reducible exact b2) | (with_reducible apply Below.drew) | (with_reducible apply Below.setCell) | (with_reducible apply Below.alloc))
    all_goals (first | omega | (simp; done) | (simp; omega))
set_option maxRecDepth 100000 in
set_option maxHeartbeats 1000000 in
theorem readRange_one (s : ByteArray) (a : Nat) (w : World) (hs : s.size ≤ 140737488355328) (ha : a ≤ s.size) (x k : Nat) (hp : pNum ((bl s).drop a) = .ok x k) (hd : ¬ ((bl s).drop a)[k]? = some 45) :
    Calls Tryd.prog 58 #[.string s, .int .i64 a] w (RangePost w a (.ok (x, x, k) k)) := by
  have hn := fun W => readNumber_any s a a W rfl hs ha
  obtain ⟨_, k6, kl, xl⟩ := pNum_ok hp
  rw [List.length_drop, bl_len] at kl
  rw [hp] at hn
  have hst := fun W => stands_any s (a + k) ((a : Int) + k) 45 45 W (by omega) rfl
  rw [List.getElem?_drop] at hd
  rw [decide_eq_false hd] at hst
  have e1 : (a : Int) + k - a = k := by omega
  have i0 : (0 : Int) ≤ a := by omega
  have i1 : (a : Int) ≤ 140737488355328 := by omega
  have i2 : (0 : Int) ≤ k := by omega
  have i3 : (k : Int) ≤ 6 := by omega
  clear hp hs ha hd kl
  go_enter Tryd.func58, Tryd.ntmps58
  go_wp2_with fail
  refine (hn _).mono ?_
  rintro e' w1 ⟨rfl, b1⟩
  obtain ⟨⟨c0, c1, c2, c3, c4⟩, ⟨f0, f1, f2, f3, f4⟩, ⟨z0, z1⟩, b2⟩ := two_facts b1
  have n0 := Nat.ne_of_lt z0
  have n1 := Nat.ne_of_lt z1
  clear b1
  simp only [numV]
  go_wp2_with fail
  refine (hst _).mono ?_
  rintro e' w2 ⟨rfl, rfl⟩
  go_wp2_with fail
  refine bodyPost_ret (v := .tuple #[.agg #[.int .i64 x, .int .i64 x, .int .i64 k], .int .i64 ((a : Int) + (k : Int)), .agg #[.int .i64 0, .int .i64 0]]) (by simp [results, Tryd.results58, go_sem, c0, c1, c2, c3, c4, z0, z1]) rfl ⟨rfl, ?_⟩
  · have zb := b2.size
    repeat' (first | (with_reducible exact b2) | (with_reducible apply Below.drew) | (with_reducible apply Below.setCell) | (with_reducible apply Below.alloc))
    all_goals (first | omega | (simp; done) | (simp; omega))
theorem cell_skip {w : World} {b o b' o' : Nat} {u v : Value} (h : w.cell? ⟨b', o', none⟩ = some v) (hne : b ≠ b' ∨ o ≠ o') : (w.setCell ⟨b, o, none⟩ u).cell? ⟨b', o', none⟩ = some v := by
  rw [World.cell?_setCell_other _ _ _ _ (by intro e; injection e with e1 e2; omega)]; exact h
theorem cell_set {w : World} {b o : Nat} {u v : Value} (h : w.cell? ⟨b, o, none⟩ = some v) : (w.setCell ⟨b, o, none⟩ u).cell? ⟨b, o, none⟩ = some u := World.cell?_setCell_same _ _ _ h
/-- The two blocks of a result, and two more of the call's own, behind one call more. -/
theorem more_facts {w w1 w2 : World} {e f : Int} {p q r : Int} (b2 : Below w.heap.size w w1)
    (c0 : w1.cell? ⟨w.heap.size, 0, none⟩ = some (.int .i64 0)) (c1 : w1.cell? ⟨w.heap.size, 1, none⟩ = some (.int .i64 0)) (c2 : w1.cell? ⟨w.heap.size, 2, none⟩ = some (.int .i64 0)) (c3 : w1.cell? ⟨w.heap.size + 1, 0, none⟩ = some (.int .i64 0)) (c4 : w1.cell? ⟨w.heap.size + 1, 1, none⟩ = some (.int .i64 0))
    (f0 : w1.frozen? ⟨w.heap.size, 0, none⟩ = false) (f1 : w1.frozen? ⟨w.heap.size, 1, none⟩ = false) (f2 : w1.frozen? ⟨w.heap.size, 2, none⟩ = false) (f3 : w1.frozen? ⟨w.heap.size + 1, 0, none⟩ = false) (f4 : w1.frozen? ⟨w.heap.size + 1, 1, none⟩ = false)
    (z1 : w.heap.size + 1 < w1.heap.size)
    (b3 : Below ((w1.alloc (.cells #[.int .i64 e, .int .i64 f] 40)).alloc (.cells #[.int .i64 p, .int .i64 q, .int .i64 r] 77)).heap.size ((w1.alloc (.cells #[.int .i64 e, .int .i64 f] 40)).alloc (.cells #[.int .i64 p, .int .i64 q, .int .i64 r] 77)) w2) :
    (w2.cell? ⟨w.heap.size, 0, none⟩ = some (.int .i64 0) ∧ w2.cell? ⟨w.heap.size, 1, none⟩ = some (.int .i64 0) ∧ w2.cell? ⟨w.heap.size, 2, none⟩ = some (.int .i64 0) ∧ w2.cell? ⟨w.heap.size + 1, 0, none⟩ = some (.int .i64 0) ∧ w2.cell? ⟨w.heap.size + 1, 1, none⟩ = some (.int .i64 0)) ∧
    (w2.frozen? ⟨w.heap.size, 0, none⟩ = false ∧ w2.frozen? ⟨w.heap.size, 1, none⟩ = false ∧ w2.frozen? ⟨w.heap.size, 2, none⟩ = false ∧ w2.frozen? ⟨w.heap.size + 1, 0, none⟩ = false ∧ w2.frozen? ⟨w.heap.size + 1, 1, none⟩ = false) ∧
    (w2.cell? ⟨w1.heap.size, 0, none⟩ = some (.int .i64 e) ∧ w2.cell? ⟨w1.heap.size, 1, none⟩ = some (.int .i64 f) ∧ w2.cell? ⟨w1.heap.size + 1, 0, none⟩ = some (.int .i64 p) ∧ w2.cell? ⟨w1.heap.size + 1, 1, none⟩ = some (.int .i64 q) ∧ w2.cell? ⟨w1.heap.size + 1, 2, none⟩ = some (.int .i64 r)) ∧
    (w2.frozen? ⟨w1.heap.size, 0, none⟩ = false ∧ w2.frozen? ⟨w1.heap.size, 1, none⟩ = false ∧ w2.frozen? ⟨w1.heap.size + 1, 0, none⟩ = false ∧ w2.frozen? ⟨w1.heap.size + 1, 1, none⟩ = false ∧ w2.frozen? ⟨w1.heap.size + 1, 2, none⟩ = false) ∧
    (w.heap.size < w2.heap.size ∧ w.heap.size + 1 < w2.heap.size) ∧ Below w.heap.size w w2 := by
  have h0 := (b3.block w1.heap.size (by simp; omega)).trans ((Below.heap_alloc _ _ _ (by simp)).trans (heap_alloc_new w1 _))
  have g1 := heap_alloc_new (w1.alloc (.cells #[.int .i64 e, .int .i64 f] 40)) (.cells #[.int .i64 p, .int .i64 q, .int .i64 r] 77)
  rw [World.size_alloc] at g1
  have h1 := (b3.block (w1.heap.size + 1) (by simp)).trans g1
  have b5 : Below w1.heap.size w1 w2 := (((Below.refl _ _).alloc (Nat.le_refl _) _).alloc (by simp) _).trans (b3.mono (by simp; omega))
  have hz := b5.size
  obtain ⟨hc, hf⟩ := bcell b5
  refine ⟨⟨?_, ?_, ?_, ?_, ?_⟩, ⟨?_, ?_, ?_, ?_, ?_⟩, ⟨?_, ?_, ?_, ?_, ?_⟩, ⟨?_, ?_, ?_, ?_, ?_⟩, ⟨by omega, by omega⟩, b2.trans (b5.mono b2.size)⟩
  all_goals first
    | exact (hc _ _ (by omega)).trans (by assumption)
    | exact (hf _ _ (by omega)).trans (by assumption)
    | simp [World.cell?, World.frozen?, h0, h1]
set_option maxRecDepth 100000 in
set_option maxHeartbeats 1000000 in
theorem readRange_bad2 (s : ByteArray) (a : Nat) (w : World) (hs : s.size ≤ 140737488355328) (ha : a ≤ s.size) (x k : Nat) (hp : pNum ((bl s).drop a) = .ok x k) (hd : ((bl s).drop a)[k]? = some 45) (e j : Nat) (hq : pNum (((bl s).drop a).drop (k + 1)) = .bad e j) :
    Calls Tryd.prog 58 #[.string s, .int .i64 a] w (RangePost w a (.bad e (k + 1 + j))) := by
  have hn := fun W => readNumber_any s a a W rfl hs ha
  obtain ⟨_, k6, kl, xl⟩ := pNum_ok hp
  rw [List.length_drop, bl_len] at kl
  rw [hp] at hn
  have hst := fun W => stands_any s (a + k) ((a : Int) + k) 45 45 W (by omega) rfl
  have hk1 : a + k + 1 ≤ s.size := by
    by_cases h : k < ((bl s).drop a).length
    · rw [List.length_drop, bl_len] at h; omega
    · rw [List.getElem?_eq_none (by omega)] at hd; cases hd
  rw [List.getElem?_drop] at hd
  rw [decide_eq_true hd] at hst
  have hm := fun W => readNumber_any s (a + k + 1) ((a : Int) + k + 1) W (by omega) hs hk1
  rw [Nat.add_assoc, ← List.drop_drop, hq] at hm
  have e1 : (a : Int) + k - a = k := by omega
  have i0 : (0 : Int) ≤ a := by omega
  have i1 : (a : Int) ≤ 140737488355328 := by omega
  have i2 : (0 : Int) ≤ k := by omega
  have i3 : (k : Int) ≤ 6 := by omega
  have he := pNum_bad hq
  have e2 : ((e : Int) != 0) = true := by simpa using he
  have e3 : ((e : Int) == 0) = false := by simpa using he
  have e4 : ¬ (e : Int) = 0 := by omega
  clear he
  clear hp hs ha hd kl hk1 hq
  go_enter Tryd.func58, Tryd.ntmps58
  go_wp2_with fail
  refine (hn _).mono ?_
  rintro e' w1 ⟨rfl, b1⟩
  obtain ⟨⟨c0, c1, c2, c3, c4⟩, ⟨f0, f1, f2, f3, f4⟩, ⟨z0, z1⟩, b2⟩ := two_facts b1
  have n0 := Nat.ne_of_lt z0
  have n1 := Nat.ne_of_lt z1
  clear b1
  simp only [numV]
  go_wp2_with fail
  refine (hst _).mono ?_
  rintro e' w2 ⟨rfl, rfl⟩
  go_wp2_with fail
  refine (hm _).mono ?_
  rintro e' w2 ⟨rfl, b3⟩
  obtain ⟨⟨d0, d1, d2, d3, d4⟩, ⟨g0, g1, g2, g3, g4⟩, ⟨q0, q1, q2, q3, q4⟩, ⟨u0, u1, u2, u3, u4⟩, ⟨y0, y1⟩, b4⟩ := more_facts b2 c0 c1 c2 c3 c4 f0 f1 f2 f3 f4 z1 b3
  have m0 := Nat.ne_of_lt z0
  have m1 := Nat.ne_of_lt z1
  clear b3 b2
  simp only [numV]
  go_wp2_with fail
  go_region
  go_wp2_with fail
  refine bodyPost_ret (v := .tuple #[.agg #[.int .i64 0, .int .i64 0, .int .i64 0], .int .i64 0, .agg #[.int .i64 e, .int .i64 ((a : Int) + ((k : Int) + 1) + j)]]) (by simp [results, Tryd.results58, go_sem, d0, d1, d2, d3, d4]) rfl ⟨by unfold rangeV; simp; all_goals omega, ?_⟩
  · have zb := b4.size
    repeat' (first | (with_reducible exact b4) | (with_reducible apply Below.drew) | (with_reducible apply Below.setCell) | (with_reducible apply Below.alloc))
    all_goals (first | omega | (simp; done) | (simp; omega))
set_option maxRecDepth 100000 in
set_option maxHeartbeats 1000000 in
theorem readRange_less (s : ByteArray) (a : Nat) (w : World) (hs : s.size ≤ 140737488355328) (ha : a ≤ s.size) (x k : Nat) (hp : pNum ((bl s).drop a) = .ok x k) (hd : ((bl s).drop a)[k]? = some 45) (y j : Nat) (hq : pNum (((bl s).drop a).drop (k + 1)) = .ok y j) (hlt : y < x) :
    Calls Tryd.prog 58 #[.string s, .int .i64 a] w (RangePost w a (.bad 3 (k + 1))) := by
  have hn := fun W => readNumber_any s a a W rfl hs ha
  obtain ⟨_, k6, kl, xl⟩ := pNum_ok hp
  rw [List.length_drop, bl_len] at kl
  rw [hp] at hn
  have hst := fun W => stands_any s (a + k) ((a : Int) + k) 45 45 W (by omega) rfl
  have hk1 : a + k + 1 ≤ s.size := by
    by_cases h : k < ((bl s).drop a).length
    · rw [List.length_drop, bl_len] at h; omega
    · rw [List.getElem?_eq_none (by omega)] at hd; cases hd
  rw [List.getElem?_drop] at hd
  rw [decide_eq_true hd] at hst
  have hm := fun W => readNumber_any s (a + k + 1) ((a : Int) + k + 1) W (by omega) hs hk1
  rw [Nat.add_assoc, ← List.drop_drop, hq] at hm
  have e1 : (a : Int) + k - a = k := by omega
  have i0 : (0 : Int) ≤ a := by omega
  have i1 : (a : Int) ≤ 140737488355328 := by omega
  have i2 : (0 : Int) ≤ k := by omega
  have i3 : (k : Int) ≤ 6 := by omega
  have e2 : (y : Int) < x := by omega
  clear hlt
  clear hp hs ha hd kl hk1 hq
  go_enter Tryd.func58, Tryd.ntmps58
  go_wp2_with fail
  refine (hn _).mono ?_
  rintro e' w1 ⟨rfl, b1⟩
  obtain ⟨⟨c0, c1, c2, c3, c4⟩, ⟨f0, f1, f2, f3, f4⟩, ⟨z0, z1⟩, b2⟩ := two_facts b1
  have n0 := Nat.ne_of_lt z0
  have n1 := Nat.ne_of_lt z1
  clear b1
  simp only [numV]
  go_wp2_with fail
  refine (hst _).mono ?_
  rintro e' w2 ⟨rfl, rfl⟩
  go_wp2_with fail
  refine (hm _).mono ?_
  rintro e' w2 ⟨rfl, b3⟩
  obtain ⟨⟨d0, d1, d2, d3, d4⟩, ⟨g0, g1, g2, g3, g4⟩, ⟨q0, q1, q2, q3, q4⟩, ⟨u0, u1, u2, u3, u4⟩, ⟨y0, y1⟩, b4⟩ := more_facts b2 c0 c1 c2 c3 c4 f0 f1 f2 f3 f4 z1 b3
  have m0 := Nat.ne_of_lt z0
  have m1 := Nat.ne_of_lt z1
  clear b3 b2
  simp only [numV]
  go_upto_region 11 with fail
  generalize hW : (((((w2.setCell ⟨w1.heap.size + 1, 1, none⟩ (.int .i64 y)).setCell ⟨w1.heap.size, 0, none⟩ (.int .i64 0)).setCell ⟨w1.heap.size, 1, none⟩ (.int .i64 0)).setCell ⟨w1.heap.size, 0, none⟩ (.int .i64 3)).setCell ⟨w1.heap.size, 1, none⟩ (.int .i64 ((a : Int) + k + 1))) = W
  replace hW := fhid hW
  have hfacts : (W.cell? ⟨w.heap.size, 0, none⟩ = some (.int .i64 0) ∧ W.cell? ⟨w.heap.size, 1, none⟩ = some (.int .i64 0) ∧ W.cell? ⟨w.heap.size, 2, none⟩ = some (.int .i64 0) ∧ W.cell? ⟨w.heap.size + 1, 0, none⟩ = some (.int .i64 0) ∧ W.cell? ⟨w.heap.size + 1, 1, none⟩ = some (.int .i64 0)) ∧
    (W.frozen? ⟨w.heap.size, 0, none⟩ = false ∧ W.frozen? ⟨w.heap.size, 1, none⟩ = false ∧ W.frozen? ⟨w.heap.size, 2, none⟩ = false ∧ W.frozen? ⟨w.heap.size + 1, 0, none⟩ = false ∧ W.frozen? ⟨w.heap.size + 1, 1, none⟩ = false) ∧
    (W.cell? ⟨w1.heap.size, 0, none⟩ = some (.int .i64 3) ∧ W.cell? ⟨w1.heap.size, 1, none⟩ = some (.int .i64 ((a : Int) + k + 1))) := by
    rw [← hW.out]
    refine ⟨⟨?_, ?_, ?_, ?_, ?_⟩, ⟨?_, ?_, ?_, ?_, ?_⟩, ⟨?_, ?_⟩⟩
    all_goals try (simp only [World.frozen?_setCell]; first | exact g0 | exact g1 | exact g2 | exact g3 | exact g4)
    · exact cell_skip (cell_skip (cell_skip (cell_skip (cell_skip d0 (.inl (by omega))) (.inl (by omega))) (.inl (by omega))) (.inl (by omega))) (.inl (by omega))
    · exact cell_skip (cell_skip (cell_skip (cell_skip (cell_skip d1 (.inl (by omega))) (.inl (by omega))) (.inl (by omega))) (.inl (by omega))) (.inl (by omega))
    · exact cell_skip (cell_skip (cell_skip (cell_skip (cell_skip d2 (.inl (by omega))) (.inl (by omega))) (.inl (by omega))) (.inl (by omega))) (.inl (by omega))
    · exact cell_skip (cell_skip (cell_skip (cell_skip (cell_skip d3 (.inl (by omega))) (.inl (by omega))) (.inl (by omega))) (.inl (by omega))) (.inl (by omega))
    · exact cell_skip (cell_skip (cell_skip (cell_skip (cell_skip d4 (.inl (by omega))) (.inl (by omega))) (.inl (by omega))) (.inl (by omega))) (.inl (by omega))
    · exact cell_skip (cell_set (cell_skip (cell_set (cell_skip q0 (.inl (by omega)))) (.inr (by decide)))) (.inr (by decide))
    · exact cell_set (cell_skip (cell_set (cell_skip (cell_skip q1 (.inl (by omega))) (.inr (by decide)))) (.inr (by decide)))
  have hB : Below w.heap.size w W := by
    have zb := b4.size
    rw [← hW.out]
    repeat' (first | (with_reducible exact b4) | (with_reducible apply Below.setCell))
    all_goals (first | omega | (simp; done) | (simp; omega))
  clear d0 d1 d2 d3 d4 g0 g1 g2 g3 g4 q0 q1 q2 q3 q4 u0 u1 u2 u3 u4 b4 c0 c1 c2 c3 c4 f0 f1 f2 f3 f4 hW y0 y1
  obtain ⟨⟨d0, d1, d2, d3, d4⟩, ⟨g0, g1, g2, g3, g4⟩, ⟨q0, q1⟩⟩ := hfacts
  have b4 := hB
  clear hB
  go_wp2_with fail
  go_region
  go_wp2_with fail
  refine bodyPost_ret (v := .tuple #[.agg #[.int .i64 0, .int .i64 0, .int .i64 0], .int .i64 0, .agg #[.int .i64 3, .int .i64 ((a : Int) + k + 1)]]) (by simp [results, Tryd.results58, go_sem, d0, d1, d2, d3, d4]) rfl ⟨by unfold rangeV; simp; all_goals omega, ?_⟩
  · have zb := b4.size
    repeat' (first | (with_reducible exact b4) | (with_reducible apply Below.drew) | (with_reducible apply Below.setCell) | (with_reducible apply Below.alloc))
    all_goals (first | omega | (simp; done) | (simp; omega))
set_option maxRecDepth 100000 in
set_option maxHeartbeats 1000000 in
theorem readRange_two (s : ByteArray) (a : Nat) (w : World) (hs : s.size ≤ 140737488355328) (ha : a ≤ s.size) (x k : Nat) (hp : pNum ((bl s).drop a) = .ok x k) (hd : ((bl s).drop a)[k]? = some 45) (y j : Nat) (hq : pNum (((bl s).drop a).drop (k + 1)) = .ok y j) (hlt : ¬ y < x) :
    Calls Tryd.prog 58 #[.string s, .int .i64 a] w (RangePost w a (.ok (x, y, k) (k + 1 + j))) := by
  have hn := fun W => readNumber_any s a a W rfl hs ha
  obtain ⟨_, k6, kl, xl⟩ := pNum_ok hp
  rw [List.length_drop, bl_len] at kl
  rw [hp] at hn
  have hst := fun W => stands_any s (a + k) ((a : Int) + k) 45 45 W (by omega) rfl
  have hk1 : a + k + 1 ≤ s.size := by
    by_cases h : k < ((bl s).drop a).length
    · rw [List.length_drop, bl_len] at h; omega
    · rw [List.getElem?_eq_none (by omega)] at hd; cases hd
  rw [List.getElem?_drop] at hd
  rw [decide_eq_true hd] at hst
  have hm := fun W => readNumber_any s (a + k + 1) ((a : Int) + k + 1) W (by omega) hs hk1
  rw [Nat.add_assoc, ← List.drop_drop, hq] at hm
  have e1 : (a : Int) + k - a = k := by omega
  have i0 : (0 : Int) ≤ a := by omega
  have i1 : (a : Int) ≤ 140737488355328 := by omega
  have i2 : (0 : Int) ≤ k := by omega
  have i3 : (k : Int) ≤ 6 := by omega
  have e2 : ¬ (y : Int) < x := by omega
  clear hlt
  clear hp hs ha hd kl hk1 hq
  go_enter Tryd.func58, Tryd.ntmps58
  go_wp2_with fail
  refine (hn _).mono ?_
  rintro e' w1 ⟨rfl, b1⟩
  obtain ⟨⟨c0, c1, c2, c3, c4⟩, ⟨f0, f1, f2, f3, f4⟩, ⟨z0, z1⟩, b2⟩ := two_facts b1
  have n0 := Nat.ne_of_lt z0
  have n1 := Nat.ne_of_lt z1
  clear b1
  simp only [numV]
  go_wp2_with fail
  refine (hst _).mono ?_
  rintro e' w2 ⟨rfl, rfl⟩
  go_wp2_with fail
  refine (hm _).mono ?_
  rintro e' w2 ⟨rfl, b3⟩
  obtain ⟨⟨d0, d1, d2, d3, d4⟩, ⟨g0, g1, g2, g3, g4⟩, ⟨q0, q1, q2, q3, q4⟩, ⟨u0, u1, u2, u3, u4⟩, ⟨y0, y1⟩, b4⟩ := more_facts b2 c0 c1 c2 c3 c4 f0 f1 f2 f3 f4 z1 b3
  have m0 := Nat.ne_of_lt z0
  have m1 := Nat.ne_of_lt z1
  clear b3 b2
  simp only [numV]
  go_wp2_with fail
  go_wp2_with fail
  refine bodyPost_ret (v := .tuple #[.agg #[.int .i64 x, .int .i64 y, .int .i64 k], .int .i64 ((a : Int) + ((k : Int) + 1) + j), .agg #[.int .i64 0, .int .i64 0]]) (by simp [results, Tryd.results58, go_sem, d0, d1, d2, d3, d4]) rfl ⟨by unfold rangeV; simp; all_goals omega, ?_⟩
  · have zb := b4.size
    repeat' (first | (with_reducible exact b4) | (with_reducible apply Below.drew) | (with_reducible apply Below.setCell) | (with_reducible apply Below.alloc))
    all_goals (first | omega | (simp; done) | (simp; omega))
theorem readRange_any (s : ByteArray) (a : Nat) (ai : Int) (w : World) (hai : ai = a) (hs : s.size ≤ 140737488355328) (ha : a ≤ s.size) :
    Calls Tryd.prog 58 #[.string s, .int .i64 ai] w (RangePost w a (pRange ((bl s).drop a))) := by
  subst hai
  unfold pRange
  split
  · rename_i e k hp
    exact readRange_bad1 s a w hs ha e k hp
  · rename_i x k hp
    by_cases hd : ((bl s).drop a)[k]? = some 45
    · rw [if_pos hd]
      unfold pSecond
      split
      · rename_i e j hq
        exact readRange_bad2 s a w hs ha x k hp hd e j hq
      · rename_i y j hq
        by_cases hlt : y < x
        · rw [if_pos hlt]
          exact readRange_less s a w hs ha x k hp hd y j hq hlt
        · rw [if_neg hlt]
          exact readRange_two s a w hs ha x k hp hd y j hq hlt
    · rw [if_neg hd]
      exact readRange_one s a w hs ha x k hp hd
end Go.Proofs.YtkmknogejhhajabDoor
