/-
  The small calls: whether a vector may be, how one stands to another.
-/
import Derived.Test.YtkmknogejhhajaaDoorVBase
import Derived.Test.YtkmknogejhhajaaDoorSShelf
import Derived.BigRegion
import Derived.BigQuiet
import Derived.Deep.QuietTactic
import Derived.Deep.DeepCutAuto
namespace Go.Proofs.YtkmknogejhhajaaDoor
open Go.RowKit

theorem cell_grew {w w' : World} (h : Grew w w') {p : Addr} (hp : p.block < w.heap.size) : w'.cell? p = w.cell? p := h.below.cell hp
set_option maxRecDepth 100000 in
set_option maxHeartbeats 1000000 in
theorem Right_any (a b c : Int) (w : World) : Calls Tryd.prog 10 #[vec a b c] w (BP w (right a b c)) := by
  have h1 := fun W => Fits_any 0 0 0 a b c W
  have h2 := fun W => Fits_any a b c 1073741824 1073741824 1073741824 W
  have e := fhid (show right a b c = (decide (0 ≤ a ∧ 0 ≤ b ∧ 0 ≤ c) && decide (a ≤ 1073741824 ∧ b ≤ 1073741824 ∧ c ≤ 1073741824)) from rfl)
  generalize decide (0 ≤ a ∧ 0 ≤ b ∧ 0 ≤ c) = q1 at *
  generalize decide (a ≤ 1073741824 ∧ b ≤ 1073741824 ∧ c ≤ 1073741824) = q2 at *
  cases q1 with
  | false =>
    go_enter Tryd.func10, Tryd.ntmps10
    go_wp2_with (first
      | (go_at_call 12; (with_reducible refine (h1 _).mono ?_); rintro e w1 ⟨rfl, g1⟩))
    go_ret
    exact BP.mk' (by rw [e.out]; rfl) (((Grew.refl w).alloc _).trans g1)
  | true =>
    go_enter Tryd.func10, Tryd.ntmps10
    go_wp2_with (go_at_call 12; (with_reducible refine (h1 _).mono ?_); rintro e w1 ⟨rfl, g1⟩
                 have hbk := (g1.below.block w.heap.size (by simp)).trans (heap_alloc_new w (.cells #[.int .i64 a, .int .i64 b, .int .i64 c] 23))
                 have c0 : w1.cell? ⟨w.heap.size, 0, none⟩ = some (.int .i64 a) := by simp [World.cell?, hbk]
                 have c1 : w1.cell? ⟨w.heap.size, 1, none⟩ = some (.int .i64 b) := by simp [World.cell?, hbk]
                 have c2 : w1.cell? ⟨w.heap.size, 2, none⟩ = some (.int .i64 c) := by simp [World.cell?, hbk]
                 go_wp2_with (go_at_call 12; (with_reducible refine (h2 _).mono ?_); rintro e w2 ⟨rfl, g2⟩))
    go_ret
    exact BP.mk' (by rw [e.out]; cases q2 <;> rfl) ((((Grew.refl w).alloc _).trans g1).trans g2)
set_option maxRecDepth 100000 in
set_option maxHeartbeats 1000000 in
theorem number_any (n : Int) (w : World) : Calls Tryd.prog 31 #[.int .i64 n] w fun e w' => e = .returned (.bool (part n)) ∧ w = w' := by
  by_cases h1 : n ≥ 0 <;> by_cases h2 : n ≤ 1073741824
  all_goals
    go_enter Tryd.func31, Tryd.ntmps31
    go_wp2
    go_ret
    exact ⟨fretb (by unfold part; simp [h1, h2]), rfl⟩
set_option maxRecDepth 100000 in
set_option maxHeartbeats 1000000 in
theorem rRight_any (a b c : Int) (w : World) : Calls Tryd.prog 11 #[vec a b c] w (BP w (right a b c)) := by
  have h1 := fun W => number_any a W
  have h2 := fun W => number_any b W
  have h3 := fun W => number_any c W
  have e := fhid (right_parts a b c)
  generalize part a = q1 at *
  generalize part b = q2 at *
  generalize part c = q3 at *
  cases q1 <;> cases q2 <;> cases q3
  all_goals
    go_enter Tryd.func11, Tryd.ntmps11
    go_wp2_with (first
      | (go_at_call 31; (with_reducible refine (h1 _).mono ?_); clear h1; rintro e w1 ⟨rfl, rfl⟩)
      | (go_at_call 31; (with_reducible refine (h2 _).mono ?_); clear h2; rintro e w1 ⟨rfl, rfl⟩)
      | (go_at_call 31; (with_reducible refine (h3 _).mono ?_); clear h3; rintro e w1 ⟨rfl, rfl⟩))
    go_ret
    exact BP.mk' (by rw [e.out]; rfl) ((Grew.refl w).alloc _)
def orI : List Int → Int
  | [] => 0
  | x :: r => if x = 0 then orI r else x
theorem orI_drop (l : List Int) (k : Nat) (h : k < l.length) : orI (l.drop k) = if l[k] = 0 then orI (l.drop (k + 1)) else l[k] := by
  rw [List.drop_eq_getElem_cons h]; rfl
set_option maxRecDepth 100000 in
set_option maxHeartbeats 1000000 in
theorem or_any (l : List Int) (b o cap : Nat) (n : Int) (w : World) (_hn : n = l.length) (hc : ∀ j (h : j < l.length), w.cell? ⟨b, o + j, none⟩ = some (.int .i64 l[j])) (hl : l.length ≤ 1000) :
    Calls Tryd.prog 46 #[.slice (some ⟨b, o, none⟩) l.length cap] w fun e w' => e = .returned (.int .i64 (orI l)) ∧ w = w' := by
  obtain ⟨R, hR⟩ : ∃ R, orI l = R := ⟨_, rfl⟩
  rw [hR]
  clear _hn
  replace hc := fhid hc
  replace hR := fhid hR
  go_enter Tryd.func46, Tryd.ntmps46
  go_wp2
  go_loop [8] (fun i => ∃ k : Nat, k ≤ l.length ∧ i = .int .i64 (k : Int) ∧ R = orI (l.drop k)) (fun i => l.length - (intOf i).toNat)
  case atStart => exact ⟨0, Nat.zero_le _, rfl, hR.out.symm⟩
  case round =>
    obtain ⟨k, hk, rfl, hE⟩ := hrel
    replace hE := fhid hE
    by_cases h : k < l.length
    · have i1 : (k : Int) < l.length := by omega
      have i2 : (l.length : Int) ≤ 1000 := by omega
      have c0 := hc.out k h
      have hd := orI_drop l k h
      by_cases hz : l[k] = 0
      · rw [hz] at c0
        rw [if_pos hz] at hd
        replace hd := fhid hd
        clear hz
        go_wp2
        go_round
        case rel => exact ⟨k + 1, h, by go_num, hE.out.trans hd.out⟩
        case measure => simp [intOf]; omega
      · rw [if_neg hz] at hd
        have e1 : ((l[k] : Int) != 0) = true := by simpa using hz
        replace hd := fhid hd
        generalize l[k] = x at *
        go_wp2
        go_ret
        exact ⟨fret1 (hE.out.trans hd.out).symm, rfl⟩
    · have i1 : ¬ (k : Int) < l.length := by omega
      obtain rfl : k = l.length := by omega
      have hd := fhid (show orI (l.drop l.length) = 0 by rw [List.drop_length]; rfl)
      go_wp2
      go_ret
      exact ⟨fret1 (hE.out.trans hd.out).symm, rfl⟩
end Go.Proofs.YtkmknogejhhajaaDoor
