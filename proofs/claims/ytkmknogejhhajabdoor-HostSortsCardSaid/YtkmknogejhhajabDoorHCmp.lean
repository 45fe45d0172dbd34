/-
  How two names stand to each other, as the program compares them.
-/
import Derived.Test.YtkmknogejhhajabDoorHNumber
import Derived.Test.YtkmknogejhhajabDoorSShelf
import Derived.Sort.Walk0
namespace Go.Proofs.YtkmknogejhhajabDoor
open Go.RowKit

def orI : List Int → Int
  | [] => 0
  | x :: r => if x = 0 then orI r else x
theorem orI_drop (l : List Int) (k : Nat) (h : k < l.length) : orI (l.drop k) = if l[k] = 0 then orI (l.drop (k + 1)) else l[k] := by
  rw [List.drop_eq_getElem_cons h]; rfl
set_option maxRecDepth 100000 in
set_option maxHeartbeats 1000000 in
theorem or_any (l : List Int) (b o cap : Nat) (n : Int) (w : World) (_hn : n = l.length) (hc : ∀ j (h : j < l.length), w.cell? ⟨b, o + j, none⟩ = some (.int .i64 l[j])) (hl : l.length ≤ 1000) :
    Calls Tryd.prog 24 #[.slice (some ⟨b, o, none⟩) l.length cap] w fun e w' => e = .returned (.int .i64 (orI l)) ∧ w = w' := by
  obtain ⟨R, hR⟩ : ∃ R, orI l = R := ⟨_, rfl⟩
  rw [hR]
  clear _hn
  replace hc := fhid hc
  replace hR := fhid hR
  go_enter Tryd.func24, Tryd.ntmps24
  go_wp2
  go_loop [8] (fun i => ∃ k : Nat, k ≤ l.length ∧ i = .int .i64 (k : Int) ∧ R = orI (l.drop k)) (fun i => l.length - (intOf i).toNat)
  case atStart => exact ⟨0, Nat.zero_le _, rfl, hR.out.symm⟩
  case round =>
    obtain ⟨k, hk, rfl, hE⟩ := hrel
    replace hE := fhid hE
    by_cases h : k < l.length
    · have i1 : (k : Int) < l.length := by omega
      have i2 : (l.length : Int) ≤ 1000 := by omega
      have c0 := hc.out k h
      have hd := orI_drop l k h
      by_cases hz : l[k] = 0
      · rw [hz] at c0
        rw [if_pos hz] at hd
        replace hd := fhid hd
        clear hz
        go_wp2
        go_round
        case rel => exact ⟨k + 1, h, by go_num, hE.out.trans hd.out⟩
        case measure => simp [intOf]; omega
      · rw [if_neg hz] at hd
        have e1 : ((l[k] : Int) != 0) = true := by simpa using hz
        replace hd := fhid hd
        generalize l[k] = x at *
        go_wp2
        go_ret
        exact ⟨fret1 (hE.out.trans hd.out).symm, rfl⟩
    · have i1 : ¬ (k : Int) < l.length := by omega
      obtain rfl : k = l.length := by omega
      have hd := fhid (show orI (l.drop l.length) = 0 by rw [List.drop_length]; rfl)
      go_wp2
      go_ret
      exact ⟨fret1 (hE.out.trans hd.out).symm, rfl⟩

theorem isNaN_str (s : ByteArray) (w : World) : Calls Tryd.prog 42 #[.string s] w fun e w' => e = .returned (.bool false) ∧ w' = w := by
  have hse : (s.toList == s.toList) = true := by simp
  go_enter Tryd.func42, Tryd.ntmps42
  go_wp2_with fail
  go_ret
  exact ⟨rfl, rfl⟩
/-- How two texts stand to each other. -/
def cmpS (a b : List UInt8) : Int := if a < b then -1 else if b < a then 1 else 0
theorem less_bl (s t : ByteArray) : Op.bytesLess s.toList t.toList = decide (bl s < bl t) := by
  rw [bytesLess_eq, ByteArray.toList_eq, ByteArray.toList_eq]
  rfl
theorem gtr_str (T : TypeId) (s t : ByteArray) (w : World) : (binOp .gtr T (.string s) (.string t)).run Tryd.prog w = .ok (.bool !(Op.bytesLess s.toList t.toList || s.toList == t.toList)) w := by
  simp [binOp, Op.stringOp]
set_option maxHeartbeats 2000000 in
theorem cmp_str (s t : ByteArray) (w : World) : Calls Tryd.prog 25 #[.string s, .string t] w fun e w' => e = .returned (.int .i64 (cmpS (bl s) (bl t))) ∧ w' = w := by
  obtain ⟨R, hR⟩ : ∃ R, cmpS (bl s) (bl t) = R := ⟨_, rfl⟩
  rw [hR]
  unfold cmpS at hR
  have h1 := fun W => isNaN_str s W
  have h2 := fun W => isNaN_str t W
  have hL := less_bl s t
  have hG := fun W => gtr_str 9 s t W
  have hE := str_eq s t
  rw [hL, hE] at hG
  by_cases c1 : bl s < bl t
  · rw [if_pos c1] at hR
    rw [decide_eq_true c1] at hL
    replace hR := fhid hR
    clear hG hE c1
    go_enter Tryd.func25, Tryd.ntmps25
    go_wp2_with (first
      | (go_at_call 42; (with_reducible refine (h1 _).mono ?_); clear h1; rintro e w1 ⟨rfl, rfl⟩)
      | (go_at_call 42; (with_reducible refine (h2 _).mono ?_); rintro e w2 ⟨rfl, rfl⟩))
    go_ret
    exact ⟨fret1 hR.out, rfl⟩
  · rw [if_neg c1] at hR
    rw [decide_eq_false c1] at hL
    by_cases c2 : bl s = bl t
    · have hR2 : R = 0 := by
        rw [← hR, c2, if_neg (List.lt_irrefl _)]
      rw [decide_eq_false c1, decide_eq_true c2] at hG
      replace hR2 := fhid hR2
      clear hR hE c1 c2
      go_enter Tryd.func25, Tryd.ntmps25
      go_wp2_with (first
        | (go_at_call 42; (with_reducible refine (h1 _).mono ?_); clear h1; rintro e w1 ⟨rfl, rfl⟩)
        | (go_at_call 42; (with_reducible refine (h2 _).mono ?_); rintro e w2 ⟨rfl, rfl⟩))
      go_ret
      exact ⟨fret1 hR2.out.symm, rfl⟩
    · have hR2 : R = 1 := by
        rw [← hR, if_pos]
        rcases List.le_total (bl s) (bl t) with h | h
        · exact absurd (List.le_antisymm h (List.not_lt.1 c1)) c2
        · exact (List.not_le.1 (fun hh => c2 (List.le_antisymm hh h)))
      rw [decide_eq_false c1, decide_eq_false c2] at hG
      replace hR2 := fhid hR2
      clear hR hE c1 c2
      go_enter Tryd.func25, Tryd.ntmps25
      go_wp2_with (first
        | (go_at_call 42; (with_reducible refine (h1 _).mono ?_); clear h1; rintro e w1 ⟨rfl, rfl⟩)
        | (go_at_call 42; (with_reducible refine (h2 _).mono ?_); rintro e w2 ⟨rfl, rfl⟩))
      go_ret
      exact ⟨fret1 hR2.out.symm, rfl⟩
end Go.Proofs.YtkmknogejhhajabDoor
