/-
  A name's prefix and number.
-/
import Derived.Test.YtkmknogejhhajabDoorHExpand
import Derived.Lib.ConvBytes
import Derived.Laws.IdiomStrings
namespace Go.Proofs.YtkmknogejhhajabDoor
open Go.RowKit

/-- Draws, and blocks behind all that was there. -/
def Grew (w w' : World) : Prop := ∃ q os, w' = Go.Sort.grow (w.drewN q) os
theorem Grew.below {w w' : World} (h : Grew w w') : Below w.heap.size w w' := by
  obtain ⟨q, os, rfl⟩ := h
  exact below_grow w q os
theorem Grew.refl (w : World) : Grew w w := ⟨0, #[], by unfold Go.Sort.grow; rw [Array.append_empty]; rfl⟩
theorem Grew.trans {a b c : World} (h : Grew a b) (k : Grew b c) : Grew a c := by
  obtain ⟨q, os, rfl⟩ := h
  obtain ⟨q', os', rfl⟩ := k
  refine ⟨q + q', os ++ os', ?_⟩
  show World.mk (a.heap ++ os ++ os') _ _ _ _ = World.mk (a.heap ++ (os ++ os')) _ _ _ _
  rw [Array.append_assoc]
  congr 1
  show a.drawn + q + q' = a.drawn + (q + q')
  omega
theorem Grew.drew {a b : World} (h : Grew a b) : Grew a b.drew := h.trans ⟨1, #[], by unfold Go.Sort.grow; rw [Array.append_empty]; rfl⟩
theorem Grew.drewN {a b : World} (h : Grew a b) (n : Nat) : Grew a (b.drewN n) := h.trans ⟨n, #[], by unfold Go.Sort.grow; rw [Array.append_empty]⟩
theorem Grew.alloc {a b : World} (h : Grew a b) (o : Obj) : Grew a (b.alloc o) := h.trans ⟨0, #[o], rfl⟩
theorem bytes_grew (w : World) (s : ByteArray) : Grew w (Lib.bytesWorld w 5 s) := by
  have h1 := run_bytes_of_string (P := Tryd.prog) w 9 32 5 s Tryd.underlying9 Tryd.underlying32 Tryd.underlying5
  have h2 := Lib.run_convert_string_bytes (P := Tryd.prog) w 9 32 5 s Tryd.underlying9 Tryd.underlying32 Tryd.underlying5
  rw [h1] at h2
  injection h2 with _ h2
  rw [← h2]
  exact ((Grew.refl w).drew).alloc _
def numberV (l : List UInt8) : Value := .tuple #[.string (str (number l).1), .int .i64 (number l).2.1, .int .i64 (number l).2.2.1, .bool (number l).2.2.2]
def NumberPost (w : World) (l : List UInt8) (e : Ending) (w' : World) : Prop := e = .returned (numberV l) ∧ Grew w w'
theorem number_none {l : List UInt8} (h : ndig l = 0 ∨ ndig l = l.length) : numberV l = .tuple #[.string (str l), .int .i64 0, .int .i64 0, .bool false] := by
  unfold numberV number; rw [if_pos h]; rfl
theorem number_some {l : List UInt8} (h : ¬ (ndig l = 0 ∨ ndig l = l.length)) : numberV l = .tuple #[.string (str (l.take (l.length - ndig l))), .int .i64 (dval (l.drop (l.length - ndig l)) : Nat), .int .i64 (ndig l : Nat), .bool true] := by
  unfold numberV number; rw [if_neg h]
theorem ndig_stop (l : List UInt8) (h : ndig l < 6) (h' : ndig l < l.length) (hi : l.length - ndig l - 1 < l.length) : isDig l[l.length - ndig l - 1] = false := by
  have hlen : (l.reverse.take 6).length = min 6 l.length := by rw [List.length_take, List.length_reverse]
  have := tw_next (p := isDig) (l.reverse.take 6) (by show ndig l < _; omega)
  rw [List.getElem_take, List.getElem_reverse] at this
  have e : l.length - 1 - ((l.reverse.take 6).takeWhile isDig).length = l.length - ndig l - 1 := by show l.length - 1 - ndig l = _; omega
  simpa only [e] using this
theorem Number_no1 (s : ByteArray) (w : World) (hs : s.size ≤ 1125899906842624) (N : Nat) (hN : ndig (bl s) = N) (h : N = s.size) : Calls Tryd.prog 5 #[.string s] w (NumberPost w (bl s)) := by
  have E := fhid (number_none (l := bl s) (.inr (by rw [bl_len]; omega)))
  have h6 := ndig_le (bl s)
  rw [hN] at h6
  have hdig : ∀ i (h : i < s.size), isDig (s[i]'h) = true := fun i h => by
    have := ndig_all (bl s) i (by rw [bl_len]; exact h) (by rw [bl_len]; omega)
    rwa [bl_get s i h] at this
  have hs6 : (s.size : Int) ≤ 6 := by omega
  replace hdig := fhid hdig
  clear hN h
  go_enter Tryd.func5, Tryd.ntmps5
  go_wp2
  go_loop [6] (fun i => ∃ m : Nat, m ≤ s.size ∧ i = .int .i64 (m : Int)) (fun i => (intOf i).toNat)
  case atStart => exact ⟨s.size, Nat.le_refl _, rfl⟩
  case round =>
    obtain ⟨m, hm, rfl⟩ := hrel
    by_cases h0 : 0 < m
    · have hd := isDigit_any (s[m - 1]'(by omega))
      rw [hdig.out (m - 1) (by omega)] at hd
      have t1 : (m : Int) > 0 := by omega
      have t2 : (s.size : Int) - m < 6 := by omega
      have t3 : (0 : Int) ≤ (m : Int) - 1 := by omega
      have t4 : (m : Int) - 1 < s.size := by omega
      have t5 : ((m : Int) - 1).toNat = m - 1 := by omega
      have t6 : (1 : Int) ≤ m := by omega
      go_wp2_with (go_at_call 12; (with_reducible refine (hd _).mono ?_); rintro e w1 ⟨rfl, rfl⟩)
      go_round
      case rel => exact ⟨m - 1, by omega, by rw [show (m : Int) - 1 = ((m - 1 : Nat) : Int) by omega]⟩
      case measure => simp [intOf]; omega
    · obtain rfl : m = 0 := by omega
      go_wp2
      exact bodyPost_ret (v := .tuple #[.string s, .int .i64 0, .int .i64 0, .bool false]) (by simp [results, Tryd.results5, go_sem]) rfl ⟨by rw [E.out, str_bl], Grew.refl _⟩
theorem Number_no2 (s : ByteArray) (w : World) (hs : s.size ≤ 1125899906842624) (N : Nat) (hN : ndig (bl s) = N) (h : N = 0) (h' : 0 < s.size) : Calls Tryd.prog 5 #[.string s] w (NumberPost w (bl s)) := by
  have E := fhid (number_none (l := bl s) (.inl (by omega)))
  have hst := ndig_stop (bl s) (by omega) (by rw [bl_len]; omega) (by rw [bl_len]; omega)
  rw [bl_get s _ (by rw [bl_len]; omega)] at hst
  have hd := isDigit_any (s[s.size - 1]'(by omega))
  have e0 : s[(bl s).length - ndig (bl s) - 1]'(by rw [bl_len]; omega) = s[s.size - 1]'(by omega) := by congr 1; rw [bl_len]; omega
  rw [e0] at hst
  rw [hst] at hd
  have t1 : (s.size : Int) > 0 := by omega
  have t3 : (0 : Int) ≤ (s.size : Int) - 1 := by omega
  have t4 : (s.size : Int) - 1 < s.size := by omega
  have t5 : ((s.size : Int) - 1).toNat = s.size - 1 := by omega
  have t6 : (s.size : Int) ≤ 1125899906842624 := by omega
  have t7 : ((s.size : Int) == 0) = false := by rw [beq_eq_false_iff_ne]; omega
  have t8 : ¬ (s.size : Int) = 0 := by omega
  clear hst e0 hN h
  go_enter Tryd.func5, Tryd.ntmps5
  go_wp2
  go_loop [6] (fun i => i = .int .i64 (s.size : Int)) (fun i => (intOf i).toNat)
  case atStart => rfl
  case round =>
    subst hrel
    go_wp2_with (go_at_call 12; (with_reducible refine (hd _).mono ?_); rintro e w1 ⟨rfl, rfl⟩)
    exact bodyPost_ret (v := .tuple #[.string s, .int .i64 0, .int .i64 0, .bool false]) (by simp [results, Tryd.results5, go_sem]) rfl ⟨by rw [E.out, str_bl], Grew.refl _⟩
set_option maxRecDepth 100000 in
set_option maxHeartbeats 2000000 in
theorem Number_yes (s : ByteArray) (w : World) (hs : s.size ≤ 1125899906842624) (N A : Nat) (hN : ndig (bl s) = N) (h0 : 1 ≤ N) (hA : A + N = s.size) (hA1 : 1 ≤ A) : Calls Tryd.prog 5 #[.string s] w (NumberPost w (bl s)) := by
  have hlA : (bl s).length - N = A := by rw [bl_len]; omega
  have E := number_some (l := bl s) (by rw [bl_len]; omega)
  rw [hN, hlA] at E
  replace E := fhid E
  have h6 := (ndig_le (bl s)).1
  rw [hN] at h6
  have hdig : ∀ i (h : i < s.size), A ≤ i → isDig (s[i]'h) = true := fun i h hi => by
    have := ndig_all (bl s) i (by rw [bl_len]; exact h) (by rw [hN, hlA]; exact hi)
    rwa [bl_get s i h] at this
  have hst : N < 6 → isDig (s[A - 1]'(by omega)) = false := fun h => by
    have := ndig_stop (bl s) (by omega) (by rw [bl_len]; omega) (by rw [bl_len]; omega)
    rw [bl_get s _ (by rw [bl_len]; omega)] at this
    have e0 : s[(bl s).length - ndig (bl s) - 1]'(by rw [bl_len]; omega) = s[A - 1]'(by omega) := by congr 1; rw [bl_len]; omega
    rwa [e0] at this
  obtain ⟨D, hDe⟩ : ∃ D, (bl s).drop A = D := ⟨_, rfl⟩
  obtain ⟨S, hSe⟩ : ∃ S, str D = S := ⟨_, rfl⟩
  rw [hDe] at E
  have hD : D.length = N := by rw [← hDe, List.length_drop, bl_len]; omega
  have hDall : ∀ i (h : i < D.length), isDig D[i] = true := by
    subst hDe
    intro i h
    rw [drop_get s A i (by omega)]
    exact hdig _ _ (by omega)
  have hAs : (A : Int) + N = s.size := by omega
  have a1 : (1 : Int) ≤ A := by omega
  have a2 : (A : Int) ≤ 1125899906842624 := by omega
  have n1 : (1 : Int) ≤ N := by omega
  have n6 : (N : Int) ≤ 6 := by omega
  have hAle : (A : Int) ≤ s.size := by omega
  have hex := ext_to s A
  have hex2 := ext_from s A
  rw [hDe, hSe] at hex2
  have hssz : S.size = N := by rw [← hSe, str_size]; exact hD
  have hconv := fun W => Lib.run_convert_string_bytes (P := Tryd.prog) W 9 32 5 S Tryd.underlying9 Tryd.underlying32 Tryd.underlying5
  have hbc' : ∀ (W : World) i (h : i < D.length), (Lib.bytesWorld W 5 S).cell? ⟨W.heap.size, i, none⟩ = some (.int .u8 (D[i].toNat : Int)) := fun W i h => by
    rw [Lib.bytesWorld_cell W 5 S i (by omega)]
    have : S.data.toList = D := by rw [← hSe]; exact bl_str _
    rw [this, List.getD_eq_getElem?_getD, List.getElem?_eq_getElem h]
    rfl
  have hgr := fun W => bytes_grew W S
  replace hDe := fhid hDe
  replace hSe := fhid hSe
  replace hdig := fhid hdig
  replace hst := fhid hst
  replace hDall := fhid hDall
  replace hbc' := fhid hbc'
  replace hgr := fhid hgr
  replace hD := fhid hD
  replace hA := fhid hA
  replace hAs := fhid hAs
  replace hlA := fhid hlA
  rw [hssz] at hconv
  clear hN
  go_enter Tryd.func5, Tryd.ntmps5
  go_wp2
  go_loop [6] (fun i => ∃ m : Nat, m ≤ N ∧ i = .int .i64 ((A : Int) + (m : Int))) (fun i => (intOf i).toNat)
  case atStart => exact ⟨N, Nat.le_refl _, by rw [hAs.out]⟩
  case round =>
    obtain ⟨m, hm, rfl⟩ := hrel
    have hAn := hA.out
    by_cases h1 : 0 < m
    · have hd := isDigit_any (s[A + m - 1]'(by omega))
      rw [hdig.out (A + m - 1) (by omega) (by omega)] at hd
      have t1 : (A : Int) + m > 0 := by omega
      have t2 : (s.size : Int) - ((A : Int) + m) < 6 := by omega
      have t3 : (0 : Int) ≤ (A : Int) + m - 1 := by omega
      have t4 : (A : Int) + m - 1 < s.size := by omega
      have t5 : ((A : Int) + m - 1).toNat = A + m - 1 := by omega
      have t6 : (1 : Int) ≤ m := by omega
      have t7 : (m : Int) ≤ 6 := by omega
      clear hex hex2 hconv hAn
      go_wp2_with (go_at_call 12; (with_reducible refine (hd _).mono ?_); rintro e w1 ⟨rfl, rfl⟩)
      go_round
      case rel => exact ⟨m - 1, by omega, by rw [show (A : Int) + m - 1 = (A : Int) + ((m - 1 : Nat) : Int) by omega]⟩
      case measure => simp [intOf]; omega
    · obtain rfl : m = 0 := by omega
      have t1 : (A : Int) > 0 := by omega
      have t7 : ((A : Int) == 0) = false := by rw [beq_eq_false_iff_ne]; omega
      have t8 : ¬ (A : Int) = 0 := by omega
      have t9 : ((A : Int) == (s.size : Int)) = false := by rw [beq_eq_false_iff_ne]; omega
      have t10 : ¬ (A : Int) = s.size := by omega
      have t11 : (0 : Int) ≤ A := by omega
      have t12 : (s.size : Int) - A = N := by have := hAs.out; omega
      have hNN : (N : Int) < 6 ∨ ¬ (N : Int) < 6 := by omega
      have hd := isDigit_any (s[A - 1]'(by omega))
      have t3 : (0 : Int) ≤ (A : Int) - 1 := by omega
      have t4 : (A : Int) - 1 < s.size := by omega
      have t5 : ((A : Int) - 1).toNat = A - 1 := by omega
      clear h1 hm
      rcases hNN with hN6 | hN6
      · rw [hst.out (by omega)] at hd
        go_wp2_with (go_at_call 12; (with_reducible refine (hd _).mono ?_); rintro e w1 ⟨rfl, rfl⟩)
        go_loop [7, 44] (fun n i => ∃ k : Nat, k ≤ N ∧ i = .int .i64 (k : Int) ∧ n = .int .i64 ((dval (D.take k) : Nat) : Int)) (fun _ i => N - (intOf i).toNat)
        case atStart => exact ⟨0, Nat.zero_le _, rfl, rfl⟩
        case round =>
          obtain ⟨k, hk, rfl, rfl⟩ := hrel
          by_cases hlt : k < N
          · have hkD : k < D.length := by rw [hD.out]; exact hlt
            have c0 := hbc'.out w k hkD
            have had := fun W => addDigit_any (dval (D.take k)) D[k] W (hDall.out k hkD) (by have := dval_take_le (r := D) (j := k) (fun i h _ => hDall.out i h) (by omega) (by omega); omega)
            have hds := fhid (dval_take_succ D k hkD)
            have q1 : (k : Int) < N := by omega
            have q0 : (0 : Int) ≤ k := by omega
            clear t12 t9 t10 t7 t8 hconv
            go_wp2_with (go_at_call 13; (with_reducible refine (had _).mono ?_); rintro e w1 ⟨rfl, rfl⟩)
            go_round
            case rel => exact ⟨k + 1, by omega, by go_num, by rw [hds.out]; simp⟩
            case measure => simp [intOf]; omega
          · obtain rfl : k = N := by omega
            have hall := fhid (show D.take k = D from List.take_of_length_le (by rw [hD.out]; exact Nat.le_refl _))
            have q1 : ¬ (k : Int) < k := by omega
            go_wp2_with fail
            exact bodyPost_ret (v := .tuple #[.string (str ((bl s).take A)), .int .i64 (dval (D.take k) : Nat), .int .i64 (k : Int), .bool true]) (by simp [results, Tryd.results5, go_sem]) rfl ⟨by rw [E.out, hall.out], hgr.out w⟩
      · go_wp2_with fail
        go_loop [7, 44] (fun n i => ∃ k : Nat, k ≤ N ∧ i = .int .i64 (k : Int) ∧ n = .int .i64 ((dval (D.take k) : Nat) : Int)) (fun _ i => N - (intOf i).toNat)
        case atStart => exact ⟨0, Nat.zero_le _, rfl, rfl⟩
        case round =>
          obtain ⟨k, hk, rfl, rfl⟩ := hrel
          by_cases hlt : k < N
          · have hkD : k < D.length := by rw [hD.out]; exact hlt
            have c0 := hbc'.out w k hkD
            have had := fun W => addDigit_any (dval (D.take k)) D[k] W (hDall.out k hkD) (by have := dval_take_le (r := D) (j := k) (fun i h _ => hDall.out i h) (by omega) (by omega); omega)
            have hds := fhid (dval_take_succ D k hkD)
            have q1 : (k : Int) < N := by omega
            have q0 : (0 : Int) ≤ k := by omega
            clear t12 t9 t10 t7 t8 hconv
            go_wp2_with (go_at_call 13; (with_reducible refine (had _).mono ?_); rintro e w1 ⟨rfl, rfl⟩)
            go_round
            case rel => exact ⟨k + 1, by omega, by go_num, by rw [hds.out]; simp⟩
            case measure => simp [intOf]; omega
          · obtain rfl : k = N := by omega
            have hall := fhid (show D.take k = D from List.take_of_length_le (by rw [hD.out]; exact Nat.le_refl _))
            have q1 : ¬ (k : Int) < k := by omega
            go_wp2_with fail
            exact bodyPost_ret (v := .tuple #[.string (str ((bl s).take A)), .int .i64 (dval (D.take k) : Nat), .int .i64 (k : Int), .bool true]) (by simp [results, Tryd.results5, go_sem]) rfl ⟨by rw [E.out, hall.out], hgr.out w⟩
theorem Number_any (s : ByteArray) (w : World) (hs : s.size ≤ 1125899906842624) : Calls Tryd.prog 5 #[.string s] w (NumberPost w (bl s)) := by
  have h := ndig_le (bl s)
  rw [bl_len] at h
  by_cases h1 : ndig (bl s) = s.size
  · exact Number_no1 s w hs _ rfl h1
  · by_cases h2 : ndig (bl s) = 0
    · exact Number_no2 s w hs _ rfl h2 (by omega)
    · exact Number_yes s w hs (ndig (bl s)) (s.size - ndig (bl s)) rfl (by omega) (by omega) (by omega)
end Go.Proofs.YtkmknogejhhajabDoor
