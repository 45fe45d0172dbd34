/-
  The document's own Number.
-/
import Derived.Test.YtkmknogejhhajabDoorHOrd
import Derived.Test.YtkmknogejhhajabDoorHRRead
import Derived.Deep.RegionWith
namespace Go.Proofs.YtkmknogejhhajabDoor
open Go.RowKit

set_option maxRecDepth 100000 in
set_option maxHeartbeats 4000000 in
theorem rNumber_any (s : ByteArray) (w : World) (hs : s.size ≤ 140737488355328) : Calls Tryd.prog 6 #[.string s] w (NumberPost w (bl s)) := by
  have hsl := bl_len s
  have hsI : (s.size : Int) ≤ 140737488355328 := by omega
  have hbl := bl_get s
  have hnd := @ndig_eq (bl s)
  have hn0 := @number_none (bl s)
  have hn1 := @number_some (bl s)
  replace hbl := fhid hbl
  replace hnd := fhid hnd
  replace hn0 := fhid hn0
  replace hn1 := fhid hn1
  replace hs := fhid hs
  replace hsl := fhid hsl
  go_enter Tryd.func6, Tryd.ntmps6
  go_wp2_with fail
  go_loop [6] (fun n => ∃ j : Nat, j ≤ 6 ∧ j ≤ s.size ∧ n = .int .i64 (j : Int) ∧ ∀ i (h : i < s.size), s.size - j ≤ i → isDig s[i] = true) (fun n => 6 - (intOf n).toNat)
  case atStart => exact ⟨0, by omega, by omega, rfl, fun i h hi => absurd h (by omega)⟩
  case round =>
    obtain ⟨j, h6, hj, rfl, hall⟩ := hrel
    have j0 : (0 : Int) ≤ j := by omega
    have hal : ∀ i (h : i < (bl s).length), (bl s).length - j ≤ i → isDig (bl s)[i] = true := fun i h hi => by
      have h2 : i < s.size := by rw [← hsl.out]; exact h
      rw [hbl.out i h2 h]
      exact hall i h2 (by rw [← hsl.out]; exact hi)
    by_cases g6 : j < 6
    · have t1 : (j : Int) < 6 := by omega
      by_cases gs : j < s.size
      · have t2 : (j : Int) < s.size := by omega
        have t3 : (0 : Int) ≤ (s.size : Int) - 1 - j := by omega
        have t4 : (s.size : Int) - 1 - j < s.size := by omega
        have t5 : ((s.size : Int) - 1 - j).toNat = s.size - 1 - j := by omega
        have t6 : (1 : Int) ≤ s.size := by omega
        have hd := rdigit_any (s[s.size - 1 - j]'(by omega))
        by_cases gd : isDig (s[s.size - 1 - j]'(by omega)) = true
        · rw [gd] at hd
          have hall2 : ∀ i (h : i < s.size), s.size - (j + 1) ≤ i → isDig s[i] = true := fun i h hi => by
            by_cases e : i = s.size - 1 - j
            · subst e; exact gd
            · exact hall i h (by omega)
          replace hall2 := fhid hall2
          clear hall hal gd
          go_wp2_with (go_at_call 14; (with_reducible refine (hd _).mono ?_); rintro e w1 ⟨rfl, rfl⟩)
          go_round
          case rel => exact ⟨j + 1, by omega, by omega, by go_num, hall2.out⟩
          case measure => simp [intOf]; omega
        · have gf : isDig (s[s.size - 1 - j]'(by omega)) = false := by simpa using gd
          rw [gf] at hd
          have hN : ndig (bl s) = j := hnd.out j h6 (by rw [hsl.out]; exact hj) hal (.inr (.inr ⟨by rw [hsl.out]; omega, by
            have hq : (bl s).length - j - 1 < (bl s).length := by rw [hsl.out]; omega
            rw [hbl.out _ (by rw [hsl.out]; omega) hq]
            have e : (bl s).length - j - 1 = s.size - 1 - j := by rw [hsl.out]; omega
            simpa only [e] using gf⟩))
          clear gd gf
          by_cases z0 : j = 0
          · have E := fhid (hn0.out (.inl (by rw [hN]; exact z0)))
            replace z0 := fhid z0
            clear hN hall hal
            go_upto_region 4 with (go_at_call 14; (with_reducible refine (hd _).mono ?_); rintro e w1 ⟨rfl, rfl⟩)
            have z1 : (j : Int) = 0 := by have := z0.out; omega
            clear z0 t1 t2 t6 hd
            go_wp2_with fail
            exact bodyPost_ret (v := .tuple #[.string s, .int .i64 0, .int .i64 0, .bool false]) (by simp [results, Tryd.results6, go_sem]) rfl ⟨by rw [E.out, str_bl], Grew.refl _⟩
          · have z1 : ¬ (j : Int) = 0 := by omega
            have z2 : ((j : Int) == 0) = false := by simpa using z1
            by_cases zs : j = s.size
            · have E := fhid (hn0.out (.inr (by rw [hN, hsl.out]; exact zs)))
              have z3 : ((j : Int) == s.size) = true := by rw [zs]; simp
              replace zs := fhid zs
              replace z3 := fhid z3
              clear hN hall hal
              go_upto_region 4 with (go_at_call 14; (with_reducible refine (hd _).mono ?_); rintro e w1 ⟨rfl, rfl⟩)
              replace z3 := z3.out
              clear t1 t2 t6 hd
              go_wp2_with fail
              exact bodyPost_ret (v := .tuple #[.string s, .int .i64 0, .int .i64 0, .bool false]) (by simp [results, Tryd.results6, go_sem]) rfl ⟨by rw [E.out, str_bl], Grew.refl _⟩
            · have z3 : ¬ (j : Int) = s.size := by omega
              have z4 : ((j : Int) == s.size) = false := by simpa using z3
              have E := fhid (hn1.out (by rw [hN, hsl.out]; omega))
              rw [hN, hsl.out] at E
              have hv := fun W => value_any ((bl s).drop (s.size - j)) W (by
                rw [List.all_eq_true]
                intro x hx
                obtain ⟨i, hi, rfl⟩ := List.getElem_of_mem hx
                rw [List.length_drop, hsl.out] at hi
                rw [List.getElem_drop]
                exact hal _ _ (by rw [hsl.out]; omega)) (by rw [List.length_drop, hsl.out]; omega)
              have q1 : s.extract (s.size - j) s.size = str ((bl s).drop (s.size - j)) := ext_from s _
              have q2 : s.extract 0 (s.size - j) = str ((bl s).take (s.size - j)) := ext_to s _
              have q3 : ((s.size : Int) - j).toNat = s.size - j := by omega
              have q4 : (0 : Int) ≤ (s.size : Int) - j := by omega
              have q5 : (s.size : Int) - j ≤ s.size := by omega
              clear hN hall hal
              generalize dval ((bl s).drop (s.size - j)) = D at *
              generalize str ((bl s).drop (s.size - j)) = T1 at *
              generalize str ((bl s).take (s.size - j)) = T2 at *
              go_upto_region 7 with (go_at_call 14; (with_reducible refine (hd _).mono ?_); rintro e w1 ⟨rfl, rfl⟩)
              go_region_with (go_at_call 15; refine (hv _).mono ?_; rintro e w2 ⟨rfl, rfl⟩)
              go_wp2_with fail
              exact bodyPost_ret (v := .tuple #[.string T2, .int .i64 D, .int .i64 j, .bool true]) (by simp [results, Tryd.results6, go_sem]) rfl ⟨by rw [E.out], by first | exact Grew.refl _ | exact (Grew.refl _).drew⟩
      · have t2 : ¬ (j : Int) < s.size := by omega
        have hN : ndig (bl s) = j := hnd.out j h6 (by rw [hsl.out]; exact hj) hal (.inr (.inl (by rw [hsl.out]; omega)))
        by_cases z0 : j = 0
        · have E := fhid (hn0.out (.inl (by rw [hN]; exact z0)))
          replace z0 := fhid z0
          clear hN hall hal
          go_upto_region 4 with fail
          have z1 : (j : Int) = 0 := by have := z0.out; omega
          clear z0 t1 t2
          go_wp2_with fail
          exact bodyPost_ret (v := .tuple #[.string s, .int .i64 0, .int .i64 0, .bool false]) (by simp [results, Tryd.results6, go_sem]) rfl ⟨by rw [E.out, str_bl], Grew.refl _⟩
        · have z1 : ¬ (j : Int) = 0 := by omega
          have z2 : ((j : Int) == 0) = false := by simpa using z1
          by_cases zs : j = s.size
          · have E := fhid (hn0.out (.inr (by rw [hN, hsl.out]; exact zs)))
            have z3 : ((j : Int) == s.size) = true := by rw [zs]; simp
            replace zs := fhid zs
            replace z3 := fhid z3
            clear hN hall hal
            go_upto_region 4 with fail
            replace z3 := z3.out
            clear t1 t2
            go_wp2_with fail
            exact bodyPost_ret (v := .tuple #[.string s, .int .i64 0, .int .i64 0, .bool false]) (by simp [results, Tryd.results6, go_sem]) rfl ⟨by rw [E.out, str_bl], Grew.refl _⟩
          · have z3 : ¬ (j : Int) = s.size := by omega
            have z4 : ((j : Int) == s.size) = false := by simpa using z3
            have E := fhid (hn1.out (by rw [hN, hsl.out]; omega))
            rw [hN, hsl.out] at E
            have hv := fun W => value_any ((bl s).drop (s.size - j)) W (by
              rw [List.all_eq_true]
              intro x hx
              obtain ⟨i, hi, rfl⟩ := List.getElem_of_mem hx
              rw [List.length_drop, hsl.out] at hi
              rw [List.getElem_drop]
              exact hal _ _ (by rw [hsl.out]; omega)) (by rw [List.length_drop, hsl.out]; omega)
            have q1 : s.extract (s.size - j) s.size = str ((bl s).drop (s.size - j)) := ext_from s _
            have q2 : s.extract 0 (s.size - j) = str ((bl s).take (s.size - j)) := ext_to s _
            have q3 : ((s.size : Int) - j).toNat = s.size - j := by omega
            have q4 : (0 : Int) ≤ (s.size : Int) - j := by omega
            have q5 : (s.size : Int) - j ≤ s.size := by omega
            clear hN hall hal
            generalize dval ((bl s).drop (s.size - j)) = D at *
            generalize str ((bl s).drop (s.size - j)) = T1 at *
            generalize str ((bl s).take (s.size - j)) = T2 at *
            go_upto_region 7 with fail
            go_region_with (go_at_call 15; refine (hv _).mono ?_; rintro e w2 ⟨rfl, rfl⟩)
            go_wp2_with fail
            exact bodyPost_ret (v := .tuple #[.string T2, .int .i64 D, .int .i64 j, .bool true]) (by simp [results, Tryd.results6, go_sem]) rfl ⟨by rw [E.out], by first | exact Grew.refl _ | exact (Grew.refl _).drew⟩
    · have t1 : ¬ (j : Int) < 6 := by omega
      have hN : ndig (bl s) = j := hnd.out j h6 (by rw [hsl.out]; exact hj) hal (.inl (by omega))
      by_cases z0 : j = 0
      · have E := fhid (hn0.out (.inl (by rw [hN]; exact z0)))
        replace z0 := fhid z0
        clear hN hall hal
        go_upto_region 4 with fail
        have z1 : (j : Int) = 0 := by have := z0.out; omega
        clear z0 t1
        go_wp2_with fail
        exact bodyPost_ret (v := .tuple #[.string s, .int .i64 0, .int .i64 0, .bool false]) (by simp [results, Tryd.results6, go_sem]) rfl ⟨by rw [E.out, str_bl], Grew.refl _⟩
      · have z1 : ¬ (j : Int) = 0 := by omega
        have z2 : ((j : Int) == 0) = false := by simpa using z1
        by_cases zs : j = s.size
        · have E := fhid (hn0.out (.inr (by rw [hN, hsl.out]; exact zs)))
          have z3 : ((j : Int) == s.size) = true := by rw [zs]; simp
          replace zs := fhid zs
          replace z3 := fhid z3
          clear hN hall hal
          go_upto_region 4 with fail
          replace z3 := z3.out
          clear t1
          go_wp2_with fail
          exact bodyPost_ret (v := .tuple #[.string s, .int .i64 0, .int .i64 0, .bool false]) (by simp [results, Tryd.results6, go_sem]) rfl ⟨by rw [E.out, str_bl], Grew.refl _⟩
        · have z3 : ¬ (j : Int) = s.size := by omega
          have z4 : ((j : Int) == s.size) = false := by simpa using z3
          have E := fhid (hn1.out (by rw [hN, hsl.out]; omega))
          rw [hN, hsl.out] at E
          have hv := fun W => value_any ((bl s).drop (s.size - j)) W (by
            rw [List.all_eq_true]
            intro x hx
            obtain ⟨i, hi, rfl⟩ := List.getElem_of_mem hx
            rw [List.length_drop, hsl.out] at hi
            rw [List.getElem_drop]
            exact hal _ _ (by rw [hsl.out]; omega)) (by rw [List.length_drop, hsl.out]; omega)
          have q1 : s.extract (s.size - j) s.size = str ((bl s).drop (s.size - j)) := ext_from s _
          have q2 : s.extract 0 (s.size - j) = str ((bl s).take (s.size - j)) := ext_to s _
          have q3 : ((s.size : Int) - j).toNat = s.size - j := by omega
          have q4 : (0 : Int) ≤ (s.size : Int) - j := by omega
          have q5 : (s.size : Int) - j ≤ s.size := by omega
          clear hN hall hal
          generalize dval ((bl s).drop (s.size - j)) = D at *
          generalize str ((bl s).drop (s.size - j)) = T1 at *
          generalize str ((bl s).take (s.size - j)) = T2 at *
          go_upto_region 7 with fail
          go_region_with (go_at_call 15; refine (hv _).mono ?_; rintro e w2 ⟨rfl, rfl⟩)
          go_wp2_with fail
          exact bodyPost_ret (v := .tuple #[.string T2, .int .i64 D, .int .i64 j, .bool true]) (by simp [results, Tryd.results6, go_sem]) rfl ⟨by rw [E.out], by first | exact Grew.refl _ | exact (Grew.refl _).drew⟩
end Go.Proofs.YtkmknogejhhajabDoor
