/-
  HostSorts, walked.
-/
import Derived.Test.YtkmknogejhhajabDoorHLong
import Derived.Test.YtkmknogejhhajabDoorHSorted
import Derived.Deep.DeepCutAuto
import Derived.Deep.CutBlock
namespace Go.Proofs.YtkmknogejhhajabDoor
open Go.RowKit

theorem below_drewN1 (w : World) (n : Nat) : Below w.heap.size w (w.drewN n) := ⟨rfl, rfl, rfl, Nat.le_refl _, fun _ _ => rfl⟩
theorem count_step (l : List (List UInt8)) (x : List UInt8) {q : Nat} (h : q < l.length) : (l.take (q + 1)).count x = (l.take q).count x + if l[q] = x then 1 else 0 := by
  rw [List.take_succ_eq_append_getElem h, List.count_append, List.count_singleton]
  by_cases e : l[q] = x
  · rw [if_pos e, if_pos (by simp [e])]
  · rw [if_neg e, if_neg (by simpa using e)]
theorem count_le (l : List (List UInt8)) (x : List UInt8) (q : Nat) : (l.take q).count x ≤ q := Nat.le_trans List.count_le_length (by rw [List.length_take]; omega)
set_option maxRecDepth 100000 in
set_option maxHeartbeats 16000000 in
theorem sorts_small (A : Option Addr) (ls : List (List UInt8)) (cap : Nat) (w : World) (hr : Strs w w.heap.size A ls) (hT : Tab w) (hL : ls.length ≤ 60 ∧ ∀ x ∈ ls, x.length ≤ 300) :
    Calls Tryd.prog 4 #[.slice A ls.length cap] w (BoolPost w true) := by
  have hlo := fun W (hW : Below w.heap.size w W) => long_is A ls cap W (Strs.more (Strs.below hr hW) hW.size) (by omega)
  rw [longB_good ⟨by omega, hL.2⟩] at hlo
  have hso := fun W (hW : Below w.heap.size w W) => hSorted_any ls A cap W (Strs.more (Strs.below hr hW) hW.size) (by omega) (fun x hx => by have := hL.2 x hx; omega)
  have hal := fun W (hW : Below w.heap.size w W) => alive_any W (tab_below hT hW)
  obtain ⟨hL1, hL2⟩ := hL
  replace hr := fhid hr
  replace hL2 := fhid hL2
  clear hT
  have i60 : ¬ (60 : Int) < ls.length := by omega
  go_enter Tryd.func4, Tryd.ntmps4
  go_upto_region 3 with (go_at_call 7; (with_reducible refine (hlo _ (Below.refl _ _)).mono ?_); rintro e w3 ⟨rfl, m3, rfl⟩; have g3 := below_drewN1 w m3)
  generalize w.drewN m3 = w3 at *
  go_upto_region 4 with (go_at_call 9; (with_reducible refine (hso _ g3).mono ?_); rintro e w4 ⟨v4, rfl, ks, o4, s4, p4, b4⟩; have g4 := g3.trans (b4.mono g3.size); obtain ⟨A4, c4, rfl, _, _, t4⟩ := OwnS.shape o4)
  have hkl := p4.length_eq
  have hkx : ∀ x ∈ ks, x.length ≤ 300 := fun x hx => hL2.out x (p4.mem_iff.1 hx)
  have hs2 := hSorted_any ks A4 c4 w4 t4 (by omega) (fun x hx => by have := hkx x hx; omega)
  rw [hkl] at hs2 ⊢
  clear o4 hso hlo i60
  replace s4 := fhid s4
  replace p4 := fhid p4
  replace t4 := fhid t4
  replace hkx := fhid hkx
  replace hkl := fhid hkl
  go_upto_region 6 with (first
    | (go_at_call 9; (with_reducible refine hs2.mono ?_); rintro e w5 ⟨v5, rfl, js, o5, s5, p5, b5⟩; have g5 := g4.trans (b5.mono g4.size)
       obtain rfl : ks = js := (srt_uniq s5 s4.out p5).symm
       obtain ⟨A5, c5, rfl, _, _, t5⟩ := OwnS.shape o5
       have hsm := Same_any A5 A4 ks ks c5 c4 _ _ w5 t5 (Strs.below t4.out b5) (by have := hkl.out; omega)
       rw [decide_eq_true rfl, hkl.out] at hsm
       rw [hkl.out]
       clear o5 s5 p5 t5)
    | (go_at_call 8; (with_reducible refine hsm.mono ?_); rintro e w6 ⟨rfl, m6, rfl⟩))
  have g6 : Below w.heap.size w (w5.drewN m6) := g5.trans ((below_drewN1 w5 m6).mono g5.size)
  have b6 : Below w4.heap.size w4 (w5.drewN m6) := b5.trans ((below_drewN1 w5 m6).mono b5.size)
  clear hsm hs2 g3 b4
  generalize w5.drewN m6 = w6 at *
  go_wp2_with fail
  go_loopw [40] (fun i wr => ∃ j : Nat, j ≤ ls.length ∧ i = .int .i64 (j : Int) ∧ Below w6.heap.size w6 wr) (fun i _ => ls.length - (intOf i).toNat)
  case atStart => exact ⟨0, Nat.zero_le _, rfl, Below.refl _ _⟩
  case round =>
    obtain ⟨j, hj, rfl, hB⟩ := hrel
    have hzB := hB.size
    rename World => wo
    have i0 : (0 : Int) ≤ j := by omega
    have gB : Below w.heap.size w wo := g6.trans (hB.mono g6.size)
    have hk := hkl.out
    by_cases hlt : j < ls.length
    · have i1 : (j : Int) < ls.length := by omega
      have tB : Strs wo w4.heap.size A4 ks := Strs.below t4.out (b6.trans (hB.mono b6.size))
      have rB : Strs wo w.heap.size A ls := Strs.below hr.out gB
      obtain ⟨bk, ok, rfl, hbk, ck⟩ := Strs.at_ tB (k := j) (by omega)
      obtain ⟨bl0, ol0, rfl, hbl, _⟩ := Strs.at_ rB hlt
      have hcl : ∀ q (h : q < ls.length), wo.cell? ⟨bl0, ol0 + q, none⟩ = some (.string (str ls[q])) := fun q h => by
        obtain ⟨b', o', e, _, c⟩ := Strs.at_ rB h
        injection e with e
        injection e with e1 e2 _
        subst e1 e2
        exact c
      have hck : ∀ q (h : q < ks.length), wo.cell? ⟨bk, ok + q, none⟩ = some (.string (str ks[q])) := fun q h => by
        obtain ⟨b', o', e, _, c⟩ := Strs.at_ tB h
        injection e with e
        injection e with e1 e2 _
        subst e1 e2
        exact c
      have hsrt : ∀ m (h : m + 1 = j), ltOf cmpN (ks[j]'(by omega)) (ks[m]'(by omega)) = false := fun m h => List.pairwise_iff_getElem.1 s4.out m j (by omega) (by omega) (by omega)
      have hxj := hkx.out ks[j] (List.getElem_mem (by omega))
      have hcnt := fun x => p4.out.count_eq x
      generalize hx : ks[j] = x at *
      replace hcl := fhid hcl
      replace hck := fhid hck
      replace hsrt := fhid hsrt
      replace hcnt := fhid hcnt
      replace hx := fhid hx
      replace hk := fhid hk
      clear tB rB
      go_wp2_with fail
      go_loop [6, 47] (fun m i => ∃ q : Nat, q ≤ ls.length ∧ i = .int .i64 (q : Int) ∧ m = .int .i64 (((ls.take q).count x : Int) - ((ks.take q).count x : Int))) (fun _ i => ls.length - (intOf i).toNat)
      case atStart => exact ⟨0, Nat.zero_le _, rfl, by simp⟩
      case round =>
        obtain ⟨q, hq, rfl, rfl⟩ := hrel
        have j0 : (0 : Int) ≤ q := by omega
        have hkk := hk.out
        by_cases hql : q < ls.length
        · have j1 : (q : Int) < ls.length := by omega
          have cq1 := hcl.out q hql
          have cq2 := hck.out q (by omega)
          have hs1 := count_step ls x hql
          have hs2 := count_step ks x (q := q) (by omega)
          have hb1 := count_le ls x q
          have hb2 := count_le ks x q
          have he1 := str_eq (str ls[q]) (str x)
          have he2 := str_eq (str ks[q]) (str x)
          rw [bl_str, bl_str] at he1 he2
          generalize (ls.take q).count x = n1 at *
          generalize (ks.take q).count x = n2 at *
          generalize ls[q] = a at *
          generalize ks[q] = b at *
          generalize str a = SA at *
          generalize str b = SB at *
          generalize str x = SX at *
          clear hkk
          have k1 : (n1 : Int) - n2 ≤ 60 := by omega
          have k2 : -60 ≤ (n1 : Int) - n2 := by omega
          by_cases e1 : a = x
          · rw [if_pos e1] at hs1
            rw [decide_eq_true e1] at he1
            clear e1
            by_cases e2 : b = x
            · rw [if_pos e2] at hs2
              rw [decide_eq_true e2] at he2
              have hd : Hid (((ls.take (q + 1)).count x : Int) - ((ks.take (q + 1)).count x : Int) = (n1 : Int) - n2) := by rw [hs1, hs2]; show _ = _; omega
              clear e2 hs1 hs2
              generalize hC : (n1 : Int) - n2 = C at *
              go_wp2_with fail
              go_round
              case rel => exact ⟨q + 1, by omega, by go_num, congrArg (Value.int .i64) (by rw [hd.out])⟩
              case measure => simp [intOf]; omega
            · rw [if_neg e2] at hs2
              rw [decide_eq_false e2] at he2
              have hd : Hid (((ls.take (q + 1)).count x : Int) - ((ks.take (q + 1)).count x : Int) = (n1 : Int) - n2 + 1) := by rw [hs1, hs2]; show _ = _; omega
              clear e2 hs1 hs2
              generalize hC : (n1 : Int) - n2 = C at *
              go_wp2_with fail
              go_round
              case rel => exact ⟨q + 1, by omega, by go_num, congrArg (Value.int .i64) (by rw [hd.out])⟩
              case measure => simp [intOf]; omega
          · rw [if_neg e1] at hs1
            rw [decide_eq_false e1] at he1
            clear e1
            by_cases e2 : b = x
            · rw [if_pos e2] at hs2
              rw [decide_eq_true e2] at he2
              have hd : Hid (((ls.take (q + 1)).count x : Int) - ((ks.take (q + 1)).count x : Int) = (n1 : Int) - n2 - 1) := by rw [hs1, hs2]; show _ = _; omega
              clear e2 hs1 hs2
              generalize hC : (n1 : Int) - n2 = C at *
              go_wp2_with fail
              go_round
              case rel => exact ⟨q + 1, by omega, by go_num, congrArg (Value.int .i64) (by rw [hd.out])⟩
              case measure => simp [intOf]; omega
            · rw [if_neg e2] at hs2
              rw [decide_eq_false e2] at he2
              have hd : Hid (((ls.take (q + 1)).count x : Int) - ((ks.take (q + 1)).count x : Int) = (n1 : Int) - n2) := by rw [hs1, hs2]; show _ = _; omega
              clear e2 hs1 hs2
              generalize hC : (n1 : Int) - n2 = C at *
              go_wp2_with fail
              go_round
              case rel => exact ⟨q + 1, by omega, by go_num, congrArg (Value.int .i64) (by rw [hd.out])⟩
              case measure => simp [intOf]; omega
        · obtain rfl : q = ls.length := by omega
          have j1 : ¬ (ls.length : Int) < ls.length := by omega
          have hz : ((ls.take ls.length).count x : Int) - ((ks.take ls.length).count x : Int) = 0 := by
            rw [← hkk, List.take_length, hkk, List.take_length, hcnt.out]
            omega
          rw [hz]
          clear hz hkk
          rcases j with _ | m
          · go_wp2_with fail
            go_roundw
            case rel => exact ⟨1, by omega, by go_num, hB⟩
            case measure => simp [intOf]; omega
          · have cm := hck.out m (by omega)
            have hs0 := hsrt.out m rfl
            rw [hx.out] at hs0
            have hah := not_ahead hs0
            clear hs0 hx
            have hpl := hkx.out ks[m] (List.getElem_mem (by omega))
            have n1 := fun W => Number_any (str ks[m]) W (by rw [str_size]; omega)
            have n2 := fun W => Number_any (str x) W (by rw [str_size]; omega)
            unfold NumberPost numberV at n1 n2
            simp only [bl_str] at n1 n2
            unfold Ahead at hah
            generalize ks[m] = prev at *
            generalize number prev = P at *
            generalize number x = Q at *
            obtain ⟨p, nx, d1, one⟩ := P
            obtain ⟨q, ny, d2, two⟩ := Q
            simp only at n1 n2 hah
            have hle := less_bl (str p) (str q)
            have hse := str_eq (str p) (str q)
            rw [bl_str, bl_str] at hle hse
            have i2 : (0 : Int) ≤ m := by omega
            have i3 : (m : Int) < ls.length := by omega
            have i4 : ((m : Int) + 1 == 0) = false := by simpa using (show ¬ (m : Int) + 1 = 0 by omega)
            have i5 : (m : Int) ≤ 60 := by omega
            generalize str prev = SV1 at *
            generalize str x = SX at *
            have hpq : (p < q ∧ p ≠ q) ∨ (p = q ∧ ((one = false) ∨ (one = true ∧ two = false) ∨ (one = true ∧ two = true ∧ ¬ (ny : Int) < nx))) := by
              rcases tri_l p q with h | h | h
              · exact .inl ⟨h, fun e => List.lt_irrefl _ (e ▸ h)⟩
              · refine .inr ⟨h, ?_⟩
                cases one
                · exact .inl rfl
                · cases two
                  · exact .inr (.inl ⟨rfl, rfl⟩)
                  · exact .inr (.inr ⟨rfl, rfl, fun g => hah (.inr ⟨h.symm, .inl (by omega)⟩)⟩)
              · exact absurd (.inl h) hah
            clear hah
            rcases hpq with ⟨h, h'⟩ | ⟨rfl, rfl | ⟨rfl, rfl⟩ | ⟨rfl, rfl, h6⟩⟩
            · rw [decide_eq_true h] at hle
              rw [decide_eq_false h'] at hse
              clear h h'
              have hgt := fun W => gtr_str 9 (str p) (str q) W
              simp only [hle, hse, Bool.or_false, Bool.not_true] at hgt
              clear hle
              generalize str p = SP at *
              generalize str q = SQ at *
              go_wp2_with (first
                | (go_at_call 5; (with_reducible refine (n1 _).mono ?_); clear n1; rintro e w7 ⟨rfl, q7⟩)
                | (go_at_call 5; (with_reducible refine (n2 _).mono ?_); rintro e w8 ⟨rfl, q8⟩))
              go_roundw
              case rel => exact ⟨m + 1 + 1, by omega, by go_num, hB.trans ((q7.trans q8).below.mono hzB)⟩
              case measure => simp [intOf]; omega
            · rw [decide_eq_true rfl] at hse
              rw [decide_eq_false (List.lt_irrefl _)] at hle
              have hgt := fun W => gtr_str 9 (str p) (str p) W
              simp only [hle, hse, Bool.or_true, Bool.not_true] at hgt
              clear hle
              generalize str p = SP at *
              go_wp2_with (first
                | (go_at_call 5; (with_reducible refine (n1 _).mono ?_); clear n1; rintro e w7 ⟨rfl, q7⟩)
                | (go_at_call 5; (with_reducible refine (n2 _).mono ?_); rintro e w8 ⟨rfl, q8⟩))
              go_roundw
              case rel => exact ⟨m + 1 + 1, by omega, by go_num, hB.trans ((q7.trans q8).below.mono hzB)⟩
              case measure => simp [intOf]; omega
            · rw [decide_eq_true rfl] at hse
              rw [decide_eq_false (List.lt_irrefl _)] at hle
              have hgt := fun W => gtr_str 9 (str p) (str p) W
              simp only [hle, hse, Bool.or_true, Bool.not_true] at hgt
              clear hle
              generalize str p = SP at *
              go_wp2_with (first
                | (go_at_call 5; (with_reducible refine (n1 _).mono ?_); clear n1; rintro e w7 ⟨rfl, q7⟩)
                | (go_at_call 5; (with_reducible refine (n2 _).mono ?_); rintro e w8 ⟨rfl, q8⟩))
              go_roundw
              case rel => exact ⟨m + 1 + 1, by omega, by go_num, hB.trans ((q7.trans q8).below.mono hzB)⟩
              case measure => simp [intOf]; omega
            · rw [decide_eq_true rfl] at hse
              rw [decide_eq_false (List.lt_irrefl _)] at hle
              have hgt := fun W => gtr_str 9 (str p) (str p) W
              simp only [hle, hse, Bool.or_true, Bool.not_true] at hgt
              clear hle
              generalize str p = SP at *
              go_wp2_with (first
                | (go_at_call 5; (with_reducible refine (n1 _).mono ?_); clear n1; rintro e w7 ⟨rfl, q7⟩)
                | (go_at_call 5; (with_reducible refine (n2 _).mono ?_); rintro e w8 ⟨rfl, q8⟩))
              go_roundw
              case rel => exact ⟨m + 1 + 1, by omega, by go_num, hB.trans ((q7.trans q8).below.mono hzB)⟩
              case measure => simp [intOf]; omega
    · obtain rfl : j = ls.length := by omega
      have i1 : ¬ (ls.length : Int) < ls.length := by omega
      go_wp2_with (go_at_call 11; (with_reducible refine (hal _ gB).mono ?_); rintro e w7 ⟨rfl, b7⟩)
      go_ret
      exact ⟨rfl, gB.trans (b7.mono gB.size)⟩
set_option maxRecDepth 100000 in
set_option maxHeartbeats 4000000 in
theorem sorts_walk (A : Option Addr) (ls : List (List UInt8)) (cap : Nat) (w : World) (hr : Strs w w.heap.size A ls) (hl : ls.length ≤ 9223372036854775807) (hT : Tab w) :
    Calls Tryd.prog 4 #[.slice A ls.length cap] w (BoolPost w true) := by
  by_cases hL : ls.length ≤ 60 ∧ ∀ x ∈ ls, x.length ≤ 300
  · exact sorts_small A ls cap w hr hT hL
  · have hlo := long_is A ls cap w hr hl
    have hal := fun W (hW : Below w.heap.size w W) => alive_any W (tab_below hT hW)
    by_cases h3 : ls.length ≤ 300 ∧ ∀ x ∈ ls, x.length ≤ 300
    · rw [longB_good h3] at hlo
      have i1 : (60 : Int) < ls.length := by
        have : ¬ ls.length ≤ 60 := fun h => hL ⟨h, h3.2⟩
        omega
      clear hr hT hL h3
      go_enter Tryd.func4, Tryd.ntmps4
      go_wp2_with (first
        | (go_at_call 7; (with_reducible refine hlo.mono ?_); rintro e w3 ⟨rfl, m3, rfl⟩; have g3 := below_drewN1 w m3)
        | (go_at_call 11; (with_reducible refine (hal _ g3).mono ?_); rintro e w7 ⟨rfl, b7⟩))
      go_ret
      exact ⟨rfl, g3.trans (b7.mono g3.size)⟩
    · rw [longB_bad h3] at hlo
      clear hr hT hL h3
      go_enter Tryd.func4, Tryd.ntmps4
      go_wp2_with (first
        | (go_at_call 7; (with_reducible refine hlo.mono ?_); rintro e w3 ⟨rfl, m3, rfl⟩; have g3 := below_drewN1 w m3)
        | (go_at_call 11; (with_reducible refine (hal _ g3).mono ?_); rintro e w7 ⟨rfl, b7⟩))
      go_ret
      exact ⟨rfl, g3.trans (b7.mono g3.size)⟩
end Go.Proofs.YtkmknogejhhajabDoor
