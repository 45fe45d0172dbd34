/-
  ShareSum, walked.
-/
import Derived.Test.YtmbgcphiigmdjaaULFalls
import Derived.Test.YtmbgcphiigmdjaaUSumM
namespace Go.Proofs.Ytmbgcphiigmdjaa
open Go.RowKit Ss Ds

set_option maxRecDepth 100000 in
set_option maxHeartbeats 16000000 in
theorem sum_walk (h : Int) (A : Option Addr) (l : List Act3) (cap : Nat) (w : World) (hs : RdS w A l.length cap (AVs l)) (ok : ∀ a ∈ l, okA a) :
    Calls Try.prog 9 #[.int .i64 h, .slice A l.length cap] w (TrueP w) := by
  have hal := fun W => alive_any W
  have s0 := fhid (short_rds hs)
  unfold TrueP
  by_cases hh : halfB h
  · have hnew := New_yes h w hh
    obtain ⟨hh1, hh2⟩ := hh
    have hh : halfB h := ⟨hh1, hh2⟩
    replace hs := fhid hs
    go_enter Try.func9, Try.ntmps9
    go_upto_region 5 with (go_at_call 10; (with_reducible refine hnew.mono ?_); rintro e w2 ⟨p, m, rfl, p0, hwm, l2, B2⟩)
    have s2 := hs.out.below B2
    clear hs p0 hnew
    have hsh := short_any A l cap w2 s2
    have hsm := fun a (ha : a ∈ shortL l) => ok a (short_mem ha)
    have hsl := short_len l
    generalize shortL l = q at *
    replace l2 := fhid l2
    replace B2 := fhid B2
    clear ok s2
    go_upto_region 6 with (go_at_call 13; (with_reducible refine hsh.mono ?_); rintro e w3 ⟨c', rfl, s3, rfl⟩)
    clear hsh s3
    go_loopw [7, 36] (fun last i wr => ∃ j : Nat, j ≤ q.length ∧ i = .int .i64 (j : Nat) ∧ last = .int .i64 (playP h (q.take j)).2 ∧ LB wr p m h (playP h (q.take j)).1 ∧ Below w.heap.size w wr) (fun _ i _ => q.length - (intOf i).toNat)
    case atStart => exact ⟨0, Nat.zero_le _, rfl, rfl, l2.out, B2.out⟩
    case round =>
      clear l2 B2
      obtain ⟨j, hj, rfl, rfl, lr, Br⟩ := hrel
      have P := play_ok hh1 (q.take j)
      have j0 : (0 : Int) ≤ j := by omega
      by_cases hlt : j < q.length
      · have j1 : (j : Int) < q.length := by omega
        have hst := play_take h q j hlt
        obtain ⟨b, o, rfl, hb, c0, c1, c2⟩ := act_at s0.out hlt
        have hokj := hsm q[j] (List.getElem_mem hlt)
        generalize q[j] = a at *
        obtain ⟨s, am, now⟩ := a
        generalize playP h (q.take j) = S at *
        obtain ⟨M, last⟩ := S
        obtain ⟨g, tl, t0, t1⟩ := P
        simp only at c0 c1 c2 g tl t0 t1 lr
        have d0 := (Br.cell (p := ⟨b, o + j * 3, none⟩) hb).trans c0
        have d1 := (Br.cell (p := ⟨b, o + j * 3 + 1, none⟩) hb).trans c1
        have d2 := (Br.cell (p := ⟨b, o + j * 3 + 2, none⟩) hb).trans c2
        have hbr := Nat.lt_of_lt_of_le hb Br.size
        obtain ⟨W4, hW4, b4, X4⟩ := one_box wr TAct [.string (str s), .int .i64 am, .int .i64 now]
        have l4 := lr.below b4
        have B4 := Br.trans (b4.mono Br.size)
        have hadd := Add_any l4 hh g s am now (Nat.le_trans hokj (by unfold maxLen; omega))
        have e0 := X4.cell 0
        have e1 := X4.cell 1
        have e2 := X4.cell 2
        have hx4 := X4.lt
        have hwr := fhid (show wr.heap.size ≠ m from fun e => by have := lr.lt.2; omega)
        simp only [List.getElem?_cons_zero, List.getElem?_cons_succ] at e0 e1 e2
        replace hW4 := fhid hW4
        replace X4 := fhid X4
        replace l4 := fhid l4
        replace B4 := fhid B4
        clear lr Br b4 c0 c1 c2
        go_upto_region 8 with fail
        rw [← hW4.out]
        clear hW4 d0 d1 d2
        unfold AddPost at hadd
        unfold stepP at hst
        simp only at hst
        by_cases he : (addP h M s am now).2 = 0
        · rw [he] at hadd
          rw [if_pos he] at hst
          replace hst := fhid hst
          clear he
          generalize (addP h M s am now).1 = M' at *
          go_wp2_with (go_at_call 14; (with_reducible refine hadd.mono ?_); rintro e w5 ⟨rfl, l5, g5⟩
                       have l5 := fhid l5
                       have B5 := fhid (B4.out.trans (grown_below (B := w.heap.size) g5 hwm B4.out.size))
                       have X5 := X4.out.keep (g5.block wr.heap.size X4.out.lt (by intro e; injection e with e; exact hwr.out e))
                       have e0 := X5.cell 0
                       have e1 := X5.cell 1
                       have e2 := X5.cell 2
                       have hx5 := X5.lt
                       simp only [List.getElem?_cons_zero, List.getElem?_cons_succ] at e0 e1 e2
                       clear g5 X5)
          go_roundw
          case rel => exact ⟨j + 1, by omega, by go_num, by rw [hst.out], by rw [hst.out]; exact l5.out, B5.out⟩
          case measure => simp [intOf]; omega
        · rw [if_neg he] at hst
          have hE : (addP h M s am now).1 = M := by
            rcases add_err h M s am now with h2 | h2
            · exact absurd h2 he
            · exact h2
          rw [hE] at hadd hst
          replace hst := fhid hst
          have bE : ((addP h M s am now).2 == 0) = false := by simpa using he
          generalize (addP h M s am now).2 = E at *
          clear he hE
          go_wp2_with (go_at_call 14; (with_reducible refine hadd.mono ?_); rintro e w5 ⟨rfl, l5, g5⟩
                       have l5 := fhid l5
                       have B5 := fhid (B4.out.trans (grown_below (B := w.heap.size) g5 hwm B4.out.size))
                       clear g5)
          go_roundw
          case rel => exact ⟨j + 1, by omega, by go_num, by rw [hst.out], by rw [hst.out]; exact l5.out, B5.out⟩
          case measure => simp [intOf]; omega
      · obtain rfl : j = q.length := by omega
        have j1 : ¬ ((q.length : Int) < q.length) := by omega
        rw [List.take_length] at lr P ⊢
        clear hsm s0
        generalize playP h q = S at *
        obtain ⟨M, last⟩ := S
        obtain ⟨g, tl, t0, t1⟩ := P
        simp only at g tl t0 t1 lr
        have hus := Users_any lr hh g
        have hnp := names_perm M
        have hnl : (namesS M).length = M.length := names_len M
        generalize namesS M = ns at *
        unfold NamesFrom at hus
        replace lr := fhid lr
        replace Br := fhid Br
        by_cases hmany : (ns.length : Int) > 7
        · go_wp2_with (first
            | (go_at_call 23; (with_reducible refine hus.mono ?_); rintro e w7 ⟨v7, rfl, o7, b7⟩; obtain ⟨A7, c7, rfl, hnm⟩ := name_at o7; replace hnm := fhid hnm)
            | (go_at_call 12; (with_reducible refine (hal _).mono ?_); rintro e w6 ⟨rfl, b6⟩))
          go_ret
          exact ⟨rfl, (Br.out.trans (b7.mono Br.out.size)).trans (b6.mono (Nat.le_trans Br.out.size b7.size))⟩
        · have ht : timeB last := ⟨t0, t1⟩
          have hM7 : M.length ≤ 7 := by omega
          have hfew := total_few (last := last) hh1 g ht hM7
          have hsum := sum_names (h := h) g tl ht hnp
          obtain ⟨hp0, hp1⟩ := parts_sum (h := h) hh1 g tl ht hnp hM7
          have hea : ∀ s ∈ ns, (usedP h M s last).2 = 0 ∧ 0 ≤ (usedP h M s last).1 ∧ (usedP h M s last).1 ≤ 1152921504606846976 ∧ (factorP h M s last).2 = 0 := fun s hs => by
            obtain ⟨x, hx, rfl⟩ := List.mem_map.1 (hnp.mem_iff.1 hs)
            have hu := used_part (h := h) g tl ht hx
            obtain ⟨q0, q1⟩ := part_facts (now := last) hh1 g hx
            refine ⟨by rw [hu], by rw [hu]; exact q0, by rw [hu]; exact q1, ?_⟩
            unfold factorP
            rw [hu, if_neg (by simp)]
            split <;> rfl
          have hfa := fun s => factor_facts (s := s) (now := last) hh1 g
          have htot := fun W (l : LB W p m h M) => Total_any l hh g last
          unfold IntP at htot
          rw [hfew] at htot
          clear hfew hnp
          replace hp0 := fhid hp0
          replace hp1 := fhid hp1
          replace hsum := fhid hsum
          replace hea := fhid hea
          replace hfa := fhid hfa
          go_upto_region 16 with (go_at_call 23; (with_reducible refine hus.mono ?_); rintro e w7 ⟨v7, rfl, o7, b7⟩; obtain ⟨A7, c7, rfl, hnm⟩ := name_at o7; replace hnm := fhid hnm)
          have l7 := fhid (lr.out.below b7)
          have B7 := fhid (Br.out.trans (b7.mono Br.out.size))
          clear lr Br hus b7 o7
          go_loopw [10, 11, 62] (fun su pa i wr => ∃ j : Nat, j ≤ ns.length ∧ i = .int .i64 (j : Nat) ∧ su = .int .i64 (sumI ((ns.take j).map fun s => (usedP h M s last).1)) ∧ pa = .int .i64 (sumI ((ns.take j).map fun s => (factorP h M s last).1)) ∧ Below w7.heap.size w7 wr) (fun _ _ i _ => ns.length - (intOf i).toNat)
          case atStart => exact ⟨0, Nat.zero_le _, rfl, rfl, rfl, Below.refl _ _⟩
          case round =>
            obtain ⟨j, hj, rfl, rfl, rfl, hB⟩ := hrel
            have j0 : (0 : Int) ≤ j := by omega
            have lr := l7.out.below hB
            have Br := B7.out.trans (hB.mono B7.out.size)
            by_cases hlt : j < ns.length
            · have j1 : (j : Int) < ns.length := by omega
              obtain ⟨b, o, rfl, hb, c0⟩ := hnm.out j hlt
              have c1 := (hB.cell (p := ⟨b, o + j, none⟩) hb).trans c0
              have hbr := Nat.lt_of_lt_of_le hb hB.size
              obtain ⟨f1, f2, f3, f4⟩ := hea.out ns[j] (List.getElem_mem hlt)
              obtain ⟨f5, f6⟩ := hfa.out ns[j]
              have hb1 : sumI ((ns.take j).map fun s => (usedP h M s last).1) ≤ 1152921504606846976 * ((ns.take j).map fun s => (usedP h M s last).1).length := sum_bound fun y hy => by
                obtain ⟨s, hs, rfl⟩ := List.mem_map.1 hy
                exact (hea.out s (List.mem_of_mem_take hs)).2.2.1
              have hb2 : 0 ≤ sumI ((ns.take j).map fun s => (usedP h M s last).1) := sumI_nonneg fun y hy => by
                obtain ⟨s, hs, rfl⟩ := List.mem_map.1 hy
                exact (hea.out s (List.mem_of_mem_take hs)).2.1
              have hb3 : sumI ((ns.take j).map fun s => (factorP h M s last).1) ≤ 1000 * ((ns.take j).map fun s => (factorP h M s last).1).length := sum_thousand fun y hy => by
                obtain ⟨s, hs, rfl⟩ := List.mem_map.1 hy
                exact (hfa.out s).2
              have hb4 : 0 ≤ sumI ((ns.take j).map fun s => (factorP h M s last).1) := sumI_nonneg fun y hy => by
                obtain ⟨s, hs, rfl⟩ := List.mem_map.1 hy
                exact (hfa.out s).1
              rw [List.length_map, List.length_take] at hb1 hb3
              have hn1 := fhid (show sumI ((ns.take (j + 1)).map fun s => (usedP h M s last).1) = sumI ((ns.take j).map fun s => (usedP h M s last).1) + (usedP h M ns[j] last).1 by rw [List.take_succ_eq_append_getElem hlt, List.map_append, sumI_app]; simp [sumI])
              have hn2 := fhid (show sumI ((ns.take (j + 1)).map fun s => (factorP h M s last).1) = sumI ((ns.take j).map fun s => (factorP h M s last).1) + (factorP h M ns[j] last).1 by rw [List.take_succ_eq_append_getElem hlt, List.map_append, sumI_app]; simp [sumI])
              have hu1 := fun W (l : LB W p m h M) => Used_any l hh g ns[j] last
              have hu2 := fun W (l : LB W p m h M) => Factor_any l hh g ns[j] last
              unfold IntP at hu1 hu2
              rw [f1] at hu1
              rw [f4] at hu2
              generalize (usedP h M ns[j] last).1 = y1 at *
              generalize (factorP h M ns[j] last).1 = y2 at *
              generalize ns[j] = s at *
              generalize sumI ((ns.take j).map fun s => (usedP h M s last).1) = S1 at *
              generalize sumI ((ns.take j).map fun s => (factorP h M s last).1) = S2 at *
              clear f1 f4 c0
              replace lr := fhid lr
              go_wp2_with (first
                | (go_at_call 16; (with_reducible refine (hu1 _ lr.out).mono ?_); rintro e w8 ⟨rfl, b8⟩
                   have l8 := fhid (lr.out.below b8); clear hu1)
                | (go_at_call 18; (with_reducible refine (hu2 _ l8.out).mono ?_); rintro e w9 ⟨rfl, b9⟩
                   have b9 := fhid (b8.trans (b9.mono b8.size)); clear hu2))
              go_roundw
              case rel => exact ⟨j + 1, by omega, by go_num, by rw [hn1.out], by rw [hn2.out], hB.trans (b9.out.mono hB.size)⟩
              case measure => simp [intOf]; omega
            · obtain rfl : j = ns.length := by omega
              have j1 : ¬ ((ns.length : Int) < ns.length) := by omega
              rw [List.take_length, hsum.out]
              have h0 := sumU_nonneg (now := last) hh1 g
              have hp0 := hp0.out
              have hp1 := hp1.out
              generalize sumI (ns.map fun s => (factorP h M s last).1) = P at *
              generalize sumU h M last = t at *
              replace lr := fhid lr
              by_cases hz : t = 0
              · subst hz
                have hp := hp0 rfl
                clear hp0 hp1
                subst hp
                go_wp2_with (first
                  | (go_at_call 20; (with_reducible refine (htot _ lr.out).mono ?_); rintro e w8 ⟨rfl, b8⟩)
                  | (go_at_call 12; (with_reducible refine (hal _).mono ?_); rintro e w10 ⟨rfl, b10⟩
                     have b10 := fhid (b8.trans (b10.mono b8.size))))
                go_ret
                exact ⟨rfl, Br.trans (b10.out.mono Br.size)⟩
              · obtain ⟨hp2, hp3⟩ := hp1 hz
                have bz : (t == 0) = false := by simpa using hz
                clear hp0 hp1
                go_wp2_with (first
                  | (go_at_call 20; (with_reducible refine (htot _ lr.out).mono ?_); rintro e w8 ⟨rfl, b8⟩)
                  | (go_at_call 12; (with_reducible refine (hal _).mono ?_); rintro e w10 ⟨rfl, b10⟩
                     have b10 := fhid (b8.trans (b10.mono b8.size))))
                go_ret
                exact ⟨rfl, Br.trans (b10.out.mono Br.size)⟩
  · have hnew := New_no h w hh
    clear hs
    go_enter Try.func9, Try.ntmps9
    go_wp2_with (first
      | (go_at_call 10; (with_reducible refine hnew.mono ?_); rintro e w2 ⟨rfl, rfl⟩)
      | (go_at_call 12; (with_reducible refine (hal _).mono ?_); rintro e w6 ⟨rfl, b6⟩))
    go_ret
    exact ⟨rfl, b6⟩
end Go.Proofs.Ytmbgcphiigmdjaa
