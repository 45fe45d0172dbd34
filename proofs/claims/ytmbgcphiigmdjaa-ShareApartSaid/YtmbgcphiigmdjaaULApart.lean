/-
  ShareApart, walked.
-/
import Derived.Test.YtmbgcphiigmdjaaULFalls
import Derived.Test.YtmbgcphiigmdjaaUSumM
namespace Go.Proofs.Ytmbgcphiigmdjaa
open Go.RowKit Ss Ds

theorem add_look {h : Int} {M : List Usr} {s t : Str} {am now : Int} (hne : t ≠ s) : lookG t (addP h M s am now).1 = lookG t M := by
  unfold addP
  split
  · rfl
  · split
    · split
      · rfl
      · show lookG t (putG s _ M) = _
        rw [lookG_put, if_neg (Ne.symm hne)]
    · rfl
theorem look_isSome {M : List Usr} {t : Str} : (lookG t M).isSome ↔ t ∈ M.map Prod.fst := by
  cases hl : lookG t M with
  | none => simp [lookG_none.1 hl]
  | some u => exact ⟨fun _ => List.mem_map_of_mem (f := Prod.fst) (lookG_mem hl), fun _ => rfl⟩
/-- What another one has used is turned by nothing. -/
theorem used_other {h : Int} {M : List Usr} {s t : Str} {am now last : Int} (hne : t ≠ s) : usedP h (addP h M s am now).1 t last = usedP h M t last := by
  unfold usedP atP
  rw [add_look hne]
theorem apart_facts {h : Int} {M : List Usr} {s t : Str} {am now last : Int} (h1 : 1 ≤ h) (hg : Good M) (hT : Till M last) (ht : timeB last) (hne : t ≠ s) (hm : t ∈ (addP h M s am now).1.map Prod.fst) :
    t ∈ M.map Prod.fst ∧ (usedP h (addP h M s am now).1 t last).2 = 0 ∧ (usedP h (addP h M s am now).1 t last).1 = (usedP h M t last).1 := by
  have hm2 : t ∈ M.map Prod.fst := look_isSome.1 (by rw [← add_look hne]; exact look_isSome.2 hm)
  rw [used_other hne]
  obtain ⟨x, hx, rfl⟩ := List.mem_map.1 hm2
  rw [used_part hg hT ht hx]
  exact ⟨hm2, rfl, rfl⟩
theorem factor_there {h : Int} {M : List Usr} (hg : Good M) {t : Str} (hm : t ∈ M.map Prod.fst) : (factorP h M t 1099511627776).2 = 0 := by
  obtain ⟨x, hx, rfl⟩ := List.mem_map.1 hm
  have := (hg.each x hx).2.2.2.2.2
  unfold factorP
  rw [used_there hg hx (by unfold timeB; omega) this, if_neg (by simp)]
  split <;> rfl
theorem name_at2 {w : World} {base : Nat} {v : Value} {ns : List Str} (h : OwnS w base v ns) : ∃ A cap, v = .slice A ns.length cap ∧ ∀ j (hj : j < ns.length), ∃ b o, A = some ⟨b, o, none⟩ ∧ base ≤ b ∧ b < w.heap.size ∧ w.cell? ⟨b, o + j, none⟩ = some (.string (str ns[j])) := by
  obtain ⟨A, cap, rfl, hn⟩ := name_at h
  refine ⟨A, cap, rfl, fun j hj => ?_⟩
  obtain ⟨b, o, rfl, hb, hc⟩ := hn j hj
  exact ⟨b, o, rfl, ownsRow_ge h b rfl, hb, hc⟩
set_option maxRecDepth 100000 in
set_option maxHeartbeats 16000000 in
theorem apart_walk (h : Int) (A : Option Addr) (l : List Act3) (cap : Nat) (a2 : Act3) (w : World) (hs : RdS w A l.length cap (AVs l)) (ok : ∀ a ∈ l, okA a) (ok2 : okA a2) :
    Calls Try.prog 6 #[.int .i64 h, .slice A l.length cap, .agg (actV a2).toArray] w (TrueP w) := by
  have hal := fun W => alive_any W
  obtain ⟨W1, hW1, B1, X1⟩ := one_box w TAct (actV a2)
  have s1 := hs.below B1
  have s0 := fhid (short_rds hs)
  replace hW1 := fhid hW1
  clear hs
  unfold TrueP
  by_cases hh : halfB h
  · have hnew := New_yes h W1 hh
    obtain ⟨hh1, hh2⟩ := hh
    have hh : halfB h := ⟨hh1, hh2⟩
    replace s1 := fhid s1
    replace X1 := fhid X1
    replace B1 := fhid B1
    go_enter Try.func6, Try.ntmps6
    go_upto_region 1 with fail
    rw [← hW1.out]
    clear hW1
    go_upto_region 5 with (go_at_call 10; (with_reducible refine hnew.mono ?_); rintro e w2 ⟨p, m, rfl, p0, m0, l2, b2⟩)
    have B2 := B1.out.trans (b2.mono B1.out.size)
    have s2 := s1.out.below b2
    have X2 := X1.out.below b2 X1.out.lt
    have hwm : w.heap.size ≤ m := Nat.le_trans B1.out.size m0
    have hxm : w.heap.size ≠ m := fun e => by have := X1.out.lt; omega
    clear B1 s1 X1 b2 p0 m0 hnew
    have hsh := short_any A l cap w2 s2
    have hsm := fun a (ha : a ∈ shortL l) => ok a (short_mem ha)
    have hsl := short_len l
    generalize shortL l = q at *
    replace l2 := fhid l2
    replace B2 := fhid B2
    replace X2 := fhid X2
    clear ok s2
    go_upto_region 6 with (go_at_call 13; (with_reducible refine hsh.mono ?_); rintro e w3 ⟨c', rfl, s3, rfl⟩)
    clear hsh s3
    go_loopw [9, 38] (fun last i wr => ∃ j : Nat, j ≤ q.length ∧ i = .int .i64 (j : Nat) ∧ last = .int .i64 (playP h (q.take j)).2 ∧ LB wr p m h (playP h (q.take j)).1 ∧ Below w.heap.size w wr ∧ Box wr w.heap.size TAct (actV a2)) (fun _ i _ => q.length - (intOf i).toNat)
    case atStart => exact ⟨0, Nat.zero_le _, rfl, rfl, l2.out, B2.out, X2.out⟩
    case round =>
      clear l2 B2 X2
      obtain ⟨j, hj, rfl, rfl, lr, Br, Xr⟩ := hrel
      have P := play_ok hh1 (q.take j)
      have j0 : (0 : Int) ≤ j := by omega
      by_cases hlt : j < q.length
      · have j1 : (j : Int) < q.length := by omega
        have hst := play_take h q j hlt
        obtain ⟨b, o, rfl, hb, c0, c1, c2⟩ := act_at s0.out hlt
        have hokj := hsm q[j] (List.getElem_mem hlt)
        generalize q[j] = a at *
        obtain ⟨s, am, now⟩ := a
        generalize playP h (q.take j) = S at *
        obtain ⟨M, last⟩ := S
        obtain ⟨g, tl, t0, t1⟩ := P
        simp only at c0 c1 c2 g tl t0 t1 lr
        have d0 := (Br.cell (p := ⟨b, o + j * 3, none⟩) hb).trans c0
        have d1 := (Br.cell (p := ⟨b, o + j * 3 + 1, none⟩) hb).trans c1
        have d2 := (Br.cell (p := ⟨b, o + j * 3 + 2, none⟩) hb).trans c2
        have hbr := Nat.lt_of_lt_of_le hb Br.size
        obtain ⟨W4, hW4, b4, X4⟩ := one_box wr TAct [.string (str s), .int .i64 am, .int .i64 now]
        have l4 := lr.below b4
        have B4 := Br.trans (b4.mono Br.size)
        have Y4 := Xr.below b4 Xr.lt
        have hadd := Add_any l4 hh g s am now (Nat.le_trans hokj (by unfold maxLen; omega))
        have e0 := X4.cell 0
        have e1 := X4.cell 1
        have e2 := X4.cell 2
        have hx4 := X4.lt
        have hwr := fhid (show wr.heap.size ≠ m from fun e => by have := lr.lt.2; omega)
        simp only [List.getElem?_cons_zero, List.getElem?_cons_succ] at e0 e1 e2
        replace hW4 := fhid hW4
        replace X4 := fhid X4
        replace l4 := fhid l4
        replace B4 := fhid B4
        replace Y4 := fhid Y4
        clear lr Br Xr b4 c0 c1 c2
        go_upto_region 8 with fail
        rw [← hW4.out]
        clear hW4 d0 d1 d2
        unfold AddPost at hadd
        unfold stepP at hst
        simp only at hst
        by_cases he : (addP h M s am now).2 = 0
        · rw [he] at hadd
          rw [if_pos he] at hst
          replace hst := fhid hst
          clear he
          generalize (addP h M s am now).1 = M' at *
          go_wp2_with (go_at_call 14; (with_reducible refine hadd.mono ?_); rintro e w5 ⟨rfl, l5, g5⟩
                       have l5 := fhid l5
                       have B5 := fhid (B4.out.trans (grown_below (B := w.heap.size) g5 hwm B4.out.size))
                       have Y5 := fhid (Y4.out.keep (g5.block w.heap.size Y4.out.lt (by intro e; injection e with e; exact hxm e)))
                       have X5 := X4.out.keep (g5.block wr.heap.size X4.out.lt (by intro e; injection e with e; exact hwr.out e))
                       have e0 := X5.cell 0
                       have e1 := X5.cell 1
                       have e2 := X5.cell 2
                       have hx5 := X5.lt
                       simp only [List.getElem?_cons_zero, List.getElem?_cons_succ] at e0 e1 e2
                       clear g5 X5)
          go_roundw
          case rel => exact ⟨j + 1, by omega, by go_num, by rw [hst.out], by rw [hst.out]; exact l5.out, B5.out, Y5.out⟩
          case measure => simp [intOf]; omega
        · rw [if_neg he] at hst
          have hE : (addP h M s am now).1 = M := by
            rcases add_err h M s am now with h2 | h2
            · exact absurd h2 he
            · exact h2
          rw [hE] at hadd hst
          replace hst := fhid hst
          have bE : ((addP h M s am now).2 == 0) = false := by simpa using he
          generalize (addP h M s am now).2 = E at *
          clear he hE
          go_wp2_with (go_at_call 14; (with_reducible refine hadd.mono ?_); rintro e w5 ⟨rfl, l5, g5⟩
                       have l5 := fhid l5
                       have B5 := fhid (B4.out.trans (grown_below (B := w.heap.size) g5 hwm B4.out.size))
                       have Y5 := fhid (Y4.out.keep (g5.block w.heap.size Y4.out.lt (by intro e; injection e with e; exact hxm e)))
                       clear g5)
          go_roundw
          case rel => exact ⟨j + 1, by omega, by go_num, by rw [hst.out], by rw [hst.out]; exact l5.out, B5.out, Y5.out⟩
          case measure => simp [intOf]; omega
      · obtain rfl : j = q.length := by omega
        have j1 : ¬ ((q.length : Int) < q.length) := by omega
        rw [List.take_length] at lr P ⊢
        clear hsm s0
        generalize playP h q = S at *
        obtain ⟨M, last⟩ := S
        obtain ⟨g, tl, t0, t1⟩ := P
        simp only at g tl t0 t1 lr
        have ht : timeB last := ⟨t0, t1⟩
        have hmm := @run_makeMap Try.prog
        have m3 := SM.new wr
        have b3 := (Below.refl wr.heap.size wr).alloc (Nat.le_refl _) (.map #[] 0)
        have l3 := lr.below b3
        have X3 := fhid (Xr.below b3 Xr.lt)
        have B3 := fhid (Br.trans (b3.mono Br.size))
        have hw3 := fhid (show m < wr.heap.size ∧ w.heap.size < wr.heap.size ∧ p < wr.heap.size from ⟨lr.lt.2, Xr.lt, lr.lt.1⟩)
        have z3 := fhid (World.size_alloc wr (.map #[] 0))
        replace m3 := fhid m3
        replace l3 := fhid l3
        clear lr Br Xr b3
        go_upto_region 12 with fail
        clear hmm
        generalize wr.alloc _ = w4 at *
        generalize wr.heap.size = wm at *
        have hus := Users_any l3.out hh g
        have hnp := names_perm M
        have hnl : (namesS M).length ≤ 1024 := by rw [names_len]; exact g.len
        generalize namesS M = ns at *
        unfold NamesFrom at hus
        replace hnp := fhid hnp
        go_upto_region 13 with (go_at_call 23; (with_reducible refine hus.mono ?_); rintro e w7 ⟨v7, rfl, o7, b7⟩; obtain ⟨A7, c7, rfl, hnm⟩ := name_at2 o7; replace hnm := fhid hnm)
        have z8 := fhid m3.out.lt
        have l7 := fhid (l3.out.below b7)
        have X7 := fhid (X3.out.below b7 X3.out.lt)
        have B7 := fhid (B3.out.trans (b7.mono B3.out.size))
        have m7 := fhid (m3.out.below b7 m3.out.lt)
        have z7 := fhid (show wm < w7.heap.size from Nat.lt_of_lt_of_le m3.out.lt b7.size)
        have z7' := fhid (show w.heap.size ≤ wm from Nat.le_of_lt hw3.out.2.1)
        clear l3 X3 B3 m3 z3 hus b7 o7
        go_loopw [60] (fun i wr => ∃ (j : Nat) (L : List (Str × Value)), j ≤ ns.length ∧ i = .int .i64 (j : Nat) ∧ LB wr p m h M ∧ SM wr wm L ∧ (∀ s ∈ ns.take j, lookG s L = some (.int .i64 (usedP h M s last).1)) ∧ (∀ s v, lookG s L = some v → ∃ n : Int, v = .int .i64 n) ∧ Below w.heap.size w wr ∧ Box wr w.heap.size TAct (actV a2) ∧ w7.heap.size ≤ wr.heap.size ∧ (∀ b, b < w7.heap.size → b ≠ wm → wr.heap[b]? = w7.heap[b]?)) (fun i _ => ns.length - (intOf i).toNat)
        case atStart => exact ⟨0, [], Nat.zero_le _, rfl, l7.out, m7.out, (fun s hs => by cases hs), (fun s v hs => by cases hs), B7.out, X7.out, Nat.le_refl _, fun _ _ _ => rfl⟩
        case round =>
          clear l7 X7 m7
          obtain ⟨j, L, hj, rfl, lr, mr, hL1, hL2, Br, Xr, zr, hkr⟩ := hrel
          have j0 : (0 : Int) ≤ j := by omega
          by_cases hlt : j < ns.length
          · have j1 : (j : Int) < ns.length := by omega
            obtain ⟨b, o, rfl, hbb, hb, c0⟩ := hnm.out j hlt
            have c1 := (World.cell?_of_block (a := ⟨b, o + j, none⟩) (hkr b hb (by have := z8.out; omega))).trans c0
            have hbr := Nat.lt_of_lt_of_le hb zr
            have hns := List.take_succ_eq_append_getElem hlt
            have hu1 := Used_any lr hh g ns[j] last
            unfold IntP at hu1
            generalize ns[j] = s at *
            have hy := fhid (show ∃ y, (usedP h M s last).1 = y from ⟨_, rfl⟩)
            obtain ⟨y, hy⟩ := hy.out
            obtain ⟨y2, hy2⟩ : ∃ y, (usedP h M s last).2 = y := ⟨_, rfl⟩
            rw [hy, hy2] at hu1
            have hL3 : ∀ t ∈ ns.take (j + 1), lookG t (putG s (Value.int .i64 y) L) = some (.int .i64 (usedP h M t last).1) := fun t ht => by
              rw [lookG_put]
              by_cases he : s = t
              · rw [if_pos he, ← he, hy]
              · rw [if_neg he]
                rw [hns] at ht
                rcases List.mem_append.1 ht with ht | ht
                · exact hL1 t ht
                · exact absurd (List.mem_singleton.1 ht).symm he
            have hL4 : ∀ t v, lookG t (putG s (Value.int .i64 y) L) = some v → ∃ n : Int, v = .int .i64 n := fun t v ht => by
              rw [lookG_put] at ht
              by_cases he : s = t
              · rw [if_pos he] at ht
                injection ht with ht
                exact ⟨y, ht.symm⟩
              · rw [if_neg he] at ht
                exact hL2 t v ht
            replace hL3 := fhid hL3
            replace hL4 := fhid hL4
            replace lr := fhid lr
            replace mr := fhid mr
            replace Br := fhid Br
            replace Xr := fhid Xr
            replace hkr := fhid hkr
            replace hns := fhid hns
            clear hL1 hL2 hy hy2 c0
            go_wp2_with (go_at_call 16; (with_reducible refine hu1.mono ?_); rintro e w8 ⟨rfl, b8⟩
                         have m8 := mr.out.below b8 mr.out.lt
                         obtain ⟨w9, hrun, hS, hg9, hz9⟩ := run_sm_put (w := w8) Try.underlying56 Try.underlying9 m8 s (Value.int .i64 y)
                         have l8 := fhid (lr.out.below b8)
                         have b8 := fhid b8
                         have hS := fhid hS
                         have hg9 := fhid hg9
                         have hz9 := fhid hz9
                         clear m8)
            go_roundw
            case rel =>
              have hwm2 := hw3.out
              have hzz := hz9.out
              have b8 := b8.out
              exact ⟨j + 1, _, by omega, by go_num, l8.out.grown hg9.out (by omega) (by omega), hS.out, hL3.out, hL4.out, (Br.out.trans (b8.mono Br.out.size)).trans (grown_below (B := w.heap.size) hg9.out z7'.out (by have := b8.size; have := Br.out.size; omega)), (Xr.out.below b8 Xr.out.lt).keep (hg9.out.block _ (Nat.lt_of_lt_of_le Xr.out.lt b8.size) (by intro e; injection e with e; omega)), by have := b8.size; omega,
                fun k hk hne => (hg9.out.block k (Nat.lt_of_lt_of_le hk (Nat.le_trans zr b8.size)) (by intro e; injection e with e; exact hne e)).trans ((b8.block k (Nat.lt_of_lt_of_le hk zr)).trans (hkr.out k hk hne))⟩
            case measure => simp [intOf]; omega
          · obtain rfl : j = ns.length := by omega
            have j1 : ¬ ((ns.length : Int) < ns.length) := by omega
            rw [List.take_length] at hL1
            obtain ⟨au, aa, an⟩ := a2
            have ok2' : au.length ≤ 9223372036854775807 := Nat.le_trans ok2 (by unfold maxLen; omega)
            have hadd := Add_any lr hh g au aa an ok2'
            have g2 := add_good (s := au) (am := aa) (now := an) hh1 g
            have hap := fun t (hne : t ≠ au) hm => apart_facts (h := h) (M := M) (s := au) (t := t) (am := aa) (now := an) (last := last) hh1 g tl ht hne hm
            generalize addP h M au aa an = R at *
            obtain ⟨M2, E⟩ := R
            simp only at g2 hap
            have hus2 := fun W (l : LB W p m h M2) => Users_any l hh g2
            have hnp2 := names_perm M2
            have hnl2 : (namesS M2).length ≤ 1024 := by rw [names_len]; exact g2.len
            generalize namesS M2 = ns2 at *
            have hmem2 := fhid (fun s (hs : s ∈ ns2) => hnp2.mem_iff.1 hs)
            have hmem1 := fhid (fun s (hs : s ∈ M.map Prod.fst) => hnp.out.mem_iff.2 hs)
            unfold AddPost at hadd
            unfold NamesFrom at hus2
            simp only at hadd
            have e0 : wr.cell? ⟨w.heap.size, 0, none⟩ = some (.string (str au)) := Xr.cell 0
            have e1 : wr.cell? ⟨w.heap.size, 1, none⟩ = some (.int .i64 aa) := Xr.cell 1
            have e2 : wr.cell? ⟨w.heap.size, 2, none⟩ = some (.int .i64 an) := Xr.cell 2
            have hxr := Xr.lt
            have hme : m ≠ wm := fun e => by have := hw3.out; omega
            replace hap := fhid hap
            replace hL1 := fhid hL1
            replace hL2 := fhid hL2
            replace lr := fhid lr
            replace mr := fhid mr
            replace Br := fhid Br
            replace Xr := fhid Xr
            clear hkr hnm hnp2
            go_upto_region 19 with (first
              | (go_at_call 14; (with_reducible refine hadd.mono ?_); rintro e w9 ⟨rfl, l9, g9⟩
                 have m9 := fhid (mr.out.keep (g9.block wm mr.out.lt (by intro e; injection e with e; exact hme e.symm)))
                 have X9 := fhid (Xr.out.keep (g9.block w.heap.size Xr.out.lt (by intro e; injection e with e; exact hxm e)))
                 have B9 := fhid (Br.out.trans (grown_below (B := w.heap.size) g9 hwm Br.out.size))
                 have l9 := fhid l9
                 clear g9)
              | (go_at_call 23; (with_reducible refine (hus2 _ l9.out).mono ?_); rintro e w10 ⟨v10, rfl, o10, b10⟩; obtain ⟨A10, c10, rfl, hnm⟩ := name_at o10; replace hnm := fhid hnm))
            have l10 := fhid (l9.out.below b10)
            have X10 := fhid (X9.out.below b10 X9.out.lt)
            have B10 := fhid (B9.out.trans (b10.mono B9.out.size))
            have m10 := fhid (m9.out.below b10 m9.out.lt)
            clear l9 X9 B9 m9 hus2 b10 o10 lr mr Br Xr e0 e1 e2 hxr
            go_loopw [85] (fun i wr => ∃ j : Nat, j ≤ ns2.length ∧ i = .int .i64 (j : Nat) ∧ Below w10.heap.size w10 wr) (fun i _ => ns2.length - (intOf i).toNat)
            case atStart => exact ⟨0, Nat.zero_le _, rfl, Below.refl _ _⟩
            case round =>
              obtain ⟨j, hj, rfl, hB⟩ := hrel
              have j0 : (0 : Int) ≤ j := by omega
              have lr := l10.out.below hB
              have mr := m10.out.below hB m10.out.lt
              have Br := B10.out.trans (hB.mono B10.out.size)
              have Xr := X10.out.below hB X10.out.lt
              by_cases hlt : j < ns2.length
              · have j1 : (j : Int) < ns2.length := by omega
                obtain ⟨b, o, rfl, hb, c0⟩ := hnm.out j hlt
                have c1 := (hB.cell (p := ⟨b, o + j, none⟩) hb).trans c0
                have hbr := Nat.lt_of_lt_of_le hb hB.size
                have hms := hmem2.out ns2[j] (List.getElem_mem hlt)
                generalize ns2[j] = s at *
                have hf2 := factor_there (h := h) g2 hms
                obtain ⟨f5, f6⟩ := factor_facts (s := s) (now := 1099511627776) hh1 g2
                have hu1 := fun W (l : LB W p m h M2) => Used_any l hh g2 s last
                have hu2 := fun W (l : LB W p m h M2) => Factor_any l hh g2 s 1099511627776
                have hLu : ∃ (x : Int) (th : Bool), (∀ W, SM W wm L → (Instr.lookup 56 (.map (some wm)) (.string (str s)) true).run Try.prog W = .ok (.tuple #[.int .i64 x, .bool th]) W) ∧ (s ≠ au → x = (usedP h M s last).1 ∧ th = true) := by
                  have hrun := fun W (h : SM W wm L) => run_sm_look (w := W) true Try.underlying56 Try.underlying9 (z := .int .i64 0) (by kernel_rfl) h s
                  cases hl : lookG s L with
                  | none =>
                    refine ⟨0, false, fun W h => ?_, fun hne => ?_⟩
                    · have := hrun W h
                      rw [hl] at this
                      exact this
                    · have := hL1.out s (hmem1.out s (hap.out s hne hms).1)
                      rw [hl] at this
                      cases this
                  | some v =>
                    obtain ⟨n, rfl⟩ := hL2.out s v hl
                    refine ⟨n, true, fun W h => ?_, fun hne => ?_⟩
                    · have := hrun W h
                      rw [hl] at this
                      exact this
                    · have := hL1.out s (hmem1.out s (hap.out s hne hms).1)
                      rw [hl] at this
                      injection this with this
                      injection this with _ this
                      exact ⟨this, rfl⟩
                obtain ⟨x, th, hlk, hxe⟩ := hLu
                have hae := fun hne => hap.out s hne hms
                unfold IntP at hu1 hu2
                rw [hf2] at hu2
                generalize (factorP h M2 s 1099511627776).1 = y2 at *
                generalize usedP h M2 s last = u at *
                obtain ⟨n, f⟩ := u
                simp only at hae hu1
                have hca : ∀ W, Below wr.heap.size wr W → W.cell? ⟨w.heap.size, 0, none⟩ = some (.string (str au)) ∧ w.heap.size < W.heap.size := fun W hW =>
                  ⟨Box.cell (Box.below Xr hW Xr.lt) 0, (Box.below Xr hW Xr.lt).lt⟩
                replace lr := fhid lr
                replace mr := fhid mr
                have Xr' := fhid Xr
                clear Xr hf2 hms c0
                by_cases hsa : s = au
                · subst hsa
                  clear hae hxe
                  go_wp2_with (first
                    | (go_at_call 16; (with_reducible refine (hu1 _ lr.out).mono ?_); rintro e w11 ⟨rfl, b11⟩
                       have l11 := fhid (lr.out.below b11)
                       have hlk2 := hlk w11 (mr.out.below b11 mr.out.lt)
                       obtain ⟨e0, hxr⟩ := hca _ b11)
                    | (go_at_call 18; (with_reducible refine (hu2 _ l11.out).mono ?_); rintro e w12 ⟨rfl, b12⟩
                       have b13 := fhid (b11.trans (b12.mono b11.size))
                       obtain ⟨e0, hxr⟩ := hca _ b13.out))
                  go_roundw
                  case rel => exact ⟨j + 1, by omega, by go_num, hB.trans (b13.out.mono hB.size)⟩
                  case measure => simp [intOf]; omega
                · obtain ⟨_, f0, n0⟩ := hae hsa
                  obtain ⟨hx0, ht0⟩ := hxe hsa
                  subst f0 n0 hx0 ht0
                  have hss : (str s).toList = s := by rw [ByteArray.toList_eq]; rfl
                  have hsu : (str au).toList = au := by rw [ByteArray.toList_eq]; rfl
                  have bsa : (s == au) = false := by simpa using hsa
                  have bsn : (s != au) = true := by simpa using hsa
                  clear hae hxe
                  go_wp2_with (first
                    | (go_at_call 16; (with_reducible refine (hu1 _ lr.out).mono ?_); rintro e w11 ⟨rfl, b11⟩
                       have l11 := fhid (lr.out.below b11)
                       have hlk2 := hlk w11 (mr.out.below b11 mr.out.lt)
                       obtain ⟨e0, hxr⟩ := hca _ b11)
                    | (go_at_call 18; (with_reducible refine (hu2 _ l11.out).mono ?_); rintro e w12 ⟨rfl, b12⟩
                       have b13 := fhid (b11.trans (b12.mono b11.size))
                       obtain ⟨e0, hxr⟩ := hca _ b13.out))
                  go_roundw
                  case rel => exact ⟨j + 1, by omega, by go_num, hB.trans (b13.out.mono hB.size)⟩
                  case measure => simp [intOf]; omega
              · have j1 : ¬ (j : Int) < ns2.length := by omega
                clear lr mr Xr
                go_wp2_with (go_at_call 12; (with_reducible refine (hal _).mono ?_); rintro e w6 ⟨rfl, b6⟩)
                go_ret
                exact ⟨rfl, Br.trans (b6.mono Br.size)⟩
  · have hnew := New_no h W1 hh
    replace B1 := fhid B1
    clear s1 X1
    go_enter Try.func6, Try.ntmps6
    go_upto_region 1 with fail
    rw [← hW1.out]
    clear hW1
    go_wp2_with (first
      | (go_at_call 10; (with_reducible refine hnew.mono ?_); rintro e w2 ⟨rfl, rfl⟩)
      | (go_at_call 12; (with_reducible refine (hal _).mono ?_); rintro e w6 ⟨rfl, b6⟩))
    go_ret
    exact ⟨rfl, B1.out.trans (b6.mono B1.out.size)⟩
end Go.Proofs.Ytmbgcphiigmdjaa
