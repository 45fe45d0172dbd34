/-
  ShareFalls, walked.
-/
import Derived.Test.YtmbgcphiigmdjaaUPlay
import Derived.Test.YtmbgcphiigmdjaaUUsers
import Derived.Test.YtmbgcphiigmdjaaUFallM
namespace Go.Proofs.Ytmbgcphiigmdjaa
open Go.RowKit Ss Ds

/-- A statement's answer. -/
def TrueP (w : World) (e : Ending) (w' : World) : Prop := e = .returned (.bool true) ∧ Below w.heap.size w w'
theorem name_at {w : World} {base : Nat} {v : Value} {ns : List Str} (h : OwnS w base v ns) : ∃ A cap, v = .slice A ns.length cap ∧ ∀ j (hj : j < ns.length), ∃ b o, A = some ⟨b, o, none⟩ ∧ b < w.heap.size ∧ w.cell? ⟨b, o + j, none⟩ = some (.string (str ns[j])) := by
  obtain ⟨A, cap, e, _, _, hs⟩ := h.shape
  refine ⟨A, cap, e, fun j hj => ?_⟩
  obtain ⟨b, o, ea, hb, hc⟩ := hs (by rw [SV_len]; omega)
  refine ⟨b, o, ea, hb, ?_⟩
  rw [hc j (by rw [SV_len]; exact hj)]
  simp [SV]
set_option maxRecDepth 100000 in
set_option maxHeartbeats 16000000 in
theorem falls_walk (h : Int) (A : Option Addr) (l : List Act3) (cap : Nat) (x0 x1 x2 : Int) (w : World) (hs : RdS w A l.length cap (AVs l)) (ok : ∀ a ∈ l, okA a) :
    Calls Try.prog 5 #[.int .i64 h, .slice A l.length cap, .agg #[.int .i64 x0, .int .i64 x1, .int .i64 x2]] w (TrueP w) := by
  have hal := fun W => alive_any W
  obtain ⟨W1, hW1, B1, X1⟩ := one_box w 54 [.int .i64 x0, .int .i64 x1, .int .i64 x2]
  have s1 := hs.below B1
  have s0 := fhid (short_rds hs)
  replace hW1 := fhid hW1
  clear hs
  unfold TrueP
  by_cases hh : halfB h
  · have hnew := New_yes h W1 hh
    obtain ⟨hh1, hh2⟩ := hh
    have hh : halfB h := ⟨hh1, hh2⟩
    replace s1 := fhid s1
    replace X1 := fhid X1
    replace B1 := fhid B1
    go_enter Try.func5, Try.ntmps5
    go_upto_region 1 with fail
    rw [← hW1.out]
    clear hW1
    go_upto_region 5 with (go_at_call 10; (with_reducible refine hnew.mono ?_); rintro e w2 ⟨p, m, rfl, p0, m0, l2, b2⟩)
    have B2 := B1.out.trans (b2.mono B1.out.size)
    have s2 := s1.out.below b2
    have X2 := X1.out.below b2 X1.out.lt
    have hwm : w.heap.size ≤ m := Nat.le_trans B1.out.size m0
    have hxm : w.heap.size ≠ m := fun e => by have := X1.out.lt; omega
    clear B1 s1 X1 b2 p0 m0 hnew
    have hsh := short_any A l cap w2 s2
    have hsm := fun a (ha : a ∈ shortL l) => ok a (short_mem ha)
    have hsl := short_len l
    generalize shortL l = q at *
    replace l2 := fhid l2
    replace B2 := fhid B2
    replace X2 := fhid X2
    clear ok s2
    go_upto_region 6 with (go_at_call 13; (with_reducible refine hsh.mono ?_); rintro e w3 ⟨c', rfl, s3, rfl⟩)
    clear hsh s3
    go_loopw [9, 41] (fun last i wr => ∃ j : Nat, j ≤ q.length ∧ i = .int .i64 (j : Nat) ∧ last = .int .i64 (playP h (q.take j)).2 ∧ LB wr p m h (playP h (q.take j)).1 ∧ Below w.heap.size w wr ∧ Box wr w.heap.size 54 [.int .i64 x0, .int .i64 x1, .int .i64 x2]) (fun _ i _ => q.length - (intOf i).toNat)
    case atStart => exact ⟨0, Nat.zero_le _, rfl, rfl, l2.out, B2.out, X2.out⟩
    case round =>
      clear l2 B2 X2
      obtain ⟨j, hj, rfl, rfl, lr, Br, Xr⟩ := hrel
      have P := play_ok hh1 (q.take j)
      have j0 : (0 : Int) ≤ j := by omega
      by_cases hlt : j < q.length
      · have j1 : (j : Int) < q.length := by omega
        have hst := play_take h q j hlt
        obtain ⟨b, o, rfl, hb, c0, c1, c2⟩ := act_at s0.out hlt
        have hokj := hsm q[j] (List.getElem_mem hlt)
        generalize q[j] = a at *
        obtain ⟨s, am, now⟩ := a
        generalize playP h (q.take j) = S at *
        obtain ⟨M, last⟩ := S
        obtain ⟨g, tl, t0, t1⟩ := P
        simp only at c0 c1 c2 g tl t0 t1 lr
        have d0 := (Br.cell (p := ⟨b, o + j * 3, none⟩) hb).trans c0
        have d1 := (Br.cell (p := ⟨b, o + j * 3 + 1, none⟩) hb).trans c1
        have d2 := (Br.cell (p := ⟨b, o + j * 3 + 2, none⟩) hb).trans c2
        have hbr := Nat.lt_of_lt_of_le hb Br.size
        obtain ⟨W4, hW4, b4, X4⟩ := one_box wr TAct [.string (str s), .int .i64 am, .int .i64 now]
        have l4 := lr.below b4
        have B4 := Br.trans (b4.mono Br.size)
        have Y4 := Xr.below b4 Xr.lt
        have hadd := Add_any l4 hh g s am now (Nat.le_trans hokj (by unfold maxLen; omega))
        have e0 := X4.cell 0
        have e1 := X4.cell 1
        have e2 := X4.cell 2
        have hx4 := X4.lt
        have hwr := fhid (show wr.heap.size ≠ m from fun e => by have := lr.lt.2; omega)
        simp only [List.getElem?_cons_zero, List.getElem?_cons_succ] at e0 e1 e2
        replace hW4 := fhid hW4
        replace X4 := fhid X4
        replace l4 := fhid l4
        replace B4 := fhid B4
        replace Y4 := fhid Y4
        clear lr Br Xr b4 c0 c1 c2
        go_upto_region 8 with fail
        rw [← hW4.out]
        clear hW4 d0 d1 d2
        unfold AddPost at hadd
        unfold stepP at hst
        simp only at hst
        by_cases he : (addP h M s am now).2 = 0
        · rw [he] at hadd
          rw [if_pos he] at hst
          replace hst := fhid hst
          clear he
          generalize (addP h M s am now).1 = M' at *
          go_wp2_with (go_at_call 14; (with_reducible refine hadd.mono ?_); rintro e w5 ⟨rfl, l5, g5⟩
                       have l5 := fhid l5
                       have B5 := fhid (B4.out.trans (grown_below (B := w.heap.size) g5 hwm B4.out.size))
                       have Y5 := fhid (Y4.out.keep (g5.block w.heap.size Y4.out.lt (by intro e; injection e with e; exact hxm e)))
                       have X5 := X4.out.keep (g5.block wr.heap.size X4.out.lt (by intro e; injection e with e; exact hwr.out e))
                       have e0 := X5.cell 0
                       have e1 := X5.cell 1
                       have e2 := X5.cell 2
                       have hx5 := X5.lt
                       simp only [List.getElem?_cons_zero, List.getElem?_cons_succ] at e0 e1 e2
                       clear g5 X5)
          go_roundw
          case rel => exact ⟨j + 1, by omega, by go_num, by rw [hst.out], by rw [hst.out]; exact l5.out, B5.out, Y5.out⟩
          case measure => simp [intOf]; omega
        · rw [if_neg he] at hst
          have hE : (addP h M s am now).1 = M := by
            rcases add_err h M s am now with h2 | h2
            · exact absurd h2 he
            · exact h2
          rw [hE] at hadd hst
          replace hst := fhid hst
          have bE : ((addP h M s am now).2 == 0) = false := by simpa using he
          generalize (addP h M s am now).2 = E at *
          clear he hE
          go_wp2_with (go_at_call 14; (with_reducible refine hadd.mono ?_); rintro e w5 ⟨rfl, l5, g5⟩
                       have l5 := fhid l5
                       have B5 := fhid (B4.out.trans (grown_below (B := w.heap.size) g5 hwm B4.out.size))
                       have Y5 := fhid (Y4.out.keep (g5.block w.heap.size Y4.out.lt (by intro e; injection e with e; exact hxm e)))
                       clear g5)
          go_roundw
          case rel => exact ⟨j + 1, by omega, by go_num, by rw [hst.out], by rw [hst.out]; exact l5.out, B5.out, Y5.out⟩
          case measure => simp [intOf]; omega
      · obtain rfl : j = q.length := by omega
        have j1 : ¬ ((q.length : Int) < q.length) := by omega
        rw [List.take_length] at lr P ⊢
        clear hsm s0
        generalize playP h q = S at *
        obtain ⟨M, last⟩ := S
        obtain ⟨g, tl, t0, t1⟩ := P
        simp only at g tl t0 t1 lr
        have k0 : 0 ≤ max (x0.tmod 1000) 0 ∧ max (x0.tmod 1000) 0 ≤ 999 := by have := Int.tmod_lt_of_pos x0 (show (0 : Int) < 1000 by decide); omega
        have k1 : 0 ≤ max (x1.tmod 5000) 0 ∧ max (x1.tmod 5000) 0 ≤ 4999 := by have := Int.tmod_lt_of_pos x1 (show (0 : Int) < 5000 by decide); omega
        obtain ⟨n1, hn1⟩ : ∃ n, max (x0.tmod 1000) 0 = n := ⟨_, rfl⟩
        obtain ⟨n2, hn2⟩ : ∃ n, max (x1.tmod 5000) 0 = n := ⟨_, rfl⟩
        rw [hn1] at k0
        rw [hn2] at k1
        obtain ⟨k0, k0'⟩ := k0
        obtain ⟨k1, k1'⟩ := k1
        have e0 := Xr.cell 0
        have e1 := Xr.cell 1
        have hxr := Xr.lt
        simp only [List.getElem?_cons_zero, List.getElem?_cons_succ] at e0 e1
        replace lr := fhid lr
        replace Br := fhid Br
        replace Xr := fhid Xr
        by_cases hla : last + n1 + n2 > 549755813888
        · go_wp2_with (go_at_call 12; (with_reducible refine (hal _).mono ?_); rintro e w6 ⟨rfl, b6⟩)
          go_ret
          exact ⟨rfl, Br.out.trans (b6.mono Br.out.size)⟩
        · have hus := Users_any lr.out hh g
          have hff := fun s (hs : s ∈ M.map Prod.fst) => falls_facts (h := h) (now := last + n1) (later := last + n1 + n2) (s := s) hh1 g tl (by omega) (by omega) (by omega) (by omega) hh2 hs
          have hft := falls_total (h := h) (now := last + n1) (later := last + n1 + n2) hh1 g tl (by omega) (by omega) (by omega) (by omega)
          have hmem : ∀ s ∈ namesS M, s ∈ M.map Prod.fst := fun s hs => (names_perm M).mem_iff.1 hs
          have hnl : (namesS M).length ≤ 1024 := by rw [names_len]; exact g.len
          generalize namesS M = ns at *
          unfold NamesFrom at hus
          go_upto_region 16 with (go_at_call 23; (with_reducible refine hus.mono ?_); rintro e w7 ⟨v7, rfl, o7, b7⟩; obtain ⟨A7, c7, rfl, hnm⟩ := name_at o7; replace hnm := fhid hnm)
          have l7 := fhid (lr.out.below b7)
          have B7 := fhid (Br.out.trans (b7.mono Br.out.size))
          replace hff := fhid hff
          replace hft := fhid hft
          replace hmem := fhid hmem
          clear lr Br Xr e0 e1 hus b7 o7
          go_loopw [77] (fun i wr => ∃ j : Nat, j ≤ ns.length ∧ i = .int .i64 (j : Nat) ∧ Below w7.heap.size w7 wr) (fun i _ => ns.length - (intOf i).toNat)
          case atStart => exact ⟨0, Nat.zero_le _, rfl, Below.refl _ _⟩
          case round =>
            obtain ⟨j, hj, rfl, hB⟩ := hrel
            have j0 : (0 : Int) ≤ j := by omega
            have lr := l7.out.below hB
            have Br := B7.out.trans (hB.mono B7.out.size)
            by_cases hlt : j < ns.length
            · have j1 : (j : Int) < ns.length := by omega
              obtain ⟨b, o, rfl, hb, c0⟩ := hnm.out j hlt
              have c1 := (hB.cell (p := ⟨b, o + j, none⟩) hb).trans c0
              have hbr := Nat.lt_of_lt_of_le hb hB.size
              have hms := hmem.out ns[j] (List.getElem_mem hlt)
              generalize ns[j] = s at *
              obtain ⟨f1, f2, f3, f4, f5, f6⟩ := hff.out s hms
              have f7 := (used_total (s := s) (now := last + n1) hh1 g f1).2.1
              have hu1 := fun W (l : LB W p m h M) => Used_any l hh g s (last + n1)
              have hu2 := fun W (l : LB W p m h M) => Used_any l hh g s (last + n1 + n2)
              have hu3 := fun W (l : LB W p m h M) => Used_any l hh g s (last + n1 + h)
              unfold IntP at hu1 hu2 hu3
              rw [f1] at hu1
              rw [f2] at hu2
              rw [f3, f6] at hu3
              generalize (usedP h M s (last + n1)).1 = y1 at *
              generalize (usedP h M s (last + n1 + n2)).1 = y2 at *
              have q2 : IntKind.i64.wrap (y1.tdiv 2) = y1.tdiv 2 := IntWalk.i64_in _ (by rw [Int.tdiv_eq_ediv_of_nonneg f5]; omega)
              clear hms f1 f2 f3 f6 c0
              replace lr := fhid lr
              have b0 := fhid (Below.refl wr.heap.size wr)
              go_wp2_with (first
                | (go_at_call 16; (with_reducible refine (hu1 _ lr.out).mono ?_); rintro e w8 ⟨rfl, b8⟩
                   have l8 := fhid (lr.out.below b8); clear hu1)
                | (go_at_call 16; (with_reducible refine (hu2 _ l8.out).mono ?_); rintro e w9 ⟨rfl, b9⟩
                   have l9 := fhid (l8.out.below b9); have b9 := fhid (b8.trans (b9.mono b8.size)); clear hu2)
                | (go_at_call 16; (with_reducible refine (hu3 _ l9.out).mono ?_); rintro e w10 ⟨rfl, b10⟩
                   have b10 := fhid (b9.out.trans (b10.mono b9.out.size)); clear hu3))
              go_roundw
              case rel => exact ⟨j + 1, by omega, by go_num, hB.trans (b10.out.mono hB.size)⟩
              case measure => simp [intOf]; omega
            · have j1 : ¬ (j : Int) < ns.length := by omega
              obtain ⟨f1, f2, f3⟩ := hft.out
              have ht1 := fun W (l : LB W p m h M) => Total_any l hh g (last + n1)
              have ht2 := fun W (l : LB W p m h M) => Total_any l hh g (last + n1 + n2)
              unfold IntP at ht1 ht2
              rw [f1] at ht1
              rw [f2] at ht2
              generalize (totalP h M (last + n1)).1 = y1 at *
              generalize (totalP h M (last + n1 + n2)).1 = y2 at *
              clear f1 f2
              replace lr := fhid lr
              go_wp2_with (first
                | (go_at_call 20; (with_reducible refine (ht1 _ lr.out).mono ?_); rintro e w8 ⟨rfl, b8⟩
                   have l8 := fhid (lr.out.below b8); have b8 := fhid b8; clear ht1)
                | (go_at_call 20; (with_reducible refine (ht2 _ l8.out).mono ?_); rintro e w9 ⟨rfl, b9⟩
                   have b9 := fhid (b8.out.trans (b9.mono b8.out.size)); clear ht2)
                | (go_at_call 12; (with_reducible refine (hal _).mono ?_); rintro e w10 ⟨rfl, b10⟩
                   have b10 := fhid (b9.out.trans (b10.mono b9.out.size))))
              go_ret
              exact ⟨rfl, Br.trans (b10.out.mono Br.size)⟩
  · have hnew := New_no h W1 hh
    replace B1 := fhid B1
    clear s1 X1
    go_enter Try.func5, Try.ntmps5
    go_upto_region 1 with fail
    rw [← hW1.out]
    clear hW1
    go_wp2_with (first
      | (go_at_call 10; (with_reducible refine hnew.mono ?_); rintro e w2 ⟨rfl, rfl⟩)
      | (go_at_call 12; (with_reducible refine (hal _).mono ?_); rintro e w6 ⟨rfl, b6⟩))
    go_ret
    exact ⟨rfl, B1.out.trans (b6.mono B1.out.size)⟩
end Go.Proofs.Ytmbgcphiigmdjaa
