/-
  Parts: HRExpX.
-/
import Derived.Test.YtmnmcikbbfcjcaaGreatDoorH4
import Derived.Test.YtmnmcikbbfcjcaaGreatDoorH5
set_option linter.unusedSimpArgs false
set_option linter.unusedVariables false
/-
  The document's Expand, told exactly.
-/
namespace Go.Proofs.YtmnmcikbbfcjcaaGreatDoor.Hs
open Go.RowKit

/-- What the loop knows at its head. -/
def EInvX (w : World) (s : ByteArray) (s5 : Value) (wr : World) : Prop := ∃ (ns : List (List UInt8)) (a F : Nat) (f : Int), OwnS wr (w.heap.size + 2) s5 ns ∧ ns.length ≤ 256 ∧ a ≤ s.size ∧ RB wr (w.heap.size + 1) s a 0 f ∧ FBox wr w.heap.size ∧ Below w.heap.size w wr ∧ s.size < a + F ∧ pExpand (s.size + 1) 0 (bl s) [] = pExpand F a ((bl s).drop a) ns
/-- What the call comes to. -/
def EPostX (w : World) (E : List (List UInt8) × Nat × Nat) (e : Ending) (w' : World) : Prop :=
  (E.2.1 = 0 ∧ ∃ v, e = .returned (.tuple #[v, .agg #[.int .i64 0, .int .i64 0]]) ∧ OwnS w' w.heap.size v E.1 ∧ Below w.heap.size w w') ∨
  (E.2.1 ≠ 0 ∧ ∃ ev av : Int, ev ≠ 0 ∧ e = .returned (.tuple #[.slice none 0 0, .agg #[.int .i64 ev, .int .i64 av]]) ∧ Below w.heap.size w w')
theorem ex_bad {s : ByteArray} {a F e k : Nat} {ns : List (List UInt8)} (hR : pExpand (s.size + 1) 0 (bl s) [] = pExpand F a ((bl s).drop a) ns) (hF : s.size < a + F) (ha : a ≤ s.size) (h : pPart ((bl s).drop a) = .bad e k) : (pExpand (s.size + 1) 0 (bl s) []).2.1 ≠ 0 := by
  obtain ⟨F', rfl⟩ : ∃ F', F = F' + 1 := ⟨F - 1, by omega⟩
  rw [hR, pExpand_bad9 h]
  exact pPart_badX h
theorem ex_many {s : ByteArray} {a F k : Nat} {ns : List (List UInt8)} {P : List UInt8} {rs : List Tr} (hR : pExpand (s.size + 1) 0 (bl s) [] = pExpand F a ((bl s).drop a) ns) (hF : s.size < a + F) (ha : a ≤ s.size) (h : pPart ((bl s).drop a) = .ok (P, rs) k) (hm : 256 < ns.length + (namesE rs).length) : (pExpand (s.size + 1) 0 (bl s) []).2.1 ≠ 0 := by
  obtain ⟨F', rfl⟩ : ∃ F', F = F' + 1 := ⟨F - 1, by omega⟩
  rw [hR, pExpand_manyX h ((namesE_many _ _).2 hm)]
  show (5 : Nat) ≠ 0
  decide
theorem ex_last {s : ByteArray} {a F a3 : Nat} {ns : List (List UInt8)} {P : List UInt8} {rs : List Tr} (hR : pExpand (s.size + 1) 0 (bl s) [] = pExpand F a ((bl s).drop a) ns) (hF : s.size < a + F) (ha : a ≤ s.size) (haa : a ≤ a3) (h : pPart ((bl s).drop a) = .ok (P, rs) (a3 - a)) (hm : ns.length + (namesE rs).length ≤ 256) (he : a3 = s.size) :
    pExpand (s.size + 1) 0 (bl s) [] = (ns ++ (namesE rs).map (P ++ ·), 0, 0) := by
  obtain ⟨F', rfl⟩ : ∃ F', F = F' + 1 := ⟨F - 1, by omega⟩
  have hm2 : ¬ 256 < ns.length + partCount rs := fun q => by have := (namesE_many _ _).1 q; omega
  rw [hR, pExpand_lastX h hm2 (by rw [List.length_drop, bl_len]; omega), namesE_part P rs (by omega)]
theorem ex_next {s : ByteArray} {a F a3 : Nat} {ns : List (List UInt8)} {P : List UInt8} {rs : List Tr} (hR : pExpand (s.size + 1) 0 (bl s) [] = pExpand F a ((bl s).drop a) ns) (hF : s.size < a + F) (ha : a ≤ s.size) (haa : a ≤ a3) (h3 : a3 < s.size) (h : pPart ((bl s).drop a) = .ok (P, rs) (a3 - a)) (hm : ns.length + (namesE rs).length ≤ 256) :
    s.size < a3 + 1 + (F - 1) ∧ pExpand (s.size + 1) 0 (bl s) [] = pExpand (F - 1) (a3 + 1) ((bl s).drop (a3 + 1)) (ns ++ (namesE rs).map (P ++ ·)) := by
  obtain ⟨F', rfl⟩ : ∃ F', F = F' + 1 := ⟨F - 1, by omega⟩
  have hm2 : ¬ 256 < ns.length + partCount rs := fun q => by have := (namesE_many _ _).1 q; omega
  refine ⟨by omega, ?_⟩
  rw [hR, pExpand_nextX h hm2 (by rw [List.length_drop, bl_len]; omega), namesE_part P rs (by omega), List.drop_drop, show a + (a3 - a) + 1 = a3 + 1 by omega, show a + (a3 - a + 1) = a3 + 1 by omega]
  rfl
theorem span_small {t : Tr} (h1 : t.2.1 < 1000000) (h2 : t.2.2 ≤ 6) : ∀ x ∈ spanNames [] t, x.length ≤ 1000000 := by
  intro x hx
  unfold spanNames at hx
  rw [List.mem_map] at hx
  obtain ⟨i, hi, rfl⟩ := hx
  rw [List.mem_range] at hi
  have h3 := dec_len_le 6 (t.1 + i) (by decide) (by show t.1 + i < 1000000; omega)
  rw [List.nil_append, dig_len]
  omega
theorem namesE_small {f k : Nat} {r : List UInt8} {rs : List Tr} (h : pRanges f r = .ok rs k) : ∀ x ∈ namesE rs, x.length ≤ 1000000 := by
  obtain ⟨_, _, hne, hall⟩ := pRanges_ok _ _ _ _ h
  intro x hx
  unfold namesE at hx
  rw [if_neg hne] at hx
  unfold namesR at hx
  have hx2 := List.mem_of_mem_take hx
  rw [List.mem_flatMap] at hx2
  obtain ⟨t, ht, hx3⟩ := hx2
  exact span_small (hall t ht).2.1 (hall t ht).2.2 x hx3
set_option maxRecDepth 100000 in
set_option maxHeartbeats 4000000 in
theorem rexpand_noneX (s : ByteArray) (w : World) (h : bl s = []) : Calls Tryz.prog 117 #[.string s] w (EPostX w ([], 0, 0)) := by
  have h1 : s.toList = [] := by rw [ByteArray.toList_eq]; exact h
  clear h
  go_enter Tryz.func117, Tryz.ntmps117
  go_wp2
  refine bodyPost_ret (v := .tuple #[.slice none 0 0, .agg #[.int .i64 0, .int .i64 0]]) (by simp [results, Tryz.results117, go_sem]) rfl (.inl ⟨rfl, _, rfl, OwnS.nil _ _, ?_⟩)
  exact (Below.refl _ _).alloc (Nat.le_refl _) _
set_option maxRecDepth 100000 in
set_option maxHeartbeats 32000000 in
theorem rexpand_someX (s : ByteArray) (w : World) (hs : s.size ≤ 1000000) (h0 : bl s ≠ []) : Calls Tryz.prog 117 #[.string s] w (EPostX w (pExpand (s.size + 1) 0 (bl s) [])) := by
  have h1 : ¬ s.toList = [] := by rw [ByteArray.toList_eq]; exact h0
  have h2 : s.toList.isEmpty = false := by simpa using h1
  have hs' : s.size ≤ 140737488355328 := by omega
  have hsi : (s.size : Int) ≤ 1000000 := by omega
  replace hs := fhid hs
  replace hs' := fhid hs'
  clear h0
  go_enter Tryz.func117, Tryz.ntmps117
  have hE0 := fhid (show pExpand (s.size + 1) 0 (bl s) [] = pExpand (s.size + 1) 0 ((bl s).drop 0) [] from rfl)
  go_wp2_with fail
  go_loopw [5] (fun s5 wr => EInvX w s s5 wr) (fun _ wr => s.size - atOf wr (w.heap.size + 1))
  case atStart =>
    exact ⟨[], 0, s.size + 1, 0, OwnS.nil _ _, by simp, Nat.zero_le _, new_at _ _ _ (by simp), old_at _ _ _ (FBox.new w) (by simp), ((Below.refl _ _).alloc (Nat.le_refl _) _).alloc (by simp) _, by omega, hE0.out⟩
  case round =>
    obtain ⟨ns, a, F, f, ho, hnl, has, hb, hfx, hB, hF, hR⟩ := hrel
    have hRh := fhid (And.intro hR hF)
    clear hR hF hE0
    obtain ⟨E, hE⟩ : ∃ E, pExpand (s.size + 1) 0 (bl s) [] = E := ⟨_, rfl⟩
    have hbadR := fhid (fun e k (h : pPart ((bl s).drop a) = .bad e k) => by have := ex_bad hRh.out.1 hRh.out.2 has h; rw [hE] at this; exact this)
    have hmanyR := fhid (fun P rs k (h : pPart ((bl s).drop a) = .ok (P, rs) k) hm => by have := ex_many hRh.out.1 hRh.out.2 has h hm; rw [hE] at this; exact this)
    have hlastR := fhid (fun P rs a3 (haa : a ≤ a3) (h : pPart ((bl s).drop a) = .ok (P, rs) (a3 - a)) hm he => (hE.symm.trans (ex_last hRh.out.1 hRh.out.2 has haa h hm he)))
    have hnextR := fhid (fun P rs a3 (haa : a ≤ a3) h3 (h : pPart ((bl s).drop a) = .ok (P, rs) (a3 - a)) hm => ex_next hRh.out.1 hRh.out.2 has haa h3 h hm)
    rw [hE]
    replace hE := fhid hE
    have hme := hb.at_
    obtain ⟨A, cap, rfl, _, _, _⟩ := ho.shape
    obtain ⟨wo, rfl⟩ : ∃ wo : World, wo = wr := ⟨_, rfl⟩
    obtain ⟨r, hr⟩ : ∃ r, (bl s).drop a = r := ⟨_, rfl⟩
    have hrl : r.length = s.size - a := by rw [← hr, List.length_drop, bl_len]
    have hget : ∀ j (h : a + j < s.size) (h' : j < r.length), r[j] = s[a + j] := fun j h h' => by subst hr; exact drop_get s a j h h'
    have hext : ∀ j, s.extract a (a + j) = str (r.take j) := fun j => by rw [ext_str, hr, Nat.add_sub_cancel_left]
    obtain ⟨c0, c1, c2, c3, z1, z2, z3, hz⟩ := hb.facts
    have i0 : (0 : Int) ≤ a := by omega
    have i1 : (a : Int) ≤ s.size := by omega
    replace hr := fhid hr
    replace hrl := fhid hrl
    replace hget := fhid hget
    replace hext := fhid hext
    replace ho := fhid ho
    replace hnl := fhid hnl
    replace hfx := fhid hfx
    replace hB := fhid hB
    go_wp2_with fail
    clear c0 c1 c2 c3 z1 z2 z3 hz
    go_loopw [] (fun wr => ∃ j : Nat, a + j ≤ s.size ∧ AllB r j ∧ RB wr (w.heap.size + 1) s ((a : Int) + (j : Int)) 0 f ∧ Chg (w.heap.size + 1) wo wr) (fun wr => s.size - atOf wr (w.heap.size + 1))
    case atStart => exact ⟨0, has, fun i h hi => absurd hi (Nat.not_lt_zero _), by simpa using hb, Chg.refl _ _⟩
    case round =>
      obtain ⟨j, hj, hall, hbj, hch⟩ := hrel
      have hme2 := hbj.at_
      have j0 : (0 : Int) ≤ j := by omega
      have j1 : (a : Int) + j ≤ s.size := by omega
      replace hall := fhid hall
      replace hch := fhid hch
      go_wp2_with fail
      refine (peek_chg (w.heap.size + 1) s (a + j) 0 f _ wr (by omega) hs'.out hbj).mono ?_
      rintro e w1 ⟨rfl, hb1, hc1⟩
      replace hc1 := fhid (hch.out.trans hc1)
      by_cases hbq : isBare (pk s (a + j) 0) = true
      · obtain ⟨hlt, hp⟩ := pk_bare hbq
        have hall' := fhid (hall.out.succ (by have := hrl.out; omega) (by rw [hget.out j hlt (by have := hrl.out; omega), ← hp]; exact hbq))
        have hbr := fun W => rbare_any (pk s (a + j) 0) W
        rw [hbq] at hbr
        clear hp hbq
        generalize pk s (a + j) 0 = c at *
        have hn := hb1.set1 ((a : Int) + j + 1)
        obtain ⟨c0, c1, c2, c3, z1, z2, z3, hz⟩ := hb1.facts
        go_wp2_with (go_at_call 130; (with_reducible refine (hbr _).mono ?_); rintro e u ⟨rfl, rfl⟩)
        go_roundw
        case rel => exact ⟨j + 1, by omega, hall'.out, by rw [show (a : Int) + ((j + 1 : Nat) : Int) = a + j + 1 by omega]; exact hn, hc1.out.set 1 _⟩
        case measure =>
          rw [hn.at_, hme2]
          omega
      · have hbf : isBare (pk s (a + j) 0) = false := by simpa using hbq
        have hbr := fun W => rbare_any (pk s (a + j) 0) W
        rw [hbf] at hbr
        have htw := fhid (bare_tw (r := r) (j := j) (by have := hrl.out; omega) hall.out (fun h => by
          have hq : a + j < s.size := by have := hrl.out; omega
          have hpe : pk s (a + j) 0 = s[a + j] := by unfold pk; rw [dif_pos ⟨hq, rfl⟩]
          rw [hget.out j hq h, ← hpe]; exact hbf))
        clear hbq hbf
        generalize pk s (a + j) 0 = c at *
        obtain ⟨c0, c1, c2, c3, z1, z2, z3, hz⟩ := hb1.facts
        have hcb := fhid (hc1.out.below)
        by_cases h0 : j = 0
        · subst h0
          go_wp2_with (go_at_call 130; (with_reducible refine (hbr _).mono ?_); rintro e u ⟨rfl, rfl⟩)
          refine (fault_set (w.heap.size + 1) s _ 0 f _ w1 hb1).mono ?_
          rintro e w2 ⟨rfl, y', f', hy', hb2, hc2⟩
          have hc3 := hc1.out.trans hc2
          have hfx2 : FBox w2 w.heap.size := (hc3.other _ (by omega)).trans hfx.out
          have hbx : Below w.heap.size w w2 := hB.out.trans (hc3.below.mono (by omega))
          clear c0 c1 c2 c3 z1 z2 z3 hz
          obtain ⟨c0, c1, c2, c3, z1, z2, z3, hz⟩ := hb2.facts
          obtain ⟨e0, e1, g0, g1, zf⟩ := hfx2.facts
          have n0 := Nat.ne_of_lt zf
          go_wp2_with fail
          go_region
          go_wp2_with fail
          have zb := hbx.size
          refine bodyPost_ret (v := .tuple #[.slice none 0 0, .agg #[.int .i64 y', .int .i64 f']]) (by simp [results, Tryz.results117, go_sem, e0, e1, zf, n0]) rfl (.inr ⟨hbadR.out _ _ (pPart_noneX (by rw [hr.out, htw.out]; rfl)), y', f', hy', rfl, ?_⟩)
          repeat' (first | (with_reducible exact hbx) | (with_reducible apply Below.drew) | (with_reducible apply Below.setCell) | (with_reducible apply Below.alloc))
          all_goals (first | omega | (simp; done) | (simp; omega))
        · have e6 : ((a : Int) + j == a) = false := by simp; omega
          have e7 : ¬ (a : Int) + j = a := by omega
          have e8 : ¬ (j : Int) = 0 := by omega
          have hpb := fhid (bare_take hall.out (by have := hrl.out; omega))
          have hpl : (r.take j).length = j := by rw [List.length_take]; have := hrl.out; omega
          have htwP := fhid (show ((bl s).drop a).takeWhile isBare = r.take j by rw [hr.out]; exact htw.out)
          have hts := hext.out j
          have htn : ((a : Int) + j).toNat = a + j := by omega
          generalize hP : r.take j = P at *
          replace hP := fhid hP
          have hpn := fhid (show P ≠ [] by intro h; rw [h] at hpl; simp at hpl; omega)
          replace hts := fhid hts
          have hplh := fhid hpl
          have hg91 := fhid (show ((bl s).drop a)[P.length]? = (bl s)[a + j]? by rw [List.getElem?_drop, hpl])
          have hdr := fhid (show ((bl s).drop a).drop (P.length + 1) = (bl s).drop (a + j + 1) by rw [List.drop_drop, hpl]; congr 1)
          have hwo := lt_of_block hb
          have hz1 := lt_of_block hb1
          have ho1 := ho.out.chg hc1.out.a (by omega)
          have hfx1 : FBox w1 w.heap.size := (hc1.out.other _ (by omega)).trans hfx.out
          have hB1 : Below w.heap.size w w1 := hB.out.trans (hc1.out.below.mono (by omega))
          have hs3 : s.size ≤ 140737488355000 := by have := hs.out; omega
          replace hs3 := fhid hs3
          go_wp2_with (go_at_call 130; (with_reducible refine (hbr _).mono ?_); rintro e u ⟨rfl, rfl⟩)
          generalize hPS : s.extract a (a + j) = PS at *
          replace hPS := fhid hPS
          clear c0 c1 c2 c3 z1 z2 z3 hz hbr hbj
          have hl0 := one_own w1 w1.heap.size (str []) [] rfl (Nat.le_refl _) _ rfl
          have y1 : Below w1.heap.size w1 (w1.alloc (.cells #[.string ⟨#[]⟩] 9)) := (Below.refl _ _).alloc (Nat.le_refl _) _
          have hb2 := hb1.below y1 hz1
          have ho2 := ho1.below y1
          have hfx2 := hfx1.below y1 (lt_of_block hfx1)
          have hB2 := hB1.trans (y1.mono hB1.size)
          have y1s := y1.size
          refine (peek_chg (w.heap.size + 1) s (a + j) 0 f _ _ (by omega) hs'.out hb2).mono ?_
          rintro e w3 ⟨rfl, hb3, hc3⟩
          have hl3 := fhid (hl0.chg hc3.a hz1)
          have ho3 := fhid (ho2.chg hc3.a (by omega))
          have hfx3 : FBox w3 w.heap.size := (hc3.other _ (by omega)).trans hfx2
          have hB3 : Below w.heap.size w w3 := hB2.trans (hc3.below.mono (by omega))
          have y3s := hc3.below.size
          have hz3 : w1.heap.size ≤ w3.heap.size := by omega
          clear hl0 y1 hb2 ho2 hfx2 hB2 hc3 ho1 hfx1 hB1 y3s y1s
          replace hfx3 := fhid hfx3
          replace hB3 := fhid hB3
          have hog : ∀ g, (Value.slice A ns.length cap).ownBlock = some g → g < w1.heap.size := fun g hg => by
            have h1 := hc1.out.size
            rcases ho.out.2 with ⟨h2, _⟩ | ⟨g', c', cur, h2, _, hh, _⟩
            · rw [h2] at hg
              cases hg
            · rw [h2] at hg
              have : g' = g := by simpa [Value.ownBlock] using hg
              subst this
              have := lt_of_block hh
              omega
          replace hog := fhid hog
          replace hc1 := fhid trivial
          obtain ⟨d, hd⟩ : ∃ d, pk s (a + j) 0 = d := ⟨_, rfl⟩
          rw [hd]
          go_upto_if 39 with fail
          go_cut [8] (fun s8 wx => ∃ (ls : List (List UInt8)) (a3 : Nat) (y3 f3 : Int), OwnS wx w1.heap.size s8 ls ∧ ls.length ≤ 257 ∧ a3 ≤ s.size ∧ RB wx (w.heap.size + 1) s a3 y3 f3 ∧ ChgA (w.heap.size + 1) w3 wx ∧ (∀ x ∈ ls, x.length ≤ 1000000) ∧ ((y3 ≠ 0 ∧ ∃ e0 k0, pPart ((bl s).drop a) = .bad e0 k0) ∨ (y3 = 0 ∧ a + j ≤ a3 ∧ ∃ rs, ls = namesE rs ∧ pPart ((bl s).drop a) = pEnd ((bl s).drop a) P rs (a3 - a))))
          case first =>
            by_cases h91 : d = 91
            · subst h91
              have lt := pk_is hd (by decide)
              have hk91 := fhid (hg91.out.trans ((pk_get s (a + j) (by decide)).1 hd))
              clear hd
              have hn := hb3.set1 ((a : Int) + j + 1)
              have i4 : (a : Int) + j < s.size := by omega
              have hcs := fhid (((Chg.refl (w.heap.size + 1) w3).set 1 (.int .i64 ((a : Int) + j + 1))).a)
              have hss : w3.heap.size ≤ (w3.setCell ⟨w.heap.size + 1, 1, none⟩ (.int .i64 ((a : Int) + j + 1))).heap.size := hcs.out.below.size
              obtain ⟨c0, c1, c2, c3, z1, z2, z3, hz⟩ := hb3.facts
              go_wp2_with fail
              refine (ranges_ex (w.heap.size + 1) s (a + j + 1) f _ hs3.out (by omega) (by omega) (by rw [show ((a + j + 1 : Nat) : Int) = a + j + 1 by omega]; exact hn)).mono ?_
              rintro e w4 ⟨hc4, ⟨e0, k0, a4, y4, f4, hbd, rfl, hy4, g4', hb4⟩ | ⟨xs, k4, v, hok, rfl, ol, g4', hb4⟩⟩
              · replace hb4 := fhid hb4
                have hbd2 := fhid (pPart_rbadX htwP.out hpn.out hk91.out (by rw [hdr.out]; exact hbd))
                clear c0 c1 c2 c3 z1 z2 z3 hbd
                go_wp2_with fail
                go_meet
                exact ⟨[], a4, y4, f4, OwnS.nil _ _, by simp, g4', hb4.out, hcs.out.trans hc4, fun x hx => (by cases hx), .inl ⟨hy4, _, _, hbd2.out⟩⟩
              · obtain ⟨Al, cl, rfl, _, _, _⟩ := ol.shape
                replace hb4 := fhid hb4
                have hxne := pRanges_ne _ _ _ _ hok
                have hol := fhid (show OwnS w4 w1.heap.size (.slice Al (namesR xs).length cl) (namesE xs) by rw [show namesE xs = namesR xs by unfold namesE; rw [if_neg hxne]]; exact ol.base (by omega))
                have hpp := fhid (pPart_okX htwP.out hpn.out hk91.out (by rw [hdr.out]; exact hok))
                have hsml := fhid (namesE_small hok)
                have hkk := fhid (show P.length + 1 + k4 = a + j + 1 + k4 - a by have := hplh.out; omega)
                clear c0 c1 c2 c3 z1 z2 z3 hok
                generalize (namesR xs).length = NL at *
                go_wp2_with fail
                go_meet
                exact ⟨namesE xs, a + j + 1 + k4, 0, f, hol.out, namesE_le xs, g4', hb4.out, hcs.out.trans hc4, hsml.out, .inr ⟨rfl, by omega, xs, rfl, by rw [← hkk.out]; exact hpp.out⟩⟩
            · have hno91 := fhid (show ((bl s).drop a)[P.length]? ≠ some 91 from fun q => h91 (by rw [← hd]; exact (pk_get s (a + j) (by decide)).2 (hg91.out.symm.trans q)))
              have e : ¬ ((d.toNat : Int) = 91) := fun h => h91 (UInt8.toNat_inj.1 (by show d.toNat = 91; omega))
              have eb : ((d.toNat : Int) == 91) = false := by simpa using e
              go_wp2_with fail
              go_meet
              exact ⟨[[]], a + j, 0, f, hl3.out, by simp, hj, by rw [show ((a + j : Nat) : Int) = (a : Int) + j by omega]; exact hb3, ChgA.refl _ _, fun x hx => by simp at hx; subst hx; simp, .inr ⟨rfl, Nat.le_refl _, [], rfl, by rw [show a + j - a = P.length by have := hplh.out; omega]; exact pPart_bareX htwP.out hpn.out hno91.out⟩⟩
          case rest =>
            obtain ⟨ls, a3, y3, f3, ol, ll, g3', hb5, hc5, dl, hcase⟩ := hcut
            replace hcase := fhid hcase
            obtain ⟨Al, cl, rfl, _, _, _⟩ := ol.shape
            obtain ⟨wk, rfl⟩ : ∃ wk : World, wk = wc := ⟨_, rfl⟩
            have ho5 := fhid (ho3.out.chg hc5 (by omega))
            have hfx5 : FBox wk w.heap.size := (hc5.other _ (by omega) (lt_of_block hfx3.out)).trans hfx3.out
            have hB5 : Below w.heap.size w wk := hB3.out.trans (hc5.below.mono (by omega))
            have hz5 := lt_of_block hb5
            have hw15 : w1.heap.size ≤ wk.heap.size := by have := hc5.below.size; omega
            have k0 : (0 : Int) ≤ a3 := by omega
            have k1 : (a3 : Int) ≤ s.size := by omega
            clear hc5 hb3 hl3 ho3 hfx3 hB3
            obtain ⟨c0, c1, c2, c3, z1, z2, z3, _⟩ := hb5.facts
            replace hfx5 := fhid hfx5
            replace hB5 := fhid hB5
            replace ol := fhid ol
            replace dl := fhid dl
            go_upto_region 16 with fail
            go_cut [62] (fun s62 wx => (∃ q : Bool, s62 = .bool q ∧ (q = true → y3 = 0 ∧ ∃ c, (bl s)[a3]? = some c ∧ c ≠ 44) ∧ (q = false → y3 = 0 → (bl s)[a3]? = none ∨ (bl s)[a3]? = some 44)) ∧ wx = wk)
            case first =>
              by_cases hy3 : y3 = 0
              · subst hy3
                by_cases ha3 : a3 < s.size
                · have k2 : (a3 : Int) < s.size := by omega
                  have hga : (bl s)[a3]? = some s[a3] := by
                    rw [List.getElem?_eq_getElem (by rw [bl_len]; exact ha3)]
                    congr 1
                  generalize hcb : s[a3] = cb at *
                  by_cases h44 : cb = 44
                  · have hga2 := fhid (show (bl s)[a3]? = some 44 by rw [hga, h44])
                    have hf := fhid (show ((cb.toNat : Int) != 44) = false by rw [h44]; rfl)
                    clear hga h44
                    go_wp2_with fail
                    go_meet
                    exact ⟨⟨_, rfl, fun q => absurd (q.symm.trans hf.out) (by decide), fun _ _ => .inr hga2.out⟩, rfl⟩
                  · have hga2 := fhid (show ∃ c, (bl s)[a3]? = some c ∧ c ≠ 44 from ⟨cb, hga, h44⟩)
                    have hf := fhid (show ((cb.toNat : Int) != 44) = true by
                      have : ¬ (cb.toNat : Int) = 44 := fun h => h44 (UInt8.toNat_inj.1 (by show cb.toNat = 44; omega))
                      simpa using this)
                    clear hga h44
                    go_wp2_with fail
                    go_meet
                    exact ⟨⟨_, rfl, fun _ => ⟨trivial, hga2.out⟩, fun q _ => absurd (q.symm.trans hf.out) (by decide)⟩, rfl⟩
                · have k2 : ¬ (a3 : Int) < s.size := by omega
                  have hga := fhid (show (bl s)[a3]? = none from List.getElem?_eq_none (by rw [bl_len]; omega))
                  go_wp2_with fail
                  go_meet
                  exact ⟨⟨_, rfl, fun q => absurd q (by decide), fun _ _ => .inl hga.out⟩, rfl⟩
              · have yb : (y3 == 0) = false := by simpa using hy3
                go_wp2_with fail
                go_meet
                exact ⟨⟨_, rfl, fun q => absurd q (by decide), fun _ q => absurd q hy3⟩, rfl⟩
            case rest =>
              obtain ⟨⟨q, rfl, hqt, hqf⟩, rfl⟩ := hcut
              replace hqt := fhid hqt
              replace hqf := fhid hqf
              go_upto_if 62 with fail
              go_cut [] (fun wx => ∃ (y4 f4 : Int), RB wx (w.heap.size + 1) s a3 y4 f4 ∧ Chg (w.heap.size + 1) wc wx ∧ ((y4 ≠ 0 ∧ ∃ e0 k0, pPart ((bl s).drop a) = .bad e0 k0) ∨ (y4 = 0 ∧ a + j ≤ a3 ∧ ∃ rs, ls = namesE rs ∧ pPart ((bl s).drop a) = .ok (P, rs) (a3 - a))))
              case first =>
                cases q with
                | true =>
                  go_wp2_with fail
                  refine (fault_set (w.heap.size + 1) s _ y3 f3 _ _ hb5).mono ?_
                  rintro e w6 ⟨rfl, y', f', hy', hb6, hc6⟩
                  go_wp2_with fail
                  go_meet
                  obtain ⟨hy30, cc, hcc1, hcc2⟩ := hqt.out trivial
                  rcases hcase.out with ⟨hy3n, _⟩ | ⟨_, haj, rs, hls, hpe⟩
                  · exact absurd hy30 hy3n
                  · exact ⟨y', f', hb6, hc6, .inl ⟨hy', _, _, hpe.trans (pEnd_notX (by rw [List.getElem?_drop, show a + (a3 - a) = a3 by omega]; exact hcc1) hcc2)⟩⟩
                | false =>
                  go_wp2_with fail
                  go_meet
                  refine ⟨y3, f3, hb5, Chg.refl _ _, ?_⟩
                  rcases hcase.out with ⟨hy3n, hbd⟩ | ⟨hy30, haj, rs, hls, hpe⟩
                  · exact .inl ⟨hy3n, hbd⟩
                  · exact .inr ⟨hy30, haj, rs, hls, hpe.trans (pEnd_okX (by rw [List.getElem?_drop, show a + (a3 - a) = a3 by omega]; exact hqf.out trivial hy30))⟩
              case rest =>
                obtain ⟨y4, f4, hb6, hc6, hcase4⟩ := hcut
                replace hcase4 := fhid hcase4
                have ho6 := ho5.out.chg hc6.a (by omega)
                have ol6 := ol.out.chg hc6.a hz1
                have hfx6 : FBox wc w.heap.size := (hc6.other _ (by omega)).trans hfx5.out
                have hB6 : Below w.heap.size w wc := hB5.out.trans (hc6.below.mono (by omega))
                have hw16 : w1.heap.size ≤ wc.heap.size := by have := hc6.size; omega
                clear c0 c1 c2 c3 z1 z2 z3 hb5 ho5 hfx5 hB5 ol
                obtain ⟨c0, c1, c2, c3, z1, z2, z3, hz6⟩ := hb6.facts
                obtain ⟨e0, e1, g0, g1, zf⟩ := hfx6.facts
                have n0 := Nat.ne_of_lt zf
                clear hc6
                by_cases hy4 : y4 = 0
                · subst hy4
                  obtain ⟨haj, rs, hls, hpok⟩ : a + j ≤ a3 ∧ ∃ rs, ls = namesE rs ∧ pPart ((bl s).drop a) = .ok (P, rs) (a3 - a) := by
                    rcases hcase4.out with ⟨hn, _⟩ | ⟨_, h1, h2⟩
                    · exact absurd rfl hn
                    · exact ⟨h1, h2⟩
                  replace hls := fhid hls
                  replace hpok := fhid hpok
                  have haa3 : a ≤ a3 := by omega
                  have m1 : (ns.length : Int) ≤ 256 := by have := hnl.out; omega
                  have m0 : (0 : Int) ≤ ns.length := by omega
                  have m2 : (ls.length : Int) ≤ 257 := by omega
                  have m3 : (0 : Int) ≤ ls.length := by omega
                  replace ho6 := fhid ho6
                  replace ol6 := fhid ol6
                  by_cases hm : ns.length + ls.length ≤ 256
                  · have mI : ¬ (256 : Int) < (ns.length : Int) + ls.length := by omega
                    have hne0 : ∀ k, (Value.slice Al ls.length cl).ownBlock = some k → (Value.slice A ns.length cap).ownBlock ≠ some k := fun k hk h => by
                      have h1 := hog.out k h
                      have h2 := ownsRow_ge ol6.out k hk
                      omega
                    replace hne0 := fhid hne0
                    replace hm := fhid hm
                    go_wp2_with fail
                    go_loopw [5, 9] (fun s5 s9 wi => ∃ k : Nat, k ≤ ls.length ∧ s9 = .int .i64 k ∧ OwnS wi (w.heap.size + 2) s5 (ns ++ (ls.map (P ++ ·)).take k) ∧ OwnS wi w1.heap.size (.slice Al ls.length cl) ls ∧ (∀ k, (Value.slice Al ls.length cl).ownBlock = some k → s5.ownBlock ≠ some k) ∧ RB wi (w.heap.size + 1) s a3 0 f4 ∧ FBox wi w.heap.size ∧ Below w.heap.size w wi) (fun _ s9 _ => ls.length - (intOf s9).toNat)
                    case atStart => exact ⟨0, Nat.zero_le _, rfl, by simpa using ho6.out, ol6.out, hne0.out, hb6, hfx6, hB6⟩
                    case round =>
                      obtain ⟨k, hk, rfl, hoi, oli, hne, hbi, hfi, hBi⟩ := hrel
                      obtain ⟨Ai, ci, rfl, _, _, _⟩ := hoi.shape
                      have k2 : (0 : Int) ≤ k := by omega
                      have k3 : (k : Int) ≤ ls.length := by omega
                      have hzi := lt_of_block hbi
                      have hszi := hBi.size
                      have hwz : w.heap.size + 2 ≤ wr.heap.size := by omega
                      clear c0 c1 c2 c3 z1 z2 z3 e0 e1 g0 g1
                      by_cases hlt : k < ls.length
                      · have k4 : (k : Int) < ls.length := by omega
                        obtain ⟨Aj, cj, he, _, _, hst⟩ := oli.shape
                        injection he with he1 he2 he3
                        subst he1
                        subst he3
                        obtain ⟨b', o', rfl, hb', cc⟩ := hst.at_ hlt
                        have hq := str_app P ls[k]
                        have hdk := dl.out ls[k] (List.getElem_mem hlt)
                        have hPSz : PS.size ≤ 1000000 := by
                          rw [hts.out, str_size]
                          have := hs.out
                          omega
                        have hbig : ¬ 9223372036854775807 < PS.size + (str ls[k]).size := by rw [str_size]; omega
                        rw [← hts.out] at hq
                        have hnx := fhid (map_snoc (P ++ ·) ns ls k hlt)
                        have hmlen := fhid (show (ns ++ (ls.map (P ++ ·)).take k).length ≤ 1048576 by
                          have := hm.out
                          simp; omega)
                        generalize str ls[k] = T at *
                        obtain ⟨Q, hQ⟩ : ∃ Q, str (P ++ ls[k]) = Q := ⟨_, rfl⟩
                        rw [hQ] at hq
                        replace hQ := fhid hQ
                        generalize (ns ++ (ls.map (P ++ ·)).take k) = cur at *
                        replace hoi := fhid hoi
                        replace oli := fhid oli
                        replace hne := fhid hne
                        replace hbi := fhid hbi
                        replace hfi := fhid hfi
                        replace hBi := fhid hBi
                        replace hm := fhid hm
                        clear hst hPSz hdk
                        go_wp2_with (at_builtin
                                     refine app_name_at rfl _ _ rfl (w.heap.size + 2) _ cur (P ++ ls[k]) _ hQ.out.symm _ rfl hoi.out rfl _ (by first | rfl | simp) rfl hmlen.out hwz ?_
                                     intro v6 w6 o6 g6 b6 n6)
                        go_roundw
                        case rel =>
                          have r1 : RB w6 (w.heap.size + 1) s a3 0 f4 := hbi.out.kept g6 hoi.out
                          have r2 : FBox w6 w.heap.size := keep_block hfi.out g6 hoi.out (by decide)
                          refine ⟨k + 1, by omega, by go_num, by rw [hnx.out]; exact o6, oli.out.grown g6 hne.out, fun q hq1 => ?_, r1, r2, hBi.out.trans (b6.mono (by omega))⟩
                          have := oli.out.lt q hq1
                          rcases n6 with n6 | n6
                          · rw [n6]; exact hne.out q hq1
                          · rw [n6]
                            intro h
                            injection h with h
                            omega
                        case measure => simp [intOf]; omega
                      · obtain rfl : k = ls.length := by omega
                        have k4 : ¬ (ls.length : Int) < ls.length := by omega
                        generalize hcur : ns ++ (ls.map (P ++ ·)).take ls.length = cur at *
                        rw [List.take_of_length_le (by simp)] at hcur
                        obtain ⟨c0, c1, c2, c3, z1, z2, z3, _⟩ := hbi.facts
                        obtain ⟨e0, e1, g0, g1, zi⟩ := hfi.facts
                        have ni := Nat.ne_of_lt zi
                        have hlast := fhid (fun he => (hlastR.out P rs a3 haa3 hpok.out (by rw [← hls.out]; exact hm.out) he).trans (by rw [← hls.out, hcur]))
                        have hnext := fhid (fun h3 => (hnextR.out P rs a3 haa3 h3 hpok.out (by rw [← hls.out]; exact hm.out)))
                        rw [← hls.out] at hnext
                        have hnext2 : a3 < s.size → s.size < a3 + 1 + (F - 1) ∧ pExpand (s.size + 1) 0 (bl s) [] = pExpand (F - 1) (a3 + 1) ((bl s).drop (a3 + 1)) cur := fun h3 => by
                          have := hnext.out h3
                          rw [hcur] at this
                          exact this
                        replace hnext2 := fhid hnext2
                        clear hnext
                        have hlen2 : cur.length ≤ 256 := by rw [← hcur]; have := hm.out; simp; omega
                        clear hcur
                        replace hoi := fhid hoi
                        replace hlen2 := fhid hlen2
                        by_cases hend : a3 = s.size
                        · have k5 : (a3 : Int) = s.size := by omega
                          have k6 : ((a3 : Int) == s.size) = true := by simpa using k5
                          replace k5 := fhid k5
                          replace hend := fhid hend
                          have hbx := hBi
                          replace hBi := fhid hBi
                          go_wp2_with fail
                          have zb := hbx.size
                          refine bodyPost_ret (v := .tuple #[.slice Ai _ ci, .agg #[.int .i64 0, .int .i64 0]]) (by simp [results, Tryz.results117, go_sem, e0, e1, zi, ni]; rfl) rfl (.inl ⟨by rw [hlast.out hend.out], _, rfl, ?_, ?_⟩)
                          · rw [hlast.out hend.out]
                            exact own_fset (hoi.out.base (show w.heap.size + 1 ≤ w.heap.size + 2 by omega))
                          · repeat' (first | (with_reducible exact hbx) | (with_reducible apply Below.drew) | (with_reducible apply Below.setCell) | (with_reducible apply Below.alloc))
                            all_goals (first | omega | (simp; done) | (simp; omega))
                        · have k5 : ¬ (a3 : Int) = s.size := by omega
                          have k6 : ((a3 : Int) == s.size) = false := by simpa using k5
                          have hn := hbi.set1 ((a3 : Int) + 1)
                          have hcs := ((Chg.refl (w.heap.size + 1) wr).set 1 (.int .i64 ((a3 : Int) + 1)))
                          replace hcs := fhid hcs
                          go_wp2_with fail
                          go_roundw
                          case rel => exact ⟨cur, a3 + 1, F - 1, f4, hoi.out.chg hcs.out.a (by omega), hlen2.out, by omega, by rw [show ((a3 + 1 : Nat) : Int) = (a3 : Int) + 1 by omega]; exact hn, (hcs.out.other _ (by omega)).trans hfi, hBi.trans (hcs.out.below.mono (by omega)), (hnext2.out (by omega)).1, (hnext2.out (by omega)).2⟩
                          case measure =>
                            rw [hn.at_, hme]
                            omega
                  · have mI : (256 : Int) < (ns.length : Int) + ls.length := by omega
                    go_wp2_with fail
                    have hbx := hB6
                    have zb := hbx.size
                    refine bodyPost_ret (v := .tuple #[.slice none 0 0, .agg #[.int .i64 5, .int .i64 a]]) (by simp [results, Tryz.results117, go_sem, e0, e1, zf, n0]) rfl (.inr ⟨hmanyR.out P rs _ hpok.out (by rw [← hls.out]; omega), 5, a, by decide, rfl, ?_⟩)
                    repeat' (first | (with_reducible exact hbx) | (with_reducible apply Below.drew) | (with_reducible apply Below.setCell) | (with_reducible apply Below.alloc))
                    all_goals (first | omega | (simp; done) | (simp; omega))
                · obtain ⟨e9, k9, hbd9⟩ : ∃ e0 k0, pPart ((bl s).drop a) = .bad e0 k0 := by
                    rcases hcase4.out with ⟨_, h⟩ | ⟨h, _⟩
                    · exact h
                    · exact absurd h hy4
                  have hne9 := fhid (hbadR.out _ _ hbd9)
                  have hy4h := fhid hy4
                  clear hbd9
                  have yb : (y4 == 0) = false := by simpa using hy4
                  have yn : (y4 != 0) = true := by simpa using hy4
                  have hbx := hB6
                  go_wp2_with fail
                  go_region
                  go_wp2_with fail
                  have zb := hbx.size
                  refine bodyPost_ret (v := .tuple #[.slice none 0 0, .agg #[.int .i64 y4, .int .i64 f4]]) (by simp [results, Tryz.results117, go_sem, e0, e1, zf, n0]) rfl (.inr ⟨hne9.out, y4, f4, hy4h.out, rfl, ?_⟩)
                  repeat' (first | (with_reducible exact hbx) | (with_reducible apply Below.drew) | (with_reducible apply Below.setCell) | (with_reducible apply Below.alloc))
                  all_goals (first | omega | (simp; done) | (simp; omega))
theorem rexpand_ex (s : ByteArray) (w : World) (hs : s.size ≤ 1000000) : Calls Tryz.prog 117 #[.string s] w (EPostX w (expand (bl s))) := by
  unfold expand
  by_cases h : bl s = []
  · rw [if_pos h]; exact rexpand_noneX s w h
  · rw [if_neg h, bl_len]; exact rexpand_someX s w hs h
end Go.Proofs.YtmnmcikbbfcjcaaGreatDoor.Hs
