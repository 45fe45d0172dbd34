/-
  The document's reader reads ranges.
-/
import Derived.Test.YtmaoplplaobbbaaDoorHNames
import Derived.Test.YtmaoplplaobbbaaDoorHRDig
import Derived.Test.YtmaoplplaobbbaaDoorHRNum
namespace Go.Proofs.YtmaoplplaobbbaaDoor
open Go.RowKit

/-- Digits alone, and few of them. -/
def DN (ns : List (List UInt8)) : Prop := ∀ x ∈ ns, x.all isDig = true ∧ x.length ≤ 10
/-- Of what there was nothing but this block has changed. -/
structure ChgA (b : Nat) (w w' : World) : Prop where
  below : Below b w w'
  other : ∀ j, j ≠ b → j < w.heap.size → w'.heap[j]? = w.heap[j]?
section
variable {w w' w'' : World} {b : Nat}
theorem Chg.a (h : Chg b w w') : ChgA b w w' := ⟨h.below, fun j hj _ => h.other j hj⟩
theorem ChgA.refl (b : Nat) (w : World) : ChgA b w w := (Chg.refl b w).a
theorem ChgA.trans (h : ChgA b w w') (h' : ChgA b w' w'') : ChgA b w w'' := ⟨h.below.trans h'.below, fun j hj hl => (h'.other j hj (by have := h.below.size; omega)).trans (h.other j hj hl)⟩
theorem ChgA.of (h : Below w.heap.size w w') (hb : b < w.heap.size) : ChgA b w w' := ⟨h.mono (by omega), fun j _ hl => h.block j hl⟩
theorem ChgA.own {w0 : World} (h : ChgA b w0 w) (hb : Below w0.heap.size w w') (hz : b < w0.heap.size) : ChgA b w0 w' := ⟨h.below.trans (hb.mono (by omega)), fun j hj hl => (hb.block j hl).trans (h.other j hj hl)⟩
theorem RB.kept {s : ByteArray} {a y f : Int} {base n : Nat} {v : Value} {xs : List Value} (h : RB w b s a y f) (g : w.grownBy w' v.ownBlock) (ho : w.ownsRow base 9 1 v n xs) : RB w' b s a y f := keep_block h g ho (by decide)
theorem OwnS.chg {base : Nat} {v : Value} {ns : List (List UInt8)} (h : OwnS w base v ns) (hc : ChgA b w w') (hb : b < base) : OwnS w' base v ns := by
  refine ⟨h.1, ?_⟩
  rcases h.2 with ⟨rfl, hn⟩ | ⟨g, cap, cur, rfl, hg, hh, rest⟩
  · exact .inl ⟨rfl, hn⟩
  · exact .inr ⟨g, cap, cur, rfl, hg, (hc.other g (by omega) (lt_of_block hh)).trans hh, rest⟩
end
/-- What the loop knows at its head. -/
def RInv (w : World) (b : Nat) (s : ByteArray) (a : Nat) (s3 : Value) (wr : World) : Prop := ∃ (ns : List (List UInt8)) (a' : Nat) (y' f' : Int), OwnS wr w.heap.size s3 ns ∧ DN ns ∧ ns.length ≤ 257 ∧ a ≤ a' ∧ a' ≤ s.size ∧ RB wr b s a' y' f' ∧ ChgA b w wr
/-- What the call comes to. -/
def RPost (w : World) (b : Nat) (s : ByteArray) (a : Nat) (e : Ending) (w' : World) : Prop := ∃ (v : Value) (ns : List (List UInt8)) (a' : Nat) (y' f' : Int), e = .returned v ∧ OwnS w' w.heap.size v ns ∧ DN ns ∧ ns.length ≤ 257 ∧ a ≤ a' ∧ a' ≤ s.size ∧ RB w' b s a' y' f' ∧ ChgA b w w'
/-- Behind the range's second number. -/
def RMid (w1 : World) (b : Nat) (s : ByteArray) (a1 : Nat) (s5 : Value) (wx : World) : Prop := ∃ (t2 : List UInt8) (a2 : Nat) (y2 f2 : Int), s5 = .string (str t2) ∧ t2.all isDig = true ∧ t2.length ≤ 6 ∧ a1 ≤ a2 ∧ a2 ≤ s.size ∧ RB wx b s a2 y2 f2 ∧ Chg b w1 wx
theorem pk_is {s : ByteArray} {a : Nat} {y : Int} {c : UInt8} (h : pk s a y = c) (hc : c ≠ 0) : a < s.size := by
  unfold pk at h
  split at h
  · rename_i h1; exact h1.1
  · exact absurd h.symm hc
set_option maxRecDepth 100000 in
set_option maxHeartbeats 4000000 in
theorem ranges_weak (b : Nat) (s : ByteArray) (a : Nat) (y f : Int) (w : World) (hs : s.size ≤ 140737488355000) (ha : a ≤ s.size) (hbz : b < w.heap.size) (h : RB w b s a y f) :
    Calls Tryd.prog 30 #[.pointer (some ⟨b, 0, none⟩)] w (RPost w b s a) := by
  have hs' : s.size ≤ 140737488355328 := by omega
  have hsi : (s.size : Int) ≤ 140737488355000 := by omega
  replace hs := fhid hs
  replace hs' := fhid hs'
  go_enter Tryd.func30, Tryd.ntmps30
  go_wp2_with fail
  go_loopw [3] (fun s3 wr => RInv w b s a s3 wr) (fun _ wr => s.size - atOf wr b)
  case atStart => exact ⟨[], a, y, f, OwnS.nil _ _, fun x hx => by simp at hx, by simp, Nat.le_refl _, ha, h, ChgA.refl _ _⟩
  case round =>
    obtain ⟨ns, a', y', f', ho, hd, hl, ha', has, hb, hch⟩ := hrel
    have hme := hb.at_
    obtain ⟨A, cap, rfl, _, _, _⟩ := ho.shape
    replace ho := fhid ho
    replace hd := fhid hd
    replace hch := fhid hch
    go_wp2_with fail
    refine (rnumber_any b s a' y' f' wr hs'.out has hb).mono ?_
    rintro e w1 ⟨t1, a1, y1, f1, rfl, d1, l1, g1, g1', hb1, hc1⟩
    replace d1 := fhid d1
    replace hc1 := fhid hc1
    clear hb
    go_wp2_with fail
    refine (peek_chg b s a1 y1 f1 _ w1 rfl hs'.out hb1).mono ?_
    rintro e w2 ⟨rfl, hb2, hc2⟩
    replace hc2 := fhid (hc1.out.trans hc2)
    clear hb1 hc1
    go_upto_if 15 with fail
    go_cut [5] (fun s5 wx => RMid wr b s a1 s5 wx)
    case first =>
      obtain ⟨c, hp⟩ : ∃ c, pk s a1 y1 = c := ⟨_, rfl⟩
      rw [hp]
      by_cases h45 : c = 45
      · subst h45
        have lt := pk_is hp (by decide)
        clear hp
        obtain ⟨c0, c1, c2, c3, z1, z2, z3, hz⟩ := hb2.facts
        have hn := hb2.set1 ((a1 : Int) + 1)
        have i1 : (a1 : Int) < s.size := by omega
        have i0 : (0 : Int) ≤ a1 := by omega
        go_wp2_with fail
        refine (rnumber_any b s (a1 + 1) y1 f1 _ hs'.out (by omega) hn).mono ?_
        rintro e w3 ⟨t2, a2, y2, f2, rfl, d2, l2, g2, g2', hb3, hc3⟩
        have hc4 := fhid ((hc2.out.set 1 (.int .i64 ((a1 : Int) + 1))).trans hc3)
        clear c0 c1 c2 c3 z1 z2 z3 hz hc3 hn hb2
        obtain ⟨c0, c1, c2, c3, z1, z2, z3, hz⟩ := hb3.facts
        have v1 := fun W => value_any t1 W d1.out l1
        have v2 := fun W => value_any t2 W d2 l2
        replace d2 := fhid d2
        by_cases hy : y2 = 0
        · subst hy
          by_cases hlt : dval t2 < dval t1
          · have hltI : ((dval t2 : Nat) : Int) < (dval t1 : Nat) := by omega
            go_wp2_with (first
              | (go_at_call 22; (with_reducible refine (v2 _).mono ?_); rintro e u ⟨rfl, rfl⟩)
              | (go_at_call 22; (with_reducible refine (v1 _).mono ?_); rintro e u ⟨rfl, rfl⟩))
            go_meet
            exact ⟨t2, a2, 3, (a1 : Int) + 1, rfl, d2.out, l2, by omega, g2', (hb3.set2 3).set3 _, (hc4.out.set 2 _).set 3 _⟩
          · have hltI : ¬ ((dval t2 : Nat) : Int) < (dval t1 : Nat) := by omega
            go_wp2_with (first
              | (go_at_call 22; (with_reducible refine (v2 _).mono ?_); rintro e u ⟨rfl, rfl⟩)
              | (go_at_call 22; (with_reducible refine (v1 _).mono ?_); rintro e u ⟨rfl, rfl⟩))
            go_meet
            exact ⟨t2, a2, 0, f2, rfl, d2.out, l2, by omega, g2', hb3, hc4.out⟩
        · have hyb : (y2 == 0) = false := by simpa using hy
          go_wp2_with fail
          go_meet
          exact ⟨t2, a2, y2, f2, rfl, d2.out, l2, by omega, g2', hb3, hc4.out⟩
      · have e : ¬ ((c.toNat : Int) = 45) := fun h => h45 (UInt8.toNat_inj.1 (by show c.toNat = 45; omega))
        have eb : ((c.toNat : Int) == 45) = false := by simpa using e
        go_wp2_with fail
        go_meet
        exact ⟨t1, a1, y1, f1, rfl, d1.out, l1, Nat.le_refl _, g1', hb2, hc2.out⟩
    case rest =>
      obtain ⟨t2, a2, y2, f2, rfl, d2, l2, g2, g2', hb3, hc3⟩ := hcut
      obtain ⟨c0, c1, c2, c3, z1, z2, z3, hz⟩ := hb3.facts
      have v1 := fun W => value_any t1 W d1.out l1
      have v2 := fun W => value_any t2 W d2 l2
      have dv1 := dval_app_le t1 d1.out l1
      have dv2 := dval_app_le t2 d2 l2
      replace d2 := fhid d2
      have hcw := fhid (hch.out.trans hc3.a)
      clear hb2 hc2 hch
      by_cases hy : y2 = 0
      · subst hy
        replace ho := fhid (ho.out.chg hc3.a hbz)
        have hz1 := str_size t1
        have i1 : (t1.length : Int) ≤ 6 := by omega
        have i2 : (0 : Int) ≤ t1.length := by omega
        generalize hT1 : str t1 = T1 at *
        go_upto_region 13 with fail
        go_cut [60] (fun s60 wx => (∃ q : Bool, s60 = .bool q) ∧ wx = wc)
        case first =>
          by_cases h1 : 1 < t1.length
          · have j1 : (1 : Int) < t1.length := by omega
            have j0 : 0 < T1.size := by omega
            go_wp2_with fail
            go_meet
            exact ⟨⟨_, rfl⟩, rfl⟩
          · have j1 : ¬ (1 : Int) < t1.length := by omega
            go_wp2_with fail
            go_meet
            exact ⟨⟨_, rfl⟩, rfl⟩
        case rest =>
          obtain ⟨⟨q, rfl⟩, rfl⟩ := hcut
          go_upto_if 60 with fail
          go_cut [7] (fun s7 wx => (∃ wd : Nat, wd ≤ 6 ∧ s7 = .int .i64 wd) ∧ wx = wc)
          case first =>
            cases q with
            | true =>
              go_wp2_with fail
              go_meet
              exact ⟨⟨t1.length, l1, rfl⟩, rfl⟩
            | false =>
              go_wp2_with fail
              go_meet
              exact ⟨⟨0, by omega, rfl⟩, rfl⟩
          case rest =>
            obtain ⟨⟨wd, hwd, rfl⟩, rfl⟩ := hcut
            have dv1I : ((dval t1 : Nat) : Int) < 1000000 := by omega
            have dv2I : ((dval t2 : Nat) : Int) < 1000000 := by omega
            have dv10 : (0 : Int) ≤ (dval t1 : Nat) := by omega
            go_wp2_with (go_at_call 22; (with_reducible refine (v1 _).mono ?_); rintro e u ⟨rfl, rfl⟩)
            clear v1 c0 c1 c2 c3 z1 z2 z3 hz
            go_loopw [3, 8] (fun s3 s8 wi => ∃ (ms : List (List UInt8)) (n : Nat), OwnS wi w.heap.size s3 ms ∧ DN ms ∧ ms.length ≤ 257 ∧ s8 = .int .i64 n ∧ n ≤ 1000000 ∧ RB wi b s a2 0 f2 ∧ ChgA b w wi) (fun _ s8 _ => 1000001 - (intOf s8).toNat)
            case atStart => exact ⟨ns, dval t1, ho.out, hd.out, hl, rfl, by omega, hb3, hcw.out⟩
            case round =>
              obtain ⟨ms, n, ho2, hd2, hl2, rfl, hn, hb4, hch4⟩ := hrel
              obtain ⟨A2, cap2, rfl, _, _, _⟩ := ho2.shape
              have hz := lt_of_block hb4
              have hszb := hch4.below.size
              have n0 : (0 : Int) ≤ n := by omega
              have n1 : (n : Int) ≤ 1000000 := by omega
              have hl2I : (ms.length : Int) ≤ 257 := by omega
              replace hd2 := fhid hd2
              by_cases hq : n ≤ dval t2 ∧ ms.length ≤ 256
              · obtain ⟨q1, q2⟩ := hq
                have q1I : (n : Int) ≤ (dval t2 : Nat) := by omega
                have q2I : (ms.length : Int) ≤ 256 := by omega
                have hdg := fun W => Rdigits_any n wd n wd W rfl rfl (by omega) (by omega)
                have hnew : DN (ms ++ [dig n wd]) := fun x hx => by
                  rcases List.mem_append.1 hx with h | h
                  · exact hd2.out x h
                  · rw [List.mem_singleton] at h
                    subst h
                    have := dig_len n wd
                    have := dec_len_le 6 n (by omega) (by omega)
                    exact ⟨(dig_facts n wd).1, by omega⟩
                replace hnew := fhid hnew
                replace ho2 := fhid ho2
                have hms := fhid (show (ms ++ [dig n wd]).length ≤ 257 by simp; omega)
                obtain ⟨D, hD⟩ : ∃ D, str (dig n wd) = D := ⟨_, rfl⟩
                rw [hD] at hdg
                replace hD := fhid hD
                replace hb4 := fhid hb4
                replace hch4 := fhid hch4
                have hmlen := fhid (show ms.length ≤ 1048576 by omega)
                go_wp2_with (first
                  | (go_at_call 22; (with_reducible refine (v2 _).mono ?_); rintro e u ⟨rfl, rfl⟩)
                  | (go_at_call 18; (with_reducible refine (hdg _).mono ?_); rintro e w5 ⟨rfl, b5⟩)
                  | (at_builtin
                     refine app_name rfl _ _ rfl w.heap.size _ ms (dig n wd) _ hD.out.symm _ rfl (ho2.out.below b5) rfl _ (by first | rfl | simp) rfl hmlen.out (Nat.le_trans hszb b5.size) ?_
                     intro v6 w6 o6 g6 b6))
                go_roundw
                case rel =>
                  exact ⟨ms ++ [dig n wd], n + 1, o6, hnew.out, hms.out, by go_num, by omega, (hb4.out.below b5 hz).kept g6 (ho2.out.below b5), (hch4.out.trans (ChgA.of b5 hz)).own b6 hbz⟩
                case measure => simp [intOf]; omega
              · have hq' : (n ≤ dval t2 ∧ ¬ ms.length ≤ 256) ∨ ¬ n ≤ dval t2 := by omega
                clear hq
                rcases hq' with ⟨q1, q2⟩ | q1
                rotate_left
                · have q1I : ¬ (n : Int) ≤ (dval t2 : Nat) := by omega
                  have hl3 := fhid hl2
                  clear hl2 hl2I
                  go_wp2_with (go_at_call 22; (with_reducible refine (v2 _).mono ?_); rintro e u ⟨rfl, rfl⟩)
                  refine (peek_chg b s a2 0 f2 _ _ rfl hs'.out hb4).mono ?_
                  rintro e w5 ⟨rfl, hb5, hc5⟩
                  obtain ⟨c, hp⟩ : ∃ c, pk s a2 0 = c := ⟨_, rfl⟩
                  rw [hp]
                  have hc6 := fhid (hc5.set 1 (.int .i64 ((a2 : Int) + 1)))
                  have hb6 := hb5.set1 ((a2 : Int) + 1)
                  obtain ⟨c0, c1, c2, c3, z1, z2, z3, hz5⟩ := hb5.facts
                  have i3 : (0 : Int) ≤ a2 := by omega
                  replace ho2 := fhid ho2
                  replace hch4 := fhid hch4
                  by_cases h44 : c = 44
                  · subst h44
                    have lt := pk_is hp (by decide)
                    have i4 : (a2 : Int) < s.size := by omega
                    clear hp
                    go_wp2_with fail
                    go_roundw
                    case rel => exact ⟨ms, a2 + 1, 0, f2, ho2.out.chg hc6.out.a hbz, hd2.out, hl3.out, by omega, by omega, by rw [show ((a2 + 1 : Nat) : Int) = (a2 : Int) + 1 by omega]; exact hb6, hch4.out.trans hc6.out.a⟩
                    case measure =>
                      rw [hb6.at_, hme]
                      omega
                  · by_cases h93 : c = 93
                    · subst h93
                      have lt := pk_is hp (by decide)
                      have i4 : (a2 : Int) < s.size := by omega
                      clear hp
                      go_wp2_with fail
                      go_ret
                      exact ⟨_, ms, a2 + 1, 0, f2, rfl, ho2.out.chg hc6.out.a hbz, hd2.out, hl3.out, by omega, by omega, by rw [show ((a2 + 1 : Nat) : Int) = (a2 : Int) + 1 by omega]; exact hb6, hch4.out.trans hc6.out.a⟩
                    · have e44 : ¬ ((c.toNat : Int) = 44) := fun h => h44 (UInt8.toNat_inj.1 (by show c.toNat = 44; omega))
                      have e93 : ¬ ((c.toNat : Int) = 93) := fun h => h93 (UInt8.toNat_inj.1 (by show c.toNat = 93; omega))
                      have b44 : ((c.toNat : Int) == 44) = false := by simpa using e44
                      have b93 : ((c.toNat : Int) == 93) = false := by simpa using e93
                      have n44 : ((c.toNat : Int) != 44) = true := by rw [bne, b44]; rfl
                      have n93 : ((c.toNat : Int) != 93) = true := by rw [bne, b93]; rfl
                      have m44 : ¬ c.toNat = 44 := by omega
                      have m93 : ¬ c.toNat = 93 := by omega
                      generalize c.toNat = cn at *
                      have hc5h := fhid hc5
                      clear hb6 hp h44 h93
                      go_upto_if 89 with fail
                      go_wp2_with fail
                      refine (fault_set b s _ 0 f2 _ w5 hb5).mono ?_
                      rintro e w6 ⟨rfl, y6, f6, hy6, hb7, hc7⟩
                      go_wp2_with fail
                      go_ret
                      exact ⟨_, [], a2, y6, f6, rfl, OwnS.nil _ _, fun x hx => by simp at hx, by simp, by omega, g2', hb7, (hch4.out.trans hc5h.out.a).trans hc7.a⟩
                · have q1I : (n : Int) ≤ (dval t2 : Nat) := by omega
                  have q2I : ¬ (ms.length : Int) ≤ 256 := by omega
                  have hl3 := fhid hl2
                  have q3 := fhid q2I
                  clear q2 hl2 hl2I q2I
                  go_upto_if 73 with (go_at_call 22; (with_reducible refine (v2 _).mono ?_); rintro e u ⟨rfl, rfl⟩)
                  rw [decide_eq_false (show ¬ (ms.length : Int) ≤ 256 by have := q3.out; omega)]
                  go_wp2_with fail
                  refine (peek_chg b s a2 0 f2 _ _ rfl hs'.out hb4).mono ?_
                  rintro e w5 ⟨rfl, hb5, hc5⟩
                  obtain ⟨c, hp⟩ : ∃ c, pk s a2 0 = c := ⟨_, rfl⟩
                  rw [hp]
                  have hc6 := fhid (hc5.set 1 (.int .i64 ((a2 : Int) + 1)))
                  have hb6 := hb5.set1 ((a2 : Int) + 1)
                  obtain ⟨c0, c1, c2, c3, z1, z2, z3, hz5⟩ := hb5.facts
                  have i3 : (0 : Int) ≤ a2 := by omega
                  replace ho2 := fhid ho2
                  replace hch4 := fhid hch4
                  by_cases h44 : c = 44
                  · subst h44
                    have lt := pk_is hp (by decide)
                    have i4 : (a2 : Int) < s.size := by omega
                    clear hp
                    go_wp2_with fail
                    go_roundw
                    case rel => exact ⟨ms, a2 + 1, 0, f2, ho2.out.chg hc6.out.a hbz, hd2.out, hl3.out, by omega, by omega, by rw [show ((a2 + 1 : Nat) : Int) = (a2 : Int) + 1 by omega]; exact hb6, hch4.out.trans hc6.out.a⟩
                    case measure =>
                      rw [hb6.at_, hme]
                      omega
                  · by_cases h93 : c = 93
                    · subst h93
                      have lt := pk_is hp (by decide)
                      have i4 : (a2 : Int) < s.size := by omega
                      clear hp
                      go_wp2_with fail
                      go_ret
                      exact ⟨_, ms, a2 + 1, 0, f2, rfl, ho2.out.chg hc6.out.a hbz, hd2.out, hl3.out, by omega, by omega, by rw [show ((a2 + 1 : Nat) : Int) = (a2 : Int) + 1 by omega]; exact hb6, hch4.out.trans hc6.out.a⟩
                    · have e44 : ¬ ((c.toNat : Int) = 44) := fun h => h44 (UInt8.toNat_inj.1 (by show c.toNat = 44; omega))
                      have e93 : ¬ ((c.toNat : Int) = 93) := fun h => h93 (UInt8.toNat_inj.1 (by show c.toNat = 93; omega))
                      have b44 : ((c.toNat : Int) == 44) = false := by simpa using e44
                      have b93 : ((c.toNat : Int) == 93) = false := by simpa using e93
                      have n44 : ((c.toNat : Int) != 44) = true := by rw [bne, b44]; rfl
                      have n93 : ((c.toNat : Int) != 93) = true := by rw [bne, b93]; rfl
                      have m44 : ¬ c.toNat = 44 := by omega
                      have m93 : ¬ c.toNat = 93 := by omega
                      generalize c.toNat = cn at *
                      have hc5h := fhid hc5
                      clear hb6 hp h44 h93
                      go_upto_if 89 with fail
                      go_wp2_with fail
                      refine (fault_set b s _ 0 f2 _ w5 hb5).mono ?_
                      rintro e w6 ⟨rfl, y6, f6, hy6, hb7, hc7⟩
                      go_wp2_with fail
                      go_ret
                      exact ⟨_, [], a2, y6, f6, rfl, OwnS.nil _ _, fun x hx => by simp at hx, by simp, by omega, g2', hb7, (hch4.out.trans hc5h.out.a).trans hc7.a⟩
      · have hyb : (y2 != 0) = true := by simpa using hy
        go_wp2_with fail
        go_ret
        exact ⟨_, [], a2, y2, f2, rfl, OwnS.nil _ _, fun x hx => by simp at hx, by simp, by omega, g2', hb3, hcw.out⟩
end Go.Proofs.YtmaoplplaobbbaaDoor
