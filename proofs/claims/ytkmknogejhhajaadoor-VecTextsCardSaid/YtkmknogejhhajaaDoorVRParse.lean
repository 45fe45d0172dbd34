/-
  The document's own reading of a text.
-/
import Derived.Test.YtkmknogejhhajaaDoorVRFmt2
import Derived.Test.YtkmknogejhhajaaDoorVNums
import Derived.Test.YtkmknogejhhajaaDoorVAppI
import Derived.Test.YtkmknogejhhajaaDoorVRef
import Derived.Test.YtkmknogejhhajaaDoorVSum
import Derived.Deep.DeepCutAuto
namespace Go.Proofs.YtkmknogejhhajaaDoor
open Go.RowKit

theorem drop_step (s : ByteArray) (k : Nat) (h : k < s.size) : (bl s).drop k = s[k] :: (bl s).drop (k + 1) := by
  have hl : k < (bl s).length := by rw [bl_len]; exact h
  rw [List.drop_eq_getElem_cons hl, bl_get s k h hl]
theorem numAt_dig {c : UInt8} {r : List UInt8} {m : Nat} (h1 : 48 ≤ c.toNat) (h2 : c.toNat ≤ 57) (hm : m ≤ 1073741824) : numAt (c :: r) m = numAt r (m * 10 + (c.toNat - 48)) := by
  conv => lhs; unfold numAt
  rw [if_pos ⟨(isDig_iff c).2 ⟨h1, h2⟩, hm⟩]
  congr 1
  unfold dv
  omega
theorem numAt_end {l : List UInt8} {m : Nat} (h : l = [] ∨ ∃ c r, l = c :: r ∧ ¬ ((48 ≤ c.toNat ∧ c.toNat ≤ 57) ∧ m ≤ 1073741824)) : numAt l m = m := by
  rcases h with rfl | ⟨c, r, rfl, h⟩
  · rfl
  · unfold numAt
    rw [if_neg (fun e => h ⟨(isDig_iff c).1 e.1, e.2⟩)]
theorem nums_len (l : List UInt8) : (nums l).length ≤ l.length := by
  induction l with
  | nil => simp [nums]
  | cons c r ih => unfold nums; split <;> simp <;> omega
theorem pick_yes {b : Bool} {k : Nat} {ls : List Nat} (hb : b = true) (hk : k < ls.length) : pick b k ls = (((ls[k] : Nat) : Int), k + 1) := by
  unfold pick
  rw [if_pos ⟨hb, hk⟩, List.getD_eq_getElem?_getD, List.getElem?_eq_getElem hk]
  rfl
theorem pick_no {b : Bool} {k : Nat} {ls : List Nat} (h : ¬ (b = true ∧ k < ls.length)) : pick b k ls = (0, k) := by
  unfold pick
  rw [if_neg h]
theorem pick_le (b : Bool) (k : Nat) (ls : List Nat) : (pick b k ls).2 ≤ k + 1 := by
  unfold pick
  split <;> simp
theorem not_good {s : List UInt8} {ls : List Nat} {m k : Nat} {x y z : Int} (h : cand (bit1 m) (bit2 m) (bit3 m) ls = ((x, y, z), k)) (hb : ¬ (k = ls.length ∧ right x y z = true ∧ fmt (x, y, z) = s)) : ¬ Good s ls m := by
  unfold Good
  rw [h]
  exact hb
theorem not_more {s : List UInt8} {ls : List Nat} {m : Nat} (h : ∀ q, q < m → ¬ Good s ls q) (hm : ¬ Good s ls m) : ∀ q, q < m + 1 → ¬ Good s ls q := fun q hq => by
  by_cases e : q = m
  · rw [e]; exact hm
  · exact h q (by omega)
/-- A candidate between two of its parts. -/
def PMid (W : World) (g k : Nat) (a b c : Int) (v : Value) (wx : World) : Prop := v = .int .i64 (k : Int) ∧ VB wx g a b c ∧ Below W.heap.size W wx
set_option maxRecDepth 100000 in
set_option maxHeartbeats 8000000 in
theorem rParse_any (s : ByteArray) (w : World) : Calls Tryd.prog 26 #[.string s] w (VP w (parseP (bl s))) := by
  have hsl := bl_len s
  by_cases hl : 60 < s.size
  · have hp := fhid (parse_long (s := bl s) (by omega)).symm
    have i1 : (60 : Int) < s.size := by omega
    clear hsl
    go_enter Tryd.func26, Tryd.ntmps26
    go_upto_region 1 with fail
    have g0 := (Grew.refl w).alloc (.cells #[.int .i64 0, .int .i64 0, .int .i64 0] 23)
    have b2 := VB.new w 0 0 0 _ rfl
    generalize w.alloc _ = w1 at *
    obtain ⟨d0, d1, d2, ⟨u0, u1, u2⟩, yy⟩ := b2.facts
    go_wp2_with fail
    exact bodyPost_ret (v := .tuple #[vec 0 0 0, .int .i64 3]) (by simp [results, Tryd.results26, go_sem, d0, d1, d2]) rfl (VP.ret hp.out (set3 g0.below (by omega) _ _ _))
  · have i1 : ¬ (60 : Int) < s.size := by omega
    have hs60 : s.size ≤ 60 := by omega
    have hmany := @parse_many (bl s)
    have hgood := fun m => @parse_good (bl s) (nums (bl s)) m
    have hnone := @parse_none (bl s)
    obtain ⟨R, hR⟩ : ∃ R, parseP (bl s) = R := ⟨_, rfl⟩
    rw [hR] at hmany hgood hnone
    rw [hR]
    replace hR := fhid hR
    replace hmany := fhid hmany
    replace hgood := fhid hgood
    replace hnone := fhid hnone
    obtain ⟨NS, hNS⟩ : ∃ NS, nums (bl s) = NS := ⟨_, rfl⟩
    have hNL : NS.length ≤ 60 := by
      have := nums_len (bl s)
      rw [hNS] at this
      omega
    rw [hNS] at hmany hgood hnone
    replace hNS := fhid hNS
    go_enter Tryd.func26, Tryd.ntmps26
    go_upto_region 1 with fail
    have g0 := (Grew.refl w).alloc (.cells #[.int .i64 0, .int .i64 0, .int .i64 0] 23)
    have b2 := VB.new w 0 0 0 _ rfl
    generalize w.alloc _ = w1 at *
    have hB := lt_of_block b2
    go_wp2_with fail
    go_loopw [4, 5] (fun l i wr => ∃ (acc : List Nat) (k : Nat), i = .int .i64 k ∧ k ≤ s.size ∧ OwnI wr w1.heap.size l acc ∧ acc.length ≤ k ∧ acc ++ nums ((bl s).drop k) = NS ∧ Below w1.heap.size w1 wr) (fun _ i _ => s.size - (intOf i).toNat)
    case atStart => exact ⟨[], 0, rfl, by omega, OwnI.nil _ _, by simp, hNS.out, Below.refl _ _⟩
    case round =>
      obtain ⟨acc, k, rfl, hk, hown, hal, hacc, hb⟩ := hrel
      have k0 : (0 : Int) ≤ k := by omega
      replace hacc := fhid hacc
      by_cases hks : k < s.size
      · have i2 : (k : Int) < s.size := by omega
        have hdr := drop_step s k hks
        obtain ⟨c, hc⟩ : ∃ c, s[k]'hks = c := ⟨_, rfl⟩
        rw [hc] at hdr
        replace hdr := fhid hdr
        replace hown := fhid hown
        by_cases h61 : c.toNat = 61
        · have i3 : (c.toNat : Int) = 61 := by omega
          have hce : c = 61 := UInt8.toNat_inj.1 h61
          go_wp2_with fail
          go_loop [6, 7] (fun n i => ∃ m j : Nat, n = .int .i64 m ∧ i = .int .i64 j ∧ k + 1 ≤ j ∧ j ≤ s.size ∧ m ≤ 10737418249 ∧ numAt ((bl s).drop j) m = numAt ((bl s).drop (k + 1)) 0) (fun _ i => s.size - (intOf i).toNat)
          case atStart => exact ⟨0, k + 1, rfl, by go_num, by omega, by omega, by omega, rfl⟩
          case round =>
            obtain ⟨m, j, rfl, rfl, hj1, hj2, hm, hnum⟩ := hrel
            have m0 : (0 : Int) ≤ m := by omega
            have j0 : (0 : Int) ≤ j := by omega
            replace hnum := fhid hnum
            by_cases hgo : ∃ h : j < s.size, (48 ≤ s[j].toNat ∧ s[j].toNat ≤ 57) ∧ m ≤ 1073741824
            · obtain ⟨hjs, ⟨hd1, hd2⟩, hm2⟩ := hgo
              have hdj := drop_step s j hjs
              obtain ⟨d, hd⟩ : ∃ d, s[j]'hjs = d := ⟨_, rfl⟩
              rw [hd] at hdj hd1 hd2
              have hst := hnum.out
              rw [hdj, numAt_dig hd1 hd2 hm2] at hst
              replace hst := fhid hst
              have e1 : (j : Int) < s.size := by omega
              have e2 : (48 : Int) ≤ d.toNat := by omega
              have e3 : (d.toNat : Int) ≤ 57 := by omega
              have e4 : (m : Int) ≤ 1073741824 := by omega
              have e5 : ((m * 10 + (d.toNat - 48) : Nat) : Int) = (m : Int) * 10 + ((d.toNat : Int) - 48) := by omega
              replace e5 := fhid e5
              clear hdj hd1 hd2
              go_wp2_with fail
              go_round
              case rel => exact ⟨m * 10 + (d.toNat - 48), j + 1, by rw [e5.out], by go_num, by omega, by omega, by omega, hst.out⟩
              case measure => simp [intOf]; omega
            · have hN : m = numAt ((bl s).drop (k + 1)) 0 := by
                rw [← hnum.out]
                refine (numAt_end ?_).symm
                by_cases hjs : j < s.size
                · exact .inr ⟨s[j], _, drop_step s j hjs, fun e => hgo ⟨hjs, e⟩⟩
                · exact .inl (List.drop_eq_nil_of_le (by omega))
              have hac := hacc.out
              rw [hdr.out, hce] at hac
              unfold nums at hac
              rw [if_pos rfl, ← hN] at hac
              replace hac := fhid hac
              clear hN hnum
              have hcs : ¬ j < s.size ∨ (∃ h : j < s.size, s[j].toNat < 48) ∨ (∃ h : j < s.size, 48 ≤ s[j].toNat ∧ ¬ s[j].toNat ≤ 57) ∨ (∃ h : j < s.size, (48 ≤ s[j].toNat ∧ s[j].toNat ≤ 57) ∧ ¬ m ≤ 1073741824) := by
                by_cases h1 : j < s.size
                · by_cases h2 : 48 ≤ s[j].toNat
                  · by_cases h3 : s[j].toNat ≤ 57
                    · exact .inr (.inr (.inr ⟨h1, ⟨h2, h3⟩, fun h4 => hgo ⟨h1, ⟨h2, h3⟩, h4⟩⟩))
                    · exact .inr (.inr (.inl ⟨h1, h2, h3⟩))
                  · exact .inr (.inl ⟨h1, by omega⟩)
                · exact .inl h1
              clear hgo
              rcases hcs with h1 | ⟨h1, h2⟩ | ⟨h1, h2, h3⟩ | ⟨h1, ⟨h2, h3⟩, h4⟩
              · have e1 : ¬ (j : Int) < s.size := by omega
                go_wp2_with (at_builtin
                             refine app_int rfl _ _ rfl w1.heap.size u4 acc m wr rfl hown.out rfl _ (by first | rfl | simp) rfl (by omega) hb.size ?_
                             intro v' w3 o3 b3)
                go_roundw
                case rel => exact ⟨acc ++ [m], k + 1, by go_num, by omega, o3, by rw [List.length_append, List.length_singleton]; omega, by rw [List.append_assoc]; exact hac.out, hb.trans b3⟩
                case measure => simp [intOf]; omega
              · obtain ⟨d, hd⟩ : ∃ d, s[j]'h1 = d := ⟨_, rfl⟩
                rw [hd] at h2
                have e1 : (j : Int) < s.size := by omega
                have e2 : ¬ (48 : Int) ≤ d.toNat := by omega
                clear h2
                go_wp2_with (at_builtin
                             refine app_int rfl _ _ rfl w1.heap.size u4 acc m wr rfl hown.out rfl _ (by first | rfl | simp) rfl (by omega) hb.size ?_
                             intro v' w3 o3 b3)
                go_roundw
                case rel => exact ⟨acc ++ [m], k + 1, by go_num, by omega, o3, by rw [List.length_append, List.length_singleton]; omega, by rw [List.append_assoc]; exact hac.out, hb.trans b3⟩
                case measure => simp [intOf]; omega
              · obtain ⟨d, hd⟩ : ∃ d, s[j]'h1 = d := ⟨_, rfl⟩
                rw [hd] at h2 h3
                have e1 : (j : Int) < s.size := by omega
                have e2 : (48 : Int) ≤ d.toNat := by omega
                have e3 : ¬ (d.toNat : Int) ≤ 57 := by omega
                clear h2 h3
                go_wp2_with (at_builtin
                             refine app_int rfl _ _ rfl w1.heap.size u4 acc m wr rfl hown.out rfl _ (by first | rfl | simp) rfl (by omega) hb.size ?_
                             intro v' w3 o3 b3)
                go_roundw
                case rel => exact ⟨acc ++ [m], k + 1, by go_num, by omega, o3, by rw [List.length_append, List.length_singleton]; omega, by rw [List.append_assoc]; exact hac.out, hb.trans b3⟩
                case measure => simp [intOf]; omega
              · obtain ⟨d, hd⟩ : ∃ d, s[j]'h1 = d := ⟨_, rfl⟩
                rw [hd] at h2 h3
                have e1 : (j : Int) < s.size := by omega
                have e2 : (48 : Int) ≤ d.toNat := by omega
                have e3 : (d.toNat : Int) ≤ 57 := by omega
                have e4 : ¬ (m : Int) ≤ 1073741824 := by omega
                clear h2 h3
                go_wp2_with (at_builtin
                             refine app_int rfl _ _ rfl w1.heap.size u4 acc m wr rfl hown.out rfl _ (by first | rfl | simp) rfl (by omega) hb.size ?_
                             intro v' w3 o3 b3)
                go_roundw
                case rel => exact ⟨acc ++ [m], k + 1, by go_num, by omega, o3, by rw [List.length_append, List.length_singleton]; omega, by rw [List.append_assoc]; exact hac.out, hb.trans b3⟩
                case measure => simp [intOf]; omega
        · have i3 : ¬ (c.toNat : Int) = 61 := by omega
          go_wp2_with fail
          go_roundw
          case rel =>
            refine ⟨acc, k + 1, by go_num, by omega, hown.out, by omega, ?_, hb⟩
            rw [← hacc.out, hdr.out]
            conv => rhs; unfold nums
            rw [if_neg (fun e => h61 (by rw [e]; rfl))]
          case measure => simp [intOf]; omega
      · have i2 : ¬ (k : Int) < s.size := by omega
        have hkk : k = s.size := by omega
        have hA := hacc.out
        rw [hkk, List.drop_eq_nil_of_le (by omega), show nums [] = [] from rfl, List.append_nil] at hA
        subst hA
        obtain ⟨A, cap, rfl, hI⟩ := hown.shape
        have r2 := fhid (b2.on hb)
        have hz := hb.size
        have z2 := g0.below.trans (hb.mono g0.below.size)
        clear hkk hown hacc hal
        by_cases hm3 : 3 < acc.length
        · have i3 : (3 : Int) < acc.length := by omega
          obtain ⟨d0, d1, d2, ⟨u0, u1, u2⟩, yy⟩ := r2.out.facts
          have hp := fhid (hmany.out hm3).symm
          clear hgood hnone hmany hNS
          go_wp2_with fail
          exact bodyPost_ret (v := .tuple #[vec 0 0 0, .int .i64 3]) (by simp [results, Tryd.results26, go_sem, d0, d1, d2]) rfl (VP.ret hp.out (set3 z2 (by omega) _ _ _))
        · have i3 : ¬ (3 : Int) < acc.length := by omega
          go_wp2_with fail
          rename World => w2
          go_loopw [8] (fun bv wx => ∃ m : Nat, m ≤ 8 ∧ bv = .int .i64 m ∧ (∀ q, q < m → ¬ Good (bl s) acc q) ∧ Below w2.heap.size w2 wx) (fun bv _ => 8 - (intOf bv).toNat)
          case atStart => exact ⟨0, by decide, rfl, fun q hq => absurd hq (Nat.not_lt_zero _), Below.refl _ _⟩
          case round =>
            obtain ⟨m, hm, rfl, hnot, hbt⟩ := hrel
            replace hnot := fhid hnot
            by_cases h8 : m < 8
            ·
              have m0 : (0 : Int) ≤ m := by omega
              have i4 : (m : Int) < 8 := by omega
              have q2 : IntKind.i64.wrap ((m : Int).tdiv 2) = ((m / 2 : Nat) : Int) := by
                rw [show (m : Int).tdiv 2 = ((m / 2 : Nat) : Int) from rfl]
                exact IntWalk.i64_in _ (by omega)
              have q4 : IntKind.i64.wrap ((m : Int).tdiv 4) = ((m / 4 : Nat) : Int) := by
                rw [show (m : Int).tdiv 4 = ((m / 4 : Nat) : Int) from rfl]
                exact IntWalk.i64_in _ (by omega)
              obtain ⟨mh, hmh⟩ : ∃ x, m / 2 = x := ⟨_, rfl⟩
              obtain ⟨mq, hmq⟩ : ∃ x, m / 4 = x := ⟨_, rfl⟩
              rw [hmh] at q2
              rw [hmq] at q4
              have mh0 : (0 : Int) ≤ mh := by omega
              go_upto_region 21 with fail
              have g1 := VB.new wr 0 0 0 _ rfl
              have y1 := hbt.trans (((Grew.refl wr).alloc (.cells #[.int .i64 0, .int .i64 0, .int .i64 0] 23)).below.mono hbt.size)
              have hg := hbt.size
              clear hbt
              generalize wr.alloc _ = wc at *
              generalize wr.heap.size = g at *
              go_cut [78] (fun sf wx => sf = .bool (decide (bit1 m = true ∧ 0 < acc.length)) ∧ wx = wc)
              case first =>
                by_cases c1 : bit1 m = true
                · have e1 : (m : Int) % 2 = 1 := by
                    have := of_decide_eq_true (show decide (m % 2 = 1) = true from c1)
                    omega
                  by_cases c2 : 0 < acc.length
                  · have e2 : (0 : Int) < acc.length := by omega
                    have hd := fhid (decide_eq_true (show bit1 m = true ∧ 0 < acc.length from ⟨c1, c2⟩))
                    generalize decide (bit1 m = true ∧ 0 < acc.length) = Q at *
                    clear c1 c2
                    go_wp2_with fail
                    go_meet
                    exact ⟨congrArg Value.bool (by first | exact hd.out.symm | (rw [hd.out]; exact decide_eq_true (by omega)) | (rw [hd.out]; exact decide_eq_false (by omega))), rfl⟩
                  · have e2 : ¬ (0 : Int) < acc.length := by omega
                    have hd := fhid (decide_eq_false (show ¬ (bit1 m = true ∧ 0 < acc.length) from fun h => c2 h.2))
                    generalize decide (bit1 m = true ∧ 0 < acc.length) = Q at *
                    clear c1 c2
                    go_wp2_with fail
                    go_meet
                    exact ⟨congrArg Value.bool (by first | exact hd.out.symm | (rw [hd.out]; exact decide_eq_true (by omega)) | (rw [hd.out]; exact decide_eq_false (by omega))), rfl⟩
                · have e1 : (m : Int) % 2 = 0 := by
                    have := of_decide_eq_false (show decide (m % 2 = 1) = false by simpa [bit1] using c1)
                    omega
                  have hd := fhid (decide_eq_false (show ¬ (bit1 m = true ∧ 0 < acc.length) from fun h => c1 h.1))
                  generalize decide (bit1 m = true ∧ 0 < acc.length) = Q at *
                  clear c1
                  go_wp2_with fail
                  go_meet
                  exact ⟨congrArg Value.bool (by first | exact hd.out.symm | (rw [hd.out]; exact decide_eq_true (by omega)) | (rw [hd.out]; exact decide_eq_false (by omega))), rfl⟩
              case rest =>
                obtain ⟨rfl, hw⟩ := hcut
                subst hw
                go_upto_if 78 with fail
                go_cut [10] (fun s10 wx => PMid w2 g (pick (bit1 m) 0 acc).2 (pick (bit1 m) 0 acc).1 0 0 s10 wx)
                case first =>
                  by_cases cq : bit1 m = true ∧ 0 < acc.length
                  · obtain ⟨B, o, rfl, hB', hcell⟩ := hI.at_ cq.2
                    have c1 := (y1.cell (p := ⟨B, o + 0, none⟩) hB').trans hcell
                    rw [Nat.add_zero] at c1
                    obtain ⟨d0, d1, d2, ⟨u0, u1, u2⟩, yy⟩ := g1.facts
                    have hp := pick_yes cq.1 cq.2
                    obtain ⟨x, hx⟩ : ∃ x, acc[0]'cq.2 = x := ⟨_, rfl⟩
                    rw [hx] at hcell hp c1
                    replace hp := fhid hp
                    have e2 : (0 : Int) < acc.length := by have := cq.2; omega
                    rw [decide_eq_true cq]
                    clear hcell hx cq
                    go_wp2_with fail
                    go_meet
                    rw [hp.out]
                    exact ⟨by first | rfl | go_num, block_set 0 _ g1, y1.setCell (p := ⟨g, 0, none⟩) hg _⟩
                  · have hp := fhid (pick_no cq)
                    rw [decide_eq_false cq]
                    clear cq
                    go_wp2_with fail
                    go_meet
                    rw [hp.out]
                    exact ⟨rfl, g1, y1⟩
                case rest =>
                  clear g1 y1
                  obtain ⟨rfl, g1, y1⟩ := hcut
                  have hk1 := pick_le (bit1 m) 0 acc
                  obtain ⟨p1, hp1⟩ : ∃ p, pick (bit1 m) 0 acc = p := ⟨_, rfl⟩
                  rw [hp1] at hk1 g1
                  rw [hp1]
                  obtain ⟨x1, k1⟩ := p1
                  simp only at hk1 g1
                  have kI1 : (0 : Int) ≤ k1 := by omega
                  replace hp1 := fhid hp1
                  go_upto_region 24 with fail
                  go_cut [95] (fun sf wx => sf = .bool (decide (bit2 m = true ∧ k1 < acc.length)) ∧ wx = wc)
                  case first =>
                    by_cases c1 : bit2 m = true
                    · have e1 : (mh : Int) % 2 = 1 := by
                        have := of_decide_eq_true (show decide (m / 2 % 2 = 1) = true from c1)
                        omega
                      by_cases c2 : k1 < acc.length
                      · have e2 : (k1 : Int) < acc.length := by omega
                        have hd := fhid (decide_eq_true (show bit2 m = true ∧ k1 < acc.length from ⟨c1, c2⟩))
                        generalize decide (bit2 m = true ∧ k1 < acc.length) = Q at *
                        clear c1 c2
                        go_wp2_with fail
                        go_meet
                        exact ⟨congrArg Value.bool (by first | exact hd.out.symm | (rw [hd.out]; exact decide_eq_true (by omega)) | (rw [hd.out]; exact decide_eq_false (by omega))), rfl⟩
                      · have e2 : ¬ (k1 : Int) < acc.length := by omega
                        have hd := fhid (decide_eq_false (show ¬ (bit2 m = true ∧ k1 < acc.length) from fun h => c2 h.2))
                        generalize decide (bit2 m = true ∧ k1 < acc.length) = Q at *
                        clear c1 c2
                        go_wp2_with fail
                        go_meet
                        exact ⟨congrArg Value.bool (by first | exact hd.out.symm | (rw [hd.out]; exact decide_eq_true (by omega)) | (rw [hd.out]; exact decide_eq_false (by omega))), rfl⟩
                    · have e1 : (mh : Int) % 2 = 0 := by
                        have := of_decide_eq_false (show decide (m / 2 % 2 = 1) = false by simpa [bit2] using c1)
                        omega
                      have hd := fhid (decide_eq_false (show ¬ (bit2 m = true ∧ k1 < acc.length) from fun h => c1 h.1))
                      generalize decide (bit2 m = true ∧ k1 < acc.length) = Q at *
                      clear c1
                      go_wp2_with fail
                      go_meet
                      exact ⟨congrArg Value.bool (by first | exact hd.out.symm | (rw [hd.out]; exact decide_eq_true (by omega)) | (rw [hd.out]; exact decide_eq_false (by omega))), rfl⟩
                  case rest =>
                    obtain ⟨rfl, hw⟩ := hcut
                    subst hw
                    go_upto_if 95 with fail
                    go_cut [10] (fun s10 wx => PMid w2 g (pick (bit2 m) k1 acc).2 x1 (pick (bit2 m) k1 acc).1 0 s10 wx)
                    case first =>
                      by_cases cq : bit2 m = true ∧ k1 < acc.length
                      · obtain ⟨B, o, rfl, hB', hcell⟩ := hI.at_ cq.2
                        have c1 := (y1.cell (p := ⟨B, o + k1, none⟩) hB').trans hcell
                        obtain ⟨d0, d1, d2, ⟨u0, u1, u2⟩, yy⟩ := g1.facts
                        have hp := pick_yes cq.1 cq.2
                        obtain ⟨x, hx⟩ : ∃ x, acc[k1]'cq.2 = x := ⟨_, rfl⟩
                        rw [hx] at hcell hp c1
                        replace hp := fhid hp
                        have e2 : (k1 : Int) < acc.length := by have := cq.2; omega
                        rw [decide_eq_true cq]
                        clear hcell hx cq
                        go_wp2_with fail
                        go_meet
                        rw [hp.out]
                        exact ⟨by first | rfl | go_num, block_set 1 _ g1, y1.setCell (p := ⟨g, 1, none⟩) hg _⟩
                      · have hp := fhid (pick_no cq)
                        rw [decide_eq_false cq]
                        clear cq
                        go_wp2_with fail
                        go_meet
                        rw [hp.out]
                        exact ⟨rfl, g1, y1⟩
                    case rest =>
                      clear g1 y1
                      obtain ⟨rfl, g1, y1⟩ := hcut
                      have hk2 := pick_le (bit2 m) k1 acc
                      obtain ⟨p2, hp2⟩ : ∃ p, pick (bit2 m) k1 acc = p := ⟨_, rfl⟩
                      rw [hp2] at hk2 g1
                      rw [hp2]
                      obtain ⟨x2, k2⟩ := p2
                      simp only at hk2 g1
                      have kI2 : (0 : Int) ≤ k2 := by omega
                      replace hp2 := fhid hp2
                      go_upto_region 27 with fail
                      go_cut [111] (fun sf wx => sf = .bool (decide (bit3 m = true ∧ k2 < acc.length)) ∧ wx = wc)
                      case first =>
                        by_cases c1 : bit3 m = true
                        · have e1 : (mq : Int) = 1 := by
                            have := of_decide_eq_true (show decide (m / 4 = 1) = true from c1)
                            omega
                          by_cases c2 : k2 < acc.length
                          · have e2 : (k2 : Int) < acc.length := by omega
                            have hd := fhid (decide_eq_true (show bit3 m = true ∧ k2 < acc.length from ⟨c1, c2⟩))
                            generalize decide (bit3 m = true ∧ k2 < acc.length) = Q at *
                            clear c1 c2
                            go_wp2_with fail
                            go_meet
                            exact ⟨congrArg Value.bool (by first | exact hd.out.symm | (rw [hd.out]; exact decide_eq_true (by omega)) | (rw [hd.out]; exact decide_eq_false (by omega))), rfl⟩
                          · have e2 : ¬ (k2 : Int) < acc.length := by omega
                            have hd := fhid (decide_eq_false (show ¬ (bit3 m = true ∧ k2 < acc.length) from fun h => c2 h.2))
                            generalize decide (bit3 m = true ∧ k2 < acc.length) = Q at *
                            clear c1 c2
                            go_wp2_with fail
                            go_meet
                            exact ⟨congrArg Value.bool (by first | exact hd.out.symm | (rw [hd.out]; exact decide_eq_true (by omega)) | (rw [hd.out]; exact decide_eq_false (by omega))), rfl⟩
                        · have e1 : (mq : Int) = 0 := by
                            have := of_decide_eq_false (show decide (m / 4 = 1) = false by simpa [bit3] using c1)
                            omega
                          have hd := fhid (decide_eq_false (show ¬ (bit3 m = true ∧ k2 < acc.length) from fun h => c1 h.1))
                          generalize decide (bit3 m = true ∧ k2 < acc.length) = Q at *
                          clear c1
                          go_wp2_with fail
                          go_meet
                          exact ⟨congrArg Value.bool (by first | exact hd.out.symm | (rw [hd.out]; exact decide_eq_true (by omega)) | (rw [hd.out]; exact decide_eq_false (by omega))), rfl⟩
                      case rest =>
                        obtain ⟨rfl, hw⟩ := hcut
                        subst hw
                        go_upto_if 111 with fail
                        go_cut [10] (fun s10 wx => PMid w2 g (pick (bit3 m) k2 acc).2 x1 x2 (pick (bit3 m) k2 acc).1 s10 wx)
                        case first =>
                          by_cases cq : bit3 m = true ∧ k2 < acc.length
                          · obtain ⟨B, o, rfl, hB', hcell⟩ := hI.at_ cq.2
                            have c1 := (y1.cell (p := ⟨B, o + k2, none⟩) hB').trans hcell
                            obtain ⟨d0, d1, d2, ⟨u0, u1, u2⟩, yy⟩ := g1.facts
                            have hp := pick_yes cq.1 cq.2
                            obtain ⟨x, hx⟩ : ∃ x, acc[k2]'cq.2 = x := ⟨_, rfl⟩
                            rw [hx] at hcell hp c1
                            replace hp := fhid hp
                            have e2 : (k2 : Int) < acc.length := by have := cq.2; omega
                            rw [decide_eq_true cq]
                            clear hcell hx cq
                            go_wp2_with fail
                            go_meet
                            rw [hp.out]
                            exact ⟨by first | rfl | go_num, block_set 2 _ g1, y1.setCell (p := ⟨g, 2, none⟩) hg _⟩
                          · have hp := fhid (pick_no cq)
                            rw [decide_eq_false cq]
                            clear cq
                            go_wp2_with fail
                            go_meet
                            rw [hp.out]
                            exact ⟨rfl, g1, y1⟩
                        case rest =>
                          clear g1 y1
                          obtain ⟨rfl, g1, y1⟩ := hcut
                          have hk3 := pick_le (bit3 m) k2 acc
                          obtain ⟨p3, hp3⟩ : ∃ p, pick (bit3 m) k2 acc = p := ⟨_, rfl⟩
                          rw [hp3] at hk3 g1
                          rw [hp3]
                          obtain ⟨x3, k3⟩ := p3
                          simp only at hk3 g1
                          have kI3 : (0 : Int) ≤ k3 := by omega
                          replace hp3 := fhid hp3
                          have hcand : cand (bit1 m) (bit2 m) (bit3 m) acc = ((x1, x2, x3), k3) := by
                            unfold cand
                            rw [hp1.out, hp2.out, hp3.out]
                          clear hp1 hp2 hp3 q2 q4 hmh hmq mh0
                          have hng := fhid (@not_good (bl s) acc m k3 x1 x2 x3 hcand)
                          have hgd := hgood.out m
                          rw [hcand] at hgd
                          have hGd : k3 = acc.length ∧ right x1 x2 x3 = true ∧ fmt (x1, x2, x3) = bl s → Good (bl s) acc m := fun h => by
                            unfold Good
                            rw [hcand]
                            exact h
                          have hfound := fhid fun h => hgd (hGd h)
                          clear hgd hGd hcand
                          obtain ⟨c0, c1, c2, _, yy⟩ := g1.facts
                          by_cases hk : k3 = acc.length
                          · have e1 : (k3 : Int) = acc.length := by omega
                            have hri := fun W => rRight_any x1 x2 x3 W
                            cases hr : right x1 x2 x3 with
                            | false =>
                              rw [hr] at hri
                              have hno := fhid (hng.out (fun h => by rw [hr] at h; cases h.2.1))
                              clear hfound hr hng
                              go_wp2_with (go_at_call 11; (with_reducible refine (hri _).mono ?_); rintro e w5 ⟨rfl, g5⟩)
                              go_roundw
                              case rel => exact ⟨m + 1, by omega, by go_num, not_more hnot.out hno.out, y1.trans (g5.below.mono y1.size)⟩
                              case measure => simp [intOf]; omega
                            | true =>
                              rw [hr] at hri
                              obtain ⟨j1, j2, j3⟩ := right_I64 (v := (x1, x2, x3)) hr
                              have hf := fun W => rFormat_any x1 x2 x3 W j1 j2 j3
                              have hse := str_eq (str (fmt (x1, x2, x3))) s
                              rw [bl_str] at hse
                              by_cases hfs : fmt (x1, x2, x3) = bl s
                              · rw [decide_eq_true hfs] at hse
                                have hres := fhid (hfound.out ⟨hk, hr, hfs⟩)
                                clear hfound hng hr hfs j1 j2 j3
                                generalize str (fmt (x1, x2, x3)) = F at *
                                go_wp2_with (first
                                  | (go_at_call 11; (with_reducible refine (hri _).mono ?_); rintro e w5 ⟨rfl, g5⟩
                                     clear c0 c1 c2
                                     have g2 := g1.grew g5
                                     have y2 := y1.trans (g5.below.mono y1.size)
                                     obtain ⟨c0, c1, c2, _, _⟩ := g2.facts)
                                  | (go_at_call 28; (with_reducible refine (hf _).mono ?_); rintro e w6 ⟨rfl, b6⟩
                                     clear c0 c1 c2
                                     have g3 := g2.on b6
                                     have y3 := y2.trans (b6.mono y2.size)
                                     obtain ⟨c0, c1, c2, _, _⟩ := g3.facts
                                     obtain ⟨d0, d1, d2, ⟨u0, u1, u2⟩, yy2⟩ := (r2.out.on y3).facts))
                                exact bodyPost_ret (v := .tuple #[vec x1 x2 x3, .int .i64 0]) (by simp [results, Tryd.results26, go_sem, d0, d1, d2]) rfl (VP.ret hres.out.symm (set3 (z2.trans (y3.mono z2.size)) (by omega) _ _ _))
                              · rw [decide_eq_false hfs] at hse
                                have hno := fhid (hng.out (fun h => hfs h.2.2))
                                clear hfound hng hr hfs j1 j2 j3
                                generalize str (fmt (x1, x2, x3)) = F at *
                                go_wp2_with (first
                                  | (go_at_call 11; (with_reducible refine (hri _).mono ?_); rintro e w5 ⟨rfl, g5⟩
                                     clear c0 c1 c2
                                     have g2 := g1.grew g5
                                     have y2 := y1.trans (g5.below.mono y1.size)
                                     obtain ⟨c0, c1, c2, _, _⟩ := g2.facts)
                                  | (go_at_call 28; (with_reducible refine (hf _).mono ?_); rintro e w6 ⟨rfl, b6⟩
                                     have y3 := y2.trans (b6.mono y2.size)))
                                go_roundw
                                case rel => exact ⟨m + 1, by omega, by go_num, not_more hnot.out hno.out, y3⟩
                                case measure => simp [intOf]; omega
                          · have e1 : ¬ (k3 : Int) = acc.length := by omega
                            have hno := fhid (hng.out (fun h => hk h.1))
                            clear hfound hng hk
                            go_wp2_with fail
                            go_roundw
                            case rel => exact ⟨m + 1, by omega, by go_num, not_more hnot.out hno.out, y1⟩
                            case measure => simp [intOf]; omega
            · obtain rfl : m = 8 := by omega
              have hres := fhid (hnone.out hnot.out).symm
              obtain ⟨d0, d1, d2, ⟨u0, u1, u2⟩, yy⟩ := (r2.out.on hbt).facts
              go_wp2_with fail
              exact bodyPost_ret (v := .tuple #[vec 0 0 0, .int .i64 3]) (by simp [results, Tryd.results26, go_sem, d0, d1, d2]) rfl (VP.ret hres.out (set3 (z2.trans (hbt.mono z2.size)) (by omega) _ _ _))
end Go.Proofs.YtkmknogejhhajaaDoor
