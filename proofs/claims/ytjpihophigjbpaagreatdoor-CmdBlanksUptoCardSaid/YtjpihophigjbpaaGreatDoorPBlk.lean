/-
  PROVED: CmdBlanks: blanks and tabs ahead, behind and between do not count, where what is read is of bulk at most 1048576.
  Conditions: the library's tables and its two errors read as the program's text lays them (the card ties them); the bulk; nothing else.
-/
import Derived.Test.YtjpihophigjbpaaGreatDoorQC
import Derived.Test.YtjpihophigjbpaaGreatDoorQB
import Derived.Test.YtjpihophigjbpaaGreatDoorQD
import Derived.Deep.RegionHeld3
import Derived.SizedLaws
import Derived.Deep.DeepHandedRow
set_option linter.unusedSimpArgs false
set_option linter.unusedVariables false
/-
  CmdBlanks, walked.
-/
namespace Go.Proofs.YtjpihophigjbpaaGreatDoor
open Go.RowKit Go.Shelf Vs

theorem wider_snoc (t l : Str) (c : UInt8) : wider t (l ++ [c]) = wider t l ++ (if c = 32 then t ++ [c] else [c]) := by
  unfold wider
  rw [List.flatMap_append]
  simp
theorem tabs_blank (m : Nat) : (List.replicate m (9 : UInt8)).all blankB = true := by
  rw [List.all_eq_true]
  intro x hx
  rw [List.eq_of_mem_replicate hx]
  decide
theorem blanks_same (m : Nat) (hm : m ≤ 2) (l : Str) (hl : l.length ≤ 1000) : cmdP ([9, 32] ++ wider (List.replicate m 9) l ++ [32]) = cmdP l := by
  have h1 := words_wider (List.replicate m 9) (tabs_blank m) l
  have h2 := wider_len (List.replicate m 9) l
  rw [List.length_replicate] at h2
  have h3 : (m + 1) * l.length ≤ 3 * 1000 := Nat.mul_le_mul (by omega) hl
  have h4 : ([9, 32] ++ wider (List.replicate m 9) l ++ [32]).length ≤ 4096 := by
    simp only [List.length_append, List.length_cons, List.length_nil]
    omega
  unfold cmdP
  rw [if_neg (by omega), if_neg (by omega), h1]
theorem wrap_small (m : Nat) (h : m ≤ 2) : IntKind.u8.wrap (m : Int) = (m : Int) ∧ IntKind.i64.wrap (m : Int) = (m : Int) := by
  have h3 : m = 0 ∨ m = 1 ∨ m = 2 := by omega
  rcases h3 with rfl | rfl | rfl
  · exact ⟨by kernel_rfl, by kernel_rfl⟩
  · exact ⟨by kernel_rfl, by kernel_rfl⟩
  · exact ⟨by kernel_rfl, by kernel_rfl⟩
def BlkR (w : World) (X : ByteArray) (t : Str) (i x : Value) (wr : World) : Prop := ∃ k : Nat, k ≤ X.size ∧ i = .int .i64 (k : Int) ∧ x = .string (str ([9, 32] ++ wider t ((bl X).take k))) ∧ Below w.heap.size w wr
section
attribute [local go_sem ↓] exec_ld_cmd exec_st_cmd exec_ld_rcmd exec_st_rcmd
set_option maxRecDepth 100000 in
set_option maxHeartbeats 4000000 in
theorem blk_no (V : Array Value) (hV : V.size = 17) (b : Int) (c : CmdC) (w : World) (hw : Env w) (hi : InvC c V.toList w) (hn : WideC c) (hT : ∀ i, i < 10 → (txtQ i c).length ≤ 1125899906842624) (hH : c.host.length ≤ 1125899906842624) (hx : c.idx.length ≤ 10000000) (hR : rightQ c = false) : Calls Tryz.prog 6 #[.agg V, .int .u8 b] w (BoolP w true) := by
  have hal := fun W (hW : Below w.heap.size w W) => alive_any W (hw.below hW)
  have hth : ∀ (Y : Array Value) W, InvC c Y.toList W → _ := fun Y W h => let_theirs (c := c) (W := W) hn.2.2.1 h
  have hfo : ∀ (Y : Array Value) W, Below w.heap.size w W → InvC c Y.toList W → _ := fun Y W hW h => let_formatW (c := c) hn hT hH (hw.below hW) h
  unfold FmP at hfo
  unfold BoolP at hal ⊢
  have hff : fmtQ c = ([], 3) := by unfold fmtQ; rw [hR]; rfl
  rw [hff] at hfo
  simp only at hfo
  generalize str [] = E at *
  clear hff hR hn hT hH hx
  have q0 := box_new w TRCmd V
  have g0 : Below w.heap.size w (w.alloc (.cells V TRCmd)) := (Below.refl _ _).alloc (Nat.le_refl _) _
  have i0 := hi.below g0
  replace q0 := fhid q0
  replace g0 := fhid g0
  replace i0 := fhid i0
  replace hV := fhid hV
  clear hi
  go_enter Tryz.func6, Tryz.ntmps6
  go_upto_region 1 with fail
  have q1 := q0.out
  have g1 := g0.out
  have i1 := i0.out
  clear q0 g0 i0
  try generalize w.alloc _ = w0 at *
  have l1 := ld_rcmd q1 hV.out
  have zk := Box.lt q1
  replace q1 := fhid q1
  replace i1 := fhid i1
  go_upto_region 2 with (first
    | (go_at_call 8; (with_reducible refine (hth _ _ i1.out).mono ?_); rintro e w2 ⟨b2, T0, rfl, hj⟩; have g2 := g1.trans (b2.mono g1.size); have q2 := Box.below q1.out b2 zk; have i2 := i1.out.below b2; replace hj := fhid hj; replace q2 := fhid q2; replace i2 := fhid i2)
    | (go_at_call 7; (with_reducible refine (hfo _ _ g2 hj.out).mono ?_); rintro e w3 ⟨rfl, b3⟩; have g3 := g2.trans (b3.mono g2.size)))
  have q3 := Box.below q2.out b3 (Box.lt q2.out)
  have i3 := i2.out.below b3
  replace q3 := fhid q3
  replace i3 := fhid i3
  clear l1 zk q1 i1 q2 i2 hj
  go_wp2_with (go_at_call 9; (with_reducible refine (hal _ g3).mono ?_); rintro e w5 ⟨rfl, b5⟩)
  go_ret
  exact ⟨rfl, g3.trans (b5.mono g3.size)⟩
set_option maxRecDepth 100000 in
set_option maxHeartbeats 4000000 in
theorem blk_big (V : Array Value) (hV : V.size = 17) (b : Int) (c : CmdC) (w : World) (hw : Env w) (hi : InvC c V.toList w) (hn : WideC c) (hT : ∀ i, i < 10 → (txtQ i c).length ≤ 1125899906842624) (hH : c.host.length ≤ 1125899906842624) (hx : c.idx.length ≤ 10000000) (hR : rightQ c = true) (hN : ¬ (textQ c).length ≤ 1000) : Calls Tryz.prog 6 #[.agg V, .int .u8 b] w (BoolP w true) := by
  have hal := fun W (hW : Below w.heap.size w W) => alive_any W (hw.below hW)
  have hth : ∀ (Y : Array Value) W, InvC c Y.toList W → _ := fun Y W h => let_theirs (c := c) (W := W) hn.2.2.1 h
  have hfo : ∀ (Y : Array Value) W, Below w.heap.size w W → InvC c Y.toList W → _ := fun Y W hW h => let_formatW (c := c) hn hT hH (hw.below hW) h
  unfold FmP at hfo
  unfold BoolP at hal ⊢
  have hff : fmtQ c = (textQ c, 0) := by unfold fmtQ; rw [hR]; rfl
  rw [hff] at hfo
  simp only at hfo
  have hz : (str (textQ c)).size = (textQ c).length := str_size _
  have i0' : ((str (textQ c)).size : Int) > 1000 := by omega
  generalize str (textQ c) = TX at *
  clear hff hR hn hT hH hx hz hN
  have q0 := box_new w TRCmd V
  have g0 : Below w.heap.size w (w.alloc (.cells V TRCmd)) := (Below.refl _ _).alloc (Nat.le_refl _) _
  have i0 := hi.below g0
  replace q0 := fhid q0
  replace g0 := fhid g0
  replace i0 := fhid i0
  replace hV := fhid hV
  clear hi
  go_enter Tryz.func6, Tryz.ntmps6
  go_upto_region 1 with fail
  have q1 := q0.out
  have g1 := g0.out
  have i1 := i0.out
  clear q0 g0 i0
  try generalize w.alloc _ = w0 at *
  have l1 := ld_rcmd q1 hV.out
  have zk := Box.lt q1
  replace q1 := fhid q1
  replace i1 := fhid i1
  go_upto_region 2 with (first
    | (go_at_call 8; (with_reducible refine (hth _ _ i1.out).mono ?_); rintro e w2 ⟨b2, T0, rfl, hj⟩; have g2 := g1.trans (b2.mono g1.size); have q2 := Box.below q1.out b2 zk; have i2 := i1.out.below b2; replace hj := fhid hj; replace q2 := fhid q2; replace i2 := fhid i2)
    | (go_at_call 7; (with_reducible refine (hfo _ _ g2 hj.out).mono ?_); rintro e w3 ⟨rfl, b3⟩; have g3 := g2.trans (b3.mono g2.size)))
  have q3 := Box.below q2.out b3 (Box.lt q2.out)
  have i3 := i2.out.below b3
  replace q3 := fhid q3
  replace i3 := fhid i3
  clear l1 zk q1 i1 q2 i2 hj
  go_wp2_with (go_at_call 9; (with_reducible refine (hal _ g3).mono ?_); rintro e w5 ⟨rfl, b5⟩)
  go_ret
  exact ⟨rfl, g3.trans (b5.mono g3.size)⟩
set_option maxRecDepth 100000 in
set_option maxHeartbeats 4000000 in
theorem blk_yes (V : Array Value) (hV : V.size = 17) (b : Int) (c : CmdC) (m : Nat) (hm : b.tmod 3 = (m : Int)) (hm2 : m ≤ 2) (w : World) (hw : Env w) (hi : InvC c V.toList w) (hn : WideC c) (hT : ∀ i, i < 10 → (txtQ i c).length ≤ 1125899906842624) (hH : c.host.length ≤ 1125899906842624) (hx : c.idx.length ≤ 10000000) (hR : rightQ c = true) (hN : (textQ c).length ≤ 1000) : Calls Tryz.prog 6 #[.agg V, .int .u8 b] w (BoolP w true) := by
  have hal := fun W (hW : Below w.heap.size w W) => alive_any W (hw.below hW)
  have hth : ∀ (Y : Array Value) W, InvC c Y.toList W → _ := fun Y W h => let_theirs (c := c) (W := W) hn.2.2.1 h
  have hfo : ∀ (Y : Array Value) W, Below w.heap.size w W → InvC c Y.toList W → _ := fun Y W hW h => let_formatW (c := c) hn hT hH (hw.below hW) h
  unfold FmP at hfo
  unfold BoolP at hal ⊢
  have hff : fmtQ c = (textQ c, 0) := by unfold fmtQ; rw [hR]; rfl
  rw [hff] at hfo
  simp only at hfo
  have hz : (str (textQ c)).size = (textQ c).length := str_size _
  have hbl : bl (str (textQ c)) = textQ c := bl_str _
  have hpb := fun W (hW : Below w.heap.size w W) => let_parse ([9, 32] ++ wider (List.replicate m 9) (textQ c) ++ [32]) W (hw.below hW)
  rw [blanks_same m hm2 (textQ c) hN, right_parseB hR] at hpb
  unfold AnsP at hpb
  simp only at hpb
  have i0' : ¬ ((str (textQ c)).size : Int) > 1000 := by omega
  have hXz : (str (textQ c)).size ≤ 1000 := by omega
  have hou : ∀ (Y : Array Value) W, InvC c Y.toList W → _ := fun Y W h => let_ours (c := c) (W := W) hn.2.2.1 h
  have hrs : ∀ (X Y : Array Value) W, InvC c X.toList W → InvC c Y.toList W → _ := fun X Y W h1 h2 => let_rsame (c := c) (W := W) hx h1 h2
  unfold BoolP at hrs
  rw [← hbl] at hpb
  generalize str (textQ c) = TX at *
  have hlen : ∀ k, (str ([9, 32] ++ wider (List.replicate m 9) ((bl TX).take k))).size ≤ 3002 := fun k => by
    rw [str_size]
    have h2 := wider_len (List.replicate m 9) ((bl TX).take k)
    rw [List.length_replicate] at h2
    have h5 : ((bl TX).take k).length ≤ 1000 := by rw [List.length_take, bl_len]; omega
    have h3 : (m + 1) * ((bl TX).take k).length ≤ 3 * 1000 := Nat.mul_le_mul (by omega) h5
    simp only [List.length_append, List.length_cons, List.length_nil]
    omega
  have hsn : ∀ k (h : k < TX.size), wider (List.replicate m 9) ((bl TX).take (k + 1)) = wider (List.replicate m 9) ((bl TX).take k) ++ (if TX[k] = 32 then List.replicate m 9 ++ [TX[k]] else [TX[k]]) := fun k h => by
    have h' : k < (bl TX).length := by rw [bl_len]; exact h
    rw [List.take_succ_eq_append_getElem h', wider_snoc, bl_get TX k h h']
  have hex : ∀ k (h : k < TX.size), TX.extract k (k + 1) = str [TX[k]] := fun k h => by
    have h' : k < (bl TX).length := by rw [bl_len]; exact h
    rw [ext_str, Nat.add_sub_cancel_left, List.drop_eq_getElem_cons h', List.take_succ_cons, List.take_zero, bl_get TX k h h']
  have hs1 : ∀ x : UInt8, (str [x]).size = 1 := fun x => str_size _
  replace hpb := fhid hpb
  replace hlen := fhid hlen
  replace hsn := fhid hsn
  replace hex := fhid hex
  replace hs1 := fhid hs1
  replace hou := fhid hou
  replace hrs := fhid hrs
  have hm0 : (0 : Int) ≤ m := by omega
  obtain ⟨u1, u2⟩ := wrap_small m hm2
  clear hff hR hn hT hH hx hz hbl hN
  have q0 := box_new w TRCmd V
  have g0 : Below w.heap.size w (w.alloc (.cells V TRCmd)) := (Below.refl _ _).alloc (Nat.le_refl _) _
  have i0 := hi.below g0
  replace q0 := fhid q0
  replace g0 := fhid g0
  replace i0 := fhid i0
  replace hV := fhid hV
  clear hi
  go_enter Tryz.func6, Tryz.ntmps6
  go_upto_region 1 with fail
  have q1 := q0.out
  have g1 := g0.out
  have i1 := i0.out
  clear q0 g0 i0
  try generalize w.alloc _ = w0 at *
  have l1 := ld_rcmd q1 hV.out
  have zk := Box.lt q1
  replace q1 := fhid q1
  replace i1 := fhid i1
  go_upto_region 2 with (first
    | (go_at_call 8; (with_reducible refine (hth _ _ i1.out).mono ?_); rintro e w2 ⟨b2, T0, rfl, hj⟩; have g2 := g1.trans (b2.mono g1.size); have q2 := Box.below q1.out b2 zk; have i2 := i1.out.below b2; replace hj := fhid hj; replace q2 := fhid q2; replace i2 := fhid i2)
    | (go_at_call 7; (with_reducible refine (hfo _ _ g2 hj.out).mono ?_); rintro e w3 ⟨rfl, b3⟩; have g3 := g2.trans (b3.mono g2.size)))
  have q3 := Box.below q2.out b3 (Box.lt q2.out)
  have i3 := i2.out.below b3
  replace q3 := fhid q3
  replace i3 := fhid i3
  clear l1 zk q1 i1 q2 i2 hj
  have z3 := Box.lt q3.out
  clear hth hfo
  go_wp2_with fail
  go_loopw [8, 7] (fun i x wr => BlkR w3 TX (List.replicate m 9) i x wr) (fun i _ _ => TX.size - (intOf i).toNat)
  case atStart => exact ⟨0, Nat.zero_le _, rfl, rfl, Below.refl _ _⟩
  case round =>
    obtain ⟨k, hk, rfl, rfl, hB⟩ := hrel
    have k0 : (0 : Int) ≤ k := by omega
    by_cases hlt : k < TX.size
    · have k1 : (k : Int) < TX.size := by omega
      have k2 : (k : Int) ≤ (k : Int) + 1 := by omega
      have k3 : (k : Int) + 1 ≤ TX.size := by omega
      have k4 : IntKind.i64.wrap ((k : Int) + 1) = (k : Int) + 1 := IntWalk.i64_in _ (by omega)
      have k5 : ((k : Int) + 1).toNat = k + 1 := by omega
      have hsk := fhid (hsn.out k hlt)
      have hzk := hlen.out k
      have hek := hex.out k hlt
      have h1k := hs1.out TX[k]
      generalize hS : str ([9, 32] ++ wider (List.replicate m 9) ((bl TX).take k)) = SA at *
      generalize hY : str [TX[k]] = Y at *
      replace hS := fhid hS
      replace hY := fhid hY
      by_cases hc : TX[k] = 32
      · have e1 : ((TX[k].toNat : Int) == 32) = true := by rw [hc]; rfl
        have e2 : (TX[k].toNat : Int) = 32 := by rw [hc]; rfl
        rw [if_pos hc] at hsk
        replace hc := fhid hc
        obtain ⟨wk, rfl⟩ : ∃ wk : World, wk = wr := ⟨_, rfl⟩
        go_wp2_with fail
        go_loopw [38, 7] (fun j x wx => ∃ n : Nat, n ≤ m ∧ j = .int .i64 (n : Int) ∧ x = .string (SA ++ str (List.replicate n 9)) ∧ Below wk.heap.size wk wx) (fun j _ _ => m - (intOf j).toNat)
        case atStart => exact ⟨0, Nat.zero_le _, rfl, by rw [List.replicate_zero, show str [] = ByteArray.empty from rfl, ByteArray.append_empty], Below.refl _ _⟩
        case round =>
          obtain ⟨n, hn, rfl, rfl, hB2⟩ := hrel
          have n0 : (0 : Int) ≤ n := by omega
          have hzn : (str (List.replicate n 9)).size = n := by rw [str_size, List.length_replicate]
          by_cases hnl : n < m
          · have n1 : (n : Int) < m := by omega
            have hrn := fhid (show str (List.replicate n 9) ++ (⟨#[9]⟩ : ByteArray) = str (List.replicate (n + 1) 9) by rw [show (⟨#[9]⟩ : ByteArray) = str [9] from rfl, str_app, List.replicate_succ'])
            generalize hT9 : str (List.replicate n 9) = T9 at *
            replace hT9 := fhid hT9
            have r1 : ¬ 9223372036854775807 < SA.size + T9.size + 1 := by omega
            go_wp2_with fail
            go_roundw
            case rel => exact ⟨n + 1, by omega, by go_num, by rw [← hrn.out, ByteArray.append_assoc], hB2⟩
            case measure => simp [intOf]; omega
          · obtain rfl : n = m := by omega
            have n1 : ¬ (n : Int) < n := by omega
            generalize hT9 : str (List.replicate n 9) = T9 at *
            replace hT9 := fhid hT9
            have r1 : ¬ 9223372036854775807 < SA.size + T9.size + Y.size := by omega
            have hB3 := hB.trans (hB2.mono hB.size)
            go_wp2_with fail
            go_roundw
            case rel =>
              refine ⟨k + 1, by omega, by go_num, ?_, hB3⟩
              rw [hsk.out, ← hS.out, ← hY.out, ← hT9.out, str_app, str_app]
              simp only [List.append_assoc]
            case measure => simp [intOf]; omega
      · have e1 : ((TX[k].toNat : Int) == 32) = false := by
          have : TX[k].toNat ≠ 32 := fun e => hc (UInt8.toNat_inj.1 (by rw [e]; rfl))
          simp; omega
        have e2 : ¬ (TX[k].toNat : Int) = 32 := by
          have : TX[k].toNat ≠ 32 := fun e => hc (UInt8.toNat_inj.1 (by rw [e]; rfl))
          omega
        rw [if_neg hc] at hsk
        replace hc := fhid hc
        have r1 : ¬ 9223372036854775807 < SA.size + Y.size := by omega
        go_wp2_with fail
        go_roundw
        case rel =>
          refine ⟨k + 1, by omega, by go_num, ?_, hB⟩
          rw [hsk.out, ← hS.out, ← hY.out, str_app]
          simp only [List.append_assoc]
        case measure => simp [intOf]; omega
    · obtain rfl : k = TX.size := by omega
      have k1 : ¬ (TX.size : Int) < TX.size := by omega
      have hzk := hlen.out TX.size
      rw [List.take_of_length_le (by rw [bl_len]; exact Nat.le_refl _)] at hzk ⊢
      have hpc : ∀ W, Below w.heap.size w W → Calls Tryz.prog 10 #[.string (str ([9, 32] ++ wider (List.replicate m 9) (bl TX)) ++ (⟨#[32]⟩ : ByteArray))] W _ := fun W hW => by
        rw [show (⟨#[32]⟩ : ByteArray) = str [32] from rfl, str_app]
        exact hpb.out W hW
      generalize str ([9, 32] ++ wider (List.replicate m 9) (bl TX)) = SB at *
      have r1 : ¬ 9223372036854775807 < SB.size + 1 := by omega
      have gB := g3.trans (hB.mono g3.size)
      have qb := Box.below q3.out hB z3
      have ib := i3.out.below hB
      have zb := Box.lt qb
      have hou := hou.out
      have hrs := hrs.out
      replace qb := fhid qb
      replace ib := fhid ib
      clear hpb hlen hsn hex hs1 q3 i3 g3 hB z3 u1 u2 hm hm0
      go_upto_region 15 with (go_at_call 10; (with_reducible refine (hpc _ gB).mono ?_); rintro e w6 ⟨b6, U, hu, hu1, rfl, hi⟩; obtain ⟨w7, h7, qx, bA, zA⟩ := st_new (w := w6) hu hu1 #[.int .i64 0, .string ⟨#[]⟩, .string ⟨#[]⟩, .string ⟨#[]⟩, .string ⟨#[]⟩, .int .i64 0, .int .i64 0, .int .i64 0, .int .i64 0, .int .i64 0, .int .i64 0, .bool false, .slice none 0 0, .slice none 0 0, .int .i64 0, .int .i64 0, .string ⟨#[]⟩] rfl)
      have hi := hi.below bA
      have b7 := b6.trans (bA.mono b6.size)
      have qy := Box.below qb.out b7 zb
      have hj := ib.out.below b7
      have g7 := gB.trans (b7.mono gB.size)
      clear b6 bA hpc b7 gB qb ib zA h7 hu1 zb
      generalize w6.heap.size = c5 at *
      have zx := Box.lt qx
      have zy := Box.lt qy
      have zS := fhid (show ∀ W, Below w7.heap.size w7 W → (ldS TCmd (.pointer (some ⟨c5, 0, none⟩))).run Tryz.prog W = .ok (.agg U) W ∧ (ldS TRCmd (.pointer (some ⟨w.heap.size, 0, none⟩))).run Tryz.prog W = .ok (.agg V) W from fun W hb => ⟨ld_cmd (Box.below qx hb zx) hu, ld_rcmd (Box.below qy hb zy) hV.out⟩)
      have tt : Below w7.heap.size w7 w7.drew := (Below.refl _ _).drew
      have z := zS.out _ tt
      have ix := fhid (hi.below tt)
      have iy := fhid (hj.below tt)
      replace qx := fhid qx
      replace qy := fhid qy
      clear hi hj
      go_region_held3 (fun W => (ldS TCmd (.pointer (some ⟨c5, 0, none⟩))).run Tryz.prog W = .ok (.agg U) W ∧ (ldS TRCmd (.pointer (some ⟨w.heap.size, 0, none⟩))).run Tryz.prog W = .ok (.agg V) W) (first | exact z | fail)
        (first
          | (go_at_call 12; (with_reducible refine (hou U _ ix.out).mono ?_); rintro e w8 ⟨b8, T1, rfl, hjx⟩; have tt := tt.trans (b8.mono tt.size); have z := zS.out _ tt; have iy := fhid (iy.out.below b8); have hjx := fhid hjx; clear ix)
          | (go_at_call 11; (with_reducible refine (hrs _ _ _ hjx.out iy.out).mono ?_); rintro e w9 ⟨rfl, b9⟩; have tt := tt.trans (b9.mono tt.size); have z := zS.out _ tt)
          | (go_at_call 9; (with_reducible refine (hal _ (g7.trans (tt.mono g7.size))).mono ?_); rintro e w10 ⟨rfl, b10⟩; have tt := tt.trans (b10.mono tt.size); have z := zS.out _ tt))
      all_goals
        go_wp2_with fail
        go_ret
        exact ⟨rfl, g7.trans (tt.mono g7.size)⟩
end
theorem blk_walk (V : Array Value) (hV : V.size = 17) (b : Int) (c : CmdC) (w : World) (hw : Env w) (hi : InvC c V.toList w) (hn : WideC c) (hT : ∀ i, i < 10 → (txtQ i c).length ≤ 1125899906842624) (hH : c.host.length ≤ 1125899906842624) (hx : c.idx.length ≤ 10000000) (hb : 0 ≤ b ∧ b ≤ 255) : Calls Tryz.prog 6 #[.agg V, .int .u8 b] w (BoolP w true) := by
  cases hR : rightQ c with
  | false => exact blk_no V hV b c w hw hi hn hT hH hx hR
  | true =>
    by_cases hN : (textQ c).length ≤ 1000
    · refine blk_yes V hV b c (b.tmod 3).toNat ?_ ?_ w hw hi hn hT hH hx hR hN
      · rw [Int.toNat_of_nonneg (Int.tmod_nonneg _ hb.1)]
      · have := Int.tmod_lt_of_pos b (show (0 : Int) < 3 by decide)
        omega
    · exact blk_big V hV b c w hw hi hn hT hH hx hR hN
end Go.Proofs.YtjpihophigjbpaaGreatDoor
namespace Go.Proofs.YtjpihophigjbpaaGreatDoor
open Go.ChangeShapes Go.WideShapes Go.ChangeAt Go.WideMaps Go.WideElems Go.RowKit Vs
theorem wf_U8 {n : Int} (h : (Lit.int .u8 n).wf = true) : 0 ≤ n ∧ n ≤ 255 := by
  simpa [Lit.wf, IntKind.min, IntKind.max, IntKind.signed, IntKind.bits] using h
set_option maxRecDepth 100000 in
theorem cblk_lifted (os : Os) (started : os.Started) (H : Type) (enc : TypeId × Value → H) (F : Stop.Interp) :
    ReturnsInHanded {} Tryz.checked os 6 .any ((Rows.OpenSpec.upto Rows.cmdBlanksSpec).preRow enc Tryz.prog Tryz.f6 Rows.cmdBlanksUptoRow.domain false Rows.cmdBlanksUptoRow.laid) (((Rows.OpenSpec.upto Rows.cmdBlanksSpec).at F).post enc Tryz.prog Tryz.f6 false true false false) := by
  obtain ⟨x, hx, hk⟩ := found10 (o := DataW.whole enc Tryz.prog ((World.laidAll Tryz.prog os laidList).forCall (fun _ _ => 0) ⟨#[], #[.agg #[.int .i64 0, .string ⟨#[]⟩, .string ⟨#[]⟩, .string ⟨#[]⟩, .string ⟨#[]⟩, .int .i64 0, .int .i64 0, .int .i64 0, .int .i64 0, .int .i64 0, .int .i64 0, .bool false, .slice none 0 0, .slice none 0 0, .int .i64 0, .int .i64 0, .string ⟨#[]⟩], .int .u8 0], []⟩).memory Tryz.f6.params.toList Rows.cmdBlanksSpec.vars false #[Value.agg #[.int .i64 0, .string ⟨#[]⟩, .string ⟨#[]⟩, .string ⟨#[]⟩, .string ⟨#[]⟩, .int .i64 0, .int .i64 0, .int .i64 0, .int .i64 0, .int .i64 0, .int .i64 0, .bool false, .slice none 0 0, .slice none 0 0, .int .i64 0, .int .i64 0, .string ⟨#[]⟩], Value.int .u8 0].toList 8) (p := fun x => Rows.uptoSmall H (x.1 ++ x.2.1)) (by kernel_rfl)
  refine returnsInHanded_of_row (C := Tryz.checked) (s := Rows.OpenSpec.upto Rows.cmdBlanksSpec) own started (by kernel_rfl) Tryz.func6
    (witness10 (enc := enc) (C := Tryz.checked) false (World.laidAll Tryz.prog os laidList) #[.agg #[.int .i64 0, .string ⟨#[]⟩, .string ⟨#[]⟩, .string ⟨#[]⟩, .string ⟨#[]⟩, .int .i64 0, .int .i64 0, .int .i64 0, .int .i64 0, .int .i64 0, .int .i64 0, .bool false, .slice none 0 0, .slice none 0 0, .int .i64 0, .int .i64 0, .string ⟨#[]⟩], .int .u8 0] (World.laidAll_os _ _ _) (World.shaped_of_ZipB (by kernel_rfl) (by kernel_rfl)) (by kernel_rfl)
      (OpenSpec.preRow_of_cond 8 hx rfl (fun k hk' => by cases hk'; exact hk) (by kernel_rfl) (lay_met os _))) ?_
  clear hx hk x
  intro W base args ds gs before hval0 hW _ hcond _ hL _ _
  have hval : ∀ (j : Nat) t v, Tryz.f6.params[j]? = some t → args[j]? = some v → Value.okWide Tryz.prog W .any base t v := hval0
  have hW' := hW
  obtain ⟨p, q, hA0, hV, rfl, hfz, hnd⟩ := hW
  have hA : DataW.TrodAll enc Tryz.prog W 0 (fun _ => true) true Tryz.f6.params.toList args.toList ds p := hA0
  rw [Tryz.params6] at hA hval
  obtain ⟨v0, y1, d0, d1, p0, p1, rfl, rfl, rfl, h0, h1⟩ := trodAll_two hA
  obtain ⟨rfl, rfl⟩ := trodVars_none hV
  have hT := env_of hL
  have hb : Rows.uptoBulkAll ([d0, d1] ++ []) ≤ 1048576 := of_decide_eq_true (hcond _ rfl)
  have hM : Rows.uptoBulk d0 ≤ 1048576 := by
    simp only [List.append_nil, Rows.uptoBulkAll] at hb
    omega
  obtain ⟨v0, v5, v6, v7, v8, v9, vx, vl, vj, v1, v2, v3, v4, vh, vb, vA, vD, vn, vc, vm, ve, c, rfl, hc⟩ := open_cmd (hval 0 31 v0 rfl rfl) h0
  obtain ⟨hi, hw, ht, hh, hx⟩ := hc.wide hM
  obtain ⟨n, rfl, _, _, wn⟩ := open_int Tryz.underlying5 (hval 1 5 y1 rfl rfl) h1
  have hlt : ∀ z ∈ p0 ++ p1, z.block < W.heap.size := fun z hz => hW'.lt z (by simp [hz])
  simp only [List.append_nil] at hW'
  clear hA0 hval0 hcond
  refine (blk_walk _ rfl n c W hT hi hw ht hh hx (wf_U8 wn)).mono fun e W' ⟨he, hb⟩ => ?_
  subst he
  refine ⟨_, rfl, ⟨_, _, _, [], p0 ++ p1, [], hW', trodAll_mk1 (shut_bool Tryz.underlying4 _), ?_, rfl, hb.frame _, fun h => by cases h⟩⟩
  exact trodAll_mk2 (Below.trod laidOut (by kernel_rfl) (of_decide_eq_true (by kernel_rfl)) h0 hb (fun z hz => hlt z (by simp [hz]))) (Below.trod laidOut (by kernel_rfl) (of_decide_eq_true (by kernel_rfl)) h1 hb (fun z hz => hlt z (by simp [hz])))

theorem cblk_holds : Rows.CmdBlanksUptoSaid :=
  OpenClaim.holds_of_cond 6 Tryz.f6 rfl rfl rfl rfl rfl rfl rfl ⟨rfl, rfl, rfl, rfl, rfl⟩ rfl rfl rfl rfl rfl (by kernel_rfl) Tryz.func6 (by kernel_rfl)
    (of_decide_eq_true (by kernel_rfl)) (by unfold Func.isWrapper; rw [if_neg (of_decide_eq_false (by kernel_rfl))]; exact ⟨rfl, rfl⟩)
    (fun os started H enc _ F => by rw [OpenClaim.pre_eq_preRow]; exact cblk_lifted os started H enc F)
theorem cblk_card : Rows.CmdBlanksUptoCardSaid :=
  Claim7.holds_tied_plain_at .later [] [.data, .data, .data, .data, .sentinel, .sentinel, .pinned] true Rows.cmdBlanksUptoCard.stood.harness true
    cblk_holds (fun _ h => by cases h) (by kernel_rfl) (fun _ h => by cases h) cmdBlanksUpto_row_tie rfl ⟨rfl, rfl⟩ (by kernel_rfl) rfl
    (fun f fn hf hfn => by
      obtain rfl : f = 6 := Option.some.inj ((show Tryz.prog.funcNamed "marlinspike/marlinspikelaw10.CmdBlanks" = some 6 by kernel_rfl).symm.trans hf) |>.symm
      obtain rfl : fn = Tryz.f6 := (Option.some.inj (Tryz.func6.symm.trans hfn)).symm
      exact ⟨by kernel_rfl, fun j t ht => by
        rw [Tryz.params6] at ht
        have hm : t ∈ [31, 5] := by simpa using Array.mem_of_getElem? ht
        have hall : ([31, 5].all fun u => !Tryz.prog.wantsStandIn u) = true := by kernel_rfl
        exact (show Tryz.prog.wantsStandIn t = false by simpa using List.all_eq_true.1 hall t hm)⟩)
    (by kernel_rfl)
end Go.Proofs.YtjpihophigjbpaaGreatDoor
