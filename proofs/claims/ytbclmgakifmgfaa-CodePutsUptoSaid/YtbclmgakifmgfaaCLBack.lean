/-
  CodeBack's walk: what is put is got, in order.
-/
import Derived.Test.YtbclmgakifmgfaaCBackM
import Derived.ChangeKeysEq
import Derived.Deep.QuietTactic
import Derived.Deep.RegionWith
import Derived.Deep.DeepCutAuto
namespace Go.Proofs.Ytbclmgakifmgfaa
open Go.RowKit

theorem Apart.old {A : Option Addr} {p : Nat} {v : Value} {vs : List Value} {w : World} {B : Nat} (hs : SegV w A vs) (h0 : 0 < vs.length) (hw : w.heap.size ≤ B) (hp : B ≤ p) (hv : Ge B v) : Apart A p v := by
  obtain ⟨b, o, rfl, hb, _⟩ := hs h0
  intro a ha
  injection ha with ha
  subst ha
  refine ⟨by show b ≠ p; omega, fun e => ?_⟩
  have := hv b e.symm
  omega
theorem same_four (x0 x1 x2 x3 : Int) (w : World) :
    (binOp .neq 26 (.agg #[.int .u64 x0, .int .u64 x1, .int .u64 x2, .int .u64 x3]) (.agg #[.int .u64 x0, .int .u64 x1, .int .u64 x2, .int .u64 x3])).run Try.prog w = .ok (.bool false) w := by
  obtain ⟨i, hi⟩ : ∃ i, Try.prog.info? 24 = some i := ⟨_, rfl⟩
  have hc : Try.prog.cellsOf 24 = 1 := by kernel_rfl
  have e := fun (a : Int) (w : World) => run_equalIn_int (P := Try.prog) w 9998 24 .u64 .u64 a a Try.underlying24
  simp only [binOp]
  simp [Op.equal, Op.maxDepth, run_equalIn_array w 9999 _ _ Try.underlying26 hi, hc, List.range_succ, Op.eqItems, go_sem, e]
set_option maxRecDepth 100000 in
set_option maxHeartbeats 2000000 in
theorem back_walk (A Bo : Option Addr) (ns : List Int) (ts : List (List UInt8)) (f : Nat → Nat) (ca cb : Nat) (w : World) (hs : SegV w A (ns.map (.int .i64))) (hr : ∀ n ∈ ns, InR n) (ht : SegV w Bo (ts.map fun t => .string (str t)))
    (hf : ∀ j, j < 4 → f j < 18446744073709551616) (hn : ns.length ≤ 1048576) (htl : ts.length ≤ 1048576) (hfl : (ts.flatMap tb).length ≤ 1073741824) :
    Calls Try.prog 4 #[.slice A ns.length ca, .slice Bo ts.length cb, agg4 f] w fun e w' => e = .returned (.bool true) ∧ Below w.heap.size w w' := by
  have hfn := flat_le ns hr
  have hz0 : Four (w.alloc (.cells #[.int .u64 (f 0 : Nat), .int .u64 (f 1 : Nat), .int .u64 (f 2 : Nat), .int .u64 (f 3 : Nat)] 26)) w.heap.size f := heap_alloc_new w _
  have y0 : Below w.heap.size w (w.alloc (.cells #[.int .u64 (f 0 : Nat), .int .u64 (f 1 : Nat), .int .u64 (f 2 : Nat), .int .u64 (f 3 : Nat)] 26)) := (Below.refl _ _).alloc (Nat.le_refl _) _
  have c1 := Int_put (w.alloc (.cells #[.int .u64 (f 0 : Nat), .int .u64 (f 1 : Nat), .int .u64 (f 2 : Nat), .int .u64 (f 3 : Nat)] 26)).heap.size (.slice none 0 0) [] A ns ca _ (Wr.new _) ((hs.below y0).below ((Below.refl _ _).alloc (Nat.le_refl _) _))
    (fun h0 => Apart.old hs (by rw [List.length_map]; exact h0) (Nat.le_refl _) y0.size (Ge.nil _)) hr (by rw [List.length_nil]; omega)
  rw [List.nil_append] at c1
  replace hs := fhid hs
  replace ht := fhid ht
  replace hr := fhid hr
  replace hf := fhid hf
  have hn0 := hz0.lt
  have hbs : w.heap.size ≤ (w.alloc (.cells #[.int .u64 (f 0 : Nat), .int .u64 (f 1 : Nat), .int .u64 (f 2 : Nat), .int .u64 (f 3 : Nat)] 26)).heap.size := y0.size
  rw [show agg4 f = .agg #[.int .u64 (f 0 : Nat), .int .u64 (f 1 : Nat), .int .u64 (f 2 : Nat), .int .u64 (f 3 : Nat)] from rfl]
  go_enter Try.func4, Try.ntmps4
  go_upto_region 1 with fail
  generalize w.alloc _ = wb at *
  have hC : (ns.flatMap nb ++ sb f ++ ts.flatMap tb).length ≤ 140737488351232 := by
    rw [List.length_append, List.length_append, sb_len]; omega
  obtain ⟨C, hCC⟩ : ∃ C, ns.flatMap nb ++ sb f ++ ts.flatMap tb = C := ⟨_, rfl⟩
  rw [hCC] at hC
  replace hCC := fhid hCC
  go_wp2_with (first
    | (go_at_call 8; (with_reducible refine c1.mono ?_); rintro e w1 ⟨v1, rfl, W1, E1⟩
       have G1 : Ge wb.heap.size v1 := E1.ge (Ge.nil _) (by rw [World.size_alloc]; omega)
       have z1 : Below wb.heap.size wb w1 := ((Below.refl _ _).alloc (Nat.le_refl _) _).trans (E1.belowP (by rw [World.size_alloc]; omega) (Nat.le_refl _) (Ge.nil _))
       obtain ⟨k0, k1, k2, k3⟩ := (hz0.below z1 hn0).cells
       have c2 := Nodes_put wb.heap.size v1 _ f w1 W1 (by omega)
       rw [show agg4 f = .agg #[.int .u64 (f 0 : Nat), .int .u64 (f 1 : Nat), .int .u64 (f 2 : Nat), .int .u64 (f 3 : Nat)] from rfl] at c2)
    | (go_at_call 10; (with_reducible refine c2.mono ?_); rintro e w2 ⟨v2, rfl, W2, E2⟩
       have z2 : Below wb.heap.size wb w2 := z1.trans (E2.belowP z1.size (Nat.le_refl _) G1)
       have G2 : Ge wb.heap.size v2 := E2.ge G1 z1.size
       have c3 := Text_put wb.heap.size v2 _ Bo ts cb w2 W2 (ht.out.below (y0.trans (z2.mono hbs))) (fun h0 => Apart.old ht.out (by rw [List.length_map]; exact h0) hbs (Nat.le_refl _) G2) (by rw [List.length_append, sb_len]; omega) (by omega)
       rw [hCC.out] at c3)
    | (go_at_call 9; (with_reducible refine c3.mono ?_); rintro e w3 ⟨v3, rfl, W3, E3⟩
       have z3 : Below wb.heap.size wb w3 := z2.trans (E3.belowP z2.size (Nat.le_refl _) G2)
       have c4 := Bytes_any wb.heap.size v3 _ w3 W3 (by omega))
    | (go_at_call 14; (with_reducible refine c4.mono ?_); rintro e w4 ⟨v4, rfl, O4, B4⟩
       have z4 := z3.trans (B4.mono z3.size)
       obtain ⟨A4, q4, rfl, _, _, S4⟩ := O4.shape
       have c5 := New_any A4 _ q4 w4 S4 (by omega))
    | (go_at_call 17; (with_reducible refine c5.mono ?_); rintro e w5 ⟨g, rfl, Hg, R5, B5⟩
       have z5 := z4.trans (B5.mono z4.size)))
  replace Hg : wb.heap.size ≤ g := Nat.le_trans z4.size Hg
  have w5s := z5.size
  clear c1 c2 c3 c4 c5 z1 z2 z3 z4 W1 W2 W3 O4 S4 B4 B5 E1 E2 E3 k0 k1 k2 k3 G1 G2
  go_loopw [25] (fun i wr => ∃ k : Nat, k ≤ ns.length ∧ i = .int .i64 k ∧ Rdr wr g C ((ns.take k).flatMap nb).length 0 0 ∧ Below wb.heap.size wb wr) (fun i _ => ns.length - (intOf i).toNat)
  case atStart => exact ⟨0, Nat.zero_le _, rfl, R5, z5⟩
  case round =>
    obtain ⟨k, hk, rfl, R, z⟩ := hrel
    clear R5 z5
    by_cases hlt : k < ns.length
    · obtain ⟨b, o, rfl, hb, hc⟩ := hs.out.at_ (k := k) (by rw [List.length_map]; exact hlt)
      rw [List.getElem_map] at hc
      replace hc := ((y0.trans (z.mono hbs)).cell (p := ⟨b, o + k, none⟩) hb).trans hc
      have hri := hr.out ns[k] (List.getElem_mem hlt)
      have h3 := flat_three nb ns k hlt
      have hst := read_int (C := C) (P := (ns.take k).flatMap nb) (R := (ns.drop (k + 1)).flatMap nb ++ (sb f ++ ts.flatMap tb)) (n := ns[k]) (by rw [← hCC.out, h3]; simp only [List.append_assoc]) hri
      have hsn := flat_snoc nb ns k hlt
      have ci := Int_any g C _ 0 0 wr R
      rw [hst] at ci
      have hsl := fhid (show ((ns.take (k + 1)).flatMap nb).length = ((ns.take k).flatMap nb).length + (nb ns[k]).length by rw [hsn, List.length_append])
      have h2 : (k : Int) < ns.length := by omega
      have h4 : (0 : Int) ≤ k := by omega
      clear h3 hst hsn
      generalize ns[k] = n at *
      go_wp2_with (go_at_call 18; (with_reducible refine ci.mono ?_); rintro e w6 ⟨rfl, R6, t6⟩)
      go_roundw
      case rel => exact ⟨k + 1, by omega, by go_num, by rw [hsl.out]; exact R6, z.trans (Turns.below t6 Hg z.size)⟩
      case measure => simp [intOf]; omega
    · obtain rfl : k = ns.length := by omega
      have h2 : ¬ (ns.length : Int) < ns.length := by omega
      rw [List.take_length] at R
      obtain ⟨hn1, hn2⟩ := read_nodes (C := C) (P := ns.flatMap nb) (R := ts.flatMap tb) (f := f) (by rw [← hCC.out, List.append_assoc]) hf.out
      have R1 : Rdr wr.drew g C (ns.flatMap nb).length 0 0 := R
      have cd := nodes_any g C _ 0 0 wr.drew R1
      rw [hn1] at cd
      unfold NodesPost at cd
      rw [hn2] at cd
      replace cd := cd.mono (R' := fun e w' => e = .returned (.agg #[.int .u64 (f 0 : Nat), .int .u64 (f 1 : Nat), .int .u64 (f 2 : Nat), .int .u64 (f 3 : Nat)]) ∧ Rdr w' g C ((ns.flatMap nb).length + 32) 0 0 ∧ Turns wr.drew w' g) fun e w' h => h
      have hz1 := hz0.below z hn0
      have hne := same_four (f 0 : Nat) (f 1 : Nat) (f 2 : Nat) (f 3 : Nat)
      have hgb : ¬ w.heap.size = g := by omega
      have z0 : Below wb.heap.size wb wr.drew := z.drew
      obtain ⟨k0, k1, k2, k3⟩ := hz1.cells
      replace hn1 := fhid hn1
      replace hn2 := fhid hn2
      replace hz1 := fhid hz1
      go_wp2_with fail
      go_cut [37] (fun s37 wx => s37 = .bool false ∧ Rdr wx g C ((ns.flatMap nb).length + 32) 0 0 ∧ Below wb.heap.size wb wx)
      case first =>
        go_region_with (first
          | (go_at_call 19; (with_reducible refine cd.mono ?_); rintro e w6 ⟨rfl, R6, t6⟩
             have hz6 : Four w6 w.heap.size f := (t6.block w.heap.size (by exact hz1.out.lt) (fun e => hgb (by injection e))).trans hz1.out
             obtain ⟨j0, j1, j2, j3⟩ := hz6.cells
             clear hz6))
        all_goals go_wp2_with fail
        all_goals go_meet
        all_goals exact ⟨rfl, R6, z0.trans (Turns.below t6 Hg z0.size)⟩
      case rest =>
        obtain ⟨rfl, R6, z6⟩ := hcut
        have e6 : (ns.flatMap nb).length + 32 = (ns.flatMap nb ++ sb f).length := by rw [List.length_append, sb_len]
        rw [e6] at R6
        clear e6 hne cd R1 R z z0 k0 k1 k2 k3 hn1 hn2 hz1
        go_wp2_with fail
        go_loopw [40] (fun i wr => ∃ k : Nat, k ≤ ts.length ∧ i = .int .i64 k ∧ Rdr wr g C (ns.flatMap nb ++ sb f ++ (ts.take k).flatMap tb).length 0 0 ∧ Below wb.heap.size wb wr) (fun i _ => ts.length - (intOf i).toNat)
        case atStart => exact ⟨0, Nat.zero_le _, rfl, by rw [List.take_zero, List.flatMap_nil, List.append_nil]; exact R6, z6⟩
        case round =>
          rename_i u _ _ _ _ _ _ _ _ _ _ _ _ _ _ _
          obtain ⟨k, hk, rfl, R, z⟩ := hrel
          clear R6 z6
          by_cases hlt : k < ts.length
          · obtain ⟨b, o, rfl, hb, hc⟩ := ht.out.at_ (k := k) (by rw [List.length_map]; exact hlt)
            rw [List.getElem_map] at hc
            replace hc := ((y0.trans (z.mono hbs)).cell (p := ⟨b, o + k, none⟩) hb).trans hc
            have h3 := flat_three tb ts k hlt
            have hfp := flat_part tb ts (k + 1)
            have hsn := flat_snoc tb ts k hlt
            rw [hsn, List.length_append] at hfp
            have htk : (tb ts[k]).length = (nb (ts[k].length : Int)).length + ts[k].length := by unfold tb; rw [List.length_append]
            have hst := read_text (C := C) (P := ns.flatMap nb ++ sb f ++ (ts.take k).flatMap tb) (R := (ts.drop (k + 1)).flatMap tb) (t := ts[k]) (by rw [← hCC.out, h3]; simp only [List.append_assoc]) (by omega)
            have ct := text_any g C _ 0 0 (ts[k].length : Int) _ R
            rw [hst] at ct
            have hsl := fhid (show (ns.flatMap nb ++ sb f ++ (ts.take (k + 1)).flatMap tb).length = (ns.flatMap nb ++ sb f ++ (ts.take k).flatMap tb).length + (tb ts[k]).length by rw [hsn, ← List.append_assoc, List.length_append])
            have h2 : (k : Int) < ts.length := by omega
            have h4 : (0 : Int) ≤ k := by omega
            clear h3 hst hsn hfp htk
            generalize ts[k] = t at *
            have hz := str_size t
            go_wp2_with (go_at_call 20; (with_reducible refine ct.mono ?_); rintro e w7 ⟨rfl, R7, t7⟩)
            go_roundw
            case rel => exact ⟨k + 1, by omega, by go_num, by rw [hsl.out]; exact R7, z.trans (Turns.below t7 Hg z.size)⟩
            case measure => simp [intOf]; omega
          · obtain rfl : k = ts.length := by omega
            have h2 : ¬ (ts.length : Int) < ts.length := by omega
            rw [List.take_length] at R
            have ce := end_any g C _ 0 0 _ R
            rw [read_end hCC.out.symm] at ce
            go_wp2_with (first
              | (go_at_call 21; (with_reducible refine ce.mono ?_); rintro e w8 ⟨rfl, R8, t8⟩
                 have z8 := z.trans (Turns.below t8 Hg z.size))
              | (go_at_call 16; (with_reducible refine (alive_any _).mono ?_); rintro e w9 ⟨rfl, b9⟩))
            go_ret
            exact ⟨rfl, y0.trans ((z8.mono hbs).trans (b9.mono (Nat.le_trans hbs z8.size)))⟩
end Go.Proofs.Ytbclmgakifmgfaa
