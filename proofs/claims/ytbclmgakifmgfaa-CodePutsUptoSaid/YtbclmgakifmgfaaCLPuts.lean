/-
  CodePuts's walk: numbers, texts and sets, one behind the other, are the document's bytes.
-/
import Derived.Test.YtbclmgakifmgfaaCRef
import Derived.Test.YtbclmgakifmgfaaCLBack
namespace Go.Proofs.Ytbclmgakifmgfaa
open Go.RowKit

set_option maxRecDepth 100000 in
set_option maxHeartbeats 2000000 in
theorem puts_walk (A Bo : Option Addr) (ns : List Int) (ts : List (List UInt8)) (f : Nat → Nat) (ca cb : Nat) (w : World) (hs : SegV w A (ns.map (.int .i64))) (hr : ∀ n ∈ ns, InR n) (ht : SegV w Bo (ts.map fun t => .string (str t)))
    (hf : ∀ j, j < 4 → f j < 18446744073709551616) (hn : ns.length ≤ 1048576) (htl : ts.length ≤ 1048576) (hfl : (ts.flatMap tb).length ≤ 1073741824) :
    Calls Try.prog 3 #[.slice A ns.length ca, .slice Bo ts.length cb, agg4 f] w fun e w' => e = .returned (.bool true) ∧ Below w.heap.size w w' := by
  have hfn := flat_le ns hr
  have hz0 : Four (w.alloc (.cells #[.int .u64 (f 0 : Nat), .int .u64 (f 1 : Nat), .int .u64 (f 2 : Nat), .int .u64 (f 3 : Nat)] 26)) w.heap.size f := heap_alloc_new w _
  have y0 : Below w.heap.size w (w.alloc (.cells #[.int .u64 (f 0 : Nat), .int .u64 (f 1 : Nat), .int .u64 (f 2 : Nat), .int .u64 (f 3 : Nat)] 26)) := (Below.refl _ _).alloc (Nat.le_refl _) _
  have c1 := Int_put (w.alloc (.cells #[.int .u64 (f 0 : Nat), .int .u64 (f 1 : Nat), .int .u64 (f 2 : Nat), .int .u64 (f 3 : Nat)] 26)).heap.size (.slice none 0 0) [] A ns ca _ (Wr.new _) ((hs.below y0).below ((Below.refl _ _).alloc (Nat.le_refl _) _))
    (fun h0 => Apart.old hs (by rw [List.length_map]; exact h0) (Nat.le_refl _) y0.size (Ge.nil _)) hr (by rw [List.length_nil]; omega)
  rw [List.nil_append] at c1
  replace hs := fhid hs
  replace ht := fhid ht
  replace hr := fhid hr
  replace hf := fhid hf
  have hn0 := hz0.lt
  have hbs : w.heap.size ≤ (w.alloc (.cells #[.int .u64 (f 0 : Nat), .int .u64 (f 1 : Nat), .int .u64 (f 2 : Nat), .int .u64 (f 3 : Nat)] 26)).heap.size := y0.size
  rw [show agg4 f = .agg #[.int .u64 (f 0 : Nat), .int .u64 (f 1 : Nat), .int .u64 (f 2 : Nat), .int .u64 (f 3 : Nat)] from rfl]
  go_enter Try.func3, Try.ntmps3
  go_upto_region 1 with fail
  generalize w.alloc _ = wb at *
  have hC : (ns.flatMap nb ++ ts.flatMap tb ++ sb f).length ≤ 1084227584 + 32 := by
    rw [List.length_append, List.length_append, sb_len]; omega
  obtain ⟨C, hCC⟩ : ∃ C, ns.flatMap nb ++ ts.flatMap tb ++ sb f = C := ⟨_, rfl⟩
  rw [hCC] at hC
  replace hCC := fhid hCC
  go_wp2_with (first
    | (go_at_call 8; (with_reducible refine c1.mono ?_); rintro e w1 ⟨v1, rfl, W1, E1⟩
       have G1 : Ge wb.heap.size v1 := E1.ge (Ge.nil _) (by rw [World.size_alloc]; omega)
       have z1 : Below wb.heap.size wb w1 := ((Below.refl _ _).alloc (Nat.le_refl _) _).trans (E1.belowP (by rw [World.size_alloc]; omega) (Nat.le_refl _) (Ge.nil _))
       have c2 := Text_put wb.heap.size v1 _ Bo ts cb w1 W1 (ht.out.below (y0.trans (z1.mono hbs))) (fun h0 => Apart.old ht.out (by rw [List.length_map]; exact h0) hbs (Nat.le_refl _) G1) (by omega) (by omega))
    | (go_at_call 9; (with_reducible refine c2.mono ?_); rintro e w2 ⟨v2, rfl, W2, E2⟩
       have z2 : Below wb.heap.size wb w2 := z1.trans (E2.belowP z1.size (Nat.le_refl _) G1)
       have G2 : Ge wb.heap.size v2 := E2.ge G1 z1.size
       obtain ⟨k0, k1, k2, k3⟩ := (hz0.below z2 hn0).cells
       have c3 := Nodes_put wb.heap.size v2 _ f w2 W2 (by rw [List.length_append]; omega)
       rw [show agg4 f = .agg #[.int .u64 (f 0 : Nat), .int .u64 (f 1 : Nat), .int .u64 (f 2 : Nat), .int .u64 (f 3 : Nat)] from rfl, hCC.out] at c3)
    | (go_at_call 10; (with_reducible refine c3.mono ?_); rintro e w3 ⟨v3, rfl, W3, E3⟩
       have z3 : Below wb.heap.size wb w3 := z2.trans (E3.belowP z2.size (Nat.le_refl _) G2)))
  clear c1 c2 c3 z1 z2 W1 W2 E1 E2 E3 k0 k1 k2 k3 G1 G2
  have hz3 := hz0.below z3 hn0
  have y3 := y0.trans (z3.mono hbs)
  replace W3 := fhid W3
  go_loopw [8, 21] (fun v i wr => ∃ k : Nat, k ≤ ns.length ∧ i = .int .i64 k ∧ Own wr w3.heap.size v ((ns.take k).flatMap nb) ∧ Below w3.heap.size w3 wr) (fun _ i _ => ns.length - (intOf i).toNat)
  case atStart => exact ⟨0, Nat.zero_le _, rfl, Own.none_ _ _, Below.refl _ _⟩
  case round =>
    obtain ⟨k, hk, rfl, hO, z⟩ := hrel
    by_cases hlt : k < ns.length
    · obtain ⟨b, o, rfl, hb, hc⟩ := hs.out.at_ (k := k) (by rw [List.length_map]; exact hlt)
      rw [List.getElem_map] at hc
      replace hc := ((y3.trans (z.mono y3.size)).cell (p := ⟨b, o + k, none⟩) hb).trans hc
      have hri := hr.out ns[k] (List.getElem_mem hlt)
      have hsn := fhid (flat_snoc nb ns k hlt)
      have hfp := flat_part nb ns k
      obtain ⟨P, hP⟩ : ∃ P, (ns.take k).flatMap nb = P := ⟨_, rfl⟩
      rw [hP] at hO hsn hfp
      replace hP := fhid hP
      obtain ⟨A8, k8, rfl, _, _, s8⟩ := hO.shape
      generalize ns[k] = n at *
      have ci := rInt_any A8 _ k8 n wr s8 hri (by omega)
      have h2 : (k : Int) < ns.length := by omega
      have h4 : (0 : Int) ≤ k := by omega
      clear s8 hO hri
      go_wp2_with (go_at_call 11; (with_reducible refine ci.mono ?_); rintro e w6 ⟨v6, rfl, o6, b6⟩)
      go_roundw
      case rel => exact ⟨k + 1, by omega, by go_num, by rw [hsn.out]; exact o6.weak z.size, z.trans (b6.mono z.size)⟩
      case measure => simp [intOf]; omega
    · obtain rfl : k = ns.length := by omega
      have h2 : ¬ (ns.length : Int) < ns.length := by omega
      rw [List.take_length] at hO
      obtain ⟨wo, rfl⟩ : ∃ wo : World, wo = wr := ⟨_, rfl⟩
      go_wp2_with fail
      go_loopw [8, 31] (fun v i wr => ∃ k : Nat, k ≤ ts.length ∧ i = .int .i64 k ∧ Own wr w3.heap.size v (ns.flatMap nb ++ (ts.take k).flatMap tb) ∧ Below w3.heap.size w3 wr) (fun _ i _ => ts.length - (intOf i).toNat)
      case atStart => exact ⟨0, Nat.zero_le _, rfl, by rw [List.take_zero, List.flatMap_nil, List.append_nil]; exact hO, z⟩
      case round =>
        obtain ⟨k, hk, rfl, hO, z⟩ := hrel
        by_cases hlt : k < ts.length
        · obtain ⟨b, o, rfl, hb, hc⟩ := ht.out.at_ (k := k) (by rw [List.length_map]; exact hlt)
          rw [List.getElem_map] at hc
          replace hc := ((y3.trans (z.mono y3.size)).cell (p := ⟨b, o + k, none⟩) hb).trans hc
          have hsn := flat_snoc tb ts k hlt
          have hfp := flat_part tb ts (k + 1)
          rw [hsn, List.length_append] at hfp
          have htk : (tb ts[k]).length = (nb (ts[k].length : Int)).length + ts[k].length := by unfold tb; rw [List.length_append]
          have hsl := fhid (show ns.flatMap nb ++ (ts.take (k + 1)).flatMap tb = (ns.flatMap nb ++ (ts.take k).flatMap tb) ++ tb ts[k] by rw [hsn, List.append_assoc])
          obtain ⟨P, hP⟩ : ∃ P, ns.flatMap nb ++ (ts.take k).flatMap tb = P := ⟨_, rfl⟩
          have hPl : P.length = (ns.flatMap nb).length + ((ts.take k).flatMap tb).length := by rw [← hP, List.length_append]
          rw [hP] at hO hsl
          replace hP := fhid hP
          clear hsn
          obtain ⟨A8, k8, rfl, _, _, s8⟩ := hO.shape
          generalize ts[k] = t at *
          have ci := rText_any A8 P k8 t wr s8 (by omega)
          have h2 : (k : Int) < ts.length := by omega
          have h4 : (0 : Int) ≤ k := by omega
          clear s8 hO hfp htk hPl
          go_wp2_with (go_at_call 12; (with_reducible refine ci.mono ?_); rintro e w6 ⟨v6, rfl, o6, b6⟩)
          go_roundw
          case rel => exact ⟨k + 1, by omega, by go_num, by rw [hsl.out]; exact o6.weak z.size, z.trans (b6.mono z.size)⟩
          case measure => simp [intOf]; omega
        · obtain rfl : k = ts.length := by omega
          have h2 : ¬ (ts.length : Int) < ts.length := by omega
          rw [List.take_length] at hO
          obtain ⟨P, hP⟩ : ∃ P, ns.flatMap nb ++ ts.flatMap tb = P := ⟨_, rfl⟩
          have hPC := fhid (show P ++ sb f = C by rw [← hP]; exact hCC.out)
          rw [hP] at hO
          replace hP := fhid hP
          have hPl : P.length ≤ C.length := by rw [← hPC.out, List.length_append]; omega
          obtain ⟨A8, k8, rfl, _, _, s8⟩ := hO.shape
          have W4 := W3.out.below z
          have hz4 := fhid (hz3.below z hz3.lt)
          have y4 := y3.trans (z.mono y3.size)
          have cB := fun u (b : Below wr.heap.size wr u) => Bytes_any wb.heap.size v3 C u (W4.below b) (by omega)
          have cN := fun u (b : Below wr.heap.size wr u) => rNodes_any A8 P k8 f u ((s8.below b).more b.size) hf.out (by omega)
          rw [hPC.out] at cN
          rw [show agg4 f = .agg #[.int .u64 (f 0 : Nat), .int .u64 (f 1 : Nat), .int .u64 (f 2 : Nat), .int .u64 (f 3 : Nat)] from rfl] at cN
          obtain ⟨j0, j1, j2, j3⟩ := hz4.out.cells
          have zz : Below wr.heap.size wr wr.drew := (Below.refl _ _).drew
          have hwz := hz4.out.lt
          clear hO s8 W4 hPl
          go_wp2_with fail
          go_region_with (first
            | (go_at_call 14
               (with_reducible refine (cB _ zz).mono ?_)
               rintro e u1 ⟨v1, rfl, o1, b1⟩
               obtain ⟨A1, q1, rfl, _, _, s1⟩ := o1.shape
               (try (have s2 := s2.below b1))
               have zz := zz.trans (b1.mono zz.size)
               obtain ⟨j0, j1, j2, j3⟩ := (hz4.out.below zz hwz).cells)
            | (go_at_call 15
               (with_reducible refine (cN _ zz).mono ?_)
               rintro e u2 ⟨v2, rfl, o2, b2⟩
               obtain ⟨A2, q2, rfl, _, _, s2⟩ := o2.shape
               (try (have s1 := s1.below b2))
               have zz := zz.trans (b2.mono zz.size)
               obtain ⟨j0, j1, j2, j3⟩ := (hz4.out.below zz hwz).cells)
            | (go_at_call 13
               (with_reducible refine (Same_same A1 A2 C q1 q2 _ _ _ s1 s2).mono ?_)
               rintro e u3 ⟨rfl, rfl⟩)
            | (go_at_call 16
               (with_reducible refine (alive_any _).mono ?_)
               rintro e u4 ⟨rfl, b4⟩
               have zz := zz.trans (b4.mono zz.size)))
          all_goals
            go_wp2_with fail
            go_ret
            exact ⟨rfl, y4.trans (zz.mono y4.size)⟩
end Go.Proofs.Ytbclmgakifmgfaa
