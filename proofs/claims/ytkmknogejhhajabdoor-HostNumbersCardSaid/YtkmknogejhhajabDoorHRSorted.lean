/-
  Names in order, by the document.
-/
import Derived.Test.YtkmknogejhhajabDoorHSortM
import Derived.Test.YtkmknogejhhajabDoorHRLess2
import Derived.Test.YtkmknogejhhajabDoorHJoin
import Derived.BigRegion
import Derived.Deep.DeepCutAuto
import Derived.Deep.CutBlock
import Derived.Deep.RegionLaw
import Derived.Lib.QuietBelow
namespace Go.Proofs.YtkmknogejhhajabDoor
open Go.RowKit

theorem run_strs {w : World} (rt : TypeId) (base : Nat) (v : Value) (ns js : List (List UInt8)) (hown : OwnS w base v ns) (B : Nat) (A : Option Addr) (c : Nat) (hj : Strs w B A js) (hlen : ns.length + js.length ≤ 10000000) (hbase : base ≤ w.heap.size) :
    ∃ v' w', (Builtin.append_ #[22, 22] rt #[v, .slice A js.length c]).run Tryd.prog w = .ok v' w' ∧ OwnS w' base v' (ns ++ js) ∧ Below base w w' := by
  obtain ⟨i0, hi, hz0, hz1, hz2⟩ := info_parts infoString
  have hl : (SV js).length = js.length * 1 := by rw [SV_len, Nat.mul_one]
  have hrun : ∃ v' w', (Builtin.append_ #[22, 22] rt #[v, .slice A js.length c]).run Tryd.prog w = .ok v' w' ∧ w'.ownsRow base 9 1 v' (ns.length + js.length) (SV ns ++ SV js) ∧ w.grownBy w' v.ownBlock := by
    by_cases h0 : 0 < js.length
    · obtain ⟨b, of, rfl, _, hc⟩ := hj (by rw [SV_len]; exact h0)
      obtain ⟨v', w', hrun, h2, h3, _, _⟩ := run_append_own_at (P := Tryd.prog) w base 22 rt 9 i0 (.string ⟨#[]⟩) 1 16 Tryd.underlying22 hi hz0 hz1 hz2 rfl (by decide) v ns.length (SV ns) hown ⟨b, of, none⟩ js.length c (SV js) hl (fun j u hu => by
          obtain ⟨hj, rfl⟩ := List.getElem?_eq_some_iff.1 hu
          have := hc j hj
          unfold Addr.add
          by_cases hz : j = 0
          · subst hz; rw [if_pos rfl]; exact this
          · rw [if_neg hz]; exact this) (SV_one js) (by unfold maxLen; omega) (by omega) hbase
      exact ⟨v', w', hrun, h2, h3⟩
    · have hm : js.length = 0 := by omega
      obtain rfl : js = [] := List.eq_nil_of_length_eq_zero hm
      cases A with
      | none =>
        refine ⟨v, w, ?_, by simpa [SV, OwnS] using hown, ⟨rfl, rfl, rfl, Nat.le_refl _, fun _ _ _ => rfl⟩⟩
        rcases hown.2 with ⟨rfl, hn⟩ | ⟨g, cap, cur, rfl, _, _, hnc, _⟩
        · simp [Builtin.append_, run_underlying Tryd.underlying22, sizeOf, typeInfo, hi, Builtin.lenOf, Builtin.firstCells]
        · simp [Builtin.append_, run_underlying Tryd.underlying22, sizeOf, typeInfo, hi, Builtin.lenOf, Builtin.firstCells, hnc, storeCells]
      | some ad =>
        obtain ⟨v', w', hrun, h2, h3, _, _⟩ := run_append_own_at (P := Tryd.prog) w base 22 rt 9 i0 (.string ⟨#[]⟩) 1 16 Tryd.underlying22 hi hz0 hz1 hz2 rfl (by decide) v ns.length (SV ns) hown ad 0 c [] (by simp) (fun j u hu => by simp at hu) (fun u hu => by simp at hu) (by unfold maxLen; omega) (by simp only [List.length_nil, Nat.add_zero] at hlen; omega) hbase
        exact ⟨v', w', hrun, h2, h3⟩
  obtain ⟨v', w', hrun, h2, h3⟩ := hrun
  refine ⟨v', w', hrun, ?_, (Below.refl _ _).grown h3 hbase (fun k hk => ownsRow_ge hown k hk)⟩
  unfold OwnS
  rw [SV_app, List.length_append]
  exact h2
/-- Names put behind names, inside a region that draws its order. -/
theorem step_names {w : World} {ops : Array Oper} {o : Oper} {a : Act} {K : Act → World → Prop} {Q : Exit → Act → World → Prop} {E : Prop} (hgd : o.guard = none) (s x : Operand) (ho : o.op = .call { callee := .builtin .append, args := #[s, x], argTypes := #[22, 22] })
    (base : Nat) (v : Value) (ns js : List (List UInt8)) (m : Nat) (hm : m = js.length) (hs : a.eval s = v) (hown : OwnS w base v ns) (B : Nat) (A : Option Addr) (c : Nat) (hx : a.eval x = .slice A m c) (hj : Strs w B A js) (hlen : ns.length + js.length ≤ 10000000) (hbase : base ≤ w.heap.size)
    (h : ∀ v' w', OwnS w' base v' (ns ++ js) → Below base w w' → K (a.put o.dst v') w') : if Region.wanted o (yielded ops a.tmps) = true then Oper.wp Tryd.prog o a w K Q else E := by
  have hwt : Region.wanted o (yielded ops a.tmps) = true := by simp [Region.wanted, hgd]
  rw [if_pos hwt]
  subst hm
  obtain ⟨v', w', hrun, h2, h3⟩ := run_strs o.type base v ns js hown B A c hj hlen hbase
  unfold Oper.wp
  simp [execOp, ho, resolve, invoke, builtin, hs, hx, hrun, Result.andThen]
  exact h v' w' h2 h3
theorem SV_take (ns : List (List UInt8)) (k : Nat) : (SV ns).take k = SV (ns.take k) := by simp [SV, List.map_take]
theorem SV_drop (ns : List (List UInt8)) (k : Nat) : (SV ns).drop k = SV (ns.drop k) := by simp [SV, List.map_drop]
/-- Where the putting in order is. -/
def RSRel (w : World) (ls : List (List UInt8)) (v i : Value) (wr : World) : Prop := ∃ (j : Nat) (out : List (List UInt8)), j ≤ ls.length ∧ i = .int .i64 (j : Int) ∧ OwnS wr w.heap.size v out ∧ Srt out ∧ out.Perm (ls.take j) ∧ Below w.heap.size w wr
set_option maxRecDepth 100000 in
set_option maxHeartbeats 4000000 in
theorem rSorted_any (ls : List (List UInt8)) (A : Option Addr) (cap : Nat) (w : World) (hs : Strs w w.heap.size A ls) (hl : ls.length ≤ 1000) (hx : ∀ x ∈ ls, x.length ≤ 1000) :
    Calls Tryd.prog 10 #[.slice A ls.length cap] w fun e w' => ∃ v, e = .returned v ∧ ∃ ks, OwnS w' w.heap.size v ks ∧ Srt ks ∧ ks.Perm ls ∧ Below w.heap.size w w' := by
  replace hs := fhid hs
  replace hx := fhid hx
  go_enter Tryd.func10, Tryd.ntmps10
  go_wp2_with fail
  go_loopw [3, 4] (fun v i wr => RSRel w ls v i wr) (fun _ i _ => ls.length - (intOf i).toNat)
  case atStart => exact ⟨0, [], Nat.zero_le _, rfl, OwnS.nil _ _, List.Pairwise.nil, by simp, Below.refl _ _⟩
  case round =>
    obtain ⟨j, out, hjl, rfl, hO, hS, hP, hB⟩ := hrel
    have hsz := hB.size
    rename World => wo
    obtain rfl : j = out.length := by rw [hP.length_eq, List.length_take]; omega
    obtain ⟨Ao, co, rfl, hoc, hocm, hoi⟩ := OwnS.shape hO
    by_cases hlt : out.length < ls.length
    · have i1 : (out.length : Int) < ls.length := by omega
      have i0 : (0 : Int) ≤ out.length := by omega
      obtain ⟨bA, oA, rfl, hbA, cA⟩ := Strs.at_ (Strs.below hs.out hB) hlt
      have hxj := hx.out ls[out.length] (List.getElem_mem hlt)
      have hPn : ls.take (out.length + 1) = ls.take out.length ++ [ls[out.length]] := List.take_succ_eq_append_getElem hlt
      generalize ls[out.length] = x at *
      have hox := fhid (show ∀ y ∈ out, y.length ≤ 1000 from fun y hy => hx.out y (List.mem_of_mem_take (hP.mem_iff.1 hy)))
      replace hO := fhid hO
      replace hoi := fhid hoi
      replace hPn := fhid hPn
      go_upto_region 5 with fail
      go_upto_block 2 with fail
      go_cut [5] (fun t wx => ∃ k : Nat, k ≤ out.length ∧ t = .int .i64 (k : Int) ∧ (∀ i (h : i < out.length), k ≤ i → ltOf cmpN x out[i] = true) ∧ (∀ i (h : i < out.length), i + 1 = k → ltOf cmpN x out[i] = false) ∧ Below wo.heap.size wo wx)
      case first =>
        go_wp2_with fail
        go_loopw [5] (fun t wx => ∃ k : Nat, k ≤ out.length ∧ t = .int .i64 (k : Int) ∧ (∀ i (h : i < out.length), k ≤ i → ltOf cmpN x out[i] = true) ∧ Below wo.heap.size wo wx) (fun t _ => (intOf t).toNat)
        case atStart => exact ⟨out.length, Nat.le_refl _, rfl, fun i h h' => absurd h (by omega), Below.refl _ _⟩
        case round =>
          obtain ⟨k, hk, rfl, hhi, hB2⟩ := hrel
          rename World => wq
          have cA2 := (hB2.cell (p := ⟨bA, oA + out.length, none⟩) (show bA < wo.heap.size by omega)).trans cA
          clear cA
          have m1 := fun d os => cell_regrown cA2 d os
          rcases k with _ | m
          · have k1 : ¬ (0 : Int) < (0 : Nat) := by omega
            replace hhi := fhid hhi
            go_wp2_with fail
            clear cA2
            refine wp_region_quiet_below (by kernel_rfl) (by kernel_rfl) ?_
            repeat (first | go_big_quiet_step (fail) | quiet_step (fail))
            refine wpQuiet_nil ?_
            rintro w9 ⟨pq, rfl⟩
            have b9 := below_regrown wq pq.d pq.os
            generalize Sort.grow (redrawn wq pq.d) pq.os = w9 at *
            go_wp2_with fail
            go_meet
            exact ⟨0, hk, rfl, hhi.out, (fun i _ e => by omega), hB2.trans (b9.mono hB2.size)⟩
          · have hml : m < out.length := by omega
            obtain ⟨bo, oo, rfl, hbo, cO⟩ := Strs.at_ hoi.out hml
            have cO2 := (hB2.cell (p := ⟨bo, oo + m, none⟩) hbo).trans cO
            have hls := fun W => rless_any (str x) (str out[m]) W (by rw [str_size]; omega) (by rw [str_size]; have := hox.out out[m] (List.getElem_mem hml); omega)
            simp only [bl_str] at hls
            have hhi2 : ltOf cmpN x out[m] = true → Hid (∀ i (h : i < out.length), m ≤ i → ltOf cmpN x out[i] = true) := fun e => fhid (fun i h h' => by
              by_cases he : i = m
              · subst he; exact e
              · exact hhi i h (by omega))
            have hlo2 : ltOf cmpN x out[m] = false → Hid (∀ i (h : i < out.length), i + 1 = m + 1 → ltOf cmpN x out[i] = false) := fun e => fhid (fun i h h' => by
              obtain rfl : i = m := by omega
              exact e)
            generalize hRR : ltOf cmpN x out[m] = R at *
            generalize out[m] = y at *
            have hlb : ∀ W, Calls Tryd.prog 19 #[.string (str x), .string (str y)] W fun e w' => e = .returned (.bool R) ∧ Below W.heap.size W w' := fun W => (hls W).mono fun _ _ ⟨he, hg⟩ => ⟨he, hg.below⟩
            have k1 : (0 : Int) < (m : Int) + 1 := by omega
            have k2 : (m : Int) < out.length := by omega
            have k3 : (0 : Int) ≤ m := by omega
            have m2 := fun d os => cell_regrown cO2 d os
            have m3 := fun d os => Calls.regrown_of (hlb (Sort.grow (redrawn wq d) os))
            replace hhi := fhid hhi
            clear cO hls hlb
            cases R with
            | true =>
              have hnx := hhi2 rfl
              clear hhi2 hlo2
              go_wp2_with fail
              clear cA2 cO2
              refine wp_region_quiet_below (by kernel_rfl) (by kernel_rfl) ?_
              repeat (first | go_big_quiet_step (exact m3 _ _) | quiet_step (exact m3 _ _))
              refine wpQuiet_nil ?_
              rintro w9 ⟨pq, rfl⟩
              have b9 := below_regrown wq pq.d pq.os
              generalize Sort.grow (redrawn wq pq.d) pq.os = w9 at *
              go_wp2_with fail
              go_roundw
              case rel => exact ⟨m, by omega, by go_num, hnx.out, hB2.trans (b9.mono hB2.size)⟩
              case measure => simp [intOf]
            | false =>
              have hnx := hlo2 rfl
              clear hhi2 hlo2
              go_wp2_with fail
              clear cA2 cO2
              refine wp_region_quiet_below (by kernel_rfl) (by kernel_rfl) ?_
              repeat (first | go_big_quiet_step (exact m3 _ _) | quiet_step (exact m3 _ _))
              refine wpQuiet_nil ?_
              rintro w9 ⟨pq, rfl⟩
              have b9 := below_regrown wq pq.d pq.os
              generalize Sort.grow (redrawn wq pq.d) pq.os = w9 at *
              go_wp2_with fail
              go_meet
              exact ⟨m + 1, hk, by go_num, hhi.out, hnx.out, hB2.trans (b9.mono hB2.size)⟩
      case rest =>
        obtain ⟨k, hk, rfl, hhi, hlo, hB2⟩ := hcut
        rename World => wq
        have cA2 := (hB2.cell (p := ⟨bA, oA + out.length, none⟩) (show bA < wo.heap.size by omega)).trans cA
        have hbq := hB2.size
        obtain ⟨hS2, hP2⟩ := srt_ins hS hk hhi (fun h => hlo (k - 1) (by omega) (by omega))
        have hoi2 := Strs.more (Strs.below hoi.out hB2) hbq
        have zz : Below wq.heap.size wq wq.drew := (Below.refl _ _).drew
        have k0 : (0 : Int) ≤ k := by omega
        have k2 : (k : Int) ≤ out.length := by omega
        have k3 : (k : Int) ≤ co := by omega
        have k4 : (out.length : Int) ≤ co := by omega
        have ht : Strs wq wq.heap.size Ao (out.take k) := Strs.take hoi2 k
        have hd : Strs wq wq.heap.size (if co = k then Ao else Ao.map (·.add k)) (out.drop k) := Strs.drop hoi2 hk hoc
        have l1 : k = (out.take k).length := by rw [List.length_take]; omega
        have l2 : out.length - k = (out.drop k).length := List.length_drop.symm
        have l3 : ([] : List (List UInt8)).length + (out.take k).length ≤ 10000000 := by rw [← l1, List.length_nil]; omega
        have l4 : ([] ++ out.take k).length + [x].length ≤ 10000000 := by rw [List.nil_append, ← l1, List.length_singleton]; omega
        have l5 : (([] ++ out.take k) ++ [x]).length + (out.drop k).length ≤ 10000000 := by rw [List.length_append, List.nil_append, ← l1, ← l2, List.length_singleton]; omega
        have hres : Hid (Srt ((([] ++ out.take k) ++ [x]) ++ out.drop k) ∧ ((([] ++ out.take k) ++ [x]) ++ out.drop k).Perm (ls.take (out.length + 1))) := by
          rw [List.nil_append, List.append_assoc]
          refine ⟨hS2, hP2.trans ?_⟩
          rw [hPn.out]
          exact hP.append_right [x]
        replace ht := fhid ht
        replace hd := fhid hd
        clear hhi hlo hoi2 hP2 hS2 hP hS
        generalize out.take k = o1 at *
        generalize out.drop k = o2 at *
        replace l1 := fhid l1
        replace l2 := fhid l2
        replace l3 := fhid l3
        replace l4 := fhid l4
        replace l5 := fhid l5
        have hbA2 : bA < wq.heap.size := by omega
        clear cA
        have cA3 := (zz.cell (p := ⟨bA, oA + out.length, none⟩) hbA2).trans cA2
        go_upto_region 8 with fail
        go_region_law (first
          | (refine step_names rfl (.tmp 39) (.tmp 42) rfl wq.heap.size v4 (([] ++ o1) ++ [x]) o2 (out.length - k) l2.out (by simp [Act.eval]) o4.out wq.heap.size (if co = k then Ao else Ao.map (·.add k)) (co - k) (by simp [Act.eval]) (Strs.below hd.out z4) l5.out z4.size ?_
             intro v5 w5 o5 b5
             have z5 : Below wq.heap.size wq w5 := z4.trans b5)
          | (refine step_names rfl (.tmp 33) (.tmp 38) rfl wq.heap.size v3 ([] ++ o1) [x] 1 rfl (by simp [Act.eval]) (by first | exact o3.out | exact OwnS.below o3.out ((Below.refl _ _).alloc (Nat.le_refl _) _)) _ _ 1 (by simp [Act.eval]; rfl) (by first | exact one_cells _ [.string (str x)] _ | exact SegC.below (one_cells _ [.string (str x)] _) (b3.mono (by rw [World.size_alloc]; exact Nat.le_refl _))) l4.out (by first | exact z3.size | exact (z3.alloc z3.size _).size) ?_
             intro v4 w4 o4 b4
             have z4 : Below wq.heap.size wq w4 := (by first | exact z3.trans b4 | exact (z3.alloc z3.size _).trans b4)
             replace o4 := fhid o4)
          | (refine step_names rfl (.const (.slice none 0 0)) (.tmp 32) rfl _ (.slice none 0 0) [] o1 k l1.out (by simp [Act.eval]) (OwnS.nil _ _) wq.heap.size Ao co (by simp [Act.eval, Act.put]) (by first | exact Strs.below ht.out zz | exact Strs.below ht.out (zz.alloc zz.size _)) l3.out (Nat.le_refl _) ?_
             intro v3 w3 o3 b3
             have z3 : Below wq.heap.size wq w3 := (by first | exact zz.trans (b3.mono zz.size) | exact (zz.alloc zz.size _).trans (b3.mono (zz.alloc zz.size _).size))
             have cA4 := (z3.cell (p := ⟨bA, oA + out.length, none⟩) hbA2).trans cA2
             replace o3 := fhid (show OwnS w3 wq.heap.size v3 ([] ++ o1) from OwnS.base o3 (by first | exact zz.size | exact (zz.alloc zz.size _).size)))
          | (refine step_names rfl (.tmp 33) (.tmp 38) rfl wq.heap.size v3 ([] ++ o1) [x] 1 rfl (by simp [Act.eval]) o3.out (wq.heap.size + 1) (some ⟨wq.heap.size, 0, none⟩) 1 (by simp [Act.eval]) (SegC.below (one_cells wq.drew [.string (str x)] 9) (b3.mono (by simp))) l4.out z3.size ?_
             intro v4 w4 o4 b4
             have z4 : Below wq.heap.size wq w4 := z3.trans b4
             replace o4 := fhid o4))
        all_goals
          have hl5 : (([] ++ o1) ++ [x] ++ o2).length = out.length + 1 := by
            have h1 := l1.out
            have h2 := l2.out
            simp only [List.length_append, List.length_nil, List.length_singleton]
            omega
          go_wp2_with fail
          go_roundw
          case rel => exact ⟨out.length + 1, _, by omega, by go_num, OwnS.base o5 (by omega), hres.out.1, hres.out.2, (hB.trans (hB2.mono hsz)).trans (z5.mono (by omega))⟩
          case measure => simp [intOf]; omega
    · have i1 : ¬ (out.length : Int) < ls.length := by omega
      have e : out.length = ls.length := by omega
      rw [e, List.take_length] at hP
      clear e
      replace hS := fhid hS
      replace hP := fhid hP
      replace hO := fhid hO
      go_wp2_with fail
      go_ret
      exact ⟨_, rfl, out, hO.out, hS.out, hP.out, hB⟩
end Go.Proofs.YtkmknogejhhajabDoor
