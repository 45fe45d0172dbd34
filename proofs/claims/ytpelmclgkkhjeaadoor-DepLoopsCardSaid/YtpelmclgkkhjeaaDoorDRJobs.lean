/-
  All numbers of a dependency, rising, each once, by the document.
-/
import Derived.Test.YtpelmclgkkhjeaaDoorDJobs
import Derived.Test.YtpelmclgkkhjeaaDoorDAlive
import Derived.BigRegion
import Derived.Deep.DeepCutAuto
import Derived.Deep.CutBlock
import Derived.Deep.RegionLaw
namespace Go.Proofs.YtpelmclgkkhjeaaDoor
open Go.RowKit

/-- How many stand ahead. -/
def ahd (out : List Int) (n : Int) : Nat := (out.takeWhile fun x => decide (x < n)).length
/-- One number put in its place, if it is not there. -/
def refIns (out : List Int) (n : Int) : List Int := if out[ahd out n]? = some n then out else out.take (ahd out n) ++ ([n] ++ out.drop (ahd out n))
def insAll (zs : List Int) : List Int := zs.foldl refIns []
theorem insAll_snoc (zs : List Int) (n : Int) : insAll (zs ++ [n]) = refIns (insAll zs) n := by simp [insAll, List.foldl_append]
theorem refIns_len (out : List Int) (n : Int) : (refIns out n).length ≤ out.length + 1 := by
  unfold refIns
  split
  · omega
  · simp only [List.length_append, List.length_take, List.length_drop, List.length_cons, List.length_nil]
    omega
theorem insAll_len (zs : List Int) : (insAll zs).length ≤ zs.length := by
  suffices h : ∀ (zs out : List Int), (zs.foldl refIns out).length ≤ out.length + zs.length by
    have := h zs []
    simpa [insAll] using this
  intro zs
  induction zs with
  | nil => intro out; simp
  | cons x r ih =>
    intro out
    have h1 := ih (refIns out x)
    have h2 := refIns_len out x
    rw [List.foldl_cons, List.length_cons]
    omega
theorem tw_len {p : Int → Bool} (l : List Int) (j : Nat) (hj : j ≤ l.length) (ha : ∀ i (h : i < l.length), i < j → p l[i] = true) (hs : ∀ h : j < l.length, p l[j] = false) : (l.takeWhile p).length = j := by
  induction l generalizing j with
  | nil => simp at hj; subst hj; rfl
  | cons x r ih =>
    cases j with
    | zero =>
      have := hs (by simp)
      simp at this
      simp [this]
    | succ j =>
      have h0 := ha 0 (by simp) (by omega)
      simp at h0
      rw [List.takeWhile_cons, if_pos h0, List.length_cons, ih j (by simpa using hj) (fun i h hi => by have := ha (i + 1) (by rw [List.length_cons]; omega) (by omega); rwa [List.getElem_cons_succ] at this) (fun h => by have := hs (by rw [List.length_cons]; omega); rwa [List.getElem_cons_succ] at this)]
theorem ahd_at {out : List Int} {n : Int} {t : Nat} (ht : t ≤ out.length) (h : ∀ i (h : i < out.length), i < t → out[i] < n) (hn : ∀ h : t < out.length, ¬ out[t] < n) : ahd out n = t := by
  unfold ahd
  exact tw_len out t ht (fun i hi hit => by simpa using h i hi hit) (fun h => by simpa using hn h)
theorem ref_put {out : List Int} {n : Int} {t : Nat} (ht : t ≤ out.length) (h : ∀ i (h : i < out.length), i < t → out[i] < n) (hn : ∀ h : t < out.length, ¬ out[t] < n) (he : ¬ out[t]? = some n) : refIns out n = ([] ++ out.take t) ++ [n] ++ out.drop t := by
  unfold refIns
  rw [ahd_at ht h hn, if_neg he, List.nil_append, List.append_assoc]
theorem ref_there {out : List Int} {n : Int} {t : Nat} (ht : t ≤ out.length) (h : ∀ i (h : i < out.length), i < t → out[i] < n) (hn : ∀ h : t < out.length, ¬ out[t] < n) (he : out[t]? = some n) : refIns out n = out := by
  unfold refIns
  rw [ahd_at ht h hn, if_pos he]
theorem run_nums {w : World} (rt : TypeId) (base : Nat) (v : Value) (ns js : List Int) (hown : OwnI w base v ns) (B : Nat) (A : Option Addr) (c : Nat) (hj : Ints w B A js) (hlen : ns.length + js.length ≤ 10000000) (hbase : base ≤ w.heap.size) :
    ∃ v' w', (Builtin.append_ #[38, 38] rt #[v, .slice A js.length c]).run Tryd.prog w = .ok v' w' ∧ OwnI w' base v' (ns ++ js) ∧ Below base w w' := by
  obtain ⟨i0, hi, hz0, hz1, hz2⟩ := info_parts infoInt
  have hl : (IV js).length = js.length * 1 := by rw [IV_len, Nat.mul_one]
  have hrun : ∃ v' w', (Builtin.append_ #[38, 38] rt #[v, .slice A js.length c]).run Tryd.prog w = .ok v' w' ∧ w'.ownsRow base 3 1 v' (ns.length + js.length) (IV ns ++ IV js) ∧ w.grownBy w' v.ownBlock := by
    by_cases h0 : 0 < js.length
    · obtain ⟨b, of, rfl, _, hc⟩ := hj (by rw [IV_len]; exact h0)
      obtain ⟨v', w', hrun, h2, h3, _, _⟩ := run_append_own_at (P := Tryd.prog) w base 38 rt 3 i0 (.int .i64 0) 1 8 Tryd.underlying38 hi hz0 hz1 hz2 rfl (by decide) v ns.length (IV ns) hown ⟨b, of, none⟩ js.length c (IV js) hl (fun j u hu => by
          obtain ⟨hj, rfl⟩ := List.getElem?_eq_some_iff.1 hu
          have := hc j hj
          unfold Addr.add
          by_cases hz : j = 0
          · subst hz; rw [if_pos rfl]; exact this
          · rw [if_neg hz]; exact this) (fun u hu => by
            obtain ⟨n, _, rfl⟩ := List.mem_map.1 hu
            rfl) (by unfold maxLen; omega) (by omega) hbase
      exact ⟨v', w', hrun, h2, h3⟩
    · have hm : js.length = 0 := by omega
      obtain rfl : js = [] := List.eq_nil_of_length_eq_zero hm
      cases A with
      | none =>
        refine ⟨v, w, ?_, by simpa [IV, OwnI] using hown, ⟨rfl, rfl, rfl, Nat.le_refl _, fun _ _ _ => rfl⟩⟩
        rcases hown.2 with ⟨rfl, hn⟩ | ⟨g, cap, cur, rfl, _, _, hnc, _⟩
        · simp [Builtin.append_, run_underlying Tryd.underlying38, sizeOf, typeInfo, hi, Builtin.lenOf, Builtin.firstCells]
        · simp [Builtin.append_, run_underlying Tryd.underlying38, sizeOf, typeInfo, hi, Builtin.lenOf, Builtin.firstCells, hnc, storeCells]
      | some ad =>
        obtain ⟨v', w', hrun, h2, h3, _, _⟩ := run_append_own_at (P := Tryd.prog) w base 38 rt 3 i0 (.int .i64 0) 1 8 Tryd.underlying38 hi hz0 hz1 hz2 rfl (by decide) v ns.length (IV ns) hown ad 0 c [] (by simp) (fun j u hu => by simp at hu) (fun u hu => by simp at hu) (by unfold maxLen; omega) (by simp only [List.length_nil, Nat.add_zero] at hlen; omega) hbase
        exact ⟨v', w', hrun, h2, h3⟩
  obtain ⟨v', w', hrun, h2, h3⟩ := hrun
  refine ⟨v', w', hrun, ?_, (Below.refl _ _).grown h3 hbase (fun k hk => ownsRow_ge hown k hk)⟩
  unfold OwnI
  rw [IV_app, List.length_append]
  exact h2
/-- Numbers put behind numbers, inside a region that draws its order. -/
theorem step_nums {w : World} {ops : Array Oper} {o : Oper} {a : Act} {K : Act → World → Prop} {Q : Exit → Act → World → Prop} {E : Prop} (hgd : o.guard = none) (s x : Operand) (ho : o.op = .call { callee := .builtin .append, args := #[s, x], argTypes := #[38, 38] })
    (base : Nat) (v : Value) (ns js : List Int) (m : Nat) (hm : m = js.length) (hs : a.eval s = v) (hown : OwnI w base v ns) (B : Nat) (A : Option Addr) (c : Nat) (hx : a.eval x = .slice A m c) (hj : Ints w B A js) (hlen : ns.length + js.length ≤ 10000000) (hbase : base ≤ w.heap.size)
    (h : ∀ v' w', OwnI w' base v' (ns ++ js) → Below base w w' → K (a.put o.dst v') w') : if Region.wanted o (yielded ops a.tmps) = true then Oper.wp Tryd.prog o a w K Q else E := by
  have hwt : Region.wanted o (yielded ops a.tmps) = true := by simp [Region.wanted, hgd]
  rw [if_pos hwt]
  subst hm
  obtain ⟨v', w', hrun, h2, h3⟩ := run_nums o.type base v ns js hown B A c hj hlen hbase
  unfold Oper.wp
  simp [execOp, ho, resolve, invoke, builtin, hs, hx, hrun, Result.andThen]
  exact h v' w' h2 h3
theorem IV_take (ns : List Int) (k : Nat) : (IV ns).take k = IV (ns.take k) := by simp [IV, List.map_take]
theorem IV_drop (ns : List Int) (k : Nat) : (IV ns).drop k = IV (ns.drop k) := by simp [IV, List.map_drop]
theorem flat_take (l : List Itm) (j : Nat) (h : j < l.length) : (l.take (j + 1)).flatMap (fun x => x.2) = (l.take j).flatMap (fun x => x.2) ++ l[j].2 := by
  rw [List.take_succ_eq_append_getElem h, List.flatMap_append]
  simp
theorem ins_take (pre js : List Int) (q : Nat) (h : q < js.length) : insAll (pre ++ js.take (q + 1)) = refIns (insAll (pre ++ js.take q)) js[q] := by
  rw [List.take_succ_eq_append_getElem h, ← List.append_assoc, insAll_snoc]
set_option maxRecDepth 100000 in
set_option maxHeartbeats 1000000 in
theorem rJobs_any (any : Bool) (l : List Itm) (A : Option Addr) (cap : Nat) (w : World) (hs : Its w w.heap.size A l) (hl : l.length ≤ 1000) (hx : ∀ x ∈ l, x.2.length ≤ 1000) :
    Calls Tryd.prog 14 #[.agg #[.bool any, .slice A l.length cap]] w fun e w' => ∃ v, e = .returned v ∧ OwnI w' w.heap.size v (insAll (l.flatMap fun x => x.2)) ∧ Below w.heap.size w w' := by
  have hfl : ∀ j, ((l.take j).flatMap fun x => x.2).length ≤ 1000000 := fun j => by
    have h1 := flat_len (l.take j) (fun x h => hx x (List.mem_of_mem_take h))
    rw [List.length_take] at h1
    have h2 : 1000 * min j l.length ≤ 1000 * 1000 := Nat.mul_le_mul_left _ (by omega)
    omega
  replace hs := fhid hs
  replace hx := fhid hx
  replace hfl := fhid hfl
  go_enter Tryd.func14, Tryd.ntmps14
  go_upto_region 1 with fail
  have hi : DB (w.alloc (.cells #[.bool any, .slice A l.length cap] 26)) w.heap.size 26 any (.slice A l.length cap) := heap_alloc_new w _
  have g0 : Below w.heap.size w (w.alloc (.cells #[.bool any, .slice A l.length cap] 26)) := (Below.refl _ _).alloc (Nat.le_refl _) _
  generalize w.alloc _ = w1 at *
  obtain ⟨c0, c1, _, _, hz⟩ := hi.facts
  replace hi := fhid hi
  go_wp2_with fail
  go_loopw [3, 4] (fun v i wr => ∃ j : Nat, j ≤ l.length ∧ i = .int .i64 (j : Int) ∧ OwnI wr w1.heap.size v (insAll ((l.take j).flatMap fun x => x.2)) ∧ Below w1.heap.size w1 wr) (fun _ i _ => l.length - (intOf i).toNat)
  case atStart => exact ⟨0, Nat.zero_le _, rfl, OwnI.nil _ _, Below.refl _ _⟩
  case round =>
    obtain ⟨j, hjl, rfl, hO, hB⟩ := hrel
    have hsz := hB.size
    have gB := g0.trans (hB.mono g0.size)
    clear c0 c1
    obtain ⟨c0, c1, _, _, _⟩ := (hi.out.below hB hz).facts
    by_cases hlt : j < l.length
    · have hat := fhid fun W (h : Below w.heap.size w W) => (hs.out.below h).at_ hlt
      have x1 := hx.out l[j] (List.getElem_mem hlt)
      have hsn := fhid (flat_take l j hlt)
      have hfj := hfl.out j
      have i1 : (j : Int) < l.length := by omega
      have i0 : (0 : Int) ≤ j := by omega
      generalize l[j] = x at *
      obtain ⟨kd, js⟩ := x
      simp only at x1
      generalize (l.take j).flatMap (fun x => x.2) = pre at *
      have hsn2 : (l.take (j + 1)).flatMap (fun x => x.2) = pre ++ js := hsn.out
      replace hsn2 := fhid hsn2
      clear hsn
      rename World => wo
      replace hO := fhid hO
      go_upto_region 6 with fail
      go_loopw [3, 5] (fun v i wr => ∃ q : Nat, q ≤ js.length ∧ i = .int .i64 (q : Int) ∧ OwnI wr w1.heap.size v (insAll (pre ++ js.take q)) ∧ Below w1.heap.size w1 wr) (fun _ i _ => js.length - (intOf i).toNat)
      case atStart => exact ⟨0, Nat.zero_le _, rfl, by rw [List.take_zero, List.append_nil]; exact hO.out, hB⟩
      case round =>
        obtain ⟨q, hql, rfl, hO2, hB2⟩ := hrel
        have hsz2 := hB2.size
        have gB2 := g0.trans (hB2.mono g0.size)
        rename World => wq
        clear c0 c1
        obtain ⟨c0, c1, _, _, _⟩ := (hi.out.below hB2 hz).facts
        obtain ⟨bb, o, rfl, hbb, hc1, A', cp, hc2, hjc, hcm, hjs⟩ := hat.out wq gB2
        by_cases hq : q < js.length
        · obtain ⟨b3, o3, rfl, hb3, hc3⟩ := Ints.at_ hjs hq
          have hqs := fhid (ins_take pre js q hq)
          have hln : (insAll (pre ++ js.take q)).length ≤ 1001000 := by
            have := insAll_len (pre ++ js.take q)
            rw [List.length_append, List.length_take] at this
            omega
          have j0 : (0 : Int) ≤ q := by omega
          have j1 : (q : Int) < js.length := by omega
          generalize js[q] = n at *
          generalize insAll (pre ++ js.take q) = out at *
          obtain ⟨Ao, co, rfl, hoc, hocm, hoi⟩ := hO2.shape
          replace hO2 := fhid hO2
          have hoi' := fhid hoi
          go_upto_region 9 with fail
          go_upto_block 4 with fail
          go_cut [7] (fun t wx => wq = wx ∧ ∃ k : Nat, k ≤ out.length ∧ t = .int .i64 (k : Int) ∧ (∀ i (h : i < out.length), i < k → out[i] < n) ∧ ∀ h : k < out.length, ¬ out[k] < n)
          case first =>
            go_wp2_with fail
            go_loop [7] (fun t => ∃ k : Nat, k ≤ out.length ∧ t = .int .i64 (k : Int) ∧ ∀ i (h : i < out.length), i < k → out[i] < n) (fun t => out.length - (intOf t).toNat)
            case atStart => exact ⟨0, Nat.zero_le _, rfl, fun i _ h => absurd h (Nat.not_lt_zero _)⟩
            case round =>
              obtain ⟨k, hk, rfl, hlo⟩ := hrel
              have k0 : (0 : Int) ≤ k := by omega
              by_cases hkl : k < out.length
              · have k1 : (k : Int) < out.length := by omega
                obtain ⟨b4, o4, rfl, hb4, hc4⟩ := Ints.at_ hoi hkl
                by_cases hlt2 : out[k] < n
                · have hlo2 : ∀ i (h : i < out.length), i < k + 1 → out[i] < n := fun i h h' => by
                    by_cases e : i = k
                    · subst e; exact hlt2
                    · exact hlo i h (by omega)
                  clear hlo
                  replace hlo2 := fhid hlo2
                  generalize out[k] = y at *
                  go_wp2_with fail
                  go_round
                  case rel => exact ⟨k + 1, by omega, by go_num, hlo2.out⟩
                  case measure => simp [intOf]; omega
                · have hme := fhid (show (∀ i (h : i < out.length), i < k → out[i] < n) ∧ ∀ h : k < out.length, ¬ out[k] < n from ⟨hlo, fun _ => hlt2⟩)
                  clear hlo
                  generalize out[k] = y at hlt2 hc4
                  go_wp2_with fail
                  go_meet
                  exact ⟨rfl, k, hk, rfl, hme.out⟩
              · have k1 : ¬ (k : Int) < out.length := by omega
                have hme := fhid (show (∀ i (h : i < out.length), i < k → out[i] < n) ∧ ∀ h : k < out.length, ¬ out[k] < n from ⟨hlo, fun h => absurd h hkl⟩)
                clear hlo
                go_wp2_with fail
                go_meet
                exact ⟨rfl, k, hk, rfl, hme.out⟩
          case rest =>
            obtain ⟨hw, k, hk, rfl, hlo, hst⟩ := hcut
            subst hw
            have k0 : (0 : Int) ≤ k := by omega
            go_upto_region 12 with fail
            go_cut [60] (fun b wx => wq = wx ∧ b = .bool (decide (out[k]? = some n)))
            case first =>
              clear hlo hst
              by_cases hkl : k < out.length
              · have k1 : (k : Int) < out.length := by omega
                obtain ⟨b4, o4, rfl, hb4, hc4⟩ := Ints.at_ hoi hkl
                have hg := List.getElem?_eq_getElem hkl
                generalize out[k] = y at *
                by_cases he : y = n
                · have hd := fhid (show decide (out[k]? = some n) = true by rw [hg, he]; simp)
                  clear hg
                  subst he
                  go_wp2_with fail
                  go_meet
                  exact ⟨rfl, by rw [hd.out]⟩
                · have hd := fhid (show decide (out[k]? = some n) = false by rw [hg]; exact decide_eq_false fun e => he (Option.some.inj e))
                  clear hg
                  go_wp2_with fail
                  go_meet
                  exact ⟨rfl, by rw [hd.out]; exact congrArg Value.bool (beq_eq_false_iff_ne.2 he)⟩
              · have k1 : ¬ (k : Int) < out.length := by omega
                have hd := fhid (show decide (out[k]? = some n) = false by rw [List.getElem?_eq_none (by omega)]; rfl)
                go_wp2_with fail
                go_meet
                exact ⟨rfl, by rw [hd.out]⟩
            case rest =>
              obtain ⟨hw, rfl⟩ := hcut
              subst hw
              by_cases he : out[k]? = some n
              · have hth := fhid (ref_there hk hlo hst he)
                rw [decide_eq_true he]
                clear hlo hst he
                go_wp2_with fail
                go_roundw
                case rel => exact ⟨q + 1, by omega, by go_num, by rw [hqs.out, hth.out]; exact hO2.out, hB2⟩
                case measure => simp [intOf]; omega
              · have hput := fhid (ref_put hk hlo hst he)
                rw [decide_eq_false he]
                clear hlo hst he
                have zz : Below wq.heap.size wq wq.drew := (Below.refl _ _).drew
                have k2 : (k : Int) ≤ out.length := by omega
                have k3 : (k : Int) ≤ co := by omega
                have k4 : (out.length : Int) ≤ co := by omega
                have ht : Ints wq wq.heap.size Ao (out.take k) := by
                  have := SegC.take hoi k
                  rwa [IV_take] at this
                have hd : Ints wq wq.heap.size (if co = k then Ao else Ao.map (·.add k)) (out.drop k) := by
                  have := SegC.drop hoi (k := k) (cap := co) (by rw [IV_len]; exact hk) (by rw [IV_len]; exact hoc)
                  rwa [IV_drop] at this
                have l1 : k = (out.take k).length := by rw [List.length_take]; omega
                have l2 : out.length - k = (out.drop k).length := List.length_drop.symm
                have l3 : ([] : List Int).length + (out.take k).length ≤ 10000000 := by rw [← l1, List.length_nil]; omega
                have l4 : ([] ++ out.take k).length + [n].length ≤ 10000000 := by rw [List.nil_append, ← l1, List.length_singleton]; omega
                have l5 : (([] ++ out.take k) ++ [n]).length + (out.drop k).length ≤ 10000000 := by rw [List.length_append, List.nil_append, ← l1, ← l2, List.length_singleton]; omega
                replace ht := fhid ht
                replace hd := fhid hd
                generalize out.take k = o1 at *
                generalize out.drop k = o2 at *
                replace l1 := fhid l1
                replace l2 := fhid l2
                replace l3 := fhid l3
                replace l4 := fhid l4
                replace l5 := fhid l5
                clear hoi
                go_upto_region 13 with fail
                go_region_law (first
                  | (refine step_nums rfl (.tmp 67) (.tmp 70) rfl wq.heap.size v4 (([] ++ o1) ++ [n]) o2 (out.length - k) l2.out (by simp [Act.eval]) o4.out wq.heap.size (if co = k then Ao else Ao.map (·.add k)) (co - k) (by simp [Act.eval]) (hd.out.below z4) l5.out z4.size ?_
                     intro v5 w5 o5 b5
                     have z5 : Below wq.heap.size wq w5 := z4.trans b5)
                  | (refine step_nums rfl (.tmp 64) (.tmp 66) rfl wq.heap.size v3 ([] ++ o1) [n] 1 rfl (by simp [Act.eval]) (by first | exact o3.out | exact OwnI.below o3.out ((Below.refl _ _).alloc (Nat.le_refl _) _)) _ _ 1 (by simp [Act.eval]; rfl) (by first | exact one_cells _ [.int .i64 n] _ | exact (one_cells _ [.int .i64 n] _).below (b3.mono (by rw [World.size_alloc]; exact Nat.le_refl _))) l4.out (by first | exact z3.size | exact (z3.alloc z3.size _).size) ?_
                     intro v4 w4 o4 b4
                     have z4 : Below wq.heap.size wq w4 := (by first | exact z3.trans b4 | exact (z3.alloc z3.size _).trans b4)
                     replace o4 := fhid o4)
                  | (refine step_nums rfl (.const (.slice none 0 0)) (.tmp 63) rfl _ (.slice none 0 0) [] o1 k l1.out (by simp [Act.eval]) (OwnI.nil _ _) wq.heap.size Ao co (by simp [Act.eval, Act.put]) (by first | exact ht.out.below zz | exact ht.out.below (zz.alloc zz.size _)) l3.out (Nat.le_refl _) ?_
                     intro v3 w3 o3 b3
                     have z3 : Below wq.heap.size wq w3 := (by first | exact zz.trans (b3.mono zz.size) | exact (zz.alloc zz.size _).trans (b3.mono (zz.alloc zz.size _).size))
                     replace o3 := fhid (show OwnI w3 wq.heap.size v3 ([] ++ o1) from OwnI.base o3 (by first | exact zz.size | exact (zz.alloc zz.size _).size)))
                  | (refine step_nums rfl (.tmp 64) (.tmp 66) rfl wq.heap.size v3 ([] ++ o1) [n] 1 rfl (by simp [Act.eval]) o3.out (wq.heap.size + 1) (some ⟨wq.heap.size, 0, none⟩) 1 (by simp [Act.eval]) (SegC.below (one_cells wq.drew [.int .i64 n] 3) (b3.mono (by simp))) l4.out z3.size ?_
                     intro v4 w4 o4 b4
                     have z4 : Below wq.heap.size wq w4 := z3.trans b4
                     replace o4 := fhid o4))
                all_goals
                  go_wp2_with fail
                  go_roundw
                  case rel => exact ⟨q + 1, by omega, by go_num, by rw [hqs.out, hput.out]; exact OwnI.base o5 hsz2, hB2.trans (z5.mono hsz2)⟩
                  case measure => simp [intOf]; omega
        · obtain rfl : q = js.length := by omega
          rw [List.take_length] at hO2
          have j1 : ¬ (js.length : Int) < js.length := by omega
          go_wp2_with fail
          go_roundw
          case rel => exact ⟨j + 1, by omega, by go_num, by rw [hsn2.out]; exact hO2, hB2⟩
          case measure => simp [intOf]; omega
    · obtain rfl : j = l.length := by omega
      rw [List.take_length] at *
      have i1 : ¬ (l.length : Int) < l.length := by omega
      go_wp2_with fail
      go_ret
      exact ⟨_, rfl, OwnI.base hO g0.size, gB⟩
end Go.Proofs.YtpelmclgkkhjeaaDoor
