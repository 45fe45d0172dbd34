/-
  DepStays, walked.
-/
import Derived.Test.YthnpmndobhgekaaDoorDAlive
import Derived.Test.YthnpmndobhgekaaDoorDLeaf
namespace Go.Proofs.YthnpmndobhgekaaDoor
open Go.RowKit

/-- A state, and what it is later, if something is told. -/
def nx (s : Int) (t : Option Int) : Int := if ended s = true ∨ s = 7 then s else match t with
  | none => s
  | some t => if 0 ≤ t ∧ t ≤ 7 ∧ (s ≠ 2 ∨ (2 ≤ t ∧ t ≠ 7)) then t else s
theorem nx_goes (s : Int) (t : Option Int) : goesOn s (nx s t) := by
  unfold nx
  split
  · exact .inl rfl
  · rename_i h
    have h1 : ended s = false := by cases e : ended s with | false => rfl | true => exact absurd (.inl e) h
    have h2 : s ≠ 7 := fun e => h (.inr e)
    cases t with
    | none => exact .inl rfl
    | some t =>
      simp only
      split
      · rename_i g
        exact .inr ⟨h1, h2, g.1, g.2.1, fun e => by rcases g.2.2 with k | k; exact absurd e k; exact k⟩
      · exact .inl rfl
/-- The states later: of each job the first one. -/
def lat (l : List (Int × Int)) (ns : List Int) : Nat → List (Int × Int)
  | 0 => []
  | j + 1 => match l[j]? with
    | none => lat l ns j
    | some x => if look (lat l ns j) x.1 = none then lat l ns j ++ [(x.1, nx x.2 ns[j]?)] else lat l ns j
theorem lat_some {l : List (Int × Int)} {ns : List Int} {j : Nat} (h : j < l.length) {v : Int} (hl : look (lat l ns j) l[j].1 = some v) : lat l ns (j + 1) = lat l ns j := by
  rw [lat, List.getElem?_eq_getElem h]
  simp only
  rw [hl]
  rfl
theorem lat_none {l : List (Int × Int)} {ns : List Int} {j : Nat} (h : j < l.length) (hl : look (lat l ns j) l[j].1 = none) : lat l ns (j + 1) = lat l ns j ++ [(l[j].1, nx l[j].2 ns[j]?)] := by
  rw [lat, List.getElem?_eq_getElem h]
  simp only
  rw [hl]
  rfl
theorem look_one (k id : Int) (v : Int) : look [(k, v)] id = if k = id then some v else none := rfl
theorem lat_like (l : List (Int × Int)) (ns : List Int) : ∀ j, j ≤ l.length → ∀ id, (look (stP (l.take j)) id = none ∧ look (lat l ns j) id = none) ∨ ∃ s t, look (stP (l.take j)) id = some s ∧ look (lat l ns j) id = some t ∧ goesOn s t
  | 0, _, id => .inl ⟨rfl, rfl⟩
  | j + 1, hj, id => by
    have ih := lat_like l ns j (by omega)
    have hlt : j < l.length := by omega
    have e1 : stP (l.take (j + 1)) = addS (stP (l.take j)) l[j] := by rw [List.take_succ_eq_append_getElem hlt, stP_snoc]
    cases hk : look (lat l ns j) l[j].1 with
    | some v =>
      rw [lat_some hlt hk, e1]
      have e2 : addS (stP (l.take j)) l[j] = stP (l.take j) := by
        unfold addS
        rw [if_neg]
        intro h
        rcases ih l[j].1 with ⟨_, h2⟩ | ⟨s, t, h1, _, _⟩
        · rw [hk] at h2; cases h2
        · rw [h] at h1; cases h1
      rw [e2]
      exact ih id
    | none =>
      have e2 : addS (stP (l.take j)) l[j] = stP (l.take j) ++ [l[j]] := by
        unfold addS
        rw [if_pos]
        rcases ih l[j].1 with ⟨h1, _⟩ | ⟨s, t, _, h2, _⟩
        · exact h1
        · rw [hk] at h2; cases h2
      rw [lat_none hlt hk, e1, e2, look_app, look_app]
      rcases ih id with ⟨h1, h2⟩ | ⟨s, t, h1, h2, h3⟩
      · rw [h1, h2]
        simp only [Option.orElse]
        by_cases e : l[j].1 = id
        · have a1 : look [l[j]] id = some l[j].2 := if_pos e
          have a2 : look [(l[j].1, nx l[j].2 ns[j]?)] id = some (nx l[j].2 ns[j]?) := if_pos e
          rw [a1, a2]
          exact .inr ⟨_, _, rfl, rfl, nx_goes _ _⟩
        · have a1 : look [l[j]] id = none := if_neg e
          have a2 : look [(l[j].1, nx l[j].2 ns[j]?)] id = none := if_neg e
          rw [a1, a2]
          exact .inl ⟨rfl, rfl⟩
      · rw [h1, h2]
        exact .inr ⟨s, t, rfl, rfl, h3⟩
theorem lat_goes (l : List (Int × Int)) (ns : List Int) (id : Int) : goesOn (stOf (stP l) id) (stOf (lat l ns l.length) id) := by
  have := lat_like l ns l.length (Nat.le_refl _) id
  rw [List.take_length] at this
  unfold stOf
  rcases this with ⟨h1, h2⟩ | ⟨s, t, h1, h2, h3⟩
  · rw [h1, h2]; exact .inl rfl
  · rw [h1, h2]; exact h3
theorem nx_stay {s : Int} {t : Option Int} (h : ended s = true) : nx s t = s := by unfold nx; rw [if_pos (.inl h)]
theorem nx_never {t : Option Int} : nx 7 t = 7 := by unfold nx; rw [if_pos (.inr rfl)]
theorem nx_none {s : Int} : nx s none = s := by unfold nx; split <;> rfl
theorem nx_no {s t : Int} (h : ¬ (0 ≤ t ∧ t ≤ 7 ∧ (s ≠ 2 ∨ (2 ≤ t ∧ t ≠ 7)))) : nx s (some t) = s := by
  unfold nx
  split
  · rfl
  · exact if_neg h
theorem nx_yes {s t : Int} (h1 : ended s = false) (h2 : s ≠ 7) (h : 0 ≤ t ∧ t ≤ 7 ∧ (s ≠ 2 ∨ (2 ≤ t ∧ t ≠ 7))) : nx s (some t) = t := by
  unfold nx
  rw [if_neg (by rw [h1]; simp [h2])]
  exact if_pos h
set_option maxRecDepth 100000 in
set_option maxHeartbeats 8000000 in
theorem stays_walk (any : Bool) (l : List Itm) (A : Option Addr) (cap : Nat) (st : List (Int × Int)) (A2 : Option Addr) (cap2 : Nat) (ns : List Int) (A3 : Option Addr) (cap3 : Nat) (w : World) (hT : Tab w) (hs : Its w w.heap.size A l) (hc : l.length ≤ cap) (hcm : cap ≤ maxLen) (hm : Prs w w.heap.size A2 st) (hst : st.length ≤ maxLen) (hn : Ints w w.heap.size A3 ns) (hnl : ns.length ≤ maxLen) :
    Calls Tryd.prog 7 #[.agg #[.bool any, .slice A l.length cap], .slice A2 st.length cap2, .slice A3 ns.length cap3] w (BoolPost w true) := by
  have hll : l.length ≤ 9223372036854775807 := by unfold maxLen at hcm; omega
  have hsl : st.length ≤ 9223372036854775807 := by unfold maxLen at hst; omega
  have hnl' : ns.length ≤ 9223372036854775807 := by unfold maxLen at hnl; omega
  have hmu := fun W (hW : Below w.heap.size w W) => much_any any l A cap W ((hs.below hW).more hW.size) hll hc
  have hal := fun W (hW : Below w.heap.size w W) => alive_any W (tab_below hT hW)
  have hth := fun W (hW : Below w.heap.size w W) => theirs_any any l A cap W ((hs.below hW).more hW.size)
  have hsta := fun W (hW : Below w.heap.size w W) => states_any st A2 cap2 W ((SegC.below hm hW).more hW.size)
  have hsm := fun h => @much_small l h
  replace hs := fhid hs
  replace hm := fhid hm
  replace hn := fhid hn
  have g0 : Below w.heap.size w (w.alloc (.cells #[.bool any, .slice A l.length cap] TRDep)) := (Below.refl _ _).alloc (Nat.le_refl _) _
  have hi : DB (w.alloc (.cells #[.bool any, .slice A l.length cap] TRDep)) w.heap.size TRDep any (.slice A l.length cap) := heap_alloc_new w _
  replace hT := fhid hT
  replace hi := fhid hi
  have hmu1 := hmu _ g0
  cases hR : muchB l with
  | true =>
    rw [hR] at hmu1
    clear hR
    go_enter Tryd.func7, Tryd.ntmps7
    go_upto_region 1 with fail
    generalize w.alloc _ = w1 at *
    obtain ⟨c0, c1, _, _, hz⟩ := hi.out.facts
    go_wp2_with (first
      | (go_at_call 10; (with_reducible refine hmu1.mono ?_); rintro e w2 ⟨rfl, b2⟩
         have g2 := g0.trans (b2.mono g0.size))
      | (go_at_call 11; (with_reducible refine (hal _ g2).mono ?_); rintro e w3 ⟨rfl, b3⟩))
    go_ret
    exact ⟨rfl, g2.trans (b3.mono g2.size)⟩
  | false =>
    obtain ⟨s1, s2⟩ := hsm hR
    rw [hR] at hmu1
    clear hR
    by_cases h200 : 200 < st.length
    · have i1 : (200 : Int) < st.length := by omega
      go_enter Tryd.func7, Tryd.ntmps7
      go_upto_region 1 with fail
      generalize w.alloc _ = w1 at *
      obtain ⟨c0, c1, _, _, hz⟩ := hi.out.facts
      go_wp2_with (first
        | (go_at_call 10; (with_reducible refine hmu1.mono ?_); rintro e w2 ⟨rfl, b2⟩
           have g2 := g0.trans (b2.mono g0.size))
        | (go_at_call 11; (with_reducible refine (hal _ g2).mono ?_); rintro e w3 ⟨rfl, b3⟩))
      go_ret
      exact ⟨rfl, g2.trans (b3.mono g2.size)⟩
    · have i1 : ¬ (200 : Int) < st.length := by omega
      have hx4 : ∀ x ∈ l, x.2.length ≤ 1048576 := fun x hx => by have := s2 x hx; omega
      have hth' := fun W (hW : Below w.heap.size w W) => hth W hW (by omega)
      have hst' := fun W (hW : Below w.heap.size w W) => hsta W hW (by omega)
      have hask := fun A' c b m W (h : Its W W.heap.size A' l) hm' => Ask_any any l A' c b m false W h (by omega) hx4 hm'
      have hgo := ask_stays (lat_goes st ns) any l false
      clear hth hsta hmu hsm s2 hx4
      replace hgo := fhid hgo
      go_enter Tryd.func7, Tryd.ntmps7
      go_upto_region 1 with fail
      generalize w.alloc _ = w1 at *
      obtain ⟨c0, c1, _, _, hz⟩ := hi.out.facts
      go_upto_region 3 with (go_at_call 10; (with_reducible refine hmu1.mono ?_); rintro e w2 ⟨rfl, b2⟩)
      have g2 := g0.trans (b2.mono g0.size)
      have hi2 := fhid (hi.out.below b2 hz)
      have hz2 : w.heap.size < w2.heap.size := by have := b2.size; omega
      clear c0 c1 hmu1 hi g0 b2
      obtain ⟨c0, c1, _, _, _⟩ := hi2.out.facts
      go_wp2_with fail
      go_loopw [30] (fun i wr => ∃ j : Nat, j ≤ l.length ∧ i = .int .i64 (j : Int) ∧ Below w2.heap.size w2 wr) (fun i _ => l.length - (intOf i).toNat)
      case atStart => exact ⟨0, Nat.zero_le _, rfl, Below.refl _ _⟩
      case round =>
        obtain ⟨j, hjl, rfl, hB⟩ := hrel
        have hsz := hB.size
        have gB := g2.trans (hB.mono g2.size)
        clear c0 c1
        obtain ⟨c0, c1, _, _, _⟩ := (hi2.out.below hB hz2).facts
        by_cases hlt : j < l.length
        · obtain ⟨bb, o, rfl, hbb, hc1, A', cp, hc2, hjc, hcm, hjs⟩ := (hs.out.below gB).at_ hlt
          have i2 : (j : Int) < l.length := by omega
          have i0 : (0 : Int) ≤ j := by omega
          clear hth' hst' hask
          generalize l[j] = x at *
          obtain ⟨k, js⟩ := x
          simp only at hc1 hc2 hjc hjs
          replace hjs := fhid hjs
          have bA : Below wr.heap.size wr (wr.alloc (.cells #[.int .i64 k, .slice A' js.length cp] TRIt)) := (Below.refl _ _).alloc (Nat.le_refl _) _
          have gA := gB.trans (bA.mono gB.size)
          by_cases h5 : k = 5
          · subst h5
            go_wp2_with (go_at_call 11; (with_reducible refine (hal _ gA).mono ?_); rintro e w3 ⟨rfl, b3⟩)
            go_ret
            exact ⟨rfl, gA.trans (b3.mono gA.size)⟩
          · have e5 : (k == 5) = false := by simpa using h5
            go_wp2_with fail
            go_roundw
            case rel => exact ⟨j + 1, by omega, by go_num, hB.trans (bA.mono hsz)⟩
            case measure => simp [intOf]; omega
        · obtain rfl : j = l.length := by omega
          have i2 : ¬ (l.length : Int) < l.length := by omega
          have hmm := @run_makeMap Tryd.prog
          clear c0 c1
          have hi3 := fhid (hi2.out.below hB hz2)
          have hz3 : w.heap.size < wr.heap.size := by omega
          go_upto_region 10 with (go_at_call 23; (with_reducible refine (hst' _ gB).mono ?_); rintro e w4 ⟨b1, rfl, _, m4, b4⟩)
          have g4 := gB.trans (b4.mono gB.size)
          have hi4 := fhid (hi3.out.below b4 hz3)
          obtain ⟨c0, c1, _, _, hz4⟩ := hi4.out.facts
          generalize hK1 : askP any l (stOf (stP st)) false = K1 at *
          go_upto_region 11 with (first
            | (go_at_call 13
               (with_reducible refine (hth' _ g4).mono ?_)
               rintro e w5 ⟨v5, rfl, o5, b5⟩
               obtain ⟨A5, q5, rfl, _, _, t5⟩ := o5.shape
               have m5 := SMap.below m4 b5 m4.lt
               replace o5 := fhid o5)
            | (go_at_call 22
               have hak := hask A5 q5 b1 (stP st) w5 t5 m5
               rw [hK1] at hak
               (with_reducible refine hak.mono ?_)
               rintro e w6 ⟨rfl, b6⟩))
          have g6 := (g4.trans (b5.mono g4.size)).trans (b6.mono (g4.trans (b5.mono g4.size)).size)
          have hz5 := b5.size
          have hz6 := b6.size
          have hi6 := fhid ((hi4.out.below b5 hz4).below b6 (by omega))
          clear c0 c1 t5 o5 m5 m4 hst'
          go_upto_region 12 with fail
          have hmN : SMap (w6.alloc (.map #[] 0)) w6.heap.size [] := IMap.new w6
          have gN : Below w6.heap.size w6 (w6.alloc (.map #[] 0)) := (Below.refl _ _).alloc (Nat.le_refl _) _
          generalize w6.alloc _ = w7 at *
          replace hmN := fhid hmN
          clear hmm
          go_wp2_with fail
          go_loopw [48] (fun i wx => ∃ j : Nat, j ≤ st.length ∧ i = .int .i64 (j : Int) ∧ SMap wx w6.heap.size (lat st ns j) ∧ Below w6.heap.size w6 wx) (fun i _ => st.length - (intOf i).toNat)
          case atStart => exact ⟨0, Nat.zero_le _, rfl, hmN.out, gN⟩
          case round =>
            obtain ⟨j, hjl, rfl, hM, hBx⟩ := hrel
            have hbz := hM.lt
            have hszx := hBx.size
            have gX := g6.trans (hBx.mono g6.size)
            by_cases hlt : j < st.length
            · obtain ⟨bb, o, rfl, hbb, hc1, hc2⟩ := Prs.at_ (SegC.below hm.out gX) hlt
              have i2 : (j : Int) < st.length := by omega
              have i0 : (0 : Int) ≤ j := by omega
              have hls := @lat_some st ns j hlt
              have hln := @lat_none st ns j hlt
              clear hth' hask hal hgo
              generalize st[j] = x at *
              obtain ⟨id, s⟩ := x
              simp only at hc1 hc2 hls hln
              generalize hL' : lat st ns (j + 1) = nxt at *
              replace hL' := fhid hL'
              generalize lat st ns j = pre at *
              go_upto_region 15 with fail
              have hjb : JB (wr.alloc (.cells #[.int .i64 id, .int .i64 s] TJob)) wr.heap.size id s := heap_alloc_new wr _
              have bA : Below wr.heap.size wr (wr.alloc (.cells #[.int .i64 id, .int .i64 s] TJob)) := (Below.refl _ _).alloc (Nat.le_refl _) _
              have hM2 := fhid (SMap.below hM bA hbz)
              have zA := World.size_alloc wr (.cells #[.int .i64 id, .int .i64 s] TJob)
              have hn2 := (hn.out.below gX).below (bA.mono gX.size)
              clear hc1 hc2
              generalize wr.alloc _ = wy at *
              have hBy := hBx.trans (bA.mono hszx)
              obtain ⟨c0, c1, _, _, _⟩ := hjb.facts
              replace hjb := fhid hjb
              replace hn2 := fhid hn2
              cases hlk : look pre id with
              | some v =>
                have hE := fhid (hls hlk)
                replace hlk := fhid hlk
                clear hls hln hn2
                go_wp2_with (at_lookup; refine smap_some rfl _ _ rfl w6.heap.size pre rfl hM2.out id rfl v hlk.out ?_)
                go_roundw
                case rel => exact ⟨j + 1, by omega, by go_num, by rw [hL'.out, hE.out]; exact hM2.out, hBy⟩
                case measure => simp [intOf]; omega
              | none =>
                have hE := fhid (hln hlk)
                replace hlk := fhid hlk
                clear hls hln
                have hre := fun W => rEnded_any s W
                have fin : ∀ sx, nx s ns[j]? = sx → nxt = pre ++ [(id, sx)] := fun sx h => by rw [hE.out, h]
                clear hE
                replace fin := fhid fin
                cases he : ended s with
                | true =>
                  rw [he] at hre
                  have hF := fhid (fin.out s (nx_stay he))
                  clear he fin hn2
                  go_wp2_with (first
                    | (at_lookup; refine smap_none rfl _ _ rfl w6.heap.size pre rfl hM2.out id rfl hlk.out ?_)
                    | (go_at_call 19; (with_reducible refine (hre _).mono ?_); rintro e w9 ⟨rfl, rfl⟩)
                    | (at_mapUpdate; (refine smap_put rfl _ _ _ rfl w6.heap.size pre rfl hM2.out id rfl _ rfl hlk.out ?_); intro wz mz gz zz))
                  go_roundw
                  case rel => exact ⟨j + 1, by omega, by go_num, by rw [hL'.out, hF.out]; exact mz, hBy.trans (below_put gz (Nat.le_refl _) (by omega))⟩
                  case measure => simp [intOf]; omega
                | false =>
                  rw [he] at hre
                  by_cases h7 : s = 7
                  · subst h7
                    have hF := fhid (fin.out 7 nx_never)
                    clear he fin hn2
                    go_wp2_with (first
                      | (at_lookup; refine smap_none rfl _ _ rfl w6.heap.size pre rfl hM2.out id rfl hlk.out ?_)
                      | (go_at_call 19; (with_reducible refine (hre _).mono ?_); rintro e w9 ⟨rfl, rfl⟩)
                      | (at_mapUpdate; (refine smap_put rfl _ _ _ rfl w6.heap.size pre rfl hM2.out id rfl _ rfl hlk.out ?_); intro wz mz gz zz))
                    go_roundw
                    case rel => exact ⟨j + 1, by omega, by go_num, by rw [hL'.out, hF.out]; exact mz, hBy.trans (below_put gz (Nat.le_refl _) (by omega))⟩
                    case measure => simp [intOf]; omega
                  · have e7 : (s != 7) = true := by simpa using h7
                    by_cases hjn : j < ns.length
                    · have i4 : (j : Int) < ns.length := by omega
                      obtain ⟨b3, o3, rfl, hb3, hc3⟩ := Ints.at_ hn2.out hjn
                      have hgt : ns[j]? = some ns[j] := List.getElem?_eq_getElem hjn
                      rw [hgt] at fin
                      generalize ns[j] = t at *
                      have hyes := fun g => fhid (fin.out t (nx_yes he h7 g))
                      have hno := fun g => fhid (fin.out s (nx_no g))
                      clear hgt fin hn2 he
                      by_cases t0 : 0 ≤ t
                      · by_cases t7 : t ≤ 7
                        · by_cases s2 : s = 2
                          · subst s2
                            by_cases t2 : 2 ≤ t
                            · by_cases tn : t = 7
                              · subst tn
                                have hF := hno (by simp)
                                clear hyes hno h7
                                go_wp2_with (first
                                  | (at_lookup; refine smap_none rfl _ _ rfl w6.heap.size pre rfl hM2.out id rfl hlk.out ?_)
                                  | (go_at_call 19; (with_reducible refine (hre _).mono ?_); rintro e w9 ⟨rfl, rfl⟩)
                                  | (at_mapUpdate; (refine smap_put rfl _ _ _ rfl w6.heap.size pre rfl hM2.out id rfl _ rfl hlk.out ?_); intro wz mz gz zz))
                                go_roundw
                                case rel => exact ⟨j + 1, by omega, by go_num, by rw [hL'.out, hF.out]; exact mz, hBy.trans (below_put gz (Nat.le_refl _) (by omega))⟩
                                case measure => simp [intOf]; omega
                              · have hF := hyes ⟨t0, t7, .inr ⟨t2, tn⟩⟩
                                have en : (t != 7) = true := by simpa using tn
                                clear hyes hno h7
                                go_wp2_with (first
                                  | (at_lookup; refine smap_none rfl _ _ rfl w6.heap.size pre rfl hM2.out id rfl hlk.out ?_)
                                  | (go_at_call 19; (with_reducible refine (hre _).mono ?_); rintro e w9 ⟨rfl, rfl⟩)
                                  | (at_mapUpdate; (refine smap_put rfl _ _ _ rfl w6.heap.size pre rfl hM2.out id rfl _ rfl hlk.out ?_); intro wz mz gz zz))
                                go_roundw
                                case rel => exact ⟨j + 1, by omega, by go_num, by rw [hL'.out, hF.out]; exact mz, hBy.trans (below_put gz (Nat.le_refl _) (by omega))⟩
                                case measure => simp [intOf]; omega
                            · have hF := hno (fun g => by rcases g.2.2 with k | k; exact k rfl; exact t2 k.1)
                              clear hyes hno h7
                              go_wp2_with (first
                                | (at_lookup; refine smap_none rfl _ _ rfl w6.heap.size pre rfl hM2.out id rfl hlk.out ?_)
                                | (go_at_call 19; (with_reducible refine (hre _).mono ?_); rintro e w9 ⟨rfl, rfl⟩)
                                | (at_mapUpdate; (refine smap_put rfl _ _ _ rfl w6.heap.size pre rfl hM2.out id rfl _ rfl hlk.out ?_); intro wz mz gz zz))
                              go_roundw
                              case rel => exact ⟨j + 1, by omega, by go_num, by rw [hL'.out, hF.out]; exact mz, hBy.trans (below_put gz (Nat.le_refl _) (by omega))⟩
                              case measure => simp [intOf]; omega
                          · have hF := hyes ⟨t0, t7, .inl s2⟩
                            have e2 : (s != 2) = true := by simpa using s2
                            clear hyes hno
                            go_wp2_with (first
                              | (at_lookup; refine smap_none rfl _ _ rfl w6.heap.size pre rfl hM2.out id rfl hlk.out ?_)
                              | (go_at_call 19; (with_reducible refine (hre _).mono ?_); rintro e w9 ⟨rfl, rfl⟩)
                              | (at_mapUpdate; (refine smap_put rfl _ _ _ rfl w6.heap.size pre rfl hM2.out id rfl _ rfl hlk.out ?_); intro wz mz gz zz))
                            go_roundw
                            case rel => exact ⟨j + 1, by omega, by go_num, by rw [hL'.out, hF.out]; exact mz, hBy.trans (below_put gz (Nat.le_refl _) (by omega))⟩
                            case measure => simp [intOf]; omega
                        · have hF := hno (fun g => t7 g.2.1)
                          clear hyes hno
                          go_wp2_with (first
                            | (at_lookup; refine smap_none rfl _ _ rfl w6.heap.size pre rfl hM2.out id rfl hlk.out ?_)
                            | (go_at_call 19; (with_reducible refine (hre _).mono ?_); rintro e w9 ⟨rfl, rfl⟩)
                            | (at_mapUpdate; (refine smap_put rfl _ _ _ rfl w6.heap.size pre rfl hM2.out id rfl _ rfl hlk.out ?_); intro wz mz gz zz))
                          go_roundw
                          case rel => exact ⟨j + 1, by omega, by go_num, by rw [hL'.out, hF.out]; exact mz, hBy.trans (below_put gz (Nat.le_refl _) (by omega))⟩
                          case measure => simp [intOf]; omega
                      · have hF := hno (fun g => t0 g.1)
                        clear hyes hno
                        go_wp2_with (first
                          | (at_lookup; refine smap_none rfl _ _ rfl w6.heap.size pre rfl hM2.out id rfl hlk.out ?_)
                          | (go_at_call 19; (with_reducible refine (hre _).mono ?_); rintro e w9 ⟨rfl, rfl⟩)
                          | (at_mapUpdate; (refine smap_put rfl _ _ _ rfl w6.heap.size pre rfl hM2.out id rfl _ rfl hlk.out ?_); intro wz mz gz zz))
                        go_roundw
                        case rel => exact ⟨j + 1, by omega, by go_num, by rw [hL'.out, hF.out]; exact mz, hBy.trans (below_put gz (Nat.le_refl _) (by omega))⟩
                        case measure => simp [intOf]; omega
                    · have i4 : ¬ (j : Int) < ns.length := by omega
                      have hF := fhid (fin.out s (by rw [List.getElem?_eq_none (by omega)]; exact nx_none))
                      clear he fin hn2
                      go_wp2_with (first
                        | (at_lookup; refine smap_none rfl _ _ rfl w6.heap.size pre rfl hM2.out id rfl hlk.out ?_)
                        | (go_at_call 19; (with_reducible refine (hre _).mono ?_); rintro e w9 ⟨rfl, rfl⟩)
                        | (at_mapUpdate; (refine smap_put rfl _ _ _ rfl w6.heap.size pre rfl hM2.out id rfl _ rfl hlk.out ?_); intro wz mz gz zz))
                      go_roundw
                      case rel => exact ⟨j + 1, by omega, by go_num, by rw [hL'.out, hF.out]; exact mz, hBy.trans (below_put gz (Nat.le_refl _) (by omega))⟩
                      case measure => simp [intOf]; omega
            · obtain rfl : j = st.length := by omega
              have i3 : ¬ (st.length : Int) < st.length := by omega
              obtain ⟨c0, c1, _, _, hz7⟩ := (hi6.out.below hBx (by omega)).facts
              generalize hK2 : askP any l (stOf (lat st ns st.length)) false = K2 at *
              replace hM := fhid hM
              go_upto_region 25 with (first
                | (go_at_call 13
                   (with_reducible refine (hth' _ gX).mono ?_)
                   rintro e w8 ⟨v8, rfl, o8, b8⟩
                   obtain ⟨A8, q8, rfl, _, _, t8⟩ := o8.shape
                   have m8 := SMap.below hM.out b8 hbz
                   replace o8 := fhid o8)
                | (go_at_call 22
                   have hak := hask A8 q8 _ (lat st ns st.length) _ t8 m8
                   rw [hK2] at hak
                   (with_reducible refine hak.mono ?_)
                   rintro e w9 ⟨rfl, b9⟩))
              have g9 := (gX.trans (b8.mono gX.size)).trans (b9.mono (gX.trans (b8.mono gX.size)).size)
              clear t8 m8 o8 hM
              rcases hgo.out with h0 | h0
              · subst h0
                go_wp2_with (go_at_call 11; (with_reducible refine (hal _ g9).mono ?_); rintro e w10 ⟨rfl, b10⟩)
                go_ret
                exact ⟨rfl, g9.trans (b10.mono g9.size)⟩
              · subst h0
                go_wp2_with (go_at_call 11; (with_reducible refine (hal _ g9).mono ?_); rintro e w10 ⟨rfl, b10⟩)
                all_goals
                  go_ret
                  exact ⟨rfl, g9.trans (b10.mono g9.size)⟩
end Go.Proofs.YthnpmndobhgekaaDoor
