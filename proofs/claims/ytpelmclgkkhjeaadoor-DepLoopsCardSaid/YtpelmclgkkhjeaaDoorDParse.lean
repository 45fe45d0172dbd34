/-
  A dependency, read.
-/
import Derived.Test.YtpelmclgkkhjeaaDoorDApp
namespace Go.Proofs.YtpelmclgkkhjeaaDoor
open Go.RowKit

theorem pItems_full {f : Nat} {any : Bool} {l : List Itm} {t : List UInt8} (hl : l.length = 32) : pItems (f + 1) any l t = none := by rw [pItems, if_pos hl]
theorem pItems_bad {f : Nat} {any : Bool} {l : List Itm} {t : List UInt8} (h : pItem t = none) : pItems (f + 1) any l t = none := by
  rw [pItems, h]
  split <;> rfl
theorem pItems_end {f : Nat} {any : Bool} {l : List Itm} {t : List UInt8} {x : Itm} (hl : l.length ≠ 32) (h : pItem t = some (x, [])) : pItems (f + 1) any l t = some (any, l ++ [x]) := by
  rw [pItems, h, if_neg hl]
  exact if_pos rfl
theorem pItems_sep {f : Nat} {any : Bool} {l : List Itm} {t r : List UInt8} {x : Itm} (h : pItem t = some (x, r)) (h0 : r ≠ []) (hs : r.head? ≠ some (sepT (anyOf any (l ++ [x]) r))) : pItems (f + 1) any l t = none := by
  rw [pItems, h]
  split
  · rfl
  · show (if r = [] then _ else _) = _
    rw [if_neg h0, if_pos hs]
theorem pItems_go {f : Nat} {any : Bool} {l : List Itm} {t r : List UInt8} {x : Itm} (hl : l.length ≠ 32) (h : pItem t = some (x, r)) (h0 : r ≠ []) (hs : r.head? = some (sepT (anyOf any (l ++ [x]) r))) : pItems (f + 1) any l t = pItems f (anyOf any (l ++ [x]) r) (l ++ [x]) r.tail := by
  rw [pItems, h, if_neg hl]
  show (if r = [] then _ else _) = _
  rw [if_neg h0, if_neg (fun k => k hs)]
/-- What a call that reads a dependency hands back. -/
def DepPost (w : World) (s : ByteArray) (e : Ending) (w' : World) : Prop := Below w.heap.size w w' ∧ match pDep (bl s) with
  | none => ∃ y i : Int, y ≠ 0 ∧ e = .returned (.tuple #[.agg #[.bool false, .slice none 0 0], .agg #[.int .i64 y, .int .i64 i]])
  | some (any, l) => ∃ (A : Option Addr) (cap : Nat), l.length ≤ cap ∧ cap ≤ maxLen ∧ Its w' w'.heap.size A l ∧ e = .returned (.tuple #[.agg #[.bool any, .slice A l.length cap], .agg #[.int .i64 0, .int .i64 0]])
theorem DepPost.bad {w : World} {s : ByteArray} {e : Ending} {w' : World} (h : pDep (bl s) = none) (hb : Below w.heap.size w w') {y i : Int} (hy : y ≠ 0) (he : e = .returned (.tuple #[.agg #[.bool false, .slice none 0 0], .agg #[.int .i64 y, .int .i64 i]])) : DepPost w s e w' := by
  refine ⟨hb, ?_⟩
  rw [h]
  exact ⟨y, i, hy, he⟩
theorem DepPost.good {w : World} {s : ByteArray} {e : Ending} {w' : World} {any : Bool} {l : List Itm} (h : pDep (bl s) = some (any, l)) (hb : Below w.heap.size w w') {v : Value} {base : Nat} (ho : OwnT w' TIt base v l) 
    (he : e = .returned (.tuple #[.agg #[.bool any, v], .agg #[.int .i64 0, .int .i64 0]])) : DepPost w s e w' := by
  refine ⟨hb, ?_⟩
  rw [h]
  obtain ⟨A, cap, rfl, h1, h2, h3⟩ := ho.shape
  exact ⟨A, cap, h1, h2, h3, he⟩
theorem dep_start (w : World) :
    let W := ((w.alloc (.cells #[.bool false, .slice none 0 0] TDep)).alloc (.cells #[.int .i64 0, .int .i64 0] TFa)).alloc (.cells #[.bool false, .slice none 0 0] TDep)
    DB W w.heap.size TDep false (.slice none 0 0) ∧ FB W (w.heap.size + 1) 0 0 ∧ DB W (w.heap.size + 1 + 1) TDep false (.slice none 0 0) ∧ Below w.heap.size w W ∧ w.heap.size + 1 + 1 + 1 ≤ W.heap.size :=
  ⟨old_at _ _ _ (old_at _ _ _ (heap_alloc_new w _) (by simp)) (by simp; omega), old_at _ _ _ (new_at _ _ _ (by simp)) (by simp), new_at _ _ _ (by simp), (((Below.refl _ _).alloc (Nat.le_refl _) _).alloc (by simp) _).alloc (by simp; omega) _, by simp⟩
/-- Where the loop over the items is. -/
def ItemsRel (w : World) (s : ByteArray) (e : Value) (wr : World) : Prop := ∃ (c : Nat) (any : Bool) (l : List Itm) (v : Value), c ≤ s.size ∧ e = .int .i64 (c : Int) ∧ l.length ≤ 32 ∧ (l = [] → any = false) ∧ pItems 33 false [] (bl s) = pItems (33 - l.length) any l ((bl s).drop c) ∧
  OwnT wr TIt (w.heap.size + 1 + 1 + 1) v l ∧ DB wr (w.heap.size + 1 + 1) TDep any v ∧ DB wr w.heap.size TDep false (.slice none 0 0) ∧ FB wr (w.heap.size + 1) 0 0 ∧ Below w.heap.size w wr
theorem items_start {w W : World} (s : ByteArray) (p0 : DB W w.heap.size TDep false (.slice none 0 0)) (p1 : FB W (w.heap.size + 1) 0 0) (p2 : DB W (w.heap.size + 1 + 1) TDep false (.slice none 0 0)) (g0 : Below w.heap.size w W) : ItemsRel w s (.int .i64 0) W :=
  ⟨0, false, [], .slice none 0 0, Nat.zero_le _, rfl, by simp, fun _ => rfl, rfl, OwnIt.nil _ _ _ _, p2, p0, p1, g0⟩
theorem str_empty (s : ByteArray) : s.toList.isEmpty = decide (bl s = []) := by
  rw [ByteArray.toList_eq]
  show (bl s).isEmpty = _
  cases bl s <;> simp
theorem dep_step {w W : World} {any any' : Bool} {v v' : Value} {l : List Itm} (i : Nat) (u : Value) (h2 : DB W (w.heap.size + 1 + 1) TDep any v) (hu : DB (W.setCell ⟨w.heap.size + 1 + 1, i, none⟩ u) (w.heap.size + 1 + 1) TDep any' v') (h0 : DB W w.heap.size TDep false (.slice none 0 0)) (h1 : FB W (w.heap.size + 1) 0 0) (ho : OwnT W TIt (w.heap.size + 1 + 1 + 1) v' l) (hb : Below w.heap.size w W) :
    OwnT (W.setCell ⟨w.heap.size + 1 + 1, i, none⟩ u) TIt (w.heap.size + 1 + 1 + 1) v' l ∧ DB (W.setCell ⟨w.heap.size + 1 + 1, i, none⟩ u) (w.heap.size + 1 + 1) TDep any' v' ∧ DB (W.setCell ⟨w.heap.size + 1 + 1, i, none⟩ u) w.heap.size TDep false (.slice none 0 0) ∧ FB (W.setCell ⟨w.heap.size + 1 + 1, i, none⟩ u) (w.heap.size + 1) 0 0 ∧ Below w.heap.size w (W.setCell ⟨w.heap.size + 1 + 1, i, none⟩ u) :=
  ⟨OwnIt.set ho h2 tag_Dep_int tag_Dep_It _ _, hu, block_other _ _ h0 (by omega), block_other _ _ h1 (by omega), hb.setCell (show w.heap.size ≤ w.heap.size + 1 + 1 by omega) _⟩
theorem dep_sets4 {w : World} {b c base : Nat} {any : Bool} {v0 v1 : Value} {x0 y0 : Int} {l : List Itm} (h : OwnT w TIt base v1 l) (hb : DB w b TDep any v0) (hc : FB w c x0 y0) (u v x y : Value) : OwnT ((((w.setCell ⟨b, 0, none⟩ u).setCell ⟨b, 1, none⟩ v).setCell ⟨c, 0, none⟩ x).setCell ⟨c, 1, none⟩ y) TIt base v1 l := by
  have hne : b ≠ c := by
    rintro rfl
    have := Option.some.inj (hb.symm.trans hc)
    injection this with _ ht
    revert ht
    decide
  have k1 := block_set 0 u hb
  have k2 := block_set 1 v k1
  have d1 := block_other 0 u hc hne.symm
  have d2 := block_other 1 v d1 hne.symm
  have d3 := block_set 0 x d2
  exact OwnIt.set (OwnIt.set (OwnIt.set (OwnIt.set h hb tag_Dep_int tag_Dep_It _ _) k1 tag_Dep_int tag_Dep_It _ _) d2 tag_Fa tag_Fa_It _ _) d3 tag_Fa tag_Fa_It _ _
set_option maxRecDepth 100000 in
set_option maxHeartbeats 8000000 in
theorem Parse_any (s : ByteArray) (w : World) (hs : s.size ≤ 140737488355328) : Calls Tryd.prog 9 #[.string s] w (DepPost w s) := by
  have hbad := fun (h : pDep (bl s) = none) w' (hb : Below w.heap.size w w') y i (hy : y ≠ 0) e => @DepPost.bad w s e w' h hb y i hy
  have hgood := fun (any : Bool) (l : List Itm) (h : pDep (bl s) = some (any, l)) w' (hb : Below w.heap.size w w') e v base => @DepPost.good w s e w' any l h hb v base
  obtain ⟨p0, p1, p2, g0, gz⟩ := dep_start w
  have hemp := str_empty s
  by_cases h0 : bl s = []
  · have hp := fhid (show pDep (bl s) = some (false, []) from if_pos h0)
    rw [decide_eq_true h0] at hemp
    have h00 : s = ⟨#[]⟩ := bl_inj h0
    subst h00
    clear h0 p0 p1 p2 g0 gz
    go_enter Tryd.func9, Tryd.ntmps9
    go_wp2_with fail
    exact bodyPost_ret (v := .tuple #[.agg #[.bool false, .slice none 0 0], .agg #[.int .i64 0, .int .i64 0]]) (by simp [results, Tryd.results9, go_sem]) rfl
      (hgood false [] hp.out _ (((Below.refl _ _).alloc (Nat.le_refl _) _).alloc (by simp) _) _ _ 0 (OwnIt.nil _ _ _ _) rfl)
  · have hpd := fhid (show pDep (bl s) = pItems 33 false [] (bl s) from if_neg h0)
    rw [decide_eq_false h0] at hemp
    clear h0
    replace p0 := fhid p0
    replace p1 := fhid p1
    replace p2 := fhid p2
    go_enter Tryd.func9, Tryd.ntmps9
    go_upto_region 4 with fail
    generalize World.alloc _ _ = W at *
    go_wp2_with fail
    go_loopw [5] (fun e wr => ItemsRel w s e wr) (fun e _ => s.size + 1 - (intOf e).toNat)
    case atStart => exact items_start s p0.out p1.out p2.out g0
    case round =>
      obtain ⟨c, any, l, v, hc, rfl, h32, hany, hP, hO, q2, q0, q1, hB⟩ := hrel
      obtain ⟨A, cap, rfl, hcap1, hcap2, _⟩ := hO.shape
      have hnB := hB.size
      have hc0 : (0 : Int) ≤ c := by omega
      have hcs : (c : Int) ≤ s.size := by omega
      replace hO := fhid hO
      replace q0 := fhid q0
      replace q1 := fhid q1
      replace q2 := fhid q2
      have hP0 := fhid hP
      replace hP := fhid (hpd.out.trans hP)
      obtain ⟨f, hf⟩ : ∃ f, 33 - l.length = f + 1 := ⟨32 - l.length, by omega⟩
      have hf2 : f = 32 - l.length := by omega
      have hll : l = [] ↔ l.length = 0 := List.length_eq_zero_iff.symm
      replace hf := fhid hf
      replace hf2 := fhid hf2
      replace hany := fhid hany
      replace hll := fhid hll
      obtain ⟨c4, c5, f4, f5, z2⟩ := q2.out.facts
      obtain ⟨c0, c1, f0, f1, z0⟩ := q0.out.facts
      obtain ⟨c2, c3, f2, f3, z1⟩ := q1.out.facts
      by_cases hfull : l.length = 32
      · have hp := fhid (hP.out.trans (by rw [hf.out, pItems_full hfull]))
        have e32 : (l.length : Int) = 32 := by omega
        go_wp2_with fail
        exact bodyPost_ret (v := .tuple #[.agg #[.bool false, .slice none 0 0], .agg #[.int .i64 5, .int .i64 (c : Int)]]) (by simp [results, Tryd.results9, go_sem, c0, c1, c2, c3]) rfl
          (hbad hp.out _ (sets4 hB _ _ (Nat.le_refl _) (by omega) _ _ _ _) _ _ (by decide) _ rfl)
      · have e32 : ((l.length : Int) == 32) = false := by simp; omega
        have hri := fun W => readItem_any s c c W rfl hs hc
        unfold ItemPost at hri
        cases hpi : pItem ((bl s).drop c) with
        | none =>
          rw [hpi] at hri
          simp only at hri
          have hp := fhid (hP.out.trans (by rw [hf.out, pItems_bad hpi]))
          clear c0 c1 f0 f1 z0 c2 c3 f2 f3 z1
          go_wp2_with (first
            | (go_at_call 15; (with_reducible refine (hri _).mono ?_); rintro e w2 ⟨b1, y, i, hy, rfl⟩
               have hy1 : ¬ y = 0 := hy
               have hy2 : (y != 0) = true := by simpa using hy
               have zb := b1.size
               have q3 := fhid (new_at (w2.alloc (.cells #[.int .i64 0, .slice none 0 0] TIt)) (.cells #[.int .i64 y, .int .i64 i] TFa) _ rfl)
               have r0 := fhid (old_at (w2.alloc (.cells #[.int .i64 0, .slice none 0 0] TIt)) (.cells #[.int .i64 y, .int .i64 i] TFa) _ (old_at w2 (.cells #[.int .i64 0, .slice none 0 0] TIt) _ (q0.out.below b1 (by omega)) (by omega)) (by rw [World.size_alloc]; omega))
               have r1 := fhid (old_at (w2.alloc (.cells #[.int .i64 0, .slice none 0 0] TIt)) (.cells #[.int .i64 y, .int .i64 i] TFa) _ (old_at w2 (.cells #[.int .i64 0, .slice none 0 0] TIt) _ (q1.out.below b1 (by omega)) (by omega)) (by rw [World.size_alloc]; omega))))
          obtain ⟨c0, c1, f0, f1, z0⟩ := DB.facts r0.out
          obtain ⟨c2, c3, f2, f3, z1⟩ := FB.facts r1.out
          have bz := ((hB.trans (b1.mono hB.size)).alloc (by omega) (.cells #[.int .i64 0, .slice none 0 0] TIt)).alloc (by rw [World.size_alloc]; omega) (.cells #[.int .i64 y, .int .i64 i] TFa)
          obtain ⟨c6, c7, f6, f7, z3⟩ := FB.facts q3.out
          rw [World.size_alloc] at c6 c7 f6 f7
          go_region
          go_wp2_with fail
          refine bodyPost_ret (v := .tuple #[.agg #[.bool false, .slice none 0 0], .agg #[.int .i64 y, .int .i64 i]]) (by simp [results, Tryd.results9, go_sem, c0, c1, c2, c3]) rfl
            (hbad hp.out _ ?_ _ _ hy _ rfl)
          repeat' (first | (with_reducible exact bz) | (with_reducible apply Below.drew) | (with_reducible apply Below.setCell) | (with_reducible apply below_drewN))
          all_goals (first | omega | (simp; done) | (simp; omega))
        | some x =>
          obtain ⟨⟨k, js⟩, r⟩ := x
          have htx := (pItem_text hpi).2.1
          rw [hpi] at hri
          simp only at hri
          replace hpi := fhid hpi
          rw [List.length_drop, bl_len] at htx
          clear c0 c1 f0 f1 z0 c2 c3 f2 f3 z1
          go_upto_region 8 with (go_at_call 15; (with_reducible refine (hri _).mono ?_); rintro e w2 ⟨b1, c', A', cap', hc', rfl, hj1, hj2, hsj, rfl⟩)
          rw [List.length_drop, bl_len] at htx
          have bW : Below w2.heap.size w2 ((w2.alloc (.cells #[.int .i64 k, .slice A' js.length cap'] TIt)).alloc (.cells #[.int .i64 0, .int .i64 0] TFa)) := ((Below.refl _ _).alloc (Nat.le_refl _) _).alloc (by simp) _
          have zb := b1.size
          have q3 : IB ((w2.alloc (.cells #[.int .i64 k, .slice A' js.length cap'] TIt)).alloc (.cells #[.int .i64 0, .int .i64 0] TFa)) w2.heap.size TIt k (.slice A' js.length cap') := old_at _ _ _ (heap_alloc_new w2 _) (by simp)
          have q4 : FB ((w2.alloc (.cells #[.int .i64 k, .slice A' js.length cap'] TIt)).alloc (.cells #[.int .i64 0, .int .i64 0] TFa)) (w2.heap.size + 1) 0 0 := new_at _ _ _ (by simp)
          have r2 := (q2.out.below b1 (by omega)).below bW (by omega)
          have r0 := (q0.out.below b1 (by omega)).below bW (by omega)
          have r1 := (q1.out.below b1 (by omega)).below bW (by omega)
          have o2 := OwnIt.below (OwnIt.below hO.out b1) bW
          have hsj' := (hsj.keep fun b hb => bW.block b hb.lt).imp (ok' := TagI ((w2.alloc (.cells #[.int .i64 k, .slice A' js.length cap'] TIt)).alloc (.cells #[.int .i64 0, .int .i64 0] TFa))) fun b _ hb => hb.same (bW.block b hb.lt)
          have bB := (hB.trans (b1.mono hB.size)).trans (bW.mono (by omega))
          have z4 : w.heap.size + 1 + 1 + 1 ≤ ((w2.alloc (.cells #[.int .i64 k, .slice A' js.length cap'] TIt)).alloc (.cells #[.int .i64 0, .int .i64 0] TFa)).heap.size := by
            have := bW.size
            omega
          clear hsj bW c4 c5 f4 f5 z2
          generalize (w2.alloc (.cells #[.int .i64 k, .slice A' js.length cap'] TIt)).alloc (.cells #[.int .i64 0, .int .i64 0] TFa) = W3 at *
          obtain ⟨c4, c5, f4, f5, z2⟩ := DB.facts r2
          obtain ⟨c6, c7, _, _, _⟩ := IB.facts q3
          obtain ⟨c8, c9, _, _, _⟩ := FB.facts q4
          replace r0 := fhid r0
          replace r1 := fhid r1
          replace r2 := fhid r2
          replace o2 := fhid o2
          replace hsj' := fhid hsj'
          go_upto_region 11 with (at_builtin; (refine app_it 31 TIt Tryd.underlying31 infoIt rfl _ _ rfl (w.heap.size + 1 + 1 + 1) (TagI W3) _ l k js A' cap' hj1 hj2 W3 rfl o2.out (fun b hb => ⟨hb.lt, OwnIt.ne o2.out tag_It_int hb⟩) hsj'.out rfl _ rfl rfl (by omega) z4 ?_; intro v3 w3 o3 hk3 b3)
                                  obtain ⟨A3, cap3, rfl⟩ : ∃ A cap, v3 = .slice A (l.length + 1) cap := (by obtain ⟨A, cap, e, _⟩ := o3.shape; exact ⟨A, cap, by rw [e, List.length_append, List.length_singleton]⟩)
                                  replace o3 := fhid o3
                                  replace hk3 := fhid hk3
                                  obtain ⟨_, _, g4, g5, _⟩ := (DB.below r2.out b3 (by omega)).facts)
          have r2b := DB.below r2.out b3 (by omega)
          have stp := dep_step 1 (.slice A3 (l.length + 1) cap3) r2b (block_set 1 _ r2b) (DB.below r0.out b3 (by omega)) (FB.below r1.out b3 (by omega)) (o3.out.tags fun b _ h => h.same (hk3.out b h)) (bB.trans (b3.mono (by omega)))
          clear r2b g4 g5 c4 c5 f4 f5 z2 c6 c7 c8 c9
          generalize World.setCell _ _ _ = w4 at *
          obtain ⟨o4, s2, s0, s1, b4⟩ := stp
          obtain ⟨c4, c5, f4, f5, z2⟩ := s2.facts
          obtain ⟨c0, c1, f0, f1, z0⟩ := s0.facts
          obtain ⟨c2, c3, f2, f3, z1⟩ := s1.facts
          have hcc0 : (0 : Int) ≤ c' := by omega
          have hcc1 : (c' : Int) ≤ s.size := by omega
          replace s0 := fhid s0
          replace s1 := fhid s1
          replace s2 := fhid s2
          replace o4 := fhid o4
          clear r0 r1 r2 o2 hsj' o3 hk3 q3 q4
          have hnl : (l ++ [(k, js)]) ≠ [] := by simp
          by_cases hend : c' = s.size
          · have hr0 : (bl s).drop c' = [] := List.drop_of_length_le (by rw [bl_len]; omega)
            have hpi' := hpi.out
            rw [hr0] at hpi'
            have hp := fhid (hP.out.trans (by rw [hf.out, pItems_end hfull hpi']))
            clear hpi' hr0
            have ec : ((c' : Int) == (s.size : Int)) = true := by simp; omega
            have ec2 : (c' : Int) = (s.size : Int) := by omega
            have ec3 := fhid ec2
            clear ec2 hend
            go_wp2_with fail
            exact bodyPost_ret (v := .tuple #[.agg #[.bool any, .slice A3 (l.length + 1) cap3], .agg #[.int .i64 0, .int .i64 0]]) (by simp [results, Tryd.results9, go_sem, c0, c1, c2, c3]) rfl
              (hgood any _ hp.out _ (sets4 b4 _ _ (Nat.le_refl _) (by omega) _ _ _ _) _ _ _ (dep_sets4 o4.out s0.out s1.out _ _ _ _) rfl)
          · have ec : ((c' : Int) == (s.size : Int)) = false := by simp; omega
            have ec2 : ¬ (c' : Int) = (s.size : Int) := by omega
            have hcl : c' + 1 ≤ s.size := by omega
            have hne : (bl s).drop c' ≠ [] := fun h => by
              have := congrArg List.length h
              rw [List.length_drop, bl_len] at this
              simp at this
              omega
            have hhd : ((bl s).drop c').head? = (bl s)[c']? := by rw [List.head?_drop]
            have htl : ((bl s).drop c').tail = (bl s).drop (c' + 1) := by rw [List.tail_drop]
            have hall : anyOf any (l ++ [(k, js)]) ((bl s).drop c') = if l.length = 0 then decide ((bl s)[c']? = some 63) else any := by
              unfold anyOf
              rw [List.length_append, List.length_singleton, hhd]
              by_cases h : l.length = 0
              · rw [if_pos h, if_pos (by omega)]
              · rw [if_neg h, if_neg (by omega)]
            by_cases hl0 : l.length = 0
            · obtain rfl : l = [] := List.length_eq_zero_iff.1 hl0
              rw [if_pos hl0] at hall
              obtain ⟨q, hq⟩ : ∃ q, decide ((bl s)[c']? = some 63) = q := ⟨_, rfl⟩
              rw [hq] at hall
              have hb1 : ∀ W, Calls Tryd.prog 17 #[.bool true] W fun e w' => e = .returned (.int .u8 63) ∧ W = w' := fun W => between_any true W
              have hb2 := fun W => between_any q W
              have hs1 := fun W => stands_any s c' c' 63 63 W rfl rfl
              rw [hq] at hs1
              have hs2 := fun W => stands_any s c' c' ((sepT q).toNat : Int) (sepT q) W rfl rfl
              clear hq hl0 e32 h32
              simp only [List.length_nil, Nat.zero_add] at c4 c5
              by_cases hsep : (bl s)[c']? = some (sepT q)
              · rw [decide_eq_true hsep] at hs2
                have hp := fhid (hP0.out.trans (by rw [hf.out, pItems_go hfull hpi.out hne (by rw [hall, hhd]; exact hsep), hall, htl, hf2.out]))
                generalize hsq : sepT q = sq at *
                clear hall hsep hsq
                go_wp2_with (first
                  | (go_at_call 17; (with_reducible refine (hb1 _).mono ?_); rintro e w1 ⟨rfl, rfl⟩)
                  | (go_at_call 17; (with_reducible refine (hb2 _).mono ?_); rintro e w1 ⟨rfl, rfl⟩)
                  | (go_at_call 16; (with_reducible refine (hs1 _).mono ?_); rintro e w1 ⟨rfl, rfl⟩)
                  | (go_at_call 16; (with_reducible refine (hs2 _).mono ?_); rintro e w1 ⟨rfl, rfl⟩))
                go_roundw
                case rel => exact ⟨c' + 1, q, [(k, js)], .slice A3 1 cap3, hcl, by push_cast; rfl, by simp, fun h => (by cases h), hp.out, dep_step 0 (.bool q) s2.out (block_set 0 _ s2.out) s0.out s1.out o4.out b4⟩
                case measure => simp [intOf]; omega
              · rw [decide_eq_false hsep] at hs2
                have hp := fhid (hP.out.trans (by rw [hf.out, pItems_sep hpi.out hne (by rw [hall, hhd]; exact hsep)]))
                generalize hsq : sepT q = sq at *
                clear hall hsep hsq
                have hwr := fun W => wrong_any s (c' : Int) W
                obtain ⟨t2, t0, t1, bt⟩ := (fun (x : _ ∧ _ ∧ _ ∧ _ ∧ _) => And.intro x.2.1 (And.intro x.2.2.1 (And.intro x.2.2.2.1 x.2.2.2.2))) (dep_step 0 (.bool q) s2.out (block_set 0 _ s2.out) s0.out s1.out o4.out b4)
                replace t0 := fhid t0
                replace t1 := fhid t1
                have bz := bt.size
                clear c0 c1 f0 f1 z0 c2 c3 f2 f3 z1
                go_wp2_with (first
                  | (go_at_call 17; (with_reducible refine (hb1 _).mono ?_); rintro e w1 ⟨rfl, rfl⟩)
                  | (go_at_call 17; (with_reducible refine (hb2 _).mono ?_); rintro e w1 ⟨rfl, rfl⟩)
                  | (go_at_call 16; (with_reducible refine (hs1 _).mono ?_); rintro e w1 ⟨rfl, rfl⟩)
                  | (go_at_call 16; (with_reducible refine (hs2 _).mono ?_); rintro e w1 ⟨rfl, rfl⟩)
                  | (go_at_call 18; (with_reducible refine (hwr _).mono ?_); rintro e w5 ⟨y, hy, rfl, b5⟩
                     replace hy := fhid hy
                     obtain ⟨c0, c1, f0, f1, z0⟩ := (t0.out.below b5 (DB.facts t0.out).2.2.2.2).facts
                     obtain ⟨c2, c3, f2, f3, z1⟩ := (t1.out.below b5 (FB.facts t1.out).2.2.2.2).facts))
                exact bodyPost_ret (v := .tuple #[.agg #[.bool false, .slice none 0 0], .agg #[.int .i64 y, .int .i64 (c' : Int)]]) (by simp [results, Tryd.results9, go_sem, c0, c1, c2, c3]) rfl
                  (hbad hp.out _ (sets4 (bt.trans (b5.mono bz)) _ _ (Nat.le_refl _) (by omega) _ _ _ _) _ _ hy.out _ rfl)
            · rw [if_neg hl0] at hall
              have hb2 := fun W => between_any any W
              have hs2 := fun W => stands_any s c' c' ((sepT any).toNat : Int) (sepT any) W rfl rfl
              have e2 : ((l.length : Int) + 1 == 1) = false := by rw [beq_eq_false_iff_ne]; omega
              have e3 : ¬ (l.length : Int) + 1 = 1 := by omega
              have e4 : ¬ (l.length : Int) = 0 := by omega
              have e5 : ((l.length : Int) == 0) = false := by rw [beq_eq_false_iff_ne]; omega
              by_cases hsep : (bl s)[c']? = some (sepT any)
              · rw [decide_eq_true hsep] at hs2
                have hp := fhid (hP0.out.trans (by rw [hf.out, pItems_go hfull hpi.out hne (by rw [hall, hhd]; exact hsep), hall, htl, hf2.out, show 32 - l.length = 33 - (l.length + 1) by omega]))
                generalize hsq : sepT any = sq at *
                clear hall hsep hsq
                go_wp2_with (first
                  | (go_at_call 17; (with_reducible refine (hb2 _).mono ?_); rintro e w1 ⟨rfl, rfl⟩)
                  | (go_at_call 16; (with_reducible refine (hs2 _).mono ?_); rintro e w1 ⟨rfl, rfl⟩))
                go_roundw
                case rel => exact ⟨c' + 1, any, l ++ [(k, js)], .slice A3 (l.length + 1) cap3, hcl, by push_cast; rfl, by rw [List.length_append, List.length_singleton]; omega, fun h => absurd h hnl, by rw [List.length_append, List.length_singleton]; exact hp.out, o4.out, s2.out, s0.out, s1.out, b4⟩
                case measure => simp [intOf]; omega
              · rw [decide_eq_false hsep] at hs2
                have hp := fhid (hP.out.trans (by rw [hf.out, pItems_sep hpi.out hne (by rw [hall, hhd]; exact hsep)]))
                generalize hsq : sepT any = sq at *
                clear hall hsep hsq
                have hwr := fun W => wrong_any s (c' : Int) W
                have bz := b4.size
                clear c0 c1 f0 f1 c2 c3 f2 f3
                go_wp2_with (first
                  | (go_at_call 17; (with_reducible refine (hb2 _).mono ?_); rintro e w1 ⟨rfl, rfl⟩)
                  | (go_at_call 16; (with_reducible refine (hs2 _).mono ?_); rintro e w1 ⟨rfl, rfl⟩)
                  | (go_at_call 18; (with_reducible refine (hwr _).mono ?_); rintro e w5 ⟨y, hy, rfl, b5⟩
                     replace hy := fhid hy
                     obtain ⟨c0, c1, f0, f1, z0⟩ := (s0.out.below b5 z0).facts
                     obtain ⟨c2, c3, f2, f3, z1⟩ := (s1.out.below b5 z1).facts))
                exact bodyPost_ret (v := .tuple #[.agg #[.bool false, .slice none 0 0], .agg #[.int .i64 y, .int .i64 (c' : Int)]]) (by simp [results, Tryd.results9, go_sem, c0, c1, c2, c3]) rfl
                  (hbad hp.out _ (sets4 (b4.trans (b5.mono bz)) _ _ (Nat.le_refl _) (by omega) _ _ _ _) _ _ hy.out _ rfl)
end Go.Proofs.YtpelmclgkkhjeaaDoor
