/-
  An item, read: the walk.
-/
import Derived.Test.YtpelmclgkkhjeaaDoorDItem
namespace Go.Proofs.YtpelmclgkkhjeaaDoor
open Go.RowKit

/-- Where the loop over the jobs is. -/
def JobsRel (w : World) (s : ByteArray) (a j : Nat) (K : Int) (e : Value) (wr : World) : Prop := ∃ (c : Nat) (js : List Int) (v : Value), c ≤ s.size ∧ e = .int .i64 (c : Int) ∧ js.length ≤ 32 ∧ pJobs 33 [] ((bl s).drop (a + j)) = pJobs (33 - js.length) js ((bl s).drop c) ∧
  OwnI wr (w.heap.size + 1 + 1 + 1) v js ∧ IB wr (w.heap.size + 1 + 1) TIt K v ∧ IB wr w.heap.size TIt 0 (.slice none 0 0) ∧ FB wr (w.heap.size + 1) 0 0 ∧ Below w.heap.size w wr
theorem jobs_start {w W : World} (s : ByteArray) {a j : Nat} {K : Int} (p0 : IB W w.heap.size TIt 0 (.slice none 0 0)) (p1 : FB W (w.heap.size + 1) 0 0) (p2 : IB W (w.heap.size + 1 + 1) TIt K (.slice none 0 0)) (g0 : Below w.heap.size w W) (_ : w.heap.size + 1 + 1 + 1 ≤ W.heap.size) (hj : a + j ≤ s.size) : JobsRel w s a j K (.int .i64 ((a : Int) + j)) W :=
  ⟨a + j, [], .slice none 0 0, hj, by push_cast; rfl, by simp, rfl, OwnI.nil _ _, p2, p0, p1, g0⟩
theorem tag_It : TIt ≠ 3 := by decide
theorem tag_Fa : TFa ≠ 3 := by decide
theorem jobs_step {w W : World} {K : Int} {v v' : Value} {js : List Int} (h2 : IB W (w.heap.size + 1 + 1) TIt K v) (h0 : IB W w.heap.size TIt 0 (.slice none 0 0)) (h1 : FB W (w.heap.size + 1) 0 0) (ho : OwnI W (w.heap.size + 1 + 1 + 1) v' js) (hb : Below w.heap.size w W) :
    OwnI (W.setCell ⟨w.heap.size + 1 + 1, 1, none⟩ v') (w.heap.size + 1 + 1 + 1) v' js ∧ IB (W.setCell ⟨w.heap.size + 1 + 1, 1, none⟩ v') (w.heap.size + 1 + 1) TIt K v' ∧ IB (W.setCell ⟨w.heap.size + 1 + 1, 1, none⟩ v') w.heap.size TIt 0 (.slice none 0 0) ∧ FB (W.setCell ⟨w.heap.size + 1 + 1, 1, none⟩ v') (w.heap.size + 1) 0 0 ∧ Below w.heap.size w (W.setCell ⟨w.heap.size + 1 + 1, 1, none⟩ v') :=
  ⟨ho.setCell h2 tag_It _ _, block_set 1 _ h2, block_other _ _ h0 (by omega), block_other _ _ h1 (by omega), hb.setCell (show w.heap.size ≤ w.heap.size + 1 + 1 by omega) _⟩
theorem tagI_set {w : World} {b c : Nat} (i : Nat) (u : Value) {cs : Array Value} {T : TypeId} {fr : Nat × Nat} (hc : w.heap[c]? = some (.cells cs T fr)) (hT : T ≠ 3) (h : TagI w b) : TagI (w.setCell ⟨c, i, none⟩ u) b ∧ (w.setCell ⟨c, i, none⟩ u).heap[b]? = w.heap[b]? := by
  have e := block_other i u (w := w) (o := w.heap[b]?) rfl (h.ne hc hT)
  exact ⟨h.same e, e⟩
theorem seg_set {w : World} {c : Nat} (i : Nat) (u : Value) {cs : Array Value} {T : TypeId} {fr : Nat × Nat} (hc : w.heap[c]? = some (.cells cs T fr)) (hT : T ≠ 3) {A : Option Addr} {vs : List Value} (h : SegP w (TagI w) A vs) : SegP (w.setCell ⟨c, i, none⟩ u) (TagI (w.setCell ⟨c, i, none⟩ u)) A vs := by
  have k := h.keep (w' := w.setCell ⟨c, i, none⟩ u) (fun b hb => (tagI_set i u hc hT hb).2)
  exact k.imp fun b _ hb => (tagI_set i u hc hT hb).1
theorem seg_sets4 {w : World} {b c : Nat} {K : Int} {v0 : Value} {x0 y0 : Int} {A : Option Addr} {vs : List Value} (h : SegP w (TagI w) A vs) (hb : IB w b TIt K v0) (hc : FB w c x0 y0) (u v x y : Value) : 
    SegP ((((w.setCell ⟨b, 0, none⟩ u).setCell ⟨b, 1, none⟩ v).setCell ⟨c, 0, none⟩ x).setCell ⟨c, 1, none⟩ y) (TagI ((((w.setCell ⟨b, 0, none⟩ u).setCell ⟨b, 1, none⟩ v).setCell ⟨c, 0, none⟩ x).setCell ⟨c, 1, none⟩ y)) A vs := by
  have hne : b ≠ c := by
    rintro rfl
    have := Option.some.inj (hb.symm.trans hc)
    injection this with _ ht
    revert ht
    decide
  have k1 := block_set 0 u hb
  have k2 := block_set 1 v k1
  have d1 := block_other 0 u hc hne.symm
  have d2 := block_other 1 v d1 hne.symm
  have d3 := block_set 0 x d2
  exact seg_set 1 y d3 tag_Fa (seg_set 0 x d2 tag_Fa (seg_set 1 v k1 tag_It (seg_set 0 u hb tag_It h)))
theorem sets4 {B : Nat} {a w : World} (h : Below B a w) (b c : Nat) (hb : B ≤ b) (hc : B ≤ c) (u v x y : Value) : Below B a ((((w.setCell ⟨b, 0, none⟩ u).setCell ⟨b, 1, none⟩ v).setCell ⟨c, 0, none⟩ x).setCell ⟨c, 1, none⟩ y) := set2 (set2 h b hb u v) c hc x y
set_option maxRecDepth 100000 in
set_option maxHeartbeats 8000000 in
theorem readItem_any (s : ByteArray) (a : Nat) (ai : Int) (w : World) (hai : ai = a) (hs : s.size ≤ 140737488355328) (ha : a ≤ s.size) :
    Calls Tryd.prog 15 #[.string s, .int .i64 ai] w (ItemPost w s a) := by
  subst hai
  obtain ⟨r, hr⟩ : ∃ r, (bl s).drop a = r := ⟨_, rfl⟩
  have hrl : r.length = s.size - a := by rw [← hr, List.length_drop, bl_len]
  have hget : ∀ j (h : a + j < s.size) (h' : j < r.length), r[j] = s[a + j] := fun j h h' => by subst hr; exact drop_get s a j h h'
  have hbad := fun (h : pItem r = none) w' (hb : Below w.heap.size w w') y i (hy : y ≠ 0) e => @ItemPost.bad w s a e w' (by rw [hr]; exact h) hb y i hy
  have hgood := fun (k : Int) (js : List Int) (c : Nat) (h : pItem r = some ((k, js), (bl s).drop c)) w' (hb : Below w.heap.size w w') (hc : c ≤ s.size) e A cap => @ItemPost.good w s a e w' k js c (by rw [hr]; exact h) hb hc A cap
  have hdr : ∀ j, r.drop j = (bl s).drop (a + j) := fun j => by rw [← hr, List.drop_drop]
  have hai0 : (0 : Int) ≤ a := by omega
  have hai1 : (a : Int) ≤ s.size := by omega
  have hsi : (s.size : Int) ≤ 140737488355328 := by omega
  replace hr := fhid hr
  replace hrl := fhid hrl
  replace hget := fhid hget
  go_enter Tryd.func15, Tryd.ntmps15
  go_wp2_with fail
  go_loop [7] (fun i => ∃ j : Nat, j ≤ r.length ∧ i = .int .i64 ((a : Int) + (j : Int)) ∧ AllSm r j) (fun i => s.size - (intOf i).toNat)
  case atStart => exact ⟨0, Nat.zero_le _, by simp, AllSm.zero r⟩
  case round =>
    obtain ⟨j, hjl, rfl, hall⟩ := hrel
    replace hall := fhid hall
    have hjs : a + j ≤ s.size := by have := hrl.out; omega
    have hj0 : (0 : Int) ≤ j := by omega
    have hji : (a : Int) + j ≤ s.size := by omega
    have i0 : (0 : Int) ≤ (a : Int) + j := by omega
    have hle : (a : Int) ≤ (a : Int) + j := by omega
    have htn : ((a : Int) + j).toNat = a + j := by omega
    have hstp : ∀ (hs : ∀ h : j < r.length, isSm r[j] = false), bl (s.extract a (a + j)) = r.takeWhile isSm ∧ (r.takeWhile isSm).length = j := fun hs => by
      obtain ⟨e1, e2⟩ := sm_stop hall.out hjl hs
      refine ⟨?_, e1⟩
      rw [e2, ext_str, bl_str, ← hr.out, show a + j - a = j by omega]
    by_cases hlt : a + j < s.size
    · have hjr : j < r.length := by rw [hrl.out]; omega
      have hg := hget.out j hlt hjr
      have hd := isSmall_any s[a + j]
      have hix : ∀ (h : ((a : Int) + j).toNat < s.size), s[((a : Int) + j).toNat] = s[a + j] := fun h => by congr 1
      have i1 : (a : Int) + j < s.size := by omega
      by_cases hdg : isSm s[a + j] = true
      · rw [hdg] at hd
        have hall' := fhid (hall.out.succ hjr (by rw [hg]; exact hdg))
        clear hstp
        go_wp2_with (first
          | (go_at_call 28; (with_reducible refine (hd _).mono ?_); rintro e w1 ⟨rfl, rfl⟩))
        go_round
        case rel => exact ⟨j + 1, by omega, by rw [show (a : Int) + j + 1 = (a : Int) + ((j + 1 : Nat) : Int) by omega], hall'.out⟩
        case measure => simp [intOf]; omega
      · have hdf : isSm s[a + j] = false := by simpa using hdg
        rw [hdf] at hd
        obtain ⟨hbw, hlw⟩ := hstp (fun h => by rw [hg]; exact hdf)
        clear hstp hg
        have hpI := fhid (show pItem r = (if kindOf (r.takeWhile isSm) = 5 then some ((5, []), r.drop (r.takeWhile isSm).length) else if ¬ (1 ≤ kindOf (r.takeWhile isSm) ∧ kindOf (r.takeWhile isSm) ≤ 4) then none
          else if (r.drop (r.takeWhile isSm).length).head? ≠ some 58 then none else match pJobs 33 [] (r.drop (r.takeWhile isSm).length) with
            | none => none
            | some (js, r') => some ((kindOf (r.takeWhile isSm), js), r')) from rfl)
        have hkw := fun W => kindOf_any (s.extract a (a + j)) W
        obtain ⟨K0, hK0⟩ : ∃ K, kindOf (r.takeWhile isSm) = K := ⟨_, rfl⟩
        rw [hbw, hK0] at hkw
        have hK0h := fhid hK0
        have hpI' := hpI.out
        rw [hK0, hlw, hdr j] at hpI'
        have hkr := kindOf_range (r.takeWhile isSm)
        rw [hK0] at hkr
        clear hpI hbw hlw hK0 hK0h hdr
        replace hall := fhid True.intro
        replace hpI' := fhid hpI'
        have hnj := fun W => namesJobs_any K0 W
        have hst := fun W => stands_any s (a + j) ((a : Int) + j) 58 58 W (by omega) rfl
        have hhd : ((bl s).drop (a + j)).head? = (bl s)[a + j]? := by rw [List.head?_drop]
        obtain ⟨p0, p1, p2, g0, gz⟩ := item_start w K0
        by_cases h5 : K0 = 5
        · subst h5
          have hp := fhid (hpI'.out.trans (if_pos rfl))
          clear hpI' hnj hst hhd
          replace p0 := fhid p0
          replace p1 := fhid p1
          replace p2 := fhid p2
          go_upto_region 5 with (first
            | (go_at_call 28; (with_reducible refine (hd _).mono ?_); rintro e w1 ⟨rfl, rfl⟩)
            | (go_at_call 29; (with_reducible refine (hkw _).mono ?_); rintro e w1 ⟨rfl, rfl⟩))
          generalize World.alloc _ _ = W at *
          obtain ⟨c0, c1, f0, f1, z0⟩ := p0.out.facts
          obtain ⟨c2, c3, f2, f3, z1⟩ := p1.out.facts
          obtain ⟨c4, c5, f4, f5, z2⟩ := p2.out.facts
          go_wp2_with fail
          exact bodyPost_ret (v := .tuple #[.agg #[.int .i64 5, .slice none 0 0], .int .i64 ((a : Int) + j), .agg #[.int .i64 0, .int .i64 0]]) (by simp [results, Tryd.results15, go_sem, c0, c1, c2, c3]) rfl
            (hgood 5 [] (a + j) hp.out _ (sets4 g0 _ _ (Nat.le_refl _) (by omega) _ _ _ _) hjs _ none 0 (Nat.le_refl _) (by unfold maxLen; omega) (SegP.nil _ _ _) (by push_cast; rfl))
        have b5 : (K0 == 5) = false := by simpa using h5
        have hp5 := fhid (hpI'.out.trans (if_neg h5))
        clear hpI'
        by_cases h14 : 1 ≤ K0 ∧ K0 ≤ 4
        · rw [decide_eq_true h14] at hnj
          have hp14 := fhid (hp5.out.trans (if_neg (fun h => h h14)))
          clear hp5 h14 hkr
          by_cases h58 : (bl s)[a + j]? = some 58
          · rw [decide_eq_true h58] at hst
            have hp58 := fhid (hp14.out.trans (if_neg (fun h => h (hhd.trans h58))))
            clear hp14 hhd
            replace p0 := fhid p0
            replace p1 := fhid p1
            replace p2 := fhid p2
            go_upto_region 5 with (first
              | (go_at_call 28; (with_reducible refine (hd _).mono ?_); rintro e w1 ⟨rfl, rfl⟩)
              | (go_at_call 29; (with_reducible refine (hkw _).mono ?_); rintro e w1 ⟨rfl, rfl⟩))
            generalize World.alloc _ _ = W at *
            obtain ⟨c4, c5, f4, f5, z2⟩ := p2.out.facts
            go_wp2_with (first
              | (go_at_call 23; (with_reducible refine (hnj _).mono ?_); rintro e w1 ⟨rfl, rfl⟩)
              | (go_at_call 16; (with_reducible refine (hst _).mono ?_); rintro e w1 ⟨rfl, rfl⟩))
            clear hst hnj hkw hd c4 c5 f4 f5 z2
            go_loopw [7] (fun e wr => JobsRel w s a j K0 e wr) (fun e _ => s.size + 1 - (intOf e).toNat)
            case atStart => exact jobs_start s p0.out p1.out p2.out g0 gz hjs
            case round =>
              obtain ⟨c, js, v, hc, rfl, h32, hP, hO, q2, q0, q1, hB⟩ := hrel
              obtain ⟨A, cap, rfl, hcap1, hcap2, hsg⟩ := hO.tag
              have hnB := hB.size
              have hst := fun W => stands_any s c c 58 58 W rfl rfl
              have hhd : ((bl s).drop c).head? = (bl s)[c]? := by rw [List.head?_drop]
              have hc0 : (0 : Int) ≤ c := by omega
              have hcs : (c : Int) ≤ s.size := by omega
              replace hO := fhid hO
              replace q0 := fhid q0
              replace q1 := fhid q1
              replace q2 := fhid q2
              have hP0 := fhid hP
              replace hP := fhid (hp58.out.trans (by rw [hP]))
              replace hp58 := fhid True.intro
              obtain ⟨f, hf⟩ : ∃ f, 33 - js.length = f + 1 := ⟨32 - js.length, by omega⟩
              have hf2 : f = 32 - js.length := by omega
              obtain ⟨c4, c5, f4, f5, z2⟩ := q2.out.facts
              replace hsg := fhid hsg
              by_cases h58 : (bl s)[c]? = some 58
              · rw [decide_eq_true h58] at hst
                have hh : ((bl s).drop c).head? = some 58 := hhd.trans h58
                have hcl : c < s.size := by
                  have := (List.getElem?_eq_some_iff.1 h58).1
                  rw [bl_len] at this
                  exact this
                have htl : ((bl s).drop c).tail = (bl s).drop (c + 1) := by rw [List.tail_drop]
                by_cases hfull : js.length = 32
                · have hp := fhid (hP.out.trans (by rw [hf, pJobs_full hh hfull]))
                  have e32 : (js.length : Int) = 32 := by omega
                  clear hP hf hf2 hhd
                  obtain ⟨c0, c1, f0, f1, z0⟩ := q0.out.facts
                  obtain ⟨c2, c3, f2, f3, z1⟩ := q1.out.facts
                  go_wp2_with (first
                    | (go_at_call 16; (with_reducible refine (hst _).mono ?_); rintro e w1 ⟨rfl, rfl⟩))
                  exact bodyPost_ret (v := .tuple #[.agg #[.int .i64 0, .slice none 0 0], .int .i64 0, .agg #[.int .i64 5, .int .i64 (a : Int)]]) (by simp [results, Tryd.results15, go_sem, c0, c1, c2, c3]) rfl
                    (hbad hp.out _ (sets4 hB _ _ (Nat.le_refl _) (by omega) _ _ _ _) _ _ (by decide) _ rfl)
                · have e32 : ((js.length : Int) == 32) = false := by simp; omega
                  have hjb := fun W => readJob_any s (c + 1) ((c : Int) + 1) W (by omega) hs (by omega)
                  unfold JobPost at hjb
                  cases hpj : pJob ((bl s).drop (c + 1)) with
                  | none =>
                    rw [hpj] at hjb
                    simp only at hjb
                    have hp := fhid (hP.out.trans (by rw [hf, pJobs_bad hh hfull (by rw [htl]; exact hpj)]))
                    clear hP hf hf2 hhd hpj
                    go_wp2_with (first
                      | (go_at_call 16; (with_reducible refine (hst _).mono ?_); rintro e w1 ⟨rfl, rfl⟩)
                      | (go_at_call 30; (with_reducible refine (hjb _).mono ?_); rintro e w2 ⟨b1, y, i, hy, rfl⟩
                         have hy1 : ¬ y = 0 := hy
                         have hy2 : (y != 0) = true := by simpa using hy
                         have zb := b1.size
                         have q3 := fhid (new_at w2 (.cells #[.int .i64 y, .int .i64 i] TFa) _ rfl)
                         have r0 := fhid (old_at w2 (.cells #[.int .i64 y, .int .i64 i] TFa) _ (q0.out.below b1 (by omega)) (by omega))
                         have r1 := fhid (old_at w2 (.cells #[.int .i64 y, .int .i64 i] TFa) _ (q1.out.below b1 (by omega)) (by omega))))
                    obtain ⟨c0, c1, f0, f1, z0⟩ := IB.facts r0.out
                    obtain ⟨c2, c3, f2, f3, z1⟩ := FB.facts r1.out
                    have bz := (hB.trans (b1.mono hB.size)).alloc (by omega) (.cells #[.int .i64 y, .int .i64 i] TFa)
                    obtain ⟨c6, c7, f6, f7, z3⟩ := FB.facts q3.out
                    go_region
                    go_wp2_with fail
                    refine bodyPost_ret (v := .tuple #[.agg #[.int .i64 0, .slice none 0 0], .int .i64 0, .agg #[.int .i64 y, .int .i64 i]]) (by simp [results, Tryd.results15, go_sem, c0, c1, c2, c3]) rfl
                      (hbad hp.out _ ?_ _ _ hy _ rfl)
                    repeat' (first | (with_reducible exact bz) | (with_reducible apply Below.drew) | (with_reducible apply Below.setCell) | (with_reducible apply below_drewN))
                    all_goals (first | omega | (simp; done) | (simp; omega))
                  | some x =>
                    obtain ⟨n, r1⟩ := x
                    rw [hpj] at hjb
                    simp only at hjb
                    have hp := fhid (hP0.out.trans (by rw [hf, pJobs_go hh hfull (by rw [htl]; exact hpj), hf2, show 32 - js.length = 33 - (js.length + 1) by omega]))
                    clear hf hf2 hhd hpj hP
                    go_wp2_with (first
                      | (go_at_call 16; (with_reducible refine (hst _).mono ?_); rintro e w1 ⟨rfl, rfl⟩)
                      | (go_at_call 30; (with_reducible refine (hjb _).mono ?_); rintro e w2 ⟨b1, c', hc', hc2, rfl, rfl⟩
                         have zb := b1.size
                         have q3 := fhid (new_at w2 (.cells #[.int .i64 0, .int .i64 0] TFa) _ rfl)
                         have r0 := fhid (old_at w2 (.cells #[.int .i64 0, .int .i64 0] TFa) _ (q0.out.below b1 (by omega)) (by omega))
                         have r1 := fhid (old_at w2 (.cells #[.int .i64 0, .int .i64 0] TFa) _ (q1.out.below b1 (by omega)) (by omega))
                         have r2 := fhid (old_at w2 (.cells #[.int .i64 0, .int .i64 0] TFa) _ (q2.out.below b1 (by omega)) (by omega))
                         have o2 := fhid (World.ownsRow.alloc (hO.out.below b1) (.cells #[.int .i64 0, .int .i64 0] TFa))
                         have bz := (hB.trans (b1.mono hB.size)).alloc (by omega) (.cells #[.int .i64 0, .int .i64 0] TFa)
                         clear c4 c5 f4 f5
                         obtain ⟨c4, c5, f4, f5, z3⟩ := IB.facts r2.out
                         have z4 : w.heap.size + 1 + 1 + 1 ≤ (w2.alloc (.cells #[.int .i64 0, .int .i64 0] TFa)).heap.size := by rw [World.size_alloc]; omega)
                      | (at_builtin; (refine app_int rfl _ _ rfl (w.heap.size + 1 + 1 + 1) _ js n (w2.alloc (.cells #[.int .i64 0, .int .i64 0] TFa)) rfl o2.out rfl (w2.heap.size + 1) (by rw [World.size_alloc]) rfl (by omega) z4 ?_; intro v3 w3 o3 _ b3)
                         obtain ⟨A3, m3, cap3, rfl⟩ : ∃ A m c, v3 = .slice A m c := by obtain ⟨A, cap, e, _⟩ := o3.tag; exact ⟨A, _, cap, e⟩
                         replace o3 := fhid o3
                         obtain ⟨_, _, g4, g5, _⟩ := IB.facts (IB.below r2.out b3 (by omega))))
                    go_roundw
                    case rel => exact ⟨c', js ++ [n], _, hc2, rfl, by rw [List.length_append, List.length_singleton]; omega, by rw [List.length_append, List.length_singleton]; exact hp.out, jobs_step (IB.below r2.out b3 (by omega)) (IB.below r0.out b3 (by omega)) (FB.below r1.out b3 (by omega)) o3.out (bz.trans (b3.mono (by omega)))⟩
                    case measure => simp [intOf]; omega
              · rw [decide_eq_false h58] at hst
                have hp := fhid (hP.out.trans (by rw [hf, pJobs_stop (fun h => h58 (hhd.symm.trans h))]))
                clear hP hf hf2 hhd
                obtain ⟨c0, c1, f0, f1, z0⟩ := q0.out.facts
                obtain ⟨c2, c3, f2, f3, z1⟩ := q1.out.facts
                go_wp2_with (first
                  | (go_at_call 16; (with_reducible refine (hst _).mono ?_); rintro e w1 ⟨rfl, rfl⟩))
                exact bodyPost_ret (v := .tuple #[.agg #[.int .i64 K0, .slice A js.length cap], .int .i64 (c : Int), .agg #[.int .i64 0, .int .i64 0]]) (by simp [results, Tryd.results15, go_sem, c0, c1, c2, c3]) rfl
                  (hgood K0 js c hp.out _ (sets4 hB _ _ (Nat.le_refl _) (by omega) _ _ _ _) hc _ A cap hcap1 hcap2 (seg_sets4 hsg.out q0.out q1.out _ _ _ _) rfl)
          · rw [decide_eq_false h58] at hst
            have hp := fhid (hp14.out.trans (if_pos (fun h => h58 (hhd.symm.trans h))))
            clear hp14 hhd
            replace p0 := fhid p0
            replace p1 := fhid p1
            replace p2 := fhid p2
            go_upto_region 5 with (first
              | (go_at_call 28; (with_reducible refine (hd _).mono ?_); rintro e w1 ⟨rfl, rfl⟩)
              | (go_at_call 29; (with_reducible refine (hkw _).mono ?_); rintro e w1 ⟨rfl, rfl⟩))
            generalize World.alloc _ _ = W at *
            obtain ⟨c4, c5, f4, f5, z2⟩ := p2.out.facts
            go_wp2_with (first
              | (go_at_call 23; (with_reducible refine (hnj _).mono ?_); rintro e w1 ⟨rfl, rfl⟩)
              | (go_at_call 16; (with_reducible refine (hst _).mono ?_); rintro e w1 ⟨rfl, rfl⟩)
              | (go_at_call 18; (with_reducible refine (wrong_any s _ _).mono ?_); rintro e w2 ⟨y, hy, rfl, b1⟩
                 replace hy := fhid hy
                 obtain ⟨c0, c1, f0, f1, z0⟩ := (p0.out.below b1 (by omega)).facts
                 obtain ⟨c2, c3, f2, f3, z1⟩ := (p1.out.below b1 (by omega)).facts))
            exact bodyPost_ret (v := .tuple #[.agg #[.int .i64 0, .slice none 0 0], .int .i64 0, .agg #[.int .i64 y, .int .i64 ((a : Int) + j)]]) (by simp [results, Tryd.results15, go_sem, c0, c1, c2, c3]) rfl
              (hbad hp.out _ (sets4 (g0.trans (b1.mono g0.size)) _ _ (Nat.le_refl _) (by omega) _ _ _ _) _ _ hy.out _ rfl)
        · rw [decide_eq_false h14] at hnj
          have hp := fhid (hp5.out.trans (if_pos h14))
          clear hp5 h14 hkr hst hhd
          replace p0 := fhid p0
          replace p1 := fhid p1
          replace p2 := fhid p2
          go_upto_region 5 with (first
            | (go_at_call 28; (with_reducible refine (hd _).mono ?_); rintro e w1 ⟨rfl, rfl⟩)
            | (go_at_call 29; (with_reducible refine (hkw _).mono ?_); rintro e w1 ⟨rfl, rfl⟩))
          generalize World.alloc _ _ = W at *
          obtain ⟨c4, c5, f4, f5, z2⟩ := p2.out.facts
          go_wp2_with (first
            | (go_at_call 23; (with_reducible refine (hnj _).mono ?_); rintro e w1 ⟨rfl, rfl⟩)
            | (go_at_call 18; (with_reducible refine (wrong_any s _ _).mono ?_); rintro e w2 ⟨y, hy, rfl, b1⟩
               replace hy := fhid hy
               obtain ⟨c0, c1, f0, f1, z0⟩ := (p0.out.below b1 (by omega)).facts
               obtain ⟨c2, c3, f2, f3, z1⟩ := (p1.out.below b1 (by omega)).facts))
          exact bodyPost_ret (v := .tuple #[.agg #[.int .i64 0, .slice none 0 0], .int .i64 0, .agg #[.int .i64 y, .int .i64 (a : Int)]]) (by simp [results, Tryd.results15, go_sem, c0, c1, c2, c3]) rfl
            (hbad hp.out _ (sets4 (g0.trans (b1.mono g0.size)) _ _ (Nat.le_refl _) (by omega) _ _ _ _) _ _ hy.out _ rfl)
    · have i1 : ¬ (a : Int) + j < s.size := by omega
      obtain ⟨hbw, hlw⟩ := hstp (fun h => absurd h (by have := hrl.out; omega))
      clear hstp
      have hd : True := trivial
      have hpI := fhid (show pItem r = (if kindOf (r.takeWhile isSm) = 5 then some ((5, []), r.drop (r.takeWhile isSm).length) else if ¬ (1 ≤ kindOf (r.takeWhile isSm) ∧ kindOf (r.takeWhile isSm) ≤ 4) then none
        else if (r.drop (r.takeWhile isSm).length).head? ≠ some 58 then none else match pJobs 33 [] (r.drop (r.takeWhile isSm).length) with
          | none => none
          | some (js, r') => some ((kindOf (r.takeWhile isSm), js), r')) from rfl)
      have hkw := fun W => kindOf_any (s.extract a (a + j)) W
      obtain ⟨K0, hK0⟩ : ∃ K, kindOf (r.takeWhile isSm) = K := ⟨_, rfl⟩
      rw [hbw, hK0] at hkw
      have hK0h := fhid hK0
      have hpI' := hpI.out
      rw [hK0, hlw, hdr j] at hpI'
      have hkr := kindOf_range (r.takeWhile isSm)
      rw [hK0] at hkr
      clear hpI hbw hlw hK0 hK0h hdr
      replace hall := fhid True.intro
      replace hpI' := fhid hpI'
      have hnj := fun W => namesJobs_any K0 W
      have hst := fun W => stands_any s (a + j) ((a : Int) + j) 58 58 W (by omega) rfl
      have hhd : ((bl s).drop (a + j)).head? = (bl s)[a + j]? := by rw [List.head?_drop]
      obtain ⟨p0, p1, p2, g0, gz⟩ := item_start w K0
      by_cases h5 : K0 = 5
      · subst h5
        have hp := fhid (hpI'.out.trans (if_pos rfl))
        clear hpI' hnj hst hhd
        replace p0 := fhid p0
        replace p1 := fhid p1
        replace p2 := fhid p2
        go_upto_region 5 with (go_at_call 29; (with_reducible refine (hkw _).mono ?_); rintro e w1 ⟨rfl, rfl⟩)
        generalize World.alloc _ _ = W at *
        obtain ⟨c0, c1, f0, f1, z0⟩ := p0.out.facts
        obtain ⟨c2, c3, f2, f3, z1⟩ := p1.out.facts
        obtain ⟨c4, c5, f4, f5, z2⟩ := p2.out.facts
        go_wp2_with fail
        exact bodyPost_ret (v := .tuple #[.agg #[.int .i64 5, .slice none 0 0], .int .i64 ((a : Int) + j), .agg #[.int .i64 0, .int .i64 0]]) (by simp [results, Tryd.results15, go_sem, c0, c1, c2, c3]) rfl
          (hgood 5 [] (a + j) hp.out _ (sets4 g0 _ _ (Nat.le_refl _) (by omega) _ _ _ _) hjs _ none 0 (Nat.le_refl _) (by unfold maxLen; omega) (SegP.nil _ _ _) (by push_cast; rfl))
      have b5 : (K0 == 5) = false := by simpa using h5
      have hp5 := fhid (hpI'.out.trans (if_neg h5))
      clear hpI'
      by_cases h14 : 1 ≤ K0 ∧ K0 ≤ 4
      · rw [decide_eq_true h14] at hnj
        have hp14 := fhid (hp5.out.trans (if_neg (fun h => h h14)))
        clear hp5 h14 hkr
        by_cases h58 : (bl s)[a + j]? = some 58
        · rw [decide_eq_true h58] at hst
          have hp58 := fhid (hp14.out.trans (if_neg (fun h => h (hhd.trans h58))))
          clear hp14 hhd
          replace p0 := fhid p0
          replace p1 := fhid p1
          replace p2 := fhid p2
          go_upto_region 5 with (go_at_call 29; (with_reducible refine (hkw _).mono ?_); rintro e w1 ⟨rfl, rfl⟩)
          generalize World.alloc _ _ = W at *
          obtain ⟨c4, c5, f4, f5, z2⟩ := p2.out.facts
          go_wp2_with (first
            | (go_at_call 23; (with_reducible refine (hnj _).mono ?_); rintro e w1 ⟨rfl, rfl⟩)
            | (go_at_call 16; (with_reducible refine (hst _).mono ?_); rintro e w1 ⟨rfl, rfl⟩))
          clear hst hnj hkw hd c4 c5 f4 f5 z2
          go_loopw [7] (fun e wr => JobsRel w s a j K0 e wr) (fun e _ => s.size + 1 - (intOf e).toNat)
          case atStart => exact jobs_start s p0.out p1.out p2.out g0 gz hjs
          case round =>
            obtain ⟨c, js, v, hc, rfl, h32, hP, hO, q2, q0, q1, hB⟩ := hrel
            obtain ⟨A, cap, rfl, hcap1, hcap2, hsg⟩ := hO.tag
            have hnB := hB.size
            have hst := fun W => stands_any s c c 58 58 W rfl rfl
            have hhd : ((bl s).drop c).head? = (bl s)[c]? := by rw [List.head?_drop]
            have hc0 : (0 : Int) ≤ c := by omega
            have hcs : (c : Int) ≤ s.size := by omega
            replace hO := fhid hO
            replace q0 := fhid q0
            replace q1 := fhid q1
            replace q2 := fhid q2
            have hP0 := fhid hP
            replace hP := fhid (hp58.out.trans (by rw [hP]))
            replace hp58 := fhid True.intro
            obtain ⟨f, hf⟩ : ∃ f, 33 - js.length = f + 1 := ⟨32 - js.length, by omega⟩
            have hf2 : f = 32 - js.length := by omega
            obtain ⟨c4, c5, f4, f5, z2⟩ := q2.out.facts
            replace hsg := fhid hsg
            by_cases h58 : (bl s)[c]? = some 58
            · rw [decide_eq_true h58] at hst
              have hh : ((bl s).drop c).head? = some 58 := hhd.trans h58
              have hcl : c < s.size := by
                have := (List.getElem?_eq_some_iff.1 h58).1
                rw [bl_len] at this
                exact this
              have htl : ((bl s).drop c).tail = (bl s).drop (c + 1) := by rw [List.tail_drop]
              by_cases hfull : js.length = 32
              · have hp := fhid (hP.out.trans (by rw [hf, pJobs_full hh hfull]))
                have e32 : (js.length : Int) = 32 := by omega
                clear hP hf hf2 hhd
                obtain ⟨c0, c1, f0, f1, z0⟩ := q0.out.facts
                obtain ⟨c2, c3, f2, f3, z1⟩ := q1.out.facts
                go_wp2_with (first
                  | (go_at_call 16; (with_reducible refine (hst _).mono ?_); rintro e w1 ⟨rfl, rfl⟩))
                exact bodyPost_ret (v := .tuple #[.agg #[.int .i64 0, .slice none 0 0], .int .i64 0, .agg #[.int .i64 5, .int .i64 (a : Int)]]) (by simp [results, Tryd.results15, go_sem, c0, c1, c2, c3]) rfl
                  (hbad hp.out _ (sets4 hB _ _ (Nat.le_refl _) (by omega) _ _ _ _) _ _ (by decide) _ rfl)
              · have e32 : ((js.length : Int) == 32) = false := by simp; omega
                have hjb := fun W => readJob_any s (c + 1) ((c : Int) + 1) W (by omega) hs (by omega)
                unfold JobPost at hjb
                cases hpj : pJob ((bl s).drop (c + 1)) with
                | none =>
                  rw [hpj] at hjb
                  simp only at hjb
                  have hp := fhid (hP.out.trans (by rw [hf, pJobs_bad hh hfull (by rw [htl]; exact hpj)]))
                  clear hP hf hf2 hhd hpj
                  go_wp2_with (first
                    | (go_at_call 16; (with_reducible refine (hst _).mono ?_); rintro e w1 ⟨rfl, rfl⟩)
                    | (go_at_call 30; (with_reducible refine (hjb _).mono ?_); rintro e w2 ⟨b1, y, i, hy, rfl⟩
                       have hy1 : ¬ y = 0 := hy
                       have hy2 : (y != 0) = true := by simpa using hy
                       have zb := b1.size
                       have q3 := fhid (new_at w2 (.cells #[.int .i64 y, .int .i64 i] TFa) _ rfl)
                       have r0 := fhid (old_at w2 (.cells #[.int .i64 y, .int .i64 i] TFa) _ (q0.out.below b1 (by omega)) (by omega))
                       have r1 := fhid (old_at w2 (.cells #[.int .i64 y, .int .i64 i] TFa) _ (q1.out.below b1 (by omega)) (by omega))))
                  obtain ⟨c0, c1, f0, f1, z0⟩ := IB.facts r0.out
                  obtain ⟨c2, c3, f2, f3, z1⟩ := FB.facts r1.out
                  have bz := (hB.trans (b1.mono hB.size)).alloc (by omega) (.cells #[.int .i64 y, .int .i64 i] TFa)
                  obtain ⟨c6, c7, f6, f7, z3⟩ := FB.facts q3.out
                  go_region
                  go_wp2_with fail
                  refine bodyPost_ret (v := .tuple #[.agg #[.int .i64 0, .slice none 0 0], .int .i64 0, .agg #[.int .i64 y, .int .i64 i]]) (by simp [results, Tryd.results15, go_sem, c0, c1, c2, c3]) rfl
                    (hbad hp.out _ ?_ _ _ hy _ rfl)
                  repeat' (first | (with_reducible exact bz) | (with_reducible apply Below.drew) | (with_reducible apply Below.setCell) | (with_reducible apply below_drewN))
                  all_goals (first | omega | (simp; done) | (simp; omega))
                | some x =>
                  obtain ⟨n, r1⟩ := x
                  rw [hpj] at hjb
                  simp only at hjb
                  have hp := fhid (hP0.out.trans (by rw [hf, pJobs_go hh hfull (by rw [htl]; exact hpj), hf2, show 32 - js.length = 33 - (js.length + 1) by omega]))
                  clear hf hf2 hhd hpj hP
                  go_wp2_with (first
                    | (go_at_call 16; (with_reducible refine (hst _).mono ?_); rintro e w1 ⟨rfl, rfl⟩)
                    | (go_at_call 30; (with_reducible refine (hjb _).mono ?_); rintro e w2 ⟨b1, c', hc', hc2, rfl, rfl⟩
                       have zb := b1.size
                       have q3 := fhid (new_at w2 (.cells #[.int .i64 0, .int .i64 0] TFa) _ rfl)
                       have r0 := fhid (old_at w2 (.cells #[.int .i64 0, .int .i64 0] TFa) _ (q0.out.below b1 (by omega)) (by omega))
                       have r1 := fhid (old_at w2 (.cells #[.int .i64 0, .int .i64 0] TFa) _ (q1.out.below b1 (by omega)) (by omega))
                       have r2 := fhid (old_at w2 (.cells #[.int .i64 0, .int .i64 0] TFa) _ (q2.out.below b1 (by omega)) (by omega))
                       have o2 := fhid (World.ownsRow.alloc (hO.out.below b1) (.cells #[.int .i64 0, .int .i64 0] TFa))
                       have bz := (hB.trans (b1.mono hB.size)).alloc (by omega) (.cells #[.int .i64 0, .int .i64 0] TFa)
                       clear c4 c5 f4 f5
                       obtain ⟨c4, c5, f4, f5, z3⟩ := IB.facts r2.out
                       have z4 : w.heap.size + 1 + 1 + 1 ≤ (w2.alloc (.cells #[.int .i64 0, .int .i64 0] TFa)).heap.size := by rw [World.size_alloc]; omega)
                    | (at_builtin; (refine app_int rfl _ _ rfl (w.heap.size + 1 + 1 + 1) _ js n (w2.alloc (.cells #[.int .i64 0, .int .i64 0] TFa)) rfl o2.out rfl (w2.heap.size + 1) (by rw [World.size_alloc]) rfl (by omega) z4 ?_; intro v3 w3 o3 _ b3)
                       obtain ⟨A3, m3, cap3, rfl⟩ : ∃ A m c, v3 = .slice A m c := by obtain ⟨A, cap, e, _⟩ := o3.tag; exact ⟨A, _, cap, e⟩
                       replace o3 := fhid o3
                       obtain ⟨_, _, g4, g5, _⟩ := IB.facts (IB.below r2.out b3 (by omega))))
                  go_roundw
                  case rel => exact ⟨c', js ++ [n], _, hc2, rfl, by rw [List.length_append, List.length_singleton]; omega, by rw [List.length_append, List.length_singleton]; exact hp.out, jobs_step (IB.below r2.out b3 (by omega)) (IB.below r0.out b3 (by omega)) (FB.below r1.out b3 (by omega)) o3.out (bz.trans (b3.mono (by omega)))⟩
                  case measure => simp [intOf]; omega
            · rw [decide_eq_false h58] at hst
              have hp := fhid (hP.out.trans (by rw [hf, pJobs_stop (fun h => h58 (hhd.symm.trans h))]))
              clear hP hf hf2 hhd
              obtain ⟨c0, c1, f0, f1, z0⟩ := q0.out.facts
              obtain ⟨c2, c3, f2, f3, z1⟩ := q1.out.facts
              go_wp2_with (first
                | (go_at_call 16; (with_reducible refine (hst _).mono ?_); rintro e w1 ⟨rfl, rfl⟩))
              exact bodyPost_ret (v := .tuple #[.agg #[.int .i64 K0, .slice A js.length cap], .int .i64 (c : Int), .agg #[.int .i64 0, .int .i64 0]]) (by simp [results, Tryd.results15, go_sem, c0, c1, c2, c3]) rfl
                (hgood K0 js c hp.out _ (sets4 hB _ _ (Nat.le_refl _) (by omega) _ _ _ _) hc _ A cap hcap1 hcap2 (seg_sets4 hsg.out q0.out q1.out _ _ _ _) rfl)
        · rw [decide_eq_false h58] at hst
          have hp := fhid (hp14.out.trans (if_pos (fun h => h58 (hhd.symm.trans h))))
          clear hp14 hhd
          replace p0 := fhid p0
          replace p1 := fhid p1
          replace p2 := fhid p2
          go_upto_region 5 with (go_at_call 29; (with_reducible refine (hkw _).mono ?_); rintro e w1 ⟨rfl, rfl⟩)
          generalize World.alloc _ _ = W at *
          obtain ⟨c4, c5, f4, f5, z2⟩ := p2.out.facts
          go_wp2_with (first
            | (go_at_call 23; (with_reducible refine (hnj _).mono ?_); rintro e w1 ⟨rfl, rfl⟩)
            | (go_at_call 16; (with_reducible refine (hst _).mono ?_); rintro e w1 ⟨rfl, rfl⟩)
            | (go_at_call 18; (with_reducible refine (wrong_any s _ _).mono ?_); rintro e w2 ⟨y, hy, rfl, b1⟩
               replace hy := fhid hy
               obtain ⟨c0, c1, f0, f1, z0⟩ := (p0.out.below b1 (by omega)).facts
               obtain ⟨c2, c3, f2, f3, z1⟩ := (p1.out.below b1 (by omega)).facts))
          exact bodyPost_ret (v := .tuple #[.agg #[.int .i64 0, .slice none 0 0], .int .i64 0, .agg #[.int .i64 y, .int .i64 ((a : Int) + j)]]) (by simp [results, Tryd.results15, go_sem, c0, c1, c2, c3]) rfl
            (hbad hp.out _ (sets4 (g0.trans (b1.mono g0.size)) _ _ (Nat.le_refl _) (by omega) _ _ _ _) _ _ hy.out _ rfl)
      · rw [decide_eq_false h14] at hnj
        have hp := fhid (hp5.out.trans (if_pos h14))
        clear hp5 h14 hkr hst hhd
        replace p0 := fhid p0
        replace p1 := fhid p1
        replace p2 := fhid p2
        go_upto_region 5 with (go_at_call 29; (with_reducible refine (hkw _).mono ?_); rintro e w1 ⟨rfl, rfl⟩)
        generalize World.alloc _ _ = W at *
        obtain ⟨c4, c5, f4, f5, z2⟩ := p2.out.facts
        go_wp2_with (first
          | (go_at_call 23; (with_reducible refine (hnj _).mono ?_); rintro e w1 ⟨rfl, rfl⟩)
          | (go_at_call 18; (with_reducible refine (wrong_any s _ _).mono ?_); rintro e w2 ⟨y, hy, rfl, b1⟩
             replace hy := fhid hy
             obtain ⟨c0, c1, f0, f1, z0⟩ := (p0.out.below b1 (by omega)).facts
             obtain ⟨c2, c3, f2, f3, z1⟩ := (p1.out.below b1 (by omega)).facts))
        exact bodyPost_ret (v := .tuple #[.agg #[.int .i64 0, .slice none 0 0], .int .i64 0, .agg #[.int .i64 y, .int .i64 (a : Int)]]) (by simp [results, Tryd.results15, go_sem, c0, c1, c2, c3]) rfl
          (hbad hp.out _ (sets4 (g0.trans (b1.mono g0.size)) _ _ (Nat.le_refl _) (by omega) _ _ _ _) _ _ hy.out _ rfl)
end Go.Proofs.YtpelmclgkkhjeaaDoor
