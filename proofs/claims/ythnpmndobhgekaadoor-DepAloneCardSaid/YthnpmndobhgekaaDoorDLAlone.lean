/-
  DepAlone, walked.
-/
import Derived.Test.YthnpmndobhgekaaDoorDAlive
import Derived.BigRegion
import Derived.Deep.DeepCutAuto
namespace Go.Proofs.YthnpmndobhgekaaDoor
open Go.RowKit

theorem ownsRow_base_seg {w : World} {base : Nat} {e : TypeId} {size n : Nat} {v : Value} {xs : List Value} (h : w.ownsRow base e size v n xs) : ∃ A cap, v = .slice A n cap ∧ SegP w (fun b => base ≤ b ∧ b < w.heap.size) A xs := by
  obtain ⟨hl, ⟨rfl, rfl⟩ | ⟨g, cap, cur, rfl, hb, hg, hle, hcm, hsz, ht⟩⟩ := h
  · rw [Nat.zero_mul] at hl
    rw [List.eq_nil_of_length_eq_zero hl]
    exact ⟨none, 0, rfl, SegP.nil _ _ _⟩
  · refine ⟨some ⟨g, 0, none⟩, cap, rfl, fun h0 => ⟨g, 0, rfl, ⟨hb, (Array.getElem?_eq_some_iff.1 hg).1⟩, fun j hj => ?_⟩⟩
    have e : (cur.toList.take (n * size))[j]? = some xs[j] := by rw [ht, List.getElem?_eq_getElem hj]
    rw [List.getElem?_take, if_pos (by omega), Array.getElem?_toList] at e
    simp only [World.cell?, hg, Nat.zero_add]
    simpa using e
/-- Items, all that they are in blocks of ok. -/
def ItsP (w : World) (ok : Nat → Prop) (A : Option Addr) (l : List Itm) : Prop := ∃ xs, SegP w ok A xs ∧ ItC w ok xs l
theorem ItsP.keep {w w' : World} {ok : Nat → Prop} {A : Option Addr} {l : List Itm} (h : ItsP w ok A l) (hk : ∀ b, ok b → w'.heap[b]? = w.heap[b]?) : ItsP w' ok A l := by
  obtain ⟨xs, h1, h2⟩ := h
  exact ⟨xs, h1.keep hk, h2.keep hk⟩
theorem ItsP.its {w : World} {ok : Nat → Prop} {A : Option Addr} {l : List Itm} (h : ItsP w ok A l) : Its w w.heap.size A l := by
  obtain ⟨xs, h1, h2⟩ := h
  exact ⟨xs, h1.imp fun b hb _ => hb, h2.imp fun b hb _ => hb⟩
/-- Items put behind a singleton that was just made. -/
theorem app_front {w : World} {ops : Array Oper} {rest : List Oper} {o : Oper} {a : Act} {Q : Exit → Act → World → Prop} (hgd : o.guard = none) (s x : Operand) (ho : o.op = .call { callee := .builtin .append, args := #[s, x], argTypes := #[28, 28] })
    (w0 : World) (hw : w = w0.alloc (.cells #[.int .i64 5, .slice none 0 0] TIt)) (g : Nat) (hg : g = w0.heap.size) (hs : a.eval s = .slice (some ⟨g, 0, none⟩) 1 1) (A : Option Addr) (l : List Itm) (c : Nat) (hx : a.eval x = .slice A l.length c) (B : Nat) (hI : Its w0 B A l) (hB : B ≤ w0.heap.size) (hlen : l.length ≤ 1000)
    (h : ∀ A' c' w', ItsP w' (fun b => b < B ∨ w0.heap.size ≤ b) A' ((5, []) :: l) → Below w0.heap.size w0 w' → wpList Tryd.prog ops Q rest (a.put o.dst (.slice A' (l.length + 1) c')) w') : wpList Tryd.prog ops Q (o :: rest) a w := by
  subst hw
  subst hg
  have hb : Below w0.heap.size w0 (w0.alloc (.cells #[.int .i64 5, .slice none 0 0] TIt)) := (Below.refl _ _).alloc (Nat.le_refl _) _
  obtain ⟨xs, h1, h2⟩ := hI
  have hown : (w0.alloc (.cells #[.int .i64 5, .slice none 0 0] TIt)).ownsRow w0.heap.size TIt 2 (.slice (some ⟨w0.heap.size, 0, none⟩) 1 1) 1 [.int .i64 5, .slice none 0 0] :=
    ⟨rfl, .inr ⟨w0.heap.size, 1, _, rfl, Nat.le_refl _, heap_alloc_new w0 _, Nat.le_refl _, by unfold maxLen; omega, rfl, rfl⟩⟩
  refine app_own 28 TIt _ 2 32 Tryd.underlying28 infoIt rfl (by decide) hgd s x ho w0.heap.size _ 1 _ hs hown B A l.length c xs hx (h1.below (hb.mono hB)) h2.1 (ItC.one_cells h2) (fun e => by subst e; exact Its.none_ ⟨xs, h1, h2⟩) (by omega) (by omega) (by rw [World.size_alloc]; omega) ?_
  intro v' w' a1 _ a3 _
  have hb' : Below w0.heap.size w0 w' := hb.trans a3
  obtain ⟨A', c', rfl, hS⟩ := ownsRow_base_seg a1
  rw [Nat.add_comm 1 l.length]
  refine h A' c' w' ⟨_, hS.imp fun b _ h => .inr h.1, ?_⟩ hb'
  have k1 : ItC w' (fun b => b < B) [.int .i64 5, .slice none 0 0] [(5, [])] := ItC.one (A := none) (c := 0) (Nat.le_refl _) (by unfold maxLen; omega) (SegP.nil _ _ _)
  exact (k1.app (h2.keep fun b h => hb'.block b (by omega))).imp fun b _ h => .inl h
set_option maxRecDepth 100000 in
set_option maxHeartbeats 16000000 in
theorem alone_go (any : Bool) (l : List Itm) (A : Option Addr) (cap : Nat) (st : List (Int × Int)) (A2 : Option Addr) (cap2 : Nat) (alone : Bool) (w : World) (hT : Tab w) (hs : Its w w.heap.size A l) (hc : l.length ≤ cap) (hcm : cap ≤ maxLen) (hm : Prs w w.heap.size A2 st) (hst : st.length ≤ maxLen) (hgo : muchB l = false ∧ ¬ 200 < st.length ∧ any = false) :
    Calls Tryd.prog 9 #[.agg #[.bool any, .slice A l.length cap], .slice A2 st.length cap2, .bool alone] w (BoolPost w true) := by
  have hll : l.length ≤ 9223372036854775807 := by unfold maxLen at hcm; omega
  have hsl : st.length ≤ 9223372036854775807 := by unfold maxLen at hst; omega
  have hmu := fun W (hW : Below w.heap.size w W) => much_any any l A cap W ((hs.below hW).more hW.size) hll hc
  have hal := fun W (hW : Below w.heap.size w W) => alive_any W (tab_below hT hW)
  have hth := fun W (hW : Below w.heap.size w W) => theirs_any any l A cap W ((hs.below hW).more hW.size)
  have hsta := fun W (hW : Below w.heap.size w W) => states_any st A2 cap2 W ((SegC.below hm hW).more hW.size)
  have hsm := fun h => @much_small l h
  clear hs hm
  have g0 : Below w.heap.size w (w.alloc (.cells #[.bool any, .slice A l.length cap] TRDep)) := (Below.refl _ _).alloc (Nat.le_refl _) _
  have hi : DB (w.alloc (.cells #[.bool any, .slice A l.length cap] TRDep)) w.heap.size TRDep any (.slice A l.length cap) := heap_alloc_new w _
  replace hT := fhid hT
  replace hi := fhid hi
  have hmu1 := hmu _ g0
  clear hmu
  obtain ⟨hR, h200, rfl⟩ := hgo
  obtain ⟨s1, s2⟩ := hsm hR
  rw [hR] at hmu1
  clear hR hsm
  have i1 : ¬ (200 : Int) < st.length := by omega
  have hx4 : ∀ x ∈ l, x.2.length ≤ 1048576 := fun x hx => by have := s2 x hx; omega
  have hx5 : ∀ x ∈ (((5, []) :: l) : List Itm), x.2.length ≤ 1048576 := fun x hx => by
    rcases List.mem_cons.1 hx with rfl | hx
    · simp
    · exact hx4 x hx
  have hth' := fun W (hW : Below w.heap.size w W) => hth W hW (by omega)
  have hst' := fun W (hW : Below w.heap.size w W) => hsta W hW (by omega)
  have hask := fun A' c b W (h : Its W W.heap.size A' l) hm' => Ask_any false l A' c b (stP st) true W h (by omega) hx4 hm'
  have hask2 := fun A' c b W (h : Its W W.heap.size A' ((5, []) :: l)) hm' => Ask_any false ((5, []) :: l) A' c b (stP st) alone W h (by rw [List.length_cons]; omega) hx5 hm'
  have hask0 := fun b W hm' => Ask_any false [] none 0 b (stP st) alone W (Its.nil _ _ _) (by simp) (fun x hx => by cases hx) hm'
  rw [ask_alone] at hask2
  rw [ask_none] at hask0
  simp only [List.length_cons, List.length_nil] at hask2 hask0
  clear hth hsta s2 hx4 hx5
  generalize askP false l (stOf (stP st)) true = K at *
  generalize hK2 : (if alone = false ∧ K = 1 then 0 else K) = K2 at *
  go_enter Tryd.func9, Tryd.ntmps9
  go_upto_region 1 with fail
  generalize w.alloc _ = w1 at *
  obtain ⟨c0, c1, _, _, hz⟩ := hi.out.facts
  have hd : decide ((200 : Int) < st.length) = false := decide_eq_false i1
  go_upto_region 3 with (go_at_call 10; (with_reducible refine hmu1.mono ?_); rintro e w2 ⟨rfl, b2⟩
                         have hi2 := fhid (hi.out.below b2 hz)
                         clear c0 c1
                         obtain ⟨c0, c1, _, _, _⟩ := hi2.out.facts)
  have g2 := g0.trans (b2.mono g0.size)
  go_upto_region 4 with (go_at_call 13
                         (with_reducible refine (hth' _ g2).mono ?_)
                         rintro e u1 ⟨v1, rfl, o1, b1⟩
                         obtain ⟨A1, q1, rfl, _, _, t1⟩ := o1.shape
                         replace o1 := fhid o1)
  have q7 : DB (u1.alloc (.cells #[.bool false, .slice A1 l.length q1] TDep)) u1.heap.size TDep false (.slice A1 l.length q1) := heap_alloc_new u1 _
  have bA : Below u1.heap.size u1 (u1.alloc (.cells #[.bool false, .slice A1 l.length q1] TDep)) := (Below.refl _ _).alloc (Nat.le_refl _) _
  have t3 := t1.below bA
  have z31 := bA.size
  have zu1 : w.heap.size ≤ u1.heap.size := by have := g2.size; have := b1.size; omega
  have g3 := (g2.trans (b1.mono g2.size)).trans (bA.mono (g2.trans (b1.mono g2.size)).size)
  clear o1 t1 c0 c1 hth'
  generalize u1.alloc _ = w3 at *
  have z3 := q7.facts.2.2.2.2
  replace q7 := fhid q7
  have zz : Below w3.heap.size w3 w3.drew := (Below.refl _ _).drew
  have t4 := t3.below (zz.mono z31)
  obtain ⟨c0, c1, _, _, _⟩ := (q7.out.below zz z3).facts
  go_region_with (first
    | (go_at_call 23
       (with_reducible refine (hst' _ (g3.trans (zz.mono g3.size))).mono ?_)
       rintro e u2 ⟨k1, rfl, _, m1, b1⟩
       have t4 := t4.below (b1.mono (Nat.le_trans z31 zz.size))
       have zz := zz.trans (b1.mono zz.size)
       obtain ⟨c0, c1, _, _, _⟩ := (q7.out.below zz z3).facts)
    | (go_at_call 22
       (with_reducible refine (hask _ _ _ _ (t4.more (Nat.le_trans z31 zz.size)) m1).mono ?_)
       rintro e u3 ⟨rfl, b1⟩
       have t4 := t4.below (b1.mono (Nat.le_trans z31 zz.size))
       have zz := zz.trans (b1.mono zz.size)))
  all_goals
    clear c0 c1
    have q8 := q7.out.below zz z3
    have zu := zz.size
    have g5 := g3.trans (zz.mono g3.size)
    obtain ⟨c0, c1, _, _, _⟩ := q8.facts
    replace q8 := fhid q8
    replace t4 := fhid t4
    clear hask t3
    go_upto_region 7 with (at_builtin; (refine app_front rfl _ _ rfl u3 rfl _ rfl rfl A1 l q1 rfl _ t4.out (by omega) (by omega) ?_; intro A7 c7 w7 I7 b7)
                           obtain ⟨_, _, f7, f8, _⟩ := (q8.out.below b7 (by omega)).facts)
    have q9 : DB (w7.setCell ⟨u1.heap.size, 1, none⟩ (.slice A7 (l.length + 1) c7)) u1.heap.size TDep false (.slice A7 (l.length + 1) c7) := block_set 1 _ (q8.out.below b7 (by omega))
    have I9 := ItsP.its (ItsP.keep (w' := w7.setCell ⟨u1.heap.size, 1, none⟩ (.slice A7 (l.length + 1) c7)) I7 (fun b hb => block_other _ _ rfl (by omega)))
    have g9 : Below w.heap.size w (w7.setCell ⟨u1.heap.size, 1, none⟩ (.slice A7 (l.length + 1) c7)) := (g5.trans (b7.mono g5.size)).setCell zu1 _
    clear I7 f7 f8 c0 c1
    generalize World.setCell _ _ _ = w9 at *
    have z9 := q9.facts.2.2.2.2
    replace q9 := fhid q9
    have fin3 : (∃ b, alone = b ∧ b = true ∧ K2 = K) ∨ (∃ b, alone = b ∧ b = false ∧ K = 1 ∧ K2 = 0) ∨ (∃ b, alone = b ∧ b = false ∧ K ≠ 1 ∧ K2 = K) := by
      cases alone
      · by_cases h : K = 1
        · exact .inr (.inl ⟨_, rfl, rfl, h, by rw [← hK2, if_pos ⟨rfl, h⟩]⟩)
        · exact .inr (.inr ⟨_, rfl, rfl, h, by rw [← hK2, if_neg (fun g => h g.2)]⟩)
      · exact .inl ⟨_, rfl, rfl, by rw [← hK2, if_neg (by simp)]⟩
    clear hK2
    rcases fin3 with ⟨b, rfl, rfl, rfl⟩ | ⟨b, rfl, rfl, rfl, rfl⟩ | ⟨b, rfl, rfl, hK1, rfl⟩
    all_goals
      (try (have hK1 : (K2 == 1) = false := by simpa using hK1))
      (try (have hK1 : (K == 1) = false := by simpa using hK1))
      obtain ⟨c0, c1, _, _, _⟩ := q9.out.facts
      go_upto_region 9 with fail
      have zz : Below w9.heap.size w9 w9.drew := (Below.refl _ _).drew
      have t9 := (I9.below zz).more zz.size
      clear c0 c1
      obtain ⟨c0, c1, _, _, _⟩ := (q9.out.below zz z9).facts
      go_region_with (first
        | (go_at_call 23
           (with_reducible refine (hst' _ (g9.trans (zz.mono g9.size))).mono ?_)
           rintro e u5 ⟨k5, rfl, _, m5, b5⟩
           have t9 := (t9.below b5).more b5.size
           have zz := zz.trans (b5.mono zz.size)
           obtain ⟨c0, c1, _, _, _⟩ := (q9.out.below zz z9).facts)
        | (go_at_call 22
           (with_reducible refine (hask2 _ _ _ _ t9 m5).mono ?_)
           rintro e u6 ⟨rfl, b5⟩
           have t9 := (t9.below b5).more b5.size
           have zz := zz.trans (b5.mono zz.size)
           obtain ⟨c0, c1, _, _, _⟩ := (q9.out.below zz z9).facts)
        | (go_at_call 22
           (with_reducible refine (hask0 _ _ m5).mono ?_)
           rintro e u7 ⟨rfl, b5⟩
           have t9 := (t9.below b5).more b5.size
           have zz := zz.trans (b5.mono zz.size)
           obtain ⟨c0, c1, _, _, _⟩ := (q9.out.below zz z9).facts)
        | (go_at_call 11
           (with_reducible refine (hal _ (g9.trans (zz.mono g9.size))).mono ?_)
           rintro e u8 ⟨rfl, b5⟩
           have zz := zz.trans (b5.mono zz.size)))
      all_goals
        go_wp2_with fail
        go_ret
        exact ⟨rfl, g9.trans (zz.mono g9.size)⟩
end Go.Proofs.YthnpmndobhgekaaDoor
