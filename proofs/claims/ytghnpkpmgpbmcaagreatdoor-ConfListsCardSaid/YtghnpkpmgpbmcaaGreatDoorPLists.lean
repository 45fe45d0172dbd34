/-
  PROVED: ConfLists: each name of a list is a node of its set, and no other node is, for every config and list.
  Conditions: the library's tables and its two errors read as the program's text lays them (the card ties them); nothing else.
-/
import Derived.Test.YtghnpkpmgpbmcaaGreatDoorK1
import Derived.Test.YtghnpkpmgpbmcaaGreatDoorH1
import Derived.Test.YtghnpkpmgpbmcaaGreatDoorK2
import Derived.Test.YtghnpkpmgpbmcaaGreatDoorW2
import Derived.Test.YtghnpkpmgpbmcaaGreatDoorW3
import Derived.Test.YtghnpkpmgpbmcaaGreatDoorK7
import Derived.Test.YtghnpkpmgpbmcaaGreatDoorB2
import Derived.Deep.RegionLaw
import Derived.Test.YtghnpkpmgpbmcaaGreatDoorK8
import Derived.Deep.Slices
import Derived.Deep.Strs
import Derived.Lib.SmallJoins
import Derived.SizedLaws
set_option linter.unusedSimpArgs false
set_option linter.unusedVariables false
/-
  ConfLists: plain facts: a list without a fault has no place of one; what a list's numbers are.
-/
namespace Go.Proofs.YtghnpkpmgpbmcaaGreatDoor

theorem wrg_ne (r : Str) : Hs.wrg r ≠ 0 := by unfold Hs.wrg; split <;> decide
theorem pNum_bad {r : Str} {e k : Nat} (h : Hs.pNum r = .bad e k) : e ≠ 0 := by
  unfold Hs.pNum at h
  split at h
  · injection h with h _; omega
  · split at h
    · injection h with h _; rw [← h]; exact wrg_ne r
    · cases h
theorem pRange_bad {r : Str} {e k : Nat} (h : Hs.pRange r = .bad e k) : e ≠ 0 := by
  unfold Hs.pRange at h
  cases hn : Hs.pNum r with
  | bad e2 k2 => rw [hn] at h; injection h with h _; rw [← h]; exact pNum_bad hn
  | ok a k2 =>
    rw [hn] at h
    simp only at h
    split at h
    · unfold Hs.pSecond at h
      cases hm : Hs.pNum (r.drop (k2 + 1)) with
      | bad e3 k3 => rw [hm] at h; injection h with h _; rw [← h]; exact pNum_bad hm
      | ok b j =>
        rw [hm] at h
        simp only at h
        split at h
        · injection h with h _; omega
        · cases h
    · cases h
theorem pRanges_bad : ∀ (f : Nat) (r : Str) (e k : Nat), r.length < f → Hs.pRanges f r = .bad e k → e ≠ 0
  | 0, r, e, k, h, _ => by omega
  | f + 1, r, e, k, hf, h => by
    unfold Hs.pRanges at h
    cases hn : Hs.pRange r with
    | bad e2 k2 => rw [hn] at h; injection h with h _; rw [← h]; exact pRange_bad hn
    | ok x k2 =>
      rw [hn] at h
      simp only at h
      split at h
      · cases h
      · split at h
        · rename_i h44
          have hk := (List.getElem?_eq_some_iff.1 h44).1
          cases hm : Hs.pRanges f (r.drop (k2 + 1)) with
          | bad e3 k3 =>
            rw [hm] at h
            injection h with h _
            rw [← h]
            exact pRanges_bad f _ e3 k3 (by rw [List.length_drop]; omega) hm
          | ok xs j => rw [hm] at h; cases h
        · injection h with h _; rw [← h]; exact wrg_ne _
theorem pEnd_bad {r p : Str} {rs : List (Nat × Nat × Nat)} {k e j : Nat} (h : Hs.pEnd r p rs k = .bad e j) : e ≠ 0 := by
  unfold Hs.pEnd at h
  split at h
  · cases h
  · injection h with h _; omega
theorem pPart_bad {r : Str} {e k : Nat} (h : Hs.pPart r = .bad e k) : e ≠ 0 := by
  unfold Hs.pPart at h
  split at h
  · injection h with h _; rw [← h]; exact wrg_ne r
  · split at h
    · cases hn : Hs.pRanges (r.length + 1) (r.drop ((r.takeWhile Hs.isBare).length + 1)) with
      | bad e2 k2 =>
        rw [hn] at h
        injection h with h _
        rw [← h]
        exact pRanges_bad _ _ e2 k2 (by rw [List.length_drop]; omega) hn
      | ok rs j =>
        rw [hn] at h
        exact pEnd_bad h
    · exact pEnd_bad h
theorem pExpand_at : ∀ (f a : Nat) (r : Str) (ns : List Str), (Hs.pExpand f a r ns).2.1 = 0 → (Hs.pExpand f a r ns).2.2 = 0
  | 0, _, _, _, _ => rfl
  | f + 1, a, r, ns, h => by
    unfold Hs.pExpand at h ⊢
    cases hp : Hs.pPart r with
    | bad e k =>
      rw [hp] at h
      exact absurd h (pPart_bad hp)
    | ok x k =>
      rw [hp] at h
      simp only at h ⊢
      by_cases h1 : 256 < ns.length + Hs.partCount x.2
      · rw [if_pos h1] at h; exact absurd h (show ¬ (5 : Nat) = 0 by decide)
      · rw [if_neg h1] at h ⊢
        by_cases h2 : k = r.length
        · rw [if_pos h2]
        · rw [if_neg h2] at h ⊢
          exact pExpand_at f _ _ _ h
theorem expand_at {s : Str} (h : (Hs.expand s).2.1 = 0) : (Hs.expand s).2.2 = 0 := by
  unfold Hs.expand at h ⊢
  by_cases h0 : s = []
  · rw [if_pos h0]
  · rw [if_neg h0] at h ⊢
    exact pExpand_at _ _ _ _ h
theorem setGo_all {c : Cfg} : ∀ (ns : List Str) (acc l : List Nat), setGo c ns acc = some l → ∃ js : List Nat, l = acc ++ js ∧ js.length = ns.length ∧ ∀ k (h : k < ns.length), nodeAt c ns[k] = js[k]?
  | [], acc, l, h => by
    rw [setGo_nil] at h
    injection h with h
    exact ⟨[], by simp [h], rfl, fun k hk => absurd hk (Nat.not_lt_zero _)⟩
  | n :: ns, acc, l, h => by
    cases hn : nodeAt c n with
    | none => rw [setGo_none hn] at h; cases h
    | some i =>
      rw [setGo_some hn] at h
      obtain ⟨js, h1, h2, h3⟩ := setGo_all ns (acc ++ [i]) l h
      refine ⟨i :: js, by rw [h1]; simp, by simp [h2], fun k hk => ?_⟩
      cases k with
      | zero => exact hn
      | succ k => exact h3 k (by simpa using hk)
theorem nodeAt_lt {c : Cfg} {n : Str} {i : Nat} (h : nodeAt c n = some i) : i < 256 := by
  unfold nodeAt place at h
  rw [List.findIdx?_eq_some_iff_getElem] at h
  obtain ⟨hi, _⟩ := h
  rw [List.length_take] at hi
  omega
theorem memL_next (l : List Nat) {k : Nat} (h : k < l.length) : ∀ j, j < 256 → (memL (l.take k) j || Bs.memP [((l[k] : Nat) : Int)] j) = memL (l.take (k + 1)) j := by
  intro j _
  unfold memL Bs.memP
  rw [List.take_succ_eq_append_getElem h, Bool.eq_iff_iff]
  simp only [Bool.or_eq_true, decide_eq_true_eq, List.mem_append, List.mem_singleton, Int.ofNat_inj]
end Go.Proofs.YtghnpkpmgpbmcaaGreatDoor
/-
  ConfLists, walked, given what the probe answers.
-/
namespace Go.Proofs.YtghnpkpmgpbmcaaGreatDoor
open Go.RowKit Go.Shelf Vs

def AliveQ : Prop := ∀ W : World, Env W → Calls Tryz.prog 8 #[] W fun e w' => e = .returned (.bool true) ∧ Below W.heap.size W w'
/-- Between two rounds: the set that has been met. -/
def LR (w1 : World) (b : Nat) (l : List Nat) (k : Nat) (wr : World) : Prop :=
  Box wr b TNodes [.int .u64 (Bs.word (memL (l.take k)) 0 : Nat), .int .u64 (Bs.word (memL (l.take k)) 1 : Nat), .int .u64 (Bs.word (memL (l.take k)) 2 : Nat), .int .u64 (Bs.word (memL (l.take k)) 3 : Nat)] ∧ FX (At3 b) w1 wr
theorem box_four (w : World) (b : Nat) (T : TypeId) (v0 v1 v2 v3 u0 u1 u2 u3 : Value) (h : Box w b T [v0, v1, v2, v3]) : Box ((((w.setCell ⟨b, 0, none⟩ u0).setCell ⟨b, 1, none⟩ u1).setCell ⟨b, 2, none⟩ u2).setCell ⟨b, 3, none⟩ u3) b T [u0, u1, u2, u3] := by
  have q := h.set 0 u0
  replace q := q.set 1 u1
  replace q := q.set 2 u2
  exact q.set 3 u3
theorem word_none (k : Nat) : Bs.word (memL []) k = 0 := by
  have h : (memL []) = fun _ => false := by funext j; simp [memL]
  rw [h, Bs.zero_word]
theorem nb1 (w : World) (T : TypeId) (cs : List Value) : Box (w.drew.alloc (.cells cs.toArray T)) w.heap.size T cs := Box.new w.drew T cs
theorem nb2 (w : World) (T : TypeId) (cs : List Value) : Box (w.alloc (.cells cs.toArray T)).drew w.heap.size T cs := Box.new w T cs
theorem bl1 {w w' : World} {o : Obj} (h : Below (w.drew.alloc o).heap.size (w.drew.alloc o) w') : Below w.heap.size w w' := by
  have e : w.heap.size ≤ (w.alloc o).heap.size := by rw [World.size_alloc]; exact Nat.le_succ _
  have h2 : Below (w.alloc o).heap.size (w.alloc o) w' := ⟨h.os, h.tape, h.output, h.size, h.block⟩
  exact ((Below.refl w.heap.size w).alloc (Nat.le_refl _) o).trans (h2.mono e)
theorem bl2 {w w' : World} {o : Obj} (h : Below (w.alloc o).drew.heap.size (w.alloc o).drew w') : Below w.heap.size w w' := by
  have e : w.heap.size ≤ (w.alloc o).heap.size := by rw [World.size_alloc]; exact Nat.le_succ _
  have h2 : Below (w.alloc o).heap.size (w.alloc o) w' := ⟨h.os, h.tape, h.output, h.size, h.block⟩
  exact ((Below.refl w.heap.size w).alloc (Nat.le_refl _) o).trans (h2.mono e)
set_option maxRecDepth 100000 in
set_option maxHeartbeats 32000000 in
theorem lists_core (v : Value) (c : Cfg) (s : ByteArray) (w : World) (hA : AliveQ) (hw : Env w) (h : CR w v c) : Calls Tryz.prog 6 #[v, .string s] w (BoolP w true) := by
  have hfa := far_any v c w h
  have hal := fun W (hb : Below w.heap.size w W) => hA W (hw.below hb)
  have hfar := fun W (hb : Below w.heap.size w W) => far_any v c W (h.below hb)
  have hth := fun h1 h2 W (hb : Below w.heap.size w W) => theirs_any v c W (h.below hb) h1 h2
  have hsm := fhid (@far_small c)
  have h0 := h
  obtain ⟨AN, cN, AV, cV, AP, cP, AQ, cQ, a0, a1, a2, a3, a4, a5, a6, a7, rfl, ev, -, -, -, -⟩ := h
  unfold BoolP at hfar ⊢
  unfold ConfP at hth
  generalize hnN : c.names.length = nN at *
  generalize hnV : c.vecs.length = nV at *
  generalize hnP : c.parts.length = nP at *
  generalize hnQ : c.qos.length = nQ at *
  have X0 : Box (w.alloc (.cells #[.slice AN nN cN, .slice AV nV cV, .slice AP nP cP, .slice AQ nQ cQ, .int .i64 a0, .int .i64 a1, .int .i64 a2, .int .i64 a3, .int .i64 a4, .int .i64 a5, .int .i64 a6, .int .i64 a7] TRConf)) w.heap.size TRConf [.slice AN nN cN, .slice AV nV cV, .slice AP nP cP, .slice AQ nQ cQ, .int .i64 a0, .int .i64 a1, .int .i64 a2, .int .i64 a3, .int .i64 a4, .int .i64 a5, .int .i64 a6, .int .i64 a7] := Box.new w _ _
  have B0 : Below w.heap.size w (w.alloc (.cells #[.slice AN nN cN, .slice AV nV cV, .slice AP nP cP, .slice AQ nQ cQ, .int .i64 a0, .int .i64 a1, .int .i64 a2, .int .i64 a3, .int .i64 a4, .int .i64 a5, .int .i64 a6, .int .i64 a7] TRConf)) := (Below.refl _ _).alloc (Nat.le_refl _) _
  clear hfa ev
  replace h0 := fhid h0
  replace hw := fhid hw
  replace hnN := fhid hnN
  replace hnV := fhid hnV
  replace hnP := fhid hnP
  replace hnQ := fhid hnQ
  go_enter Tryz.func6, Tryz.ntmps6
  go_upto_region 1 with fail
  generalize w.alloc _ = w1 at *
  have zl := Box.lt X0
  have hY := fhid (fun W (hb : Below w1.heap.size w1 W) => Box.twelve (Box.below X0 hb zl))
  obtain ⟨c0, c1, c2, c3, c4, c5, c6, c7, c8, c9, c10, c11⟩ := Box.twelve X0
  replace X0 := fhid X0
  cases hF : farP c with
  | true =>
    rw [hF] at hfar
    clear hF
    go_wp2_with (first
      | (go_at_call 13; (with_reducible refine (hfar _ B0).mono ?_); rintro e w2 ⟨rfl, b2⟩
         have g2 := B0.trans (b2.mono B0.size))
      | (go_at_call 8; (with_reducible refine (hal _ g2).mono ?_); rintro e w4 ⟨rfl, b4⟩))
    go_ret
    exact ⟨rfl, g2.trans (b4.mono g2.size)⟩
  | false =>
    have hsm2 := fhid (hsm.out hF)
    rw [hF] at hfar
    clear hF hsm
    by_cases hS : 2000 < s.size
    · have i0 : (s.size : Int) > 2000 := by omega
      go_wp2_with (first
        | (go_at_call 13; (with_reducible refine (hfar _ B0).mono ?_); rintro e w2 ⟨rfl, b2⟩
           have g2 := B0.trans (b2.mono B0.size))
        | (go_at_call 8; (with_reducible refine (hal _ g2).mono ?_); rintro e w4 ⟨rfl, b4⟩))
      go_ret
      exact ⟨rfl, g2.trans (b4.mono g2.size)⟩
    · have i0 : ¬ (s.size : Int) > 2000 := by omega
      have hth2 := hth (by have := hsm2.out.2.2.1; have := hnP.out; omega) (by have := hsm2.out.2.2.2; have := hnQ.out; omega)
      have hset := fun v W h1 h2 => Set_any v c s W h1 h2 (by omega)
      have hex := fun W (hW : Hs.Tab W) => Hs.Expand_any s W hW (by omega)
      unfold Hs.ExpPost at hex
      rw [show Hs.bl s = bl s from rfl] at hex
      have hlen := (Hs.expand_facts (bl s)).2.1
      have hat := fhid (@expand_at (bl s))
      have hso : setOf c (bl s) = if (Hs.expand (bl s)).2.1 ≠ 0 then (memL [], 3) else match setGo c (Hs.expand (bl s)).1 [] with
        | none => (memL [], 6)
        | some ns => (memL ns, 0) := rfl
      unfold setV at hset
      generalize setOf c (bl s) = R at *
      obtain ⟨p, r⟩ := R
      simp only [Bs.nodes] at hset hso
      generalize Hs.expand (bl s) = E at *
      obtain ⟨ns, f1, f2⟩ := E
      simp only at hex hlen hso hat
      clear hth
      go_upto_region 3 with (go_at_call 13; (with_reducible refine (hfar _ B0).mono ?_); rintro e w2 ⟨rfl, b2⟩
                             have g2 := B0.trans (b2.mono B0.size)
                             clear c0 c1 c2 c3 c4 c5 c6 c7 c8 c9 c10 c11
                             obtain ⟨c0, c1, c2, c3, c4, c5, c6, c7, c8, c9, c10, c11⟩ := hY.out _ b2)
      generalize hp0 : (Bs.word p 0 : Int) = u0 at *
      generalize hp1 : (Bs.word p 1 : Int) = u1 at *
      generalize hp2 : (Bs.word p 2 : Int) = u2 at *
      generalize hp3 : (Bs.word p 3 : Int) = u3 at *
      replace hp0 := fhid hp0
      replace hp1 := fhid hp1
      replace hp2 := fhid hp2
      replace hp3 := fhid hp3
      replace hso := fhid hso
      clear hfar
      go_upto_region 4 with (first
        | (go_at_call 15; (with_reducible refine (hth2 _ g2).mono ?_); rintro e w3 ⟨v3, rfl, hc3, b3⟩
           have g3 := g2.trans (b3.mono g2.size))
        | (go_at_call 21; (with_reducible refine (hset _ _ hc3 (hw.out.below g3)).mono ?_); rintro e w4 ⟨rfl, b4⟩
           have g4 := g3.trans (b4.mono g3.size)
           have p4 := b2.trans ((b3.trans (b4.mono b3.size)).mono b2.size)))
      clear hset c0 c1 c2 c3 c4 c5 c6 c7 c8 c9 c10 c11
      have X5 : Box (w4.alloc (.cells #[.int .u64 u0, .int .u64 u1, .int .u64 u2, .int .u64 u3] TNodes)) w4.heap.size TNodes [.int .u64 u0, .int .u64 u1, .int .u64 u2, .int .u64 u3] := Box.new w4 _ _
      have B5 : Below w4.heap.size w4 (w4.alloc (.cells #[.int .u64 u0, .int .u64 u1, .int .u64 u2, .int .u64 u3] TNodes)) := (Below.refl _ _).alloc (Nat.le_refl _) _
      generalize w4.alloc _ = w5 at *
      have g5 := g4.trans (B5.mono g4.size)
      have p5 := p4.trans (B5.mono p4.size)
      go_upto_region 5 with (go_at_call 25; (with_reducible refine (hex _ (hs_tab (hw.out.below g5))).mono ?_); rintro e w6 ⟨v6, rfl, own, b6⟩; obtain ⟨A, cap, rfl, hcap1, hcap2, sg⟩ := own.shape)
      have B7 : Below w6.heap.size w6 (w6.alloc (.cells #[.int .i64 (f1 : Int), .int .i64 (f2 : Int)] 31)) := (Below.refl _ _).alloc (Nat.le_refl _) _
      have X7 : Box (w6.alloc (.cells #[.int .i64 (f1 : Int), .int .i64 (f2 : Int)] 31)) w6.heap.size 31 [.int .i64 (f1 : Int), .int .i64 (f2 : Int)] := Box.new w6 _ _
      have kA := fhid ((sg.below B7).more B7.size)
      have X5b := Box.below (Box.below X5 b6 (Box.lt X5)) B7 (Nat.lt_of_lt_of_le (Box.lt X5) b6.size)
      have g7 := (g5.trans (b6.mono g5.size)).trans (B7.mono (Nat.le_trans g5.size b6.size))
      have p7 := (p5.trans (b6.mono p5.size)).trans (B7.mono (Nat.le_trans p5.size b6.size))
      have n56 := Nat.lt_of_lt_of_le (Box.lt X5) b6.size
      generalize w6.alloc _ = w7 at *
      clear hex own sg hcap1 X5
      obtain ⟨⟨y0, y1, y2, y3⟩, -, -, -, -⟩ := Box.four X5b
      have yl := Box.lt X5b
      have z0 : w7.cell? ⟨w6.heap.size, 0, none⟩ = some (.int .i64 (f1 : Int)) := Box.cell X7 0
      have z1 : w7.cell? ⟨w6.heap.size, 1, none⟩ = some (.int .i64 (f2 : Int)) := Box.cell X7 1
      have zl7 := Box.lt X7
      have he := fun w => eq_same 0 0 0 0 w
      have hal7 := hal w7 g7
      by_cases h1 : f1 = 0
      · subst h1
        have hf2 : f2 = 0 := hat.out rfl
        subst hf2
        have hq := neq_fault 0 0 0 0
        rw [show (!((0 : Int) == 0 && (0 : Int) == 0)) = false from rfl] at hq
        have hso2 := hso.out.trans (if_neg (by simp))
        cases hg : setGo c ns [] with
        | none =>
          rw [hg] at hso2
          injection hso2 with e1 e2
          subst e1
          subst e2
          obtain rfl : u0 = 0 := by rw [← hp0.out, word_none]; rfl
          obtain rfl : u1 = 0 := by rw [← hp1.out, word_none]; rfl
          obtain rfl : u2 = 0 := by rw [← hp2.out, word_none]; rfl
          obtain rfl : u3 = 0 := by rw [← hp3.out, word_none]; rfl
          clear hg hso
          go_wp2_with (go_at_call 8; (with_reducible refine hal7.mono ?_); rintro e w8 ⟨rfl, b8⟩)
          go_ret
          exact ⟨rfl, g7.trans (b8.mono g7.size)⟩
        | some l =>
          rw [hg] at hso2
          injection hso2 with e1 e2
          subst e1
          subst e2
          obtain ⟨js, hjs, hjl, hja⟩ := setGo_all ns [] l hg
          rw [List.nil_append] at hjs
          subst hjs
          have hwn := fun j => word_none j
          have h0L : ∀ W, Box W w7.heap.size TNodes [.int .u64 0, .int .u64 0, .int .u64 0, .int .u64 0] → LR W w7.heap.size l 0 W := fun W hb => ⟨by
            rw [show l.take 0 = [] from rfl, word_none, word_none, word_none, word_none]; exact hb, FX.of (Below.refl _ _)⟩
          have hl0 := fhid (h0L _ (Box.new w7 TNodes [.int .u64 0, .int .u64 0, .int .u64 0, .int .u64 0]))
          have B8 : Below w7.heap.size w7 (w7.alloc (.cells #[.int .u64 0, .int .u64 0, .int .u64 0, .int .u64 0] TNodes)) := (Below.refl _ _).alloc (Nat.le_refl _) _
          have hz8 : w7.heap.size < (w7.alloc (.cells #[.int .u64 0, .int .u64 0, .int .u64 0, .int .u64 0] TNodes)).heap.size := by simp
          have kn : (ns.length : Int) ≤ 256 := by omega
          clear hg hso hwn h0L
          replace hja := fhid hja
          replace hjl := fhid hjl
          go_upto_region 8 with fail
          generalize w7.alloc _ = w8 at *
          have g8 := g7.trans (B8.mono g7.size)
          have p8 := p7.trans (B8.mono p7.size)
          have X58 := Box.below X5b B8 yl
          have n47 := yl
          clear y0 y1 y2 y3 yl z0 z1 zl7 X7 X5b hal7
          replace X58 := fhid X58
          go_wp2
          go_loopw [53] (fun i wr => ∃ k : Nat, k ≤ ns.length ∧ i = .int .i64 k ∧ LR w8 w7.heap.size l k wr) (fun i _ => ns.length - (intOf i).toNat)
          case atStart => exact ⟨0, Nat.zero_le _, rfl, hl0.out⟩
          case round =>
            obtain ⟨k, hk, rfl, XM, F⟩ := hrel
            have hbm : ∀ j, At3 w7.heap.size j → w7.heap.size ≤ j := fun j hj => by unfold At3 at hj; omega
            have F7 := F.below (B := w7.heap.size) hbm (Nat.le_of_lt hz8)
            have Bw : Below w.heap.size w wr := g8.trans (F7.mono g7.size)
            have pr : Below w1.heap.size w1 wr := p8.trans (F7.mono p7.size)
            have X5r := F.box X58.out (by unfold At3; omega)
            have i0 : (0 : Int) ≤ k := by omega
            have kN : (k : Int) ≤ ns.length := by omega
            obtain ⟨⟨y0, y1, y2, y3⟩, -, -, -, -⟩ := Box.four X5r
            have yl := Box.lt X5r
            obtain ⟨c0, c1, c2, c3, c4, c5, c6, c7, c8, c9, c10, c11⟩ := hY.out wr pr
            have xl := Nat.lt_of_lt_of_le zl pr.size
            by_cases hlt : k < ns.length
            · have i1 : (k : Int) < ns.length := by omega
              have hkl : k < l.length := by rw [hjl.out]; exact hlt
              obtain ⟨pb, po, rfl, hpb, hc⟩ := Hs.Strs.at_ (show Hs.Strs w7 w7.heap.size A ns from kA.out) hlt
              have hcell := ((F7.cell (p := ⟨pb, po + k, none⟩) hpb).trans (B8.cell (p := ⟨pb, po + k, none⟩) hpb)).trans hc
              have hpb2 := Nat.lt_of_lt_of_le hpb (Nat.le_trans (Nat.le_of_lt hz8) F.size)
              have hnk := hja.out k hlt
              rw [List.getElem?_eq_getElem hkl] at hnk
              have hi256 := nodeAt_lt hnk
              have hno := fun v W (h : CR W v c) => Node_any v c ns[k] W h
              rw [hnk] at hno
              unfold nodeV at hno
              simp only at hno
              have hhas := fun W => Bs.has_any (memL l) ((l[k] : Nat) : Int) W
              rw [show Bs.hasB (memL l) ((l[k] : Nat) : Int) = true from by
                unfold Bs.hasB memL
                have : (((l[k] : Nat) : Int)).toNat = l[k] := by omega
                simp [this, List.getElem_mem hkl]; omega] at hhas
              simp only [Bs.nodes, hp0.out, hp1.out, hp2.out, hp3.out] at hhas
              have hof := fun W g (hb : Box W g 3 [.int .i64 ((l[k] : Nat) : Int)]) => Bs.of_any (.slice (some ⟨g, 0, none⟩) 1 1) [((l[k] : Nat) : Int)] W (.inr ⟨g, 0, 1, rfl, Box.lt hb, fun j x hx => by
                rw [Nat.zero_add, Box.cell hb]
                match j, hx with
                | 0, hx => simp at hx; subst hx; rfl⟩) (show 1 ≤ 140737488355328 by decide)
              have hor := fun W => Bs.op_or (memL (l.take k)) (Bs.memP [((l[k] : Nat) : Int)]) W
              rw [Bs.nodes_congr (memL_next l hkl)] at hor
              simp only [Bs.nodes] at hof hor
              have hnx : ∀ W, FX (At3 w7.heap.size) w8 W → Box W w7.heap.size TNodes [.int .u64 (Bs.word (memL (l.take (k + 1))) 0 : Nat), .int .u64 (Bs.word (memL (l.take (k + 1))) 1 : Nat), .int .u64 (Bs.word (memL (l.take (k + 1))) 2 : Nat), .int .u64 (Bs.word (memL (l.take (k + 1))) 3 : Nat)] → LR w8 w7.heap.size l (k + 1) W := fun W h1 h2 => ⟨h2, h1⟩
              replace hnx := fhid hnx
              rw [show Hs.str ns[k] = str ns[k] from rfl] at hcell
              generalize (Bs.word (memL (l.take k)) 0 : Int) = m0 at *
              generalize (Bs.word (memL (l.take k)) 1 : Int) = m1 at *
              generalize (Bs.word (memL (l.take k)) 2 : Int) = m2 at *
              generalize (Bs.word (memL (l.take k)) 3 : Int) = m3 at *
              generalize (Bs.word (memL (l.take (k + 1))) 0 : Int) = n0 at *
              generalize (Bs.word (memL (l.take (k + 1))) 1 : Int) = n1 at *
              generalize (Bs.word (memL (l.take (k + 1))) 2 : Int) = n2 at *
              generalize (Bs.word (memL (l.take (k + 1))) 3 : Int) = n3 at *
              generalize (Bs.word (Bs.memP [((l[k] : Nat) : Int)]) 0 : Int) = o0 at *
              generalize (Bs.word (Bs.memP [((l[k] : Nat) : Int)]) 1 : Int) = o1 at *
              generalize (Bs.word (Bs.memP [((l[k] : Nat) : Int)]) 2 : Int) = o2 at *
              generalize (Bs.word (Bs.memP [((l[k] : Nat) : Int)]) 3 : Int) = o3 at *
              have hI : ((l[k] : Nat) : Int) < 256 := by omega
              have hI0 : (0 : Int) ≤ ((l[k] : Nat) : Int) := by omega
              generalize ((l[k] : Nat) : Int) = I at *
              generalize str ns[k] = NM at *
              clear hc hnk hi256
              have hXM := fhid XM
              replace F := fhid F
              replace F7 := fhid F7
              replace X5r := fhid X5r
              have zm := Box.lt XM
              have ym := fhid (fun W (hb : Below wr.heap.size wr W) => Box.below X5r.out hb yl)
              clear XM
              go_upto_region 14 with (first
                | (go_at_call 15; (with_reducible refine (hth2 _ Bw).mono ?_); rintro e wa ⟨va, rfl, hca, ba⟩
                   have ga := Bw.trans (ba.mono Bw.size))
                | (go_at_call 14; (with_reducible refine (hno _ _ hca).mono ?_); rintro e wb ⟨rfl, bb⟩
                   have pb2 := ba.trans (bb.mono ba.size)
                   clear y0 y1 y2 y3
                   obtain ⟨⟨y0, y1, y2, y3⟩, -, -, -, -⟩ := Box.four (ym.out _ pb2)
                   have yl2 := Nat.lt_of_lt_of_le yl pb2.size)
                | (go_at_call 26; (with_reducible refine (hhas _).mono ?_); rintro e wc ⟨rfl, bc⟩
                   have pc := pb2.trans (bc.mono pb2.size)))
              have XC := Box.below hXM.out pc zm
              obtain ⟨⟨e0, e1, e2, e3⟩, q0, q1, q2, q3⟩ := Box.four XC
              have zc := Box.lt XC
              clear c0 c1 c2 c3 c4 c5 c6 c7 c8 c9 c10 c11 y0 y1 y2 y3 hcell hno hhas
              replace hXM := fhid hXM.out
              go_region_law (first
                | (go_simp; go_at_call 28; (with_reducible refine (hof _ _ (by first | exact nb1 _ _ _ | exact nb2 _ _ _)).mono ?_); rintro e wd ⟨rfl, bd⟩
                   (first | (have bdd := bl1 bd) | (have bdd := bl2 bd))
                   obtain ⟨⟨d0, d1, d2, d3⟩, -, -, -, -⟩ := Box.four (Box.below XC bdd zc)
                   have zd := Nat.lt_of_lt_of_le zc bdd.size)
                | (go_simp; go_at_call 27; (with_reducible refine (hor _).mono ?_); rintro e we ⟨rfl, be⟩
                   have bee := bdd.trans (be.mono bdd.size)
                   have XE := Box.below XC bee zc
                   obtain ⟨⟨g0, g1, g2', g3'⟩, s0, s1, s2, s3⟩ := Box.four XE
                   have ze := Box.lt XE
                   have XN := fhid (box_four we _ _ _ _ _ _ (.int .u64 n0) (.int .u64 n1) (.int .u64 n2) (.int .u64 n3) XE)
                   have FN := fhid (((((F.out.on (pc.trans (bee.mono pc.size))).set rfl 0 (.int .u64 n0)).set rfl 1 (.int .u64 n1)).set rfl 2 (.int .u64 n2)).set rfl 3 (.int .u64 n3))
                   replace XE := fhid XE))
              all_goals
                go_wp2_with fail
                go_roundw
                case rel => exact ⟨k + 1, by omega, by go_num, hnx.out _ FN.out XN.out⟩
                case measure => simp [intOf]; omega
            · obtain rfl : k = ns.length := by omega
              have htk : l.take ns.length = l := List.take_of_length_le (by rw [hjl.out]; exact Nat.le_refl _)
              rw [htk, hp0.out, hp1.out, hp2.out, hp3.out] at XM
              obtain ⟨⟨e0, e1, e2, e3⟩, -, -, -, -⟩ := Box.four XM
              have zm := Box.lt XM
              have hss := fun w => eq_same u0 u1 u2 u3 w
              have hal8 := hal wr Bw
              replace htk := fhid htk
              replace XM := fhid XM
              clear he
              go_wp2_with (go_at_call 8; (with_reducible refine hal8.mono ?_); rintro e w9 ⟨rfl, b9⟩)
              go_ret
              exact ⟨rfl, Bw.trans (b9.mono Bw.size)⟩
      · have hso2 := hso.out.trans (if_pos h1)
        injection hso2 with e1 e2
        subst e1
        subst e2
        have hq := neq_fault (f1 : Int) (f2 : Int) 0 0
        rw [show (!((f1 : Int) == 0 && (f2 : Int) == 0)) = true from by simp; omega] at hq
        obtain rfl : u0 = 0 := by rw [← hp0.out, word_none]; rfl
        obtain rfl : u1 = 0 := by rw [← hp1.out, word_none]; rfl
        obtain rfl : u2 = 0 := by rw [← hp2.out, word_none]; rfl
        obtain rfl : u3 = 0 := by rw [← hp3.out, word_none]; rfl
        clear hso
        replace h1 := fhid h1
        go_wp2_with (go_at_call 8; (with_reducible refine hal7.mono ?_); rintro e w8 ⟨rfl, b8⟩)
        go_ret
        exact ⟨rfl, g7.trans (b8.mono g7.size)⟩
end Go.Proofs.YtghnpkpmgpbmcaaGreatDoor
/-
  Configs that came in.
-/
namespace Go.Proofs.YtghnpkpmgpbmcaaGreatDoor
open Go.Joins Go.ChangeShapes Go.WideShapes Go.ChangeAt Go.WideMaps Go.WideElems Go.RowKit Go.Deep Vs

theorem cellsIntC : Tryz.prog.cellsOf 3 = 1 := by kernel_rfl
theorem cellsStrC : Tryz.prog.cellsOf 9 = 1 := by kernel_rfl
theorem cellsU64C : Tryz.prog.cellsOf 56 = 1 := by kernel_rfl
theorem cellsNodesC : Tryz.prog.cellsOf TNodes = 4 := by kernel_rfl
theorem cellsVecC : Tryz.prog.cellsOf 93 = 3 := by kernel_rfl
theorem cellsPartC : Tryz.prog.cellsOf TRPart = 8 := by kernel_rfl
theorem cellsQosC : Tryz.prog.cellsOf TRQos = 3 := by kernel_rfl
theorem cellsConfC : Tryz.prog.cellsOf TRConf = 12 := by kernel_rfl
theorem cellsValsC : Tryz.prog.cellsOf TVals = 8 := by kernel_rfl
theorem cellsSs : Tryz.prog.cellsOf 23 = 1 := by kernel_rfl
theorem cellsVs : Tryz.prog.cellsOf 24 = 1 := by kernel_rfl
theorem cellsPs : Tryz.prog.cellsOf 34 = 1 := by kernel_rfl
theorem cellsQs : Tryz.prog.cellsOf 35 = 1 := by kernel_rfl
theorem plain_addr2 {w : World} {a : Addr} {v : Value} (h : w.cell? a = some v) : a.spot = none ∧ a.block < w.heap.size := by
  obtain ⟨b, off, sp⟩ := a
  refine ⟨World.cell?_spot h, ?_⟩
  by_cases hb : b < w.heap.size
  · exact hb
  · simp only [World.cell?] at h
    rw [Array.getElem?_eq_none (by omega)] at h
    cases h
theorem add_off2 (b o k : Nat) : (⟨b, o, none⟩ : Addr).add k = ⟨b, o + k, none⟩ := by
  unfold Addr.add
  by_cases hk : k = 0
  · subst hk; rfl
  · rw [if_neg hk]
theorem four_words {n0 n1 n2 n3 : Nat} (h0 : n0 < 18446744073709551616) (h1 : n1 < 18446744073709551616) (h2 : n2 < 18446744073709551616) (h3 : n3 < 18446744073709551616) : ∃ p : Nat → Bool, n0 = Bs.word p 0 ∧ n1 = Bs.word p 1 ∧ n2 = Bs.word p 2 ∧ n3 = Bs.word p 3 := by
  refine ⟨fun i => (if i < 64 then n0 else if i < 128 then n1 else if i < 192 then n2 else n3).testBit (i % 64), ?_, ?_, ?_, ?_⟩
  · exact Bs.word_eq h0 fun j hj => by
      rw [show 64 * 0 + j = j by omega, if_pos hj, Nat.mod_eq_of_lt hj]
  · exact Bs.word_eq h1 fun j hj => by
      rw [if_neg (by omega), if_pos (by omega), show (64 * 1 + j) % 64 = j by omega]
  · exact Bs.word_eq h2 fun j hj => by
      rw [if_neg (by omega), if_neg (by omega), if_pos (by omega), show (64 * 2 + j) % 64 = j by omega]
  · exact Bs.word_eq h3 fun j hj => by
      rw [if_neg (by omega), if_neg (by omega), if_neg (by omega), show (64 * 3 + j) % 64 = j by omega]
section
variable {H : Type} {enc : TypeId × Value → H} {P : Program} {w : World} {base : Nat} {spare : Nat → Bool} {held : Bool}
theorem trod_struct5 {t : TypeId} {f0 f1 f2 f3 f4 : Field} {fuel : Nat} {cs : List Value} {x : DataW H × List MemPlace} (ht : P.underlying t = some (.struct #[f0, f1, f2, f3, f4])) (h : DataW.trod enc P w base spare held fuel t cs = some x) :
    ∃ y0 y1 y2 y3 y4 n, DataW.trod enc P w base spare held n f0.type ((cs.drop f0.offset).take (P.cellsOf f0.type)) = some y0 ∧
      DataW.trod enc P w base spare held n f1.type ((cs.drop f1.offset).take (P.cellsOf f1.type)) = some y1 ∧ DataW.trod enc P w base spare held n f2.type ((cs.drop f2.offset).take (P.cellsOf f2.type)) = some y2 ∧
      DataW.trod enc P w base spare held n f3.type ((cs.drop f3.offset).take (P.cellsOf f3.type)) = some y3 ∧ DataW.trod enc P w base spare held n f4.type ((cs.drop f4.offset).take (P.cellsOf f4.type)) = some y4 := by
  obtain ⟨xs, n, _, rfl, hl, hlen, hf⟩ := DataW.trod_struct ht h
  match xs, hlen with
  | [y0, y1, y2, y3, y4], _ => exact ⟨y0, y1, y2, y3, y4, n, by simpa using hf 0 f0 rfl, by simpa using hf 1 f1 rfl, by simpa using hf 2 f2 rfl, by simpa using hf 3 f3 rfl, by simpa using hf 4 f4 rfl⟩
end
theorem rows_seg {α : Type} (f : α → List Value) (k : Nat) (hf : ∀ x, (f x).length = k) {W : World} {b o : Nat} (hb : b < W.heap.size) : ∀ n, (∀ i, i < n → ∃ x, ∀ j, j < k → W.cell? ⟨b, o + i * k + j, none⟩ = (f x)[j]?) → ∃ l : List α, l.length = n ∧ ∀ j (hj : j < (l.flatMap f).length), W.cell? ⟨b, o + j, none⟩ = some (l.flatMap f)[j]
  | 0, _ => ⟨[], rfl, fun j hj => absurd hj (Nat.not_lt_zero _)⟩
  | n + 1, h => by
    obtain ⟨l, hl, hc⟩ := rows_seg f k hf hb n (fun i hi => h i (by omega))
    obtain ⟨x, hx⟩ := h n (by omega)
    have hlen : (l.flatMap f).length = n * k := by rw [flat_len f k hf, hl]
    refine ⟨l ++ [x], by simp [hl], fun j hj => ?_⟩
    have e : (l ++ [x]).flatMap f = l.flatMap f ++ f x := by simp
    have hj2 : j < (l.flatMap f ++ f x).length := by rw [← e]; exact hj
    have : ((l ++ [x]).flatMap f)[j] = (l.flatMap f ++ f x)[j] := by simp only [e]
    rw [this]
    by_cases h1 : j < (l.flatMap f).length
    · rw [List.getElem_append_left h1]
      exact hc j h1
    · rw [List.getElem_append_right (by omega)]
      rw [List.length_append, hf] at hj2
      have := hx (j - n * k) (by omega)
      rw [show o + n * k + (j - n * k) = o + j by omega] at this
      rw [this, List.getElem?_eq_getElem (by rw [hf]; omega)]
      simp only [hlen]
/-- A slice whose elements read so. -/
theorem open_rows {H : Type} {enc : TypeId × Value → H} {W : World} {q : Nat} {t e : TypeId} {v : Value} {x : DataW H × List MemPlace} {α : Type} (f : α → List Value) (k : Nat) (hk : 0 < k) (hf : ∀ x, (f x).length = k)
    (ht : Tryz.prog.underlying t = some (.slice e)) (hC : Tryz.prog.cellsOf e = k)
    (hel : ∀ (n : Nat) (cs : List Value) (y : DataW H × List MemPlace), DataW.trod enc Tryz.prog W 0 (fun _ => true) true n e cs = some y → cs.length = k → ∃ a : α, cs = f a)
    (h : DataW.trod enc Tryz.prog W 0 (fun _ => true) true q t [v] = some x) : ∃ (A : Option Addr) (l : List α) (cap : Nat), v = .slice A l.length cap ∧ RdS W A l.length cap (l.flatMap f) := by
  rcases open_slice ht h with ⟨hcs, _⟩ | ⟨a, len, cap, m, n, D, Pl, hcs, _, hlc, hcm, hm, _, hi⟩
  · injection hcs with hcs
    subst hcs
    exact ⟨none, [], 0, rfl, Nat.le_refl _, by unfold maxLen; omega, SegC.nil _ _ _⟩
  · injection hcs with hcs
    subst hcs
    have hm' : m = cap := by simpa using hm
    clear hm
    by_cases h0 : len = 0
    · subst h0
      exact ⟨some a, [], cap, rfl, Nat.zero_le _, hcm, SegC.nil _ _ _⟩
    · have hcell : ∀ i, i < len → ∃ y : α, ∀ j, j < k → W.cell? ((a.add (i * k)).add j) = (f y)[j]? := by
        intro i hlt
        obtain ⟨cs', hc, hte⟩ := hi i (by omega)
        rw [hC] at hc
        obtain ⟨_, hcl, hat⟩ := World.cells?_some hc
        obtain ⟨y, rfl⟩ := hel _ _ _ hte hcl
        exact ⟨y, fun j hj => by rw [hat j hj]⟩
      obtain ⟨y0, hy0⟩ := hcell 0 (by omega)
      have hz := hy0 0 hk
      rw [List.getElem?_eq_getElem (by rw [hf]; exact hk)] at hz
      have ha0 : (a.add (0 * k)).add 0 = a := by rw [Nat.zero_mul]; rfl
      rw [ha0] at hz
      have hz' := hz
      obtain ⟨hsp, hb⟩ := plain_addr2 hz'
      obtain ⟨b, o, sp⟩ := a
      have hsp' : sp = none := hsp
      subst hsp'
      obtain ⟨l, hl, hc⟩ := rows_seg f k hf (o := o) hb len (fun i hlt => by
        obtain ⟨y, hy⟩ := hcell i hlt
        refine ⟨y, fun j hj => ?_⟩
        have := hy j hj
        rw [add_off2, add_off2] at this
        exact this)
      exact ⟨some ⟨b, o, none⟩, l, cap, by rw [hl], by rw [hl]; exact hlc, hcm, fun _ => ⟨b, o, rfl, hb, hc⟩⟩
set_option maxRecDepth 100000 in
theorem vec_cells2 {H : Type} {enc : TypeId × Value → H} {W : World} {n : Nat} {cs : List Value} {x : DataW H × List MemPlace}
    (h : DataW.trod enc Tryz.prog W 0 (fun _ => true) true n 93 cs = some x) (hl : cs.length = 3) : ∃ a : V3, cs = [.int .i64 a.1, .int .i64 a.2.1, .int .i64 a.2.2] := by
  obtain ⟨y0, y1, y2, n', hx, _, h0, h1, h2⟩ := trod_struct3 Tryz.underlying93 h
  match cs, hl with
  | [c0, c1, c2], _ =>
    simp only [cellsIntC, List.drop_zero, List.drop_succ_cons, List.take_succ_cons, List.take_zero] at h0 h1 h2
    obtain ⟨a, ea, _, wa⟩ := DataW.trod_int Tryz.underlying3 h0
    obtain ⟨b, eb, _, wb⟩ := DataW.trod_int Tryz.underlying3 h1
    obtain ⟨c, ec, _, wc⟩ := DataW.trod_int Tryz.underlying3 h2
    injection ea with ea _
    injection eb with eb _
    injection ec with ec _
    subst ea eb ec
    exact ⟨(a, b, c), rfl⟩
theorem wf_u64 {x : Int} (hx : (Lit.int .u64 x).wf = true) : ∃ n : Nat, x = (n : Int) ∧ n < 18446744073709551616 := by
  have : 0 ≤ x ∧ x ≤ 18446744073709551615 := by simpa [Lit.wf, IntKind.min, IntKind.max, IntKind.signed, IntKind.bits] using hx
  exact ⟨x.toNat, by omega, by omega⟩
set_option maxRecDepth 100000 in
theorem part_cells {H : Type} {enc : TypeId × Value → H} {W : World} {n : Nat} {cs : List Value} {x : DataW H × List MemPlace}
    (h : DataW.trod enc Tryz.prog W 0 (fun _ => true) true n TRPart cs = some x) (hl : cs.length = 8) : ∃ q : PartC, cs = partV q := by
  obtain ⟨y0, y1, y2, y3, y4, n', h0, h1, h2, h3, h4⟩ := trod_struct5 Tryz.underlying94 h
  match cs, hl with
  | [c0, c1, c2, c3, c4, c5, c6, c7], _ =>
    simp only [cellsIntC, cellsStrC, cellsNodesC, List.drop_zero, List.drop_succ_cons, List.take_succ_cons, List.take_zero] at h0 h1 h2 h3 h4
    obtain ⟨s, es, _, _⟩ := DataW.trod_string Tryz.underlying9 h0
    injection es with es _
    subst es
    obtain ⟨z0, z1, z2, z3, m, _, g0, g1, g2, g3⟩ := trod_array4 Tryz.underlying58 cellsU64C h1
    obtain ⟨x0, e0, _, k0⟩ := DataW.trod_int Tryz.underlying56 g0
    obtain ⟨x1, e1, _, k1⟩ := DataW.trod_int Tryz.underlying56 g1
    obtain ⟨x2, e2, _, k2⟩ := DataW.trod_int Tryz.underlying56 g2
    obtain ⟨x3, e3, _, k3⟩ := DataW.trod_int Tryz.underlying56 g3
    injection e0 with e0 _
    injection e1 with e1 _
    injection e2 with e2 _
    injection e3 with e3 _
    subst e0 e1 e2 e3
    obtain ⟨n0, rfl, l0⟩ := wf_u64 k0
    obtain ⟨n1, rfl, l1⟩ := wf_u64 k1
    obtain ⟨n2, rfl, l2⟩ := wf_u64 k2
    obtain ⟨n3, rfl, l3⟩ := wf_u64 k3
    obtain ⟨p, p0, p1, p2, p3⟩ := four_words l0 l1 l2 l3
    obtain ⟨a, ea, _, wa⟩ := DataW.trod_int Tryz.underlying3 h2
    obtain ⟨b, eb, _, wb⟩ := DataW.trod_int Tryz.underlying3 h3
    obtain ⟨c, ec, _, wc⟩ := DataW.trod_int Tryz.underlying3 h4
    injection ea with ea _
    injection eb with eb _
    injection ec with ec _
    subst ea eb ec
    exact ⟨⟨bl s, p, a, b, c⟩, by unfold partV; rw [← p0, ← p1, ← p2, ← p3, str_bl]⟩
set_option maxRecDepth 100000 in
theorem qos_cells {H : Type} {enc : TypeId × Value → H} {W : World} {n : Nat} {cs : List Value} {x : DataW H × List MemPlace}
    (h : DataW.trod enc Tryz.prog W 0 (fun _ => true) true n TRQos cs = some x) (hl : cs.length = 3) : ∃ q : QosC, cs = qosV q := by
  obtain ⟨y0, y1, y2, n', hx, _, h0, h1, h2⟩ := trod_struct3 Tryz.underlying53 h
  match cs, hl with
  | [c0, c1, c2], _ =>
    simp only [cellsIntC, cellsStrC, List.drop_zero, List.drop_succ_cons, List.take_succ_cons, List.take_zero] at h0 h1 h2
    obtain ⟨s, es, _, _⟩ := DataW.trod_string Tryz.underlying9 h0
    injection es with es _
    subst es
    obtain ⟨b, eb, _, wb⟩ := DataW.trod_int Tryz.underlying3 h1
    obtain ⟨c, ec, _, wc⟩ := DataW.trod_int Tryz.underlying3 h2
    injection eb with eb _
    injection ec with ec _
    subst eb ec
    exact ⟨⟨bl s, b, c⟩, by unfold qosV; rw [str_bl]⟩
theorem SV_flat (l : List Str) : l.flatMap (fun s => [Value.string (str s)]) = SV l := by
  induction l with
  | nil => rfl
  | cons x l ih => rw [List.flatMap_cons, ih]; rfl
set_option maxRecDepth 100000 in
/-- A config that came in. -/
theorem open_conf {H : Type} {enc : TypeId × Value → H} {W : World} {base : Nat} {v : Value} {d : DataW H} {ps : List MemPlace}
    (hv : Value.okWide Tryz.prog W .any base TRConf v) (h : DataW.Trod enc Tryz.prog W 0 (fun _ => true) true TRConf v d ps) : ∃ c : Cfg, CR W v c := by
  obtain ⟨cs, rfl, hsz⟩ := okWide_struct Tryz.underlying38 hv
  rw [cellsConfC] at hsz
  obtain ⟨fuel, hf⟩ := h
  obtain ⟨l⟩ := cs
  match l, hsz with
  | [c0, c1, c2, c3, c4, c5, c6, c7, c8, c9, c10, c11], _ =>
    obtain ⟨y0, y1, y2, y3, y4, n, h0, h1, h2, h3, h4⟩ := trod_struct5 Tryz.underlying38 hf
    simp only [Value.cells, cellsSs, cellsVs, cellsPs, cellsQs, cellsValsC, List.drop_zero, List.drop_succ_cons, List.take_succ_cons, List.take_zero] at h0 h1 h2 h3 h4
    obtain ⟨AN, ns, cN, rfl, r1⟩ := open_rows (fun s : Str => [Value.string (str s)]) 1 (by decide) (fun _ => rfl) Tryz.underlying23 cellsStrC (fun n cs y hy hl => by
      obtain ⟨s, es, _, _⟩ := DataW.trod_string Tryz.underlying9 hy
      exact ⟨bl s, by rw [es, str_bl]⟩) h0
    obtain ⟨AV, vs, cV, rfl, r2⟩ := open_rows (fun v : V3 => [Value.int .i64 v.1, .int .i64 v.2.1, .int .i64 v.2.2]) 3 (by decide) (fun _ => rfl) Tryz.underlying24 cellsVecC (fun n cs y hy hl => vec_cells2 hy hl) h1
    obtain ⟨AP, pl, cP, rfl, r3⟩ := open_rows partV 8 (by decide) (fun _ => rfl) Tryz.underlying34 cellsPartC (fun n cs y hy hl => part_cells hy hl) h2
    obtain ⟨AQ, ql, cQ, rfl, r4⟩ := open_rows qosV 3 (by decide) (fun _ => rfl) Tryz.underlying35 cellsQosC (fun n cs y hy hl => qos_cells hy hl) h3
    rw [SV_flat] at r1
    obtain ⟨xs, m, _, _, _, _, hx⟩ := DataW.trod_array Tryz.underlying36 h4
    have hg : ∀ i, i < 8 → ∃ a : Int, ([c4, c5, c6, c7, c8, c9, c10, c11].drop i).take 1 = [.int .i64 a] := by
      intro i hi
      have := hx i hi
      rw [cellsIntC, Nat.mul_one] at this
      cases hy : xs[i]? with
      | none => exact absurd (List.getElem?_eq_none_iff.1 hy) (by omega)
      | some y =>
        rw [hy] at this
        obtain ⟨a, ea, _, _⟩ := DataW.trod_int Tryz.underlying3 this
        exact ⟨a, ea⟩
    obtain ⟨a0, e0⟩ := hg 0 (by decide)
    obtain ⟨a1, e1⟩ := hg 1 (by decide)
    obtain ⟨a2, e2⟩ := hg 2 (by decide)
    obtain ⟨a3, e3⟩ := hg 3 (by decide)
    obtain ⟨a4, e4⟩ := hg 4 (by decide)
    obtain ⟨a5, e5⟩ := hg 5 (by decide)
    obtain ⟨a6, e6⟩ := hg 6 (by decide)
    obtain ⟨a7, e7⟩ := hg 7 (by decide)
    simp at e0 e1 e2 e3 e4 e5 e6 e7
    subst e0 e1 e2 e3 e4 e5 e6 e7
    exact ⟨⟨ns, vs, pl, ql, [a0, a1, a2, a3, a4, a5, a6, a7]⟩, AN, cN, AV, cV, AP, cP, AQ, cQ, a0, a1, a2, a3, a4, a5, a6, a7, rfl, rfl, r1, r2, r3, r4⟩
end Go.Proofs.YtghnpkpmgpbmcaaGreatDoor
namespace Go.Proofs.YtghnpkpmgpbmcaaGreatDoor
open Go.ChangeShapes Go.WideShapes Go.ChangeAt Go.WideMaps Go.WideElems Go.RowKit Vs
set_option maxRecDepth 100000 in
theorem lists_lifted (os : Os) (started : os.Started) (H : Type) (enc : TypeId × Value → H) :
    ReturnsInHanded {} Tryz.checked os 6 .any (fun w args => (Rows.confListsSpec.pre enc Tryz.prog Tryz.f6 [] false w args ∧ laidMetH Tryz.prog laidList w) ∧ sizedMet enc Tryz.prog Tryz.f6 (OpenSpec.ofChange Rows.confListsSpec) false w args)
      (Rows.confListsSpec.post enc Tryz.prog Tryz.f6 false true false false) := by
  refine returnsInHanded_of_change_and (C := Tryz.checked) (X := fun w _ => laidMetH Tryz.prog laidList w) (fun _ _ _ hh h => h.of_heap hh) own started (by kernel_rfl) Tryz.func6
    (ChangeSpec.witness_shaped (enc := enc) (C := Tryz.checked) (os := os) (X := fun w _ => laidMetH Tryz.prog laidList w) false (World.laidAll Tryz.prog os laidList) #[.agg #[.slice none 0 0, .slice none 0 0, .slice none 0 0, .slice none 0 0, .int .i64 0, .int .i64 0, .int .i64 0, .int .i64 0, .int .i64 0, .int .i64 0, .int .i64 0, .int .i64 0], .string ⟨#[]⟩] 8 (World.laidAll_os _ _ _) (World.shaped_of_ZipB (by kernel_rfl) (by kernel_rfl)) (by kernel_rfl) (by kernel_rfl) (by kernel_rfl) (lay_met os _)) ?_
  intro W base args ds gs before hval0 hW _ hsz0 hL _
  have hval : ∀ (j : Nat) t v, Tryz.f6.params[j]? = some t → args[j]? = some v → Value.okWide Tryz.prog W .any base t v := hval0
  have hsz : (DataW.weightsEach Tryz.prog (Tryz.f6.params.toList ++ Rows.confListsSpec.plain.varTypes Tryz.prog) (ds ++ gs)).all (· ≤ reachBytes) = true := hsz0
  have hW' := hW
  obtain ⟨p, q, hA0, hV, rfl, hfz, hnd⟩ := hW
  have hA : DataW.TrodAll enc Tryz.prog W 0 (fun _ => true) true Tryz.f6.params.toList args.toList ds p := hA0
  rw [Tryz.params6] at hA hval hsz
  obtain ⟨v0, v1, d0, d1, p0, p1, rfl, rfl, rfl, h0, h1⟩ := trodAll_two hA
  obtain ⟨rfl, rfl⟩ := trodVars_none hV
  have hT := env_of hL
  obtain ⟨c, hc⟩ := open_conf (hval 0 38 v0 rfl rfl) h0
  obtain ⟨s, rfl, hd, rfl, _⟩ := ChangeMaps.open_string Tryz.underlying9 (hval 1 9 v1 rfl rfl) h1
  simp only [List.append_nil] at hW'
  have hlt : ∀ z ∈ p0, z.block < W.heap.size := fun z hz => hW'.lt z (by simp [hz])
  clear hA0 hval0 hsz0
  refine (lists_core v0 c s W (fun W hW => alive_any W hW) hT hc).mono fun e W' ⟨he, hb⟩ => ?_
  subst he
  refine ⟨_, rfl, ⟨_, _, _, [], p0, [], hW', trodAll_mk1 (shut_bool Tryz.underlying4 _), ?_, rfl, hb.frame _, fun h => by cases h⟩⟩
  rw [← List.append_nil p0]
  exact trodAll_mk2 (Below.trod laidOut (by kernel_rfl) (of_decide_eq_true (by kernel_rfl)) h0 hb hlt) (Below.trod laidOut (by kernel_rfl) (of_decide_eq_true (by kernel_rfl)) h1 hb (fun z hz => by simp at hz))

theorem lists_holds : Rows.ConfListsSaid :=
  OpenClaim.holds_of_wide 6 Tryz.f6 rfl rfl rfl rfl rfl rfl rfl ⟨rfl, rfl, rfl, rfl, rfl⟩ rfl rfl rfl rfl rfl (by kernel_rfl) Tryz.func6 (by kernel_rfl)
    (of_decide_eq_true (by kernel_rfl)) (by unfold Func.isWrapper; rw [if_neg (of_decide_eq_false (by kernel_rfl))]; exact ⟨rfl, rfl⟩)
    (fun os started H enc _ => lists_lifted os started H enc)
theorem lists_card : Rows.ConfListsCardSaid :=
  Claim7.holds_tied_plain_at .later [] [.data, .data, .data, .data, .sentinel, .sentinel, .pinned] true Rows.confListsCard.stood.harness true
    lists_holds (fun _ h => by cases h) (by kernel_rfl) (fun _ h => by cases h) confLists_row_tie rfl ⟨rfl, rfl⟩ (by kernel_rfl) rfl
    (fun f fn hf hfn => by
      obtain rfl : f = 6 := Option.some.inj ((show Tryz.prog.funcNamed "marlinspike/marlinspikelaw09.ConfLists" = some 6 by kernel_rfl).symm.trans hf) |>.symm
      obtain rfl : fn = Tryz.f6 := (Option.some.inj (Tryz.func6.symm.trans hfn)).symm
      exact ⟨by kernel_rfl, fun j t ht => by
        rw [Tryz.params6] at ht
        have hm : t ∈ [38, 9] := by simpa using Array.mem_of_getElem? ht
        have hall : ([38, 9].all fun u => !Tryz.prog.wantsStandIn u) = true := by kernel_rfl
        exact (show Tryz.prog.wantsStandIn t = false by simpa using List.all_eq_true.1 hall t hm)⟩)
    (by kernel_rfl)
end Go.Proofs.YtghnpkpmgpbmcaaGreatDoor
