/-
  The document's Expand: what it answers are names that may be.
-/
import Derived.Test.YtmaoplplaobbbaaDoorHRRng
import Derived.Test.YtmaoplplaobbbaaDoorHExpand
namespace Go.Proofs.YtmaoplplaobbbaaDoor
open Go.RowKit

/-- One name more, and where its row lies. -/
theorem app_name_at {w : World} {ops : Array Oper} {rest : List Oper} {o : Oper} {a : Act} {Q : Exit → Act → World → Prop} (hgd : o.guard = none) (s x : Operand) (ho : o.op = .call { callee := .builtin .append, args := #[s, x], argTypes := #[22, 22] })
    (base : Nat) (v : Value) (ns : List (List UInt8)) (n : List UInt8) (S : ByteArray) (hS : S = str n) (w0 : World) (hs : a.eval s = v) (hown : OwnS w0 base v ns)
    (hw : w = w0.alloc (.cells #[.string S] 9)) (g : Nat) (hg : g = w0.heap.size) (hx : a.eval x = .slice (some ⟨g, 0, none⟩) 1 1) (hlen : ns.length ≤ 1048576) (hbase : base ≤ w0.heap.size)
    (h : ∀ v' w', OwnS w' base v' (ns ++ [n]) → w0.grownBy w' v.ownBlock → Below base w0 w' → (v'.ownBlock = v.ownBlock ∨ v'.ownBlock = some (w0.heap.size + 1)) → wpList Tryd.prog ops Q rest (a.put o.dst v') w') : wpList Tryd.prog ops Q (o :: rest) a w := by
  subst hS
  subst hw
  subst hg
  obtain ⟨i0, hi, hz0, hz1, hz2⟩ := info_parts infoString
  obtain ⟨v', w', hrun, h2, h3, _, h5⟩ := run_append_own_at (P := Tryd.prog) (w0.alloc (.cells #[.string (str n)] 9)) base 22 o.type 9 i0 (.string ⟨#[]⟩) 1 16 Tryd.underlying22 hi hz0 hz1 hz2 rfl (by decide) v ns.length (SV ns) (World.ownsRow.alloc hown _) ⟨w0.heap.size, 0, none⟩ 1 1 [.string (str n)] rfl
    (fun j u hj => by
      cases j with
      | zero =>
        have : u = .string (str n) := by simpa using hj.symm
        subst this
        show (w0.alloc _).cell? ⟨w0.heap.size, 0, none⟩ = _
        simp
      | succ j => simp at hj)
    (fun u hu => by simp at hu; subst hu; rfl) (by unfold maxLen; omega) (by omega) (by rw [World.size_alloc]; omega)
  have hb : Below base w0 w' := ((Below.refl _ _).alloc hbase _).trans ((Below.refl _ _).grown h3 (by rw [World.size_alloc]; omega) (fun k hk => ownsRow_ge hown k hk))
  refine wpList_plain hgd fun K hK => ?_
  unfold Oper.wp execOp
  simp only [ho, resolve, invoke, builtin, Sem.run_bind, Sem.run_pure, Result.andThen_ok, List.map_toArray, List.map_cons, List.map_nil, hs, hx, hrun]
  refine hK _ _ (h v' w' ?_ ⟨h3.os, h3.tape, h3.output, Nat.le_trans (by rw [World.size_alloc]; omega) h3.size, fun k hk hne => (h3.block k (by rw [World.size_alloc]; omega) hne).trans (Below.heap_alloc _ _ _ hk)⟩ hb (by rw [World.size_alloc] at h5; exact h5))
  unfold OwnS
  rw [SV_app, List.length_append]
  exact h2
def AllB (r : List UInt8) (j : Nat) : Prop := ∀ i (h : i < r.length), i < j → isBare r[i] = true
theorem AllB.succ {r : List UInt8} {j : Nat} (h : AllB r j) (hj : j < r.length) (hd : isBare r[j] = true) : AllB r (j + 1) := fun i hi hlt => by
  by_cases he : i = j
  · subst he; exact hd
  · exact h i hi (by omega)
theorem bare_take {r : List UInt8} {j : Nat} (h : AllB r j) (hj : j ≤ r.length) : (r.take j).all isBare = true := by
  rw [List.all_eq_true]
  intro x hx
  obtain ⟨i, hi, rfl⟩ := List.getElem_of_mem hx
  rw [List.length_take] at hi
  rw [List.getElem_take]
  exact h i (by omega) (by omega)
theorem pk_bare {s : ByteArray} {a : Nat} {y : Int} (h : isBare (pk s a y) = true) : ∃ h : a < s.size, pk s a y = s[a] := by
  unfold pk at h ⊢
  split at h
  · rename_i h1
    exact ⟨h1.1, by rw [dif_pos h1]⟩
  · cases h
theorem bare_dig1 {c : UInt8} (h : isDig c = true) : isBare c = true := by simp [isBare, h]
theorem bare_app {p d : List UInt8} (h0 : p ≠ []) (hp : p.all isBare = true) (hd : d.all isDig = true) : Bare (p ++ d) := by
  refine ⟨by simp [h0], ?_⟩
  rw [List.all_append, hp, Bool.true_and, List.all_eq_true]
  exact fun x hx => bare_dig1 (List.all_eq_true.1 hd x hx)
/-- A row that is another's beside the one that grows. -/
theorem OwnS.grown {w w' : World} {base : Nat} {v v0 : Value} {ns : List (List UInt8)} (h : OwnS w base v ns) (g : w.grownBy w' v0.ownBlock) (hne : ∀ k, v.ownBlock = some k → v0.ownBlock ≠ some k) : OwnS w' base v ns := by
  refine ⟨h.1, ?_⟩
  rcases h.2 with ⟨rfl, hn⟩ | ⟨k, cap, cur, rfl, hk, hh, rest⟩
  · exact .inl ⟨rfl, hn⟩
  · exact .inr ⟨k, cap, cur, rfl, hk, (g.block k (lt_of_block hh) (fun e => hne k (by simp [Value.ownBlock]) e.symm)).trans hh, rest⟩
theorem OwnS.lt {w : World} {base : Nat} {v : Value} {ns : List (List UInt8)} (h : OwnS w base v ns) (k : Nat) (hk : v.ownBlock = some k) : k < w.heap.size := by
  rcases h.2 with ⟨h2, _⟩ | ⟨g', c', cur, h2, _, hh, _⟩
  · rw [h2] at hk
    cases hk
  · rw [h2] at hk
    have : g' = k := by simpa [Value.ownBlock] using hk
    subst this
    exact lt_of_block hh
theorem map_snoc (f : List UInt8 → List UInt8) (ns ls : List (List UInt8)) (k : Nat) (h : k < ls.length) : ns ++ (ls.map f).take (k + 1) = (ns ++ (ls.map f).take k) ++ [f ls[k]] := by
  rw [List.take_succ_eq_append_getElem (by simpa using h), List.append_assoc, List.getElem_map]
/-- What the loop knows at its head. -/
def EInv (w : World) (s : ByteArray) (s5 : Value) (wr : World) : Prop := ∃ (ns : List (List UInt8)) (a : Nat) (y f : Int), OwnS wr (w.heap.size + 2) s5 ns ∧ (∀ x ∈ ns, Bare x) ∧ ns.length ≤ 256 ∧ a ≤ s.size ∧ RB wr (w.heap.size + 1) s a y f ∧ FBox wr w.heap.size ∧ Below w.heap.size w wr
/-- What the call comes to. -/
def EPost (w : World) (e : Ending) (w' : World) : Prop := ∃ (v : Value) (ns : List (List UInt8)) (ev av : Int), e = .returned (.tuple #[v, .agg #[.int .i64 ev, .int .i64 av]]) ∧ OwnS w' w.heap.size v ns ∧ (∀ x ∈ ns, Bare x) ∧ ns.length ≤ 256 ∧ Below w.heap.size w w'
set_option maxRecDepth 100000 in
set_option maxHeartbeats 4000000 in
theorem rexpand_none (s : ByteArray) (w : World) (h : bl s = []) : Calls Tryd.prog 15 #[.string s] w (EPost w) := by
  have h1 : s.toList = [] := by rw [ByteArray.toList_eq]; exact h
  clear h
  go_enter Tryd.func15, Tryd.ntmps15
  go_wp2
  refine bodyPost_ret (v := .tuple #[.slice none 0 0, .agg #[.int .i64 0, .int .i64 0]]) (by simp [results, Tryd.results15, go_sem]) rfl ⟨_, [], 0, 0, rfl, OwnS.nil _ _, fun x hx => by simp at hx, by simp, ?_⟩
  exact (Below.refl _ _).alloc (Nat.le_refl _) _
set_option maxRecDepth 100000 in
set_option maxHeartbeats 8000000 in
theorem rexpand_some (s : ByteArray) (w : World) (hs : s.size ≤ 1000000) (h0 : bl s ≠ []) : Calls Tryd.prog 15 #[.string s] w (EPost w) := by
  have h1 : ¬ s.toList = [] := by rw [ByteArray.toList_eq]; exact h0
  have h2 : s.toList.isEmpty = false := by simpa using h1
  have hs' : s.size ≤ 140737488355328 := by omega
  have hsi : (s.size : Int) ≤ 1000000 := by omega
  replace hs := fhid hs
  replace hs' := fhid hs'
  clear h0
  go_enter Tryd.func15, Tryd.ntmps15
  go_wp2_with fail
  go_loopw [5] (fun s5 wr => EInv w s s5 wr) (fun _ wr => s.size - atOf wr (w.heap.size + 1))
  case atStart =>
    exact ⟨[], 0, 0, 0, OwnS.nil _ _, fun x hx => by simp at hx, by simp, Nat.zero_le _, new_at _ _ _ (by simp), old_at _ _ _ (FBox.new w) (by simp), ((Below.refl _ _).alloc (Nat.le_refl _) _).alloc (by simp) _⟩
  case round =>
    obtain ⟨ns, a, y, f, ho, hbare, hnl, has, hb, hfx, hB⟩ := hrel
    have hme := hb.at_
    obtain ⟨A, cap, rfl, _, _, _⟩ := ho.shape
    obtain ⟨wo, rfl⟩ : ∃ wo : World, wo = wr := ⟨_, rfl⟩
    obtain ⟨r, hr⟩ : ∃ r, (bl s).drop a = r := ⟨_, rfl⟩
    have hrl : r.length = s.size - a := by rw [← hr, List.length_drop, bl_len]
    have hget : ∀ j (h : a + j < s.size) (h' : j < r.length), r[j] = s[a + j] := fun j h h' => by subst hr; exact drop_get s a j h h'
    have hext : ∀ j, s.extract a (a + j) = str (r.take j) := fun j => by rw [ext_str, hr, Nat.add_sub_cancel_left]
    obtain ⟨c0, c1, c2, c3, z1, z2, z3, hz⟩ := hb.facts
    have i0 : (0 : Int) ≤ a := by omega
    have i1 : (a : Int) ≤ s.size := by omega
    replace hr := fhid hr
    replace hrl := fhid hrl
    replace hget := fhid hget
    replace hext := fhid hext
    replace ho := fhid ho
    replace hbare := fhid hbare
    replace hnl := fhid hnl
    replace hfx := fhid hfx
    replace hB := fhid hB
    go_wp2_with fail
    clear c0 c1 c2 c3 z1 z2 z3 hz
    go_loopw [] (fun wr => ∃ j : Nat, a + j ≤ s.size ∧ AllB r j ∧ RB wr (w.heap.size + 1) s ((a : Int) + (j : Int)) y f ∧ Chg (w.heap.size + 1) wo wr) (fun wr => s.size - atOf wr (w.heap.size + 1))
    case atStart => exact ⟨0, has, fun i h hi => absurd hi (Nat.not_lt_zero _), by simpa using hb, Chg.refl _ _⟩
    case round =>
      obtain ⟨j, hj, hall, hbj, hch⟩ := hrel
      have hme2 := hbj.at_
      have j0 : (0 : Int) ≤ j := by omega
      have j1 : (a : Int) + j ≤ s.size := by omega
      replace hall := fhid hall
      replace hch := fhid hch
      go_wp2_with fail
      refine (peek_chg (w.heap.size + 1) s (a + j) y f _ wr (by omega) hs'.out hbj).mono ?_
      rintro e w1 ⟨rfl, hb1, hc1⟩
      replace hc1 := fhid (hch.out.trans hc1)
      by_cases hbq : isBare (pk s (a + j) y) = true
      · obtain ⟨hlt, hp⟩ := pk_bare hbq
        have hall' := fhid (hall.out.succ (by have := hrl.out; omega) (by rw [hget.out j hlt (by have := hrl.out; omega), ← hp]; exact hbq))
        have hbr := fun W => rbare_any (pk s (a + j) y) W
        rw [hbq] at hbr
        clear hp hbq
        generalize pk s (a + j) y = c at *
        have hn := hb1.set1 ((a : Int) + j + 1)
        obtain ⟨c0, c1, c2, c3, z1, z2, z3, hz⟩ := hb1.facts
        go_wp2_with (go_at_call 27; (with_reducible refine (hbr _).mono ?_); rintro e u ⟨rfl, rfl⟩)
        go_roundw
        case rel => exact ⟨j + 1, by omega, hall'.out, by rw [show (a : Int) + ((j + 1 : Nat) : Int) = a + j + 1 by omega]; exact hn, hc1.out.set 1 _⟩
        case measure =>
          rw [hn.at_, hme2]
          omega
      · have hbf : isBare (pk s (a + j) y) = false := by simpa using hbq
        have hbr := fun W => rbare_any (pk s (a + j) y) W
        rw [hbf] at hbr
        clear hbq hbf
        generalize pk s (a + j) y = c at *
        obtain ⟨c0, c1, c2, c3, z1, z2, z3, hz⟩ := hb1.facts
        have hcb := fhid (hc1.out.below)
        by_cases h0 : j = 0
        · subst h0
          go_wp2_with (go_at_call 27; (with_reducible refine (hbr _).mono ?_); rintro e u ⟨rfl, rfl⟩)
          refine (fault_set (w.heap.size + 1) s _ y f _ w1 hb1).mono ?_
          rintro e w2 ⟨rfl, y', f', hy', hb2, hc2⟩
          have hc3 := hc1.out.trans hc2
          have hfx2 : FBox w2 w.heap.size := (hc3.other _ (by omega)).trans hfx.out
          have hbx : Below w.heap.size w w2 := hB.out.trans (hc3.below.mono (by omega))
          clear c0 c1 c2 c3 z1 z2 z3 hz
          obtain ⟨c0, c1, c2, c3, z1, z2, z3, hz⟩ := hb2.facts
          obtain ⟨e0, e1, g0, g1, zf⟩ := hfx2.facts
          have n0 := Nat.ne_of_lt zf
          go_wp2_with fail
          go_region
          go_wp2_with fail
          have zb := hbx.size
          refine bodyPost_ret (v := .tuple #[.slice none 0 0, .agg #[.int .i64 y', .int .i64 f']]) (by simp [results, Tryd.results15, go_sem, e0, e1, zf, n0]) rfl ⟨_, [], y', f', rfl, OwnS.nil _ _, fun x hx => by simp at hx, by simp, ?_⟩
          repeat' (first | (with_reducible exact hbx) | (with_reducible apply Below.drew) | (with_reducible apply Below.setCell) | (with_reducible apply Below.alloc))
          all_goals (first | omega | (simp; done) | (simp; omega))
        · have e6 : ((a : Int) + j == a) = false := by simp; omega
          have e7 : ¬ (a : Int) + j = a := by omega
          have e8 : ¬ (j : Int) = 0 := by omega
          have hpb := fhid (bare_take hall.out (by have := hrl.out; omega))
          have hpl : (r.take j).length = j := by rw [List.length_take]; have := hrl.out; omega
          have hts := hext.out j
          have htn : ((a : Int) + j).toNat = a + j := by omega
          generalize hP : r.take j = P at *
          have hpn := fhid (show P ≠ [] by intro h; rw [h] at hpl; simp at hpl; omega)
          replace hts := fhid hts
          have hwo := lt_of_block hb
          have hz1 := lt_of_block hb1
          have ho1 := ho.out.chg hc1.out.a (by omega)
          have hfx1 : FBox w1 w.heap.size := (hc1.out.other _ (by omega)).trans hfx.out
          have hB1 : Below w.heap.size w w1 := hB.out.trans (hc1.out.below.mono (by omega))
          have hs3 : s.size ≤ 140737488355000 := by have := hs.out; omega
          replace hs3 := fhid hs3
          go_wp2_with (go_at_call 27; (with_reducible refine (hbr _).mono ?_); rintro e u ⟨rfl, rfl⟩)
          generalize hPS : s.extract a (a + j) = PS at *
          replace hPS := fhid hPS
          clear c0 c1 c2 c3 z1 z2 z3 hz hbr hbj
          have hl0 := one_own w1 w1.heap.size (str []) [] rfl (Nat.le_refl _) _ rfl
          have y1 : Below w1.heap.size w1 (w1.alloc (.cells #[.string ⟨#[]⟩] 9)) := (Below.refl _ _).alloc (Nat.le_refl _) _
          have hb2 := hb1.below y1 hz1
          have ho2 := ho1.below y1
          have hfx2 := hfx1.below y1 (lt_of_block hfx1)
          have hB2 := hB1.trans (y1.mono hB1.size)
          have y1s := y1.size
          refine (peek_chg (w.heap.size + 1) s (a + j) y f _ _ (by omega) hs'.out hb2).mono ?_
          rintro e w3 ⟨rfl, hb3, hc3⟩
          have hl3 := fhid (hl0.chg hc3.a hz1)
          have ho3 := fhid (ho2.chg hc3.a (by omega))
          have hfx3 : FBox w3 w.heap.size := (hc3.other _ (by omega)).trans hfx2
          have hB3 : Below w.heap.size w w3 := hB2.trans (hc3.below.mono (by omega))
          have y3s := hc3.below.size
          have hz3 : w1.heap.size ≤ w3.heap.size := by omega
          clear hl0 y1 hb2 ho2 hfx2 hB2 hc3 ho1 hfx1 hB1 y3s y1s
          replace hfx3 := fhid hfx3
          replace hB3 := fhid hB3
          have hog : ∀ g, (Value.slice A ns.length cap).ownBlock = some g → g < w1.heap.size := fun g hg => by
            have h1 := hc1.out.size
            rcases ho.out.2 with ⟨h2, _⟩ | ⟨g', c', cur, h2, _, hh, _⟩
            · rw [h2] at hg
              cases hg
            · rw [h2] at hg
              have : g' = g := by simpa [Value.ownBlock] using hg
              subst this
              have := lt_of_block hh
              omega
          replace hog := fhid hog
          replace hc1 := fhid trivial
          obtain ⟨d, hd⟩ : ∃ d, pk s (a + j) y = d := ⟨_, rfl⟩
          rw [hd]
          go_upto_if 39 with fail
          go_cut [8] (fun s8 wx => ∃ (ls : List (List UInt8)) (a3 : Nat) (y3 f3 : Int), OwnS wx w1.heap.size s8 ls ∧ DN ls ∧ ls.length ≤ 257 ∧ a + j ≤ a3 ∧ a3 ≤ s.size ∧ RB wx (w.heap.size + 1) s a3 y3 f3 ∧ ChgA (w.heap.size + 1) w3 wx)
          case first =>
            by_cases h91 : d = 91
            · subst h91
              have lt := pk_is hd (by decide)
              clear hd
              have hn := hb3.set1 ((a : Int) + j + 1)
              have i4 : (a : Int) + j < s.size := by omega
              have hcs := fhid (((Chg.refl (w.heap.size + 1) w3).set 1 (.int .i64 ((a : Int) + j + 1))).a)
              have hss : w3.heap.size ≤ (w3.setCell ⟨w.heap.size + 1, 1, none⟩ (.int .i64 ((a : Int) + j + 1))).heap.size := hcs.out.below.size
              obtain ⟨c0, c1, c2, c3, z1, z2, z3, hz⟩ := hb3.facts
              go_wp2_with fail
              refine (ranges_weak (w.heap.size + 1) s (a + j + 1) y f _ hs3.out (by omega) (by omega) (by rw [show ((a + j + 1 : Nat) : Int) = a + j + 1 by omega]; exact hn)).mono ?_
              rintro e w4 ⟨v, ls, a4, y4, f4, rfl, ol, dl, ll, g4, g4', hb4, hc4⟩
              obtain ⟨Al, cl, rfl, _, _, _⟩ := ol.shape
              replace hb4 := fhid hb4
              clear c0 c1 c2 c3 z1 z2 z3
              go_wp2_with fail
              go_meet
              exact ⟨ls, a4, y4, f4, ol.base (by omega), dl, ll, by omega, g4', hb4.out, hcs.out.trans hc4⟩
            · have e : ¬ ((d.toNat : Int) = 91) := fun h => h91 (UInt8.toNat_inj.1 (by show d.toNat = 91; omega))
              have eb : ((d.toNat : Int) == 91) = false := by simpa using e
              go_wp2_with fail
              go_meet
              exact ⟨[[]], a + j, y, f, hl3.out, fun x hx => by simp at hx; subst hx; exact ⟨rfl, by simp⟩, by simp, Nat.le_refl _, hj, by rw [show ((a + j : Nat) : Int) = (a : Int) + j by omega]; exact hb3, ChgA.refl _ _⟩
          case rest =>
            obtain ⟨ls, a3, y3, f3, ol, dl, ll, g3, g3', hb5, hc5⟩ := hcut
            obtain ⟨Al, cl, rfl, _, _, _⟩ := ol.shape
            obtain ⟨wk, rfl⟩ : ∃ wk : World, wk = wc := ⟨_, rfl⟩
            have ho5 := fhid (ho3.out.chg hc5 (by omega))
            have hfx5 : FBox wk w.heap.size := (hc5.other _ (by omega) (lt_of_block hfx3.out)).trans hfx3.out
            have hB5 : Below w.heap.size w wk := hB3.out.trans (hc5.below.mono (by omega))
            have hz5 := lt_of_block hb5
            have hw15 : w1.heap.size ≤ wk.heap.size := by have := hc5.below.size; omega
            have k0 : (0 : Int) ≤ a3 := by omega
            have k1 : (a3 : Int) ≤ s.size := by omega
            clear hc5 hb3 hl3 ho3 hfx3 hB3
            obtain ⟨c0, c1, c2, c3, z1, z2, z3, _⟩ := hb5.facts
            replace hfx5 := fhid hfx5
            replace hB5 := fhid hB5
            replace ol := fhid ol
            replace dl := fhid dl
            go_upto_region 16 with fail
            go_cut [62] (fun s62 wx => (∃ q : Bool, s62 = .bool q) ∧ wx = wk)
            case first =>
              by_cases hy3 : y3 = 0
              · subst hy3
                by_cases ha3 : a3 < s.size
                · have k2 : (a3 : Int) < s.size := by omega
                  go_wp2_with fail
                  go_meet
                  exact ⟨⟨_, rfl⟩, rfl⟩
                · have k2 : ¬ (a3 : Int) < s.size := by omega
                  go_wp2_with fail
                  go_meet
                  exact ⟨⟨_, rfl⟩, rfl⟩
              · have yb : (y3 == 0) = false := by simpa using hy3
                go_wp2_with fail
                go_meet
                exact ⟨⟨_, rfl⟩, rfl⟩
            case rest =>
              obtain ⟨⟨q, rfl⟩, rfl⟩ := hcut
              go_upto_if 62 with fail
              go_cut [] (fun wx => ∃ (y4 f4 : Int), RB wx (w.heap.size + 1) s a3 y4 f4 ∧ Chg (w.heap.size + 1) wc wx)
              case first =>
                cases q with
                | true =>
                  go_wp2_with fail
                  refine (fault_set (w.heap.size + 1) s _ y3 f3 _ _ hb5).mono ?_
                  rintro e w6 ⟨rfl, y', f', hy', hb6, hc6⟩
                  go_wp2_with fail
                  go_meet
                  exact ⟨y', f', hb6, hc6⟩
                | false =>
                  go_wp2_with fail
                  go_meet
                  exact ⟨y3, f3, hb5, Chg.refl _ _⟩
              case rest =>
                obtain ⟨y4, f4, hb6, hc6⟩ := hcut
                have ho6 := ho5.out.chg hc6.a (by omega)
                have ol6 := ol.out.chg hc6.a hz1
                have hfx6 : FBox wc w.heap.size := (hc6.other _ (by omega)).trans hfx5.out
                have hB6 : Below w.heap.size w wc := hB5.out.trans (hc6.below.mono (by omega))
                have hw16 : w1.heap.size ≤ wc.heap.size := by have := hc6.size; omega
                clear c0 c1 c2 c3 z1 z2 z3 hb5 ho5 hfx5 hB5 ol
                obtain ⟨c0, c1, c2, c3, z1, z2, z3, hz6⟩ := hb6.facts
                obtain ⟨e0, e1, g0, g1, zf⟩ := hfx6.facts
                have n0 := Nat.ne_of_lt zf
                clear hc6
                by_cases hy4 : y4 = 0
                · subst hy4
                  have m1 : (ns.length : Int) ≤ 256 := by have := hnl.out; omega
                  have m0 : (0 : Int) ≤ ns.length := by omega
                  have m2 : (ls.length : Int) ≤ 257 := by omega
                  have m3 : (0 : Int) ≤ ls.length := by omega
                  replace ho6 := fhid ho6
                  replace ol6 := fhid ol6
                  by_cases hm : ns.length + ls.length ≤ 256
                  · have mI : ¬ (256 : Int) < (ns.length : Int) + ls.length := by omega
                    have hne0 : ∀ k, (Value.slice Al ls.length cl).ownBlock = some k → (Value.slice A ns.length cap).ownBlock ≠ some k := fun k hk h => by
                      have h1 := hog.out k h
                      have h2 := ownsRow_ge ol6.out k hk
                      omega
                    replace hne0 := fhid hne0
                    replace hm := fhid hm
                    go_wp2_with fail
                    go_loopw [5, 9] (fun s5 s9 wi => ∃ k : Nat, k ≤ ls.length ∧ s9 = .int .i64 k ∧ OwnS wi (w.heap.size + 2) s5 (ns ++ (ls.map (P ++ ·)).take k) ∧ OwnS wi w1.heap.size (.slice Al ls.length cl) ls ∧ (∀ k, (Value.slice Al ls.length cl).ownBlock = some k → s5.ownBlock ≠ some k) ∧ RB wi (w.heap.size + 1) s a3 0 f4 ∧ FBox wi w.heap.size ∧ Below w.heap.size w wi) (fun _ s9 _ => ls.length - (intOf s9).toNat)
                    case atStart => exact ⟨0, Nat.zero_le _, rfl, by simpa using ho6.out, ol6.out, hne0.out, hb6, hfx6, hB6⟩
                    case round =>
                      obtain ⟨k, hk, rfl, hoi, oli, hne, hbi, hfi, hBi⟩ := hrel
                      obtain ⟨Ai, ci, rfl, _, _, _⟩ := hoi.shape
                      have k2 : (0 : Int) ≤ k := by omega
                      have k3 : (k : Int) ≤ ls.length := by omega
                      have hzi := lt_of_block hbi
                      have hszi := hBi.size
                      have hwz : w.heap.size + 2 ≤ wr.heap.size := by omega
                      clear c0 c1 c2 c3 z1 z2 z3 e0 e1 g0 g1
                      by_cases hlt : k < ls.length
                      · have k4 : (k : Int) < ls.length := by omega
                        obtain ⟨Aj, cj, he, _, _, hst⟩ := oli.shape
                        injection he with he1 he2 he3
                        subst he1
                        subst he3
                        obtain ⟨b', o', rfl, hb', cc⟩ := hst.at_ hlt
                        have hq := str_app P ls[k]
                        have hdk := dl.out ls[k] (List.getElem_mem hlt)
                        have hPSz : PS.size ≤ 1000000 := by
                          rw [hts.out, str_size]
                          have := hs.out
                          omega
                        have hbig : ¬ 9223372036854775807 < PS.size + (str ls[k]).size := by rw [str_size]; omega
                        rw [← hts.out] at hq
                        have hnx := fhid (map_snoc (P ++ ·) ns ls k hlt)
                        have hnew := fhid (bare_app hpn.out hpb.out hdk.1)
                        have hmlen := fhid (show (ns ++ (ls.map (P ++ ·)).take k).length ≤ 1048576 by
                          have := hm.out
                          simp; omega)
                        generalize str ls[k] = T at *
                        obtain ⟨Q, hQ⟩ : ∃ Q, str (P ++ ls[k]) = Q := ⟨_, rfl⟩
                        rw [hQ] at hq
                        replace hQ := fhid hQ
                        generalize (ns ++ (ls.map (P ++ ·)).take k) = cur at *
                        replace hoi := fhid hoi
                        replace oli := fhid oli
                        replace hne := fhid hne
                        replace hbi := fhid hbi
                        replace hfi := fhid hfi
                        replace hBi := fhid hBi
                        replace hm := fhid hm
                        clear hst hPSz hdk
                        go_wp2_with (at_builtin
                                     refine app_name_at rfl _ _ rfl (w.heap.size + 2) _ cur (P ++ ls[k]) _ hQ.out.symm _ rfl hoi.out rfl _ (by first | rfl | simp) rfl hmlen.out hwz ?_
                                     intro v6 w6 o6 g6 b6 n6)
                        go_roundw
                        case rel =>
                          have r1 : RB w6 (w.heap.size + 1) s a3 0 f4 := hbi.out.kept g6 hoi.out
                          have r2 : FBox w6 w.heap.size := keep_block hfi.out g6 hoi.out (by decide)
                          refine ⟨k + 1, by omega, by go_num, by rw [hnx.out]; exact o6, oli.out.grown g6 hne.out, fun q hq1 => ?_, r1, r2, hBi.out.trans (b6.mono (by omega))⟩
                          have := oli.out.lt q hq1
                          rcases n6 with n6 | n6
                          · rw [n6]; exact hne.out q hq1
                          · rw [n6]
                            intro h
                            injection h with h
                            omega
                        case measure => simp [intOf]; omega
                      · obtain rfl : k = ls.length := by omega
                        have k4 : ¬ (ls.length : Int) < ls.length := by omega
                        generalize hcur : ns ++ (ls.map (P ++ ·)).take ls.length = cur at *
                        rw [List.take_of_length_le (by simp)] at hcur
                        obtain ⟨c0, c1, c2, c3, z1, z2, z3, _⟩ := hbi.facts
                        obtain ⟨e0, e1, g0, g1, zi⟩ := hfi.facts
                        have ni := Nat.ne_of_lt zi
                        have hallb : ∀ x ∈ cur, Bare x := fun x hx => by
                          rw [← hcur] at hx
                          rcases List.mem_append.1 hx with h | h
                          · exact hbare.out x h
                          · obtain ⟨d, hd, rfl⟩ := List.mem_map.1 h
                            exact bare_app hpn.out hpb.out (dl.out d hd).1
                        have hlen2 : cur.length ≤ 256 := by rw [← hcur]; have := hm.out; simp; omega
                        clear hcur
                        replace hoi := fhid hoi
                        replace hallb := fhid hallb
                        replace hlen2 := fhid hlen2
                        by_cases hend : a3 = s.size
                        · have k5 : (a3 : Int) = s.size := by omega
                          have k6 : ((a3 : Int) == s.size) = true := by simpa using k5
                          replace k5 := fhid k5
                          replace hend := fhid hend
                          have hbx := hBi
                          replace hBi := fhid hBi
                          go_wp2_with fail
                          have zb := hbx.size
                          refine bodyPost_ret (v := .tuple #[.slice Ai _ ci, .agg #[.int .i64 0, .int .i64 0]]) (by simp [results, Tryd.results15, go_sem, e0, e1, zi, ni]; rfl) rfl ⟨_, cur, 0, 0, rfl, ?_, hallb.out, hlen2.out, ?_⟩
                          · exact own_fset (hoi.out.base (show w.heap.size + 1 ≤ w.heap.size + 2 by omega))
                          · repeat' (first | (with_reducible exact hbx) | (with_reducible apply Below.drew) | (with_reducible apply Below.setCell) | (with_reducible apply Below.alloc))
                            all_goals (first | omega | (simp; done) | (simp; omega))
                        · have k5 : ¬ (a3 : Int) = s.size := by omega
                          have k6 : ((a3 : Int) == s.size) = false := by simpa using k5
                          have hn := hbi.set1 ((a3 : Int) + 1)
                          have hcs := ((Chg.refl (w.heap.size + 1) wr).set 1 (.int .i64 ((a3 : Int) + 1)))
                          replace hcs := fhid hcs
                          go_wp2_with fail
                          go_roundw
                          case rel => exact ⟨cur, a3 + 1, 0, f4, hoi.out.chg hcs.out.a (by omega), hallb.out, hlen2.out, by omega, by rw [show ((a3 + 1 : Nat) : Int) = (a3 : Int) + 1 by omega]; exact hn, (hcs.out.other _ (by omega)).trans hfi, hBi.trans (hcs.out.below.mono (by omega))⟩
                          case measure =>
                            rw [hn.at_, hme]
                            omega
                  · have mI : (256 : Int) < (ns.length : Int) + ls.length := by omega
                    go_wp2_with fail
                    have hbx := hB6
                    have zb := hbx.size
                    refine bodyPost_ret (v := .tuple #[.slice none 0 0, .agg #[.int .i64 5, .int .i64 a]]) (by simp [results, Tryd.results15, go_sem, e0, e1, zf, n0]) rfl ⟨_, [], 5, a, rfl, OwnS.nil _ _, fun x hx => by simp at hx, by simp, ?_⟩
                    repeat' (first | (with_reducible exact hbx) | (with_reducible apply Below.drew) | (with_reducible apply Below.setCell) | (with_reducible apply Below.alloc))
                    all_goals (first | omega | (simp; done) | (simp; omega))
                · have yb : (y4 == 0) = false := by simpa using hy4
                  have yn : (y4 != 0) = true := by simpa using hy4
                  have hbx := hB6
                  go_wp2_with fail
                  go_region
                  go_wp2_with fail
                  have zb := hbx.size
                  refine bodyPost_ret (v := .tuple #[.slice none 0 0, .agg #[.int .i64 y4, .int .i64 f4]]) (by simp [results, Tryd.results15, go_sem, e0, e1, zf, n0]) rfl ⟨_, [], y4, f4, rfl, OwnS.nil _ _, fun x hx => by simp at hx, by simp, ?_⟩
                  repeat' (first | (with_reducible exact hbx) | (with_reducible apply Below.drew) | (with_reducible apply Below.setCell) | (with_reducible apply Below.alloc))
                  all_goals (first | omega | (simp; done) | (simp; omega))
theorem rexpand_any (s : ByteArray) (w : World) (hs : s.size ≤ 1000000) : Calls Tryd.prog 15 #[.string s] w (EPost w) := by
  by_cases h : bl s = []
  · exact rexpand_none s w h
  · exact rexpand_some s w hs h
end Go.Proofs.YtmaoplplaobbbaaDoor
