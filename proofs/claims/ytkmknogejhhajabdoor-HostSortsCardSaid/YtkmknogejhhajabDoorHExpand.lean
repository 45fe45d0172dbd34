/-
  Expand, walked.
-/
import Derived.Test.YtkmknogejhhajabDoorHNames
namespace Go.Proofs.YtkmknogejhhajabDoor
open Go.RowKit

theorem cnt_ge (rs : List (Nat × Nat × Nat)) (hb : ∀ x ∈ rs, x.1 ≤ x.2.1) : rs.length ≤ cntOf rs := by
  induction rs with
  | nil => exact Nat.zero_le _
  | cons x r ih =>
    have h1 := hb x (by simp)
    have h2 := ih (fun y hy => hb y (by simp [hy]))
    have : cntOf (x :: r) = spanCount x + cntOf r := by simp [cntOf]
    have : spanCount x = x.2.1 + 1 - x.1 := rfl
    rw [List.length_cons]; omega
theorem names_any (p : List UInt8) (A : Option Addr) (cap : Nat) (rs : List (Nat × Nat × Nat)) (cnt : Int) (w : World) (hT : Tab w) (hr : SegC w w.heap.size A (RV rs)) (hb : ∀ x ∈ rs, x.1 ≤ x.2.1 ∧ x.2.1 < 1000000 ∧ x.2.2 ≤ 6)
    (hc : partCount rs ≤ 256) (hp : p.length ≤ 1099511627776) :
    Calls Tryd.prog 28 #[.agg #[.string (str p), .slice A rs.length cap, .int .i64 cnt]] w (NamesPost w (partNames p rs)) := by
  by_cases h0 : rs = []
  · subst h0
    exact names_one p A cap cnt w
  · unfold partCount at hc
    rw [if_neg h0] at hc
    unfold partNames
    rw [if_neg h0]
    exact names_many p A cap rs cnt w hT hr h0 hb hc hp (by have := cnt_ge rs (fun x hx => (hb x hx).1); unfold cntOf at this; omega)
theorem pPart_bad {r : List UInt8} {e k : Nat} (h : pPart r = .bad e k) : e ≠ 0 := by
  unfold pPart at h
  split at h
  · injection h with h1 _
    unfold wrg at h1
    split at h1 <;> omega
  · split at h
    · split at h
      · rename_i hq
        injection h with h1 _
        have := pRanges_bad _ _ _ _ (by rw [List.length_drop]; omega) hq
        omega
      · unfold pEnd at h
        split at h
        · simp at h
        · injection h with h1 _; omega
    · unfold pEnd at h
      split at h
      · simp at h
      · injection h with h1 _; omega
/-- What Expand hands back. -/
def ExpPost (w : World) (R : List (List UInt8) × Nat × Nat) (e : Ending) (w' : World) : Prop := ∃ v, e = .returned (.tuple #[v, .agg #[.int .i64 R.2.1, .int .i64 R.2.2]]) ∧ OwnS w' w.heap.size v R.1 ∧ Below w.heap.size w w'
theorem own_fset {w : World} {b : Nat} {v : Value} {ns : List (List UInt8)} {u0 u1 : Value} (h : OwnS w (b + 1) v ns) : OwnS ((w.setCell ⟨b, 0, none⟩ u0).setCell ⟨b, 1, none⟩ u1) b v ns := by
  refine ⟨h.1, ?_⟩
  rcases h.2 with ⟨rfl, hn⟩ | ⟨g, cap, cur, rfl, hg, hh, rest⟩
  · exact .inl ⟨rfl, hn⟩
  · exact .inr ⟨g, cap, cur, rfl, by omega, block_other _ _ (block_other _ _ hh (by omega)) (by omega), rest⟩
theorem exp_bad {f a : Nat} {r : List UInt8} {ns : List (List UInt8)} {e k : Nat} (hp : pPart r = .bad e k) : pExpand (f + 1) a r ns = ([], e, a + k) := by
  unfold pExpand; rw [hp]
theorem exp_many {f a : Nat} {r : List UInt8} {ns : List (List UInt8)} {x : List UInt8 × List (Nat × Nat × Nat)} {k : Nat} (hp : pPart r = .ok x k) (h : 256 < ns.length + partCount x.2) : pExpand (f + 1) a r ns = ([], 5, a) := by
  unfold pExpand; rw [hp]; simp only; rw [if_pos h]
theorem exp_end {f a : Nat} {r : List UInt8} {ns : List (List UInt8)} {x : List UInt8 × List (Nat × Nat × Nat)} {k : Nat} (hp : pPart r = .ok x k) (h : ¬ 256 < ns.length + partCount x.2) (hk : k = r.length) : pExpand (f + 1) a r ns = (ns ++ partNames x.1 x.2, 0, 0) := by
  unfold pExpand; rw [hp]; simp only; rw [if_neg h, if_pos hk]
theorem exp_more {f a : Nat} {r : List UInt8} {ns : List (List UInt8)} {x : List UInt8 × List (Nat × Nat × Nat)} {k : Nat} (hp : pPart r = .ok x k) (h : ¬ 256 < ns.length + partCount x.2) (hk : ¬ k = r.length) : pExpand (f + 1) a r ns = pExpand f (a + k + 1) (r.drop (k + 1)) (ns ++ partNames x.1 x.2) := by
  conv => lhs; unfold pExpand
  rw [hp]; simp only; rw [if_neg h, if_neg hk]
set_option maxRecDepth 100000 in
set_option maxHeartbeats 400000 in
theorem Expand_none (s : ByteArray) (w : World) (h : bl s = []) : Calls Tryd.prog 20 #[.string s] w (ExpPost w ([], 0, 0)) := by
  have h1 : s.toList = [] := by rw [ByteArray.toList_eq]; exact h
  clear h
  go_enter Tryd.func20, Tryd.ntmps20
  go_wp2
  refine bodyPost_ret (v := .tuple #[.slice none 0 0, .agg #[.int .i64 0, .int .i64 0]]) (by simp [results, Tryd.results20, go_sem]) rfl ⟨_, rfl, OwnS.nil _ _, ?_⟩
  exact (Below.refl _ _).alloc (Nat.le_refl _) _
set_option maxRecDepth 100000 in
set_option maxHeartbeats 4000000 in
theorem Expand_some (s : ByteArray) (w : World) (hT : Tab w) (hs : s.size ≤ 1099511627776) (h0 : bl s ≠ []) : Calls Tryd.prog 20 #[.string s] w (ExpPost w (pExpand (s.size + 1) 0 (bl s) [])) := by
  have h1 : ¬ s.toList = [] := by rw [ByteArray.toList_eq]; exact h0
  have h2 : s.toList.isEmpty = false := by simpa using h1
  have hrp := fun a W (h : a ≤ s.size) => readPart_any s a a W rfl hs h
  obtain ⟨C, hC⟩ : ∃ C, pExpand (s.size + 1) 0 (bl s) [] = C := ⟨_, rfl⟩
  rw [hC]
  replace hC := fhid hC
  replace hT := fhid hT
  replace hrp := fhid hrp
  clear h0
  go_enter Tryd.func20, Tryd.ntmps20
  go_wp2
  go_loopw [4, 5] (fun s4 s5 wr => ∃ (a f : Nat) (ns : List (List UInt8)), s5 = .int .i64 (a : Int) ∧ a ≤ s.size ∧ s.size - a < f ∧ C = pExpand f a ((bl s).drop a) ns ∧ OwnS wr (w.heap.size + 1) s4 ns ∧ ns.length ≤ 256 ∧ FBox wr w.heap.size ∧ Below w.heap.size w wr) (fun _ s5 _ => s.size + 1 - (intOf s5).toNat)
  case atStart => exact ⟨0, s.size + 1, [], rfl, Nat.zero_le _, by omega, by rw [← hC.out]; rfl, OwnS.nil _ _, by simp, FBox.new w, (Below.refl _ _).alloc (Nat.le_refl _) _⟩
  case round =>
    obtain ⟨a, f, ns, rfl, ha, hf, hfin, hown, hnl, hbx0, hB⟩ := hrel
    cases f with
    | zero => exact absurd hf (Nat.not_lt_zero _)
    | succ f =>
    have hsz := hB.size
    have hcall := hrp.out a wr ha
    have hRl : ((bl s).drop a).length = s.size - a := by rw [List.length_drop, bl_len]
    have z0 := hbx0.facts.2.2.2.2
    have i0 : (0 : Int) ≤ a := by omega
    have i1 : (a : Int) ≤ 1099511627776 := by omega
    have i2 : (s.size : Int) ≤ 1099511627776 := by omega
    have i3 : (ns.length : Int) ≤ 256 := by omega
    have i4 : (0 : Int) ≤ ns.length := by omega
    obtain ⟨An, cn, rfl, _, _, _⟩ := hown.shape
    replace hfin := fhid hfin
    replace hown := fhid hown
    replace hbx0 := fhid hbx0
    replace hnl := fhid hnl
    cases hp : pPart ((bl s).drop a) with
    | bad e k =>
      rw [hp] at hcall
      have E := fhid (hfin.out.trans (exp_bad hp))
      have he := pPart_bad hp
      have e1 : ((e : Int) != 0) = true := by simpa using he
      have e2 : ¬ (e : Int) = 0 := by omega
      clear hp he
      go_wp2_with fail
      refine hcall.mono ?_
      rintro e' w1 ⟨b1, rfl⟩
      have hbx := hB.trans (b1.mono hsz)
      obtain ⟨c0, c1, f0, f1, y0⟩ := (hbx0.out.below b1 z0).facts
      have n0 := Nat.ne_of_lt y0
      clear b1
      go_wp2_with fail
      go_region
      go_wp2_with fail
      have zb := hbx.size
      refine bodyPost_ret (v := .tuple #[.slice none 0 0, .agg #[.int .i64 e, .int .i64 ((a : Int) + k)]]) (by simp [results, Tryd.results20, go_sem, c0, c1, y0]) rfl ⟨_, by rw [E.out]; simp; rfl, by rw [E.out]; exact OwnS.nil _ _, ?_⟩
      repeat' (first | (with_reducible exact hbx) | (with_reducible apply Below.drew) | (with_reducible apply Below.setCell) | (with_reducible apply Below.alloc))
      all_goals (first | omega | (simp; done) | (simp; omega))
    | ok x k =>
      obtain ⟨p, rs⟩ := x
      rw [hp] at hcall
      obtain ⟨k1, k2, hbare, hpl, hrs⟩ := pPart_ok hp
      have hpl2 : p.length ≤ 1099511627776 := by omega
      have j0 : (0 : Int) ≤ k := by omega
      have j1 : (k : Int) ≤ 1099511627776 := by omega
      replace hrs := fhid hrs
      replace hpl2 := fhid hpl2
      go_wp2_with fail
      refine hcall.mono ?_
      rintro e' w1 ⟨b1, v, kept, rfl, own, hkx⟩
      obtain ⟨Av, cv, rfl, _, _, hseg⟩ := own.shape
      have hbx := hB.trans (b1.mono hsz)
      have hb2 := hbx0.out.below b1 z0
      obtain ⟨c0, c1, f0, f1, y0⟩ := hb2.facts
      have n0 := Nat.ne_of_lt y0
      have hown1 := fhid (hown.out.below b1)
      replace hb2 := fhid hb2
      replace hkx := fhid hkx
      replace hseg := fhid hseg
      clear b1 own hcall
      by_cases hmany : 256 < ns.length + partCount rs
      · have E := fhid (hfin.out.trans (exp_many hp hmany))
        have t1 : (partCount rs : Int) > 256 - ns.length := by omega
        clear hp hmany
        generalize partCount rs = cnt at *
        go_wp2_with fail
        have zb := hbx.size
        refine bodyPost_ret (v := .tuple #[.slice none 0 0, .agg #[.int .i64 5, .int .i64 (a : Int)]]) (by simp [results, Tryd.results20, go_sem, c0, c1, y0]) rfl ⟨_, by rw [E.out]; rfl, by rw [E.out]; exact OwnS.nil _ _, ?_⟩
        repeat' (first | (with_reducible exact hbx) | (with_reducible apply Below.drew) | (with_reducible apply Below.setCell) | (with_reducible apply Below.alloc))
        all_goals (first | omega | (simp; done) | (simp; omega))
      · have t1 : ¬ (partCount rs : Int) > 256 - ns.length := by omega
        have hke := hkx.out (by show partCount rs ≤ 256; omega)
        simp only at hke
        subst hke
        have hpc : partCount kept ≤ 256 := by omega
        have hnn : (partNames p kept).length + ns.length ≤ 256 := by rw [partNames_length]; omega
        have hmk := fhid hmany
        have hnm := fun W (b : Below w1.heap.size w1 W) => names_any p Av cv kept (partCount kept : Nat) W (tab_below hT.out (hbx.trans (b.mono hbx.size))) ((hseg.out.below b).more b.size) hrs.out hpc hpl2.out
        replace hnm := fhid hnm
        replace hpc := fhid hpc
        replace hnn := fhid hnn
        by_cases hkl : k = ((bl s).drop a).length
        · have E := fhid (hfin.out.trans (exp_end hp hmany hkl))
          have t2 : ((a : Int) + k == (s.size : Int)) = true := by simp; omega
          clear hmany hp hkl
          go_wp2_with (first
            | (go_at_call 28
               (with_reducible refine (hnm.out _ (((Below.refl _ _).alloc (Nat.le_refl _) _).alloc (by simp) _)).mono ?_)
               rintro e2 w2 ⟨v2, rfl, o2, b2⟩
               obtain ⟨A2, c2, rfl, _, _, s2⟩ := o2.shape
               have y2 : Below w1.heap.size w1 w2 := (((Below.refl _ _).alloc (Nat.le_refl _) _).alloc (by simp) _).trans (b2.mono (by simp; omega))
               clear o2 b2)
            | (at_builtin
               refine app_names rfl _ _ rfl (w.heap.size + 1) _ ns rfl (hown1.out.below y2) _ A2 (partNames p kept) c2 rfl s2 (fun h => by subst h; exact Strs.none_ s2) (by have := hnn.out; omega) (by have := y2.size; omega) ?_
               intro v3 w3 o3 g3 b3
               have hx3 := y2.size
               have b4 : FBox w3 w.heap.size := (hb2.out.below y2 y0).below b3 (by omega)
               have b5 : Below w.heap.size w w3 := (hbx.trans (y2.mono hbx.size)).trans (b3.mono (by omega))
               obtain ⟨d0, d1, g0, g1, z3⟩ := b4.facts
               have m0 := Nat.ne_of_lt z3
               obtain ⟨A3, c3, rfl, _, _, _⟩ := o3.shape
               have o3 := fhid o3))
          have zb := b5.size
          refine bodyPost_ret (v := .tuple #[.slice A3 (ns ++ partNames p kept).length c3, .agg #[.int .i64 0, .int .i64 0]]) (by simp [results, Tryd.results20, go_sem, d0, d1]) rfl ⟨_, by rw [E.out]; rfl, by rw [E.out]; exact own_fset o3.out, ?_⟩
          repeat' (first | (with_reducible exact b5) | (with_reducible apply Below.drew) | (with_reducible apply Below.setCell) | (with_reducible apply Below.alloc))
          all_goals (first | omega | (simp; done) | (simp; omega))
        · have E := fhid (hfin.out.trans (exp_more hp hmany hkl))
          have hdd := fhid (show ((bl s).drop a).drop (k + 1) = (bl s).drop (a + k + 1) by rw [List.drop_drop]; rfl)
          have t2 : ((a : Int) + k == (s.size : Int)) = false := by simp; omega
          have t3 : ¬ (a : Int) + k = s.size := by omega
          have hka : a + k < s.size := by omega
          clear hmany hp hkl
          go_wp2_with (first
            | (go_at_call 28
               (with_reducible refine (hnm.out _ (((Below.refl _ _).alloc (Nat.le_refl _) _).alloc (by simp) _)).mono ?_)
               rintro e2 w2 ⟨v2, rfl, o2, b2⟩
               obtain ⟨A2, c2, rfl, _, _, s2⟩ := o2.shape
               have y2 : Below w1.heap.size w1 w2 := (((Below.refl _ _).alloc (Nat.le_refl _) _).alloc (by simp) _).trans (b2.mono (by simp; omega))
               clear o2 b2)
            | (at_builtin
               refine app_names rfl _ _ rfl (w.heap.size + 1) _ ns rfl (hown1.out.below y2) _ A2 (partNames p kept) c2 rfl s2 (fun h => by subst h; exact Strs.none_ s2) (by have := hnn.out; omega) (by have := y2.size; omega) ?_
               intro v3 w3 o3 g3 b3
               have hx3 := y2.size
               have b4 : FBox w3 w.heap.size := (hb2.out.below y2 y0).below b3 (by omega)
               have b5 : Below w.heap.size w w3 := (hbx.trans (y2.mono hbx.size)).trans (b3.mono (by omega))
               obtain ⟨d0, d1, g0, g1, z3⟩ := b4.facts
               have m0 := Nat.ne_of_lt z3
               obtain ⟨A3, c3, rfl, _, _, _⟩ := o3.shape
               have o3 := fhid o3))
          go_roundw
          case rel => exact ⟨a + k + 1, f, ns ++ partNames p kept, by rw [show (a : Int) + k + 1 = ((a + k + 1 : Nat) : Int) by omega], by omega, by omega, by rw [E.out, hdd.out], by have h := o3.out; rw [List.length_append] at h; exact h, by have := hnn.out; rw [List.length_append]; omega, b4, b5⟩
          case measure => simp [intOf]; omega
theorem Expand_any (s : ByteArray) (w : World) (hT : Tab w) (hs : s.size ≤ 1099511627776) : Calls Tryd.prog 20 #[.string s] w (ExpPost w (expand (bl s))) := by
  unfold expand
  by_cases h : bl s = []
  · rw [if_pos h]; exact Expand_none s w h
  · rw [if_neg h, bl_len]; exact Expand_some s w hT hs h
end Go.Proofs.YtkmknogejhhajabDoor
