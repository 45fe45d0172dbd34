/-
  Ranges, read.
-/
import Derived.Test.YtkmknogejhhajabDoorHApp
import Derived.BigRegion
import Derived.Deep.DeepCutAuto
namespace Go.Proofs.YtkmknogejhhajabDoor
open Go.RowKit

def after (k : Nat) (xs : List (Nat × Nat × Nat)) : Res (List (Nat × Nat × Nat)) → Res (List (Nat × Nat × Nat))
  | .bad e j => .bad e (k + j)
  | .ok ys j => .ok (xs ++ ys) (k + j)
def cntOf (xs : List (Nat × Nat × Nat)) : Nat := (xs.map spanCount).sum
/-- What a call that reads ranges hands back. -/
def RangesPost (w : World) (a : Nat) (R : Res (List (Nat × Nat × Nat))) (e : Ending) (w' : World) : Prop := Below w.heap.size w w' ∧ match R with
  | .bad er k => e = .returned (.tuple #[.slice none 0 0, .int .i64 0, .int .i64 0, .agg #[.int .i64 er, .int .i64 ((a : Int) + (k : Int))]])
  | .ok xs k => ∃ v kept, e = .returned (.tuple #[v, .int .i64 (cntOf xs : Nat), .int .i64 ((a : Int) + (k : Int)), .agg #[.int .i64 0, .int .i64 0]]) ∧ OwnR w' w.heap.size v kept ∧ (cntOf xs ≤ 256 → kept = xs)
/-- A result's block for a fault. -/
def FBox (w : World) (b : Nat) : Prop := w.heap[b]? = some (.cells #[.int .i64 0, .int .i64 0] 40 (0, 0))
theorem FBox.facts {w : World} {b : Nat} (h : FBox w b) : w.cell? ⟨b, 0, none⟩ = some (.int .i64 0) ∧ w.cell? ⟨b, 1, none⟩ = some (.int .i64 0) ∧ w.frozen? ⟨b, 0, none⟩ = false ∧ w.frozen? ⟨b, 1, none⟩ = false ∧ b < w.heap.size := by
  unfold FBox at h
  exact ⟨by simp [World.cell?, h], by simp [World.cell?, h], by simp [World.frozen?, h], by simp [World.frozen?, h], lt_of_block h⟩
theorem FBox.below {w w' : World} {b B : Nat} (h : FBox w b) (hb : Below B w w') (hB : b < B) : FBox w' b := (hb.block b hB).trans h
theorem FBox.new (w : World) : FBox (w.alloc (.cells #[.int .i64 0, .int .i64 0] 40)) w.heap.size := heap_alloc_new w _
theorem cnt_app (xs : List (Nat × Nat × Nat)) (x : Nat × Nat × Nat) : cntOf (xs ++ [x]) = cntOf xs + spanCount x := by simp [cntOf]
/-- What the loop knows at its head. -/
def RangesInv (w : World) (R : List UInt8) (F a : Nat) (s1 s8 s9 : Value) (wr : World) : Prop := ∃ (k f : Nat) (xs kept : List (Nat × Nat × Nat)), s1 = .int .i64 ((a : Int) + (k : Int)) ∧ s9 = .int .i64 (cntOf xs : Nat) ∧ k ≤ R.length ∧ R.length - k < f ∧
  pRanges F R = after k xs (pRanges f (R.drop k)) ∧ OwnR wr (w.heap.size + 1) s8 kept ∧ (cntOf xs ≤ 256 → kept = xs) ∧ kept.length ≤ 256 ∧ kept.length ≤ cntOf xs ∧ cntOf xs ≤ 1000000 * k ∧ FBox wr w.heap.size ∧ Below w.heap.size w wr
/-- One range more was read: what the pieces come to. -/
theorem ranges_bad {R : List UInt8} {F k f e j : Nat} {xs : List (Nat × Nat × Nat)} (h : pRanges F R = after k xs (pRanges (f + 1) (R.drop k))) (hp : pRange (R.drop k) = .bad e j) : pRanges F R = .bad e (k + j) := by
  rw [h]; unfold pRanges; rw [hp]; rfl
theorem ranges_end {R : List UInt8} {F k f j : Nat} {x : Nat × Nat × Nat} {xs : List (Nat × Nat × Nat)} (h : pRanges F R = after k xs (pRanges (f + 1) (R.drop k))) (hp : pRange (R.drop k) = .ok x j) (hc : R[k + j]? = some 93) : pRanges F R = .ok (xs ++ [x]) (k + (j + 1)) := by
  rw [h]; unfold pRanges; rw [hp]; simp only; rw [List.getElem?_drop, if_pos hc]; rfl
theorem ranges_more {R : List UInt8} {F k f j : Nat} {x : Nat × Nat × Nat} {xs : List (Nat × Nat × Nat)} (h : pRanges F R = after k xs (pRanges (f + 1) (R.drop k))) (hp : pRange (R.drop k) = .ok x j) (hc : R[k + j]? = some 44) : pRanges F R = after (k + j + 1) (xs ++ [x]) (pRanges f (R.drop (k + j + 1))) := by
  rw [h]
  conv => lhs; unfold pRanges
  rw [hp]; simp only
  rw [List.getElem?_drop, if_neg (by rw [hc]; decide), if_pos hc, List.drop_drop, show k + (j + 1) = k + j + 1 by omega]
  cases pRanges f (R.drop (k + j + 1)) with
  | bad e i => simp [after]; omega
  | ok ys i => simp [after]; omega
theorem ranges_wrong {R : List UInt8} {F k f j : Nat} {x : Nat × Nat × Nat} {xs : List (Nat × Nat × Nat)} (h : pRanges F R = after k xs (pRanges (f + 1) (R.drop k))) (hp : pRange (R.drop k) = .ok x j) (hc : ¬ R[k + j]? = some 93) (hc' : ¬ R[k + j]? = some 44) : pRanges F R = .bad (wrg (R.drop (k + j))) (k + j) := by
  rw [h]; unfold pRanges; rw [hp]; simp only; rw [List.getElem?_drop, if_neg hc, if_neg hc', List.drop_drop]; rfl
theorem pRange_bad {r : List UInt8} {e k : Nat} (h : pRange r = .bad e k) : e ≠ 0 := by
  unfold pRange at h
  split at h
  · rename_i e' k' hn
    injection h with h1 _
    have := pNum_bad hn
    omega
  · split at h
    · unfold pSecond at h
      split at h
      · rename_i hn
        injection h with h1 _
        have := pNum_bad hn
        omega
      · split at h
        · injection h with h1 _; omega
        · simp at h
    · simp at h
theorem own_sets {w : World} {b : Nat} {v : Value} {rs : List (Nat × Nat × Nat)} {u0 u1 : Value} (h : OwnR w (b + 1) v rs) : OwnR ((w.setCell ⟨b, 0, none⟩ u0).setCell ⟨b, 1, none⟩ u1) b v rs := by
  refine ⟨h.1, ?_⟩
  rcases h.2 with ⟨rfl, hn⟩ | ⟨g, cap, cur, rfl, hg, hh, rest⟩
  · exact .inl ⟨rfl, hn⟩
  · exact .inr ⟨g, cap, cur, rfl, by omega, (Below.heap_setCell _ _ _ _ (by show g ≠ b; omega)).trans ((Below.heap_setCell _ _ _ _ (by show g ≠ b; omega)).trans hh), rest⟩
/-- What the world is when a range is there, and kept if few are. -/
def RangesCut (w : World) (c : Nat) (xs : List (Nat × Nat × Nat)) (s8 : Value) (wx : World) : Prop := ∃ kept, OwnR wx (w.heap.size + 1) s8 kept ∧ (c ≤ 256 → kept = xs) ∧ kept.length ≤ 256 ∧ kept.length ≤ c ∧ FBox wx w.heap.size ∧ Below w.heap.size w wx
set_option maxRecDepth 100000 in
set_option maxHeartbeats 4000000 in
theorem readRanges_any (s : ByteArray) (a : Nat) (ai : Int) (F : Nat) (w : World) (hai : ai = a) (hs : s.size ≤ 1099511627776) (ha : a ≤ s.size) (hF : s.size - a < F) :
    Calls Tryd.prog 47 #[.string s, .int .i64 ai] w (RangesPost w a (pRanges F ((bl s).drop a))) := by
  subst hai
  obtain ⟨R, hR⟩ : ∃ R, (bl s).drop a = R := ⟨_, rfl⟩
  have hRl : R.length = s.size - a := by rw [← hR, List.length_drop, bl_len]
  have hrd := fun k W (hk : a + k ≤ s.size) => readRange_any s (a + k) ((a : Int) + (k : Int)) W (by omega) (by omega) hk
  have hget : ∀ i, (bl s)[a + i]? = R[i]? := fun i => by rw [← hR, List.getElem?_drop]
  have hdr : ∀ i, (bl s).drop (a + i) = R.drop i := fun i => by rw [← hR, List.drop_drop]
  rw [hR]
  replace hR := fhid hR
  replace hRl := fhid hRl
  replace hrd := fhid hrd
  replace hget := fhid hget
  replace hdr := fhid hdr
  go_enter Tryd.func47, Tryd.ntmps47
  go_wp2
  go_loopw [1, 8, 9] (fun s1 s8 s9 wr => RangesInv w R F a s1 s8 s9 wr) (fun s1 _ _ _ => s.size + 1 - (intOf s1).toNat)
  case atStart =>
    refine ⟨0, F, [], [], by simp, rfl, Nat.zero_le _, by have := hRl.out; omega, ?_, OwnR.nil _ _, fun _ => rfl, by simp, by simp, by simp [cntOf], FBox.new w, (Below.refl _ _).alloc (Nat.le_refl _) _⟩
    rw [List.drop_zero]
    cases pRanges F R with
    | bad e j => simp [after]
    | ok ys j => simp [after]
  case round =>
    obtain ⟨k, f, xs, kept, rfl, rfl, hk, hf, heq, hown, hkx, hk6, hkc, hc6, hbx0, hB⟩ := hrel
    cases f with
    | zero => exact absurd hf (Nat.not_lt_zero _)
    | succ f =>
    have hsz := hB.size
    have hRl1 := hRl.out
    have hcall := hrd.out k wr (by omega)
    rw [hdr.out] at hcall
    replace heq := fhid heq
    replace hown := fhid hown
    replace hbx0 := fhid hbx0
    replace hkx := fhid hkx
    have i0 : (0 : Int) ≤ a := by omega
    have i1 : (a : Int) ≤ 1099511627776 := by omega
    have i2 : (0 : Int) ≤ k := by omega
    have i3 : (k : Int) ≤ 1099511627776 := by omega
    have hmeas : (a : Int) + k ≤ s.size := by omega
    cases hp : pRange (R.drop k) with
    | bad e j =>
      rw [hp] at hcall
      have hfin := fhid (ranges_bad heq.out hp)
      have he := pRange_bad hp
      have e1 : ((e : Int) != 0) = true := by simpa using he
      have e2 : ¬ (e : Int) = 0 := by omega
      clear hp he
      go_wp2_with fail
      refine hcall.mono ?_
      rintro e' w1 ⟨rfl, b1⟩
      have b2 := hB.trans (b1.mono hsz)
      obtain ⟨c0, c1, f0, f1, z0⟩ := (hbx0.out.below b1 (by obtain ⟨_, _, _, _, h⟩ := hbx0.out.facts; exact h)).facts
      have n0 := Nat.ne_of_lt z0
      simp only [rangeV]
      clear b1
      go_wp2_with fail
      go_region
      go_wp2_with fail
      refine bodyPost_ret (v := .tuple #[.slice none 0 0, .int .i64 0, .int .i64 0, .agg #[.int .i64 e, .int .i64 ((a : Int) + (k : Int) + (j : Int))]]) (by simp [results, Tryd.results47, go_sem, c0, c1, z0]) rfl ⟨?_, ?_⟩
      · have zb := b2.size
        have hbx := b2
        repeat' (first | (with_reducible exact hbx) | (with_reducible apply Below.drew) | (with_reducible apply Below.setCell) | (with_reducible apply Below.alloc))
        all_goals (first | omega | (simp; done) | (simp; omega))
      · rw [hfin.out]
        simp only
        rw [show (a : Int) + (k : Int) + (j : Int) = (a : Int) + ((k + j : Nat) : Int) by omega]
    | ok x j =>
      obtain ⟨x0, x1, x2⟩ := x
      rw [hp] at hcall
      obtain ⟨p1, p2, p3, p4, p5⟩ := pRange_ok hp
      rw [List.length_drop] at p2
      have hsc : spanCount (x0, x1, x2) = x1 + 1 - x0 := rfl
      have hcx := cnt_app xs (x0, x1, x2)
      rw [hsc] at hcx
      replace hp := fhid hp
      have j1 : (1 : Int) ≤ j := by omega
      have j2 : (j : Int) ≤ 1099511627776 := by omega
      have hx0 : (x0 : Int) ≤ x1 := by omega
      have hx1 : (x1 : Int) < 1000000 := by omega
      have hx2 : (0 : Int) ≤ x0 := by omega
      have hcI : ((cntOf xs : Nat) : Int) ≤ 1000000 * 1099511627776 := by
        have : 1000000 * k ≤ 1000000 * 1099511627776 := Nat.mul_le_mul_left _ (by omega)
        omega
      have hc0 : (0 : Int) ≤ (cntOf xs : Nat) := by omega
      have hcn : ((cntOf xs : Nat) : Int) + ((x1 : Int) - x0 + 1) = ((cntOf (xs ++ [(x0, x1, x2)]) : Nat) : Int) := by rw [hcx]; omega
      have hcb : cntOf (xs ++ [(x0, x1, x2)]) ≤ 1000000 * (k + j) := by rw [hcx]; omega
      have hmono : cntOf xs ≤ cntOf (xs ++ [(x0, x1, x2)]) := by omega
      have hmono1 : cntOf xs + 1 ≤ cntOf (xs ++ [(x0, x1, x2)]) := by omega
      clear hcx hsc p3 p4 p5 hc6
      replace hcn := fhid hcn
      go_wp2_with fail
      refine hcall.mono ?_
      rintro e' w1 ⟨rfl, b1⟩
      have b2 := hB.trans (b1.mono hsz)
      have hown1 := fhid (hown.out.below b1)
      have hbx1 := fhid (hbx0.out.below b1 (by obtain ⟨_, _, _, _, h⟩ := hbx0.out.facts; exact h))
      have z0 := (hbx1.out.facts).2.2.2.2
      have n0 := Nat.ne_of_lt z0
      simp only [rangeV]
      clear b1 hown hbx0
      go_upto_if 33 with fail
      go_cut [8] (fun s8 wx => RangesCut w (cntOf (xs ++ [(x0, x1, x2)])) (xs ++ [(x0, x1, x2)]) s8 wx)
      case first =>
        by_cases hle : cntOf (xs ++ [(x0, x1, x2)]) ≤ 256
        · have hq : ((cntOf xs : Nat) : Int) + ((x1 : Int) - x0 + 1) ≤ 256 := by have := hcn.out; omega
          have hkl : kept.length ≤ 255 := by omega
          have ho2 := fhid (World.ownsRow.alloc (World.ownsRow.alloc hown1.out (.cells #[.int .i64 x0, .int .i64 x1, .int .i64 x2] 77)) (.cells #[.int .i64 0, .int .i64 0] 40))
          replace hle := fhid hle
          replace hkl := fhid hkl
          rw [decide_eq_true hq]
          clear hq
          go_wp2_with (at_builtin
                       refine app_span rfl _ _ rfl (w.heap.size + 1) _ kept x0 x1 x2 _ rfl ho2.out rfl _ (by simp) rfl (by have := hkl.out; omega) (by simp; omega) ?_
                       intro v3 w3 o3 b3)
          go_meet
          have b4 : Below (w.heap.size + 1) w1 w3 := (((Below.refl _ _).alloc (by omega) _).alloc (by simp; omega) _).trans b3
          refine ⟨kept ++ [(x0, x1, x2)], o3, fun _ => by rw [hkx.out (by have := hle.out; omega)], by have := hkl.out; simp; omega, by simp; omega, hbx1.out.below b4 (by omega), b2.trans (b4.mono (by omega))⟩
        · have hq : ¬ ((cntOf xs : Nat) : Int) + ((x1 : Int) - x0 + 1) ≤ 256 := by have := hcn.out; omega
          replace hle := fhid hle
          rw [decide_eq_false hq]
          clear hq
          go_wp2_with fail
          go_meet
          have b4 : Below w1.heap.size w1 ((w1.alloc (.cells #[.int .i64 x0, .int .i64 x1, .int .i64 x2] 77)).alloc (.cells #[.int .i64 0, .int .i64 0] 40)) := ((Below.refl _ _).alloc (Nat.le_refl _) _).alloc (by simp) _
          exact ⟨kept, hown1.out.below b4, fun h => absurd h hle.out, hk6, by omega, hbx1.out.below b4 z0, b2.trans (b4.mono b2.size)⟩
      case rest =>
        obtain ⟨kept2, o2, k2x, k2l, k2c, fb2, hB2⟩ := hcut
        clear hown1 hbx1 hcall b2 z0 n0
        obtain ⟨c0, c1, f0, f1, z0⟩ := fb2.facts
        have n0 := Nat.ne_of_lt z0
        have st1 := fun W => stands_any s (a + k + j) ((a : Int) + k + j) 93 93 W (by omega) rfl
        have st2 := fun W => stands_any s (a + k + j) ((a : Int) + k + j) 44 44 W (by omega) rfl
        rw [show a + k + j = a + (k + j) by omega, hget.out] at st1 st2
        replace fb2 := fhid fb2
        replace o2 := fhid o2
        replace k2x := fhid k2x
        by_cases h93 : R[k + j]? = some 93
        · rw [decide_eq_true h93] at st1
          have hfin := fhid (ranges_end heq.out hp.out h93)
          clear h93 st2
          go_wp2_with (go_at_call 46; (with_reducible refine (st1 _).mono ?_); rintro e' w2 ⟨rfl, rfl⟩)
          refine bodyPost_ret (v := .tuple #[_, .int .i64 (((cntOf xs : Nat) : Int) + ((x1 : Int) - x0 + 1)), .int .i64 ((a : Int) + k + j + 1), .agg #[.int .i64 0, .int .i64 0]]) (by simp [results, Tryd.results47, go_sem, c0, c1]; rfl) rfl ⟨?_, ?_⟩
          · have zb := hB2.size
            have hbx := hB2
            repeat' (first | (with_reducible exact hbx) | (with_reducible apply Below.drew) | (with_reducible apply Below.setCell) | (with_reducible apply Below.alloc))
            all_goals (first | omega | (simp; done) | (simp; omega))
          · rw [hfin.out]
            simp only
            have b5 : Below (w.heap.size + 1) wc wc := Below.refl _ _
            exact ⟨_, kept2, by rw [hcn.out, show (a : Int) + k + j + 1 = (a : Int) + ((k + (j + 1) : Nat) : Int) by omega], own_sets o2.out, k2x.out⟩
        · rw [decide_eq_false h93] at st1
          by_cases h44 : R[k + j]? = some 44
          · rw [decide_eq_true h44] at st2
            have hfin := fhid (ranges_more heq.out hp.out h44)
            have hlt : k + j < R.length := by
              by_cases h : k + j < R.length
              · exact h
              · rw [List.getElem?_eq_none (by omega)] at h44; cases h44
            clear h93 h44
            go_wp2_with (first
              | (go_at_call 46; (with_reducible refine (st1 _).mono ?_); rintro e' w2 ⟨rfl, rfl⟩)
              | (go_at_call 46; (with_reducible refine (st2 _).mono ?_); rintro e' w2 ⟨rfl, rfl⟩))
            go_roundw
            case rel => exact ⟨k + j + 1, f, xs ++ [(x0, x1, x2)], kept2, by rw [show (a : Int) + k + j + 1 = (a : Int) + ((k + j + 1 : Nat) : Int) by omega], by rw [hcn.out], by omega, by omega, hfin.out, o2.out, k2x.out, k2l, k2c, by omega, fb2.out, hB2⟩
            case measure => simp [intOf]; omega
          · rw [decide_eq_false h44] at st2
            have hfin := fhid (ranges_wrong heq.out hp.out h93 h44)
            have hwr := fun W => wrong_any s (a + (k + j)) ((a : Int) + k + j) W (by omega) (by omega)
            rw [hdr.out] at hwr
            clear h93 h44
            go_wp2_with (first
              | (go_at_call 46; (with_reducible refine (st1 _).mono ?_); rintro e' w2 ⟨rfl, rfl⟩)
              | (go_at_call 46; (with_reducible refine (st2 _).mono ?_); rintro e' w2 ⟨rfl, rfl⟩)
              | (go_at_call 45; (with_reducible refine (hwr _).mono ?_); rintro e' w2 ⟨rfl, b5⟩
                 obtain ⟨d0, d1, g0, g1, z1⟩ := (fb2.out.below b5 z0).facts))
            have hbx := hB2.trans (b5.mono hB2.size)
            refine bodyPost_ret (v := .tuple #[.slice none 0 0, .int .i64 0, .int .i64 0, .agg #[.int .i64 (wrg (R.drop (k + j))), .int .i64 ((a : Int) + k + j)]]) (by simp [results, Tryd.results47, go_sem, d0, d1]) rfl ⟨?_, ?_⟩
            · have zb := hbx.size
              repeat' (first | (with_reducible exact hbx) | (with_reducible apply Below.drew) | (with_reducible apply Below.setCell) | (with_reducible apply Below.alloc))
              all_goals (first | omega | (simp; done) | (simp; omega))
            · rw [hfin.out]
              simp only
              rw [show (a : Int) + k + j = (a : Int) + ((k + j : Nat) : Int) by omega]
end Go.Proofs.YtkmknogejhhajabDoor
