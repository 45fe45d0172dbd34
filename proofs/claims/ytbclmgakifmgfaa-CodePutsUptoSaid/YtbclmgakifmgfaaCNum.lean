/-
  The number that comes next.
-/
import Derived.Test.YtbclmgakifmgfaaCFault
import Derived.Test.YtbclmgakifmgfaaCFold
import Derived.Test.YtbclmgakifmgfaaCBits
import Derived.BigRegion
import Derived.Outline
import Derived.Deep.DeepCutAuto
namespace Go.Proofs.Ytbclmgakifmgfaa
open Go.RowKit

/-- What reading a number between two others comes to: the number, where it ends, the fault and its place. -/
def numRes (l : List UInt8) (at_ : Nat) (low high : Int) : Int × Nat × Int × Nat := match dec 0 0 (l.drop at_) with
  | .got u k => if unfoldN u < low ∨ high < unfoldN u then (0, 0, 5, at_) else (unfoldN u, at_ + k, 0, 0)
  | .bad i => (0, 0, 3, at_ + i)
  | .short => (0, 0, 4, l.length)
def NumPost (w : World) (r : Int × Nat × Int × Nat) (e : Ending) (w' : World) : Prop := e = .returned (.tuple #[.int .i64 r.1, .int .i64 r.2.1, .agg #[.int .i64 r.2.2.1, .int .i64 r.2.2.2]]) ∧ Below w.heap.size w w'
/-- What the loop finds: the next bytes, at most ten. -/
def NumCut (w : World) (l : List UInt8) (at_ : Nat) (s32 s33 s34 : Value) (wx : World) : Prop := ∃ (A' : Option Addr) (m c' : Nat), s32 = .slice A' m c' ∧ s33 = .int .i64 m ∧ s34 = .int .i64 0 ∧ m = min 10 (l.length - at_) ∧ Seg wx w.heap.size A' ((l.drop at_).take m) ∧
    wx.heap[w.heap.size]? = some (.cells #[.int .i64 0, .int .i64 0] 47 (0, 0)) ∧ wx.heap.size = w.heap.size + 1 ∧ Below w.heap.size w wx
theorem num_cut {w : World} {l : List UInt8} {at_ : Nat} {A1 : Option Addr} (hs : Seg w w.heap.size A1 (l.drop at_)) (q : Nat) (A' : Option Addr) (m c' : Nat) {s32 s33 : Value} (h32 : s32 = .slice A' m c') (h33 : s33 = .int .i64 m) (hm : m = min 10 (l.length - at_)) (hA : A1 = A') :
    NumCut w l at_ s32 s33 (.int .i64 0) ((w.alloc (.cells #[.int .i64 0, .int .i64 0] 47)).drewN q) := by
  subst hA
  refine ⟨A1, m, c', h32, h33, rfl, hm, (hs.take m).keep fun p hp => ?_, ?_, ?_, ?_⟩
  · exact World.cell?_alloc_lt _ _ _ hp
  · exact heap_alloc_new w _
  · exact World.size_alloc _ _
  · exact below_drewN ((Below.refl _ _).alloc (Nat.le_refl _) _) q
theorem fault_set {w : World} {B : Nat} (h : w.heap[B]? = some (.cells #[.int .i64 0, .int .i64 0] 47 (0, 0))) (a b : Int) :
    ((w.setCell ⟨B, 0, none⟩ (.int .i64 a)).setCell ⟨B, 1, none⟩ (.int .i64 b)).heap[B]? = some (.cells #[.int .i64 a, .int .i64 b] 47 (0, 0)) := block_set 1 _ (block_set 0 _ h)
set_option maxRecDepth 100000 in
set_option maxHeartbeats 2000000 in
theorem number_any (p cap : Nat) (A : Option Addr) (l : List UInt8) (at_ : Nat) (low high why fat : Int) (w : World) (h : Rd w p (.slice A l.length cap) at_ why fat) (hs : Seg w w.heap.size A l)
    (hc : l.length ≤ cap) (hl : l.length ≤ 140737488355328) (ha : at_ ≤ l.length) :
    Calls Try.prog 31 #[.pointer (some ⟨p, 0, none⟩), .int .i64 low, .int .i64 high] w (NumPost w (numRes l at_ low high)) := by
  obtain ⟨c0, c1, c2, c3, hp⟩ := h.facts
  have e2 : IntKind.i64.wrap ((at_ : Int) + 10) = (at_ : Int) + 10 := IntWalk.i64_in _ (by omega)
  replace hs := fhid hs
  replace h := fhid h
  go_enter Try.func31, Try.ntmps31
  go_upto_region 2 with fail
  go_cut [32, 33, 34] (fun s32 s33 s34 wx => NumCut w l at_ s32 s33 s34 wx)
  case first =>
    by_cases hm : at_ + 10 ≤ l.length
    · go_quiet (fail)
      go_wp2_with fail
      go_meet
      refine num_cut (hs.out.drop ha hc) nq _ (at_ + 10 - at_) (cap - at_) rfl ?_ (by omega) (if_neg (by omega))
      rw [show at_ + 10 - at_ = 10 by omega]; rfl
    · go_quiet (fail)
      all_goals go_wp2_with fail
      all_goals go_meet
      · exact num_cut (hs.out.drop ha hc) nq _ (l.length - at_) 0 rfl rfl (by omega) (if_pos (by assumption))
      · exact num_cut (hs.out.drop ha hc) nq _ (l.length - at_) (cap - at_) rfl rfl (by omega) (if_neg (by assumption))
  case rest =>
    obtain ⟨A', m, c', rfl, rfl, rfl, hm, S, hr, hz, hb⟩ := hcut
    have d1 : wc.cell? ⟨p, 1, none⟩ = some (.int .i64 (at_ : Int)) := (hb.cell (p := ⟨p, 1, none⟩) hp).trans c1
    have r0 : wc.cell? ⟨w.heap.size, 0, none⟩ = some (.int .i64 0) := by simp [World.cell?, hr]
    have r1 : wc.cell? ⟨w.heap.size, 1, none⟩ = some (.int .i64 0) := by simp [World.cell?, hr]
    have f0 : wc.frozen? ⟨w.heap.size, 0, none⟩ = false := by simp [World.frozen?, hr]
    have f1 : wc.frozen? ⟨w.heap.size, 1, none⟩ = false := by simp [World.frozen?, hr]
    have hml : (l.drop at_).length = l.length - at_ := List.length_drop
    have hm10 : m ≤ 10 := by omega
    have hmr : m ≤ (l.drop at_).length := by omega
    have hms := fhid (show m < 10 → m = (l.drop at_).length by omega)
    replace hm := fhid hm
    replace hml := fhid hml
    replace hr := fhid hr
    replace hz := fhid hz
    obtain ⟨rest, hrest⟩ : ∃ rest, l.drop at_ = rest := ⟨_, rfl⟩
    rw [hrest] at S hms hmr
    replace hrest := fhid hrest
    replace S := fhid S
    clear e2
    have hMiss := missing_any p l.length cap A at_ why fat wc (h.out.below hb)
    go_wp2_with fail
    go_loop [9, 34] (fun s9 i => ∃ k a : Nat, k ≤ m ∧ k ≤ 9 ∧ i = .int .i64 k ∧ s9 = .int .u64 a ∧ a < 128 ^ k ∧ dec 0 0 rest = dec k a (rest.drop k)) (fun _ i => m - (intOf i).toNat)
    case atStart => exact ⟨0, 0, Nat.zero_le _, Nat.zero_le _, rfl, rfl, Nat.one_pos, rfl⟩
    case round =>
      obtain ⟨k, a, hk, hk9, rfl, rfl, hak, hdec⟩ := hrel
      replace hdec := fhid hdec
      replace hak := fhid hak
      by_cases hlt : k < m
      · obtain ⟨b, o, rfl, hbB, hcell⟩ := S.out.at_ (k := k) (by rw [List.length_take]; omega)
        rw [List.getElem_take] at hcell
        have hkr : k < rest.length := by omega
        have hdrop := fhid (List.drop_eq_getElem_cons hkr)
        obtain ⟨c, hcr⟩ : ∃ c, rest[k] = c := ⟨_, rfl⟩
        rw [hcr] at hcell hdrop
        clear hcr
        have h2 : (k : Int) < m := by omega
        have h0k : (0 : Int) ≤ k := by omega
        have hc256 := c.toNat_lt
        have b1 := low7 c
        by_cases hbad : (k = 9 ∧ 1 < c.toNat) ∨ (0 < k ∧ c.toNat = 0)
        · have hnum := fhid (show numRes l at_ low high = (0, 0, 3, at_ + k) by
            unfold numRes
            rw [hrest.out, hdec.out, hdrop.out, dec_bad _ _ _ _ hbad])
          clear b1 hMiss
          by_cases h9 : k = 9
          · have t1 : ((k : Int) == 9) = true := by simp; omega
            replace h9 := fhid h9
            by_cases hb1 : 1 < c.toNat
            · have t2 : (c.toNat : Int) > 1 := by omega
              clear hbad
              go_wp2_with fail
              go_region
              go_wp2_with fail
              exact bodyPost_ret (v := .tuple #[.int .i64 0, .int .i64 0, .agg #[.int .i64 3, .int .i64 ((at_ : Int) + k)]]) (by simp [results, Try.results31, go_sem, r0, r1]) rfl ⟨by rw [hnum.out]; rfl, ((hb.setCell (p := ⟨w.heap.size, 0, none⟩) (Nat.le_refl _) _).setCell (p := ⟨w.heap.size, 1, none⟩) (Nat.le_refl _) _).drew⟩
            · have t2 : ¬ (c.toNat : Int) > 1 := by omega
              have t3 : ((c.toNat : Int) == 0) = true := by simp; omega
              have t4 : (k : Int) > 0 := by have := h9.out; omega
              clear hbad
              go_wp2_with fail
              go_region
              go_wp2_with fail
              exact bodyPost_ret (v := .tuple #[.int .i64 0, .int .i64 0, .agg #[.int .i64 3, .int .i64 ((at_ : Int) + k)]]) (by simp [results, Try.results31, go_sem, r0, r1]) rfl ⟨by rw [hnum.out]; rfl, ((hb.setCell (p := ⟨w.heap.size, 0, none⟩) (Nat.le_refl _) _).setCell (p := ⟨w.heap.size, 1, none⟩) (Nat.le_refl _) _).drew⟩
          · have t1 : ((k : Int) == 9) = false := by simp; omega
            have t3 : ((c.toNat : Int) == 0) = true := by simp; omega
            have t4 : (k : Int) > 0 := by omega
            clear hbad h9
            go_wp2_with fail
            go_region
            go_wp2_with fail
            exact bodyPost_ret (v := .tuple #[.int .i64 0, .int .i64 0, .agg #[.int .i64 3, .int .i64 ((at_ : Int) + k)]]) (by simp [results, Try.results31, go_sem, r0, r1]) rfl ⟨by rw [hnum.out]; rfl, ((hb.setCell (p := ⟨w.heap.size, 0, none⟩) (Nat.le_refl _) _).setCell (p := ⟨w.heap.size, 1, none⟩) (Nat.le_refl _) _).drew⟩
        · have hd := fhid (dec_more k a c (rest.drop (k + 1)) hbad)
          have hg := fhid (dec_got k a c (rest.drop (k + 1)) hbad)
          have hp9 := pow_le_9 k hk9
          have hdm : c.toNat % 128 ≤ 127 := by omega
          have hkc : k = 9 → c.toNat ≤ 1 := fun h9 => by omega
          have hsum : a + c.toNat % 128 * 128 ^ k < 18446744073709551616 ∧ (128 ≤ c.toNat → k + 1 ≤ 9 ∧ a + c.toNat % 128 * 128 ^ k < 128 ^ (k + 1)) := by
            have ha := hak.out
            have hmul : c.toNat % 128 * 128 ^ k ≤ 127 * 128 ^ k := Nat.mul_le_mul_right _ hdm
            refine ⟨?_, fun h => ⟨by omega, by rw [Nat.pow_succ]; omega⟩⟩
            by_cases h9 : k = 9
            · have h1 := hkc h9
              have : c.toNat % 128 * 128 ^ k ≤ 1 * 128 ^ k := Nat.mul_le_mul_right _ (by omega)
              omega
            · have := pow_le_9 (k + 1) (by omega)
              rw [Nat.pow_succ] at this
              omega
          have e7 := shift7 (c.toNat % 128) k (by omega)
          have e8 := or7 a (c.toNat % 128) k hak.out hsum.1
          have hcase : (((k : Int) == 9) = true ∧ ¬ (c.toNat : Int) > 1 ∧ (k : Int) > 0 ∧ ((c.toNat : Int) == 0) = false) ∨ (((k : Int) == 9) = false ∧ (k : Int) > 0 ∧ ((c.toNat : Int) == 0) = false) ∨ (((k : Int) == 9) = false ∧ ¬ (k : Int) > 0) := by
            by_cases h9 : k = 9
            · left
              refine ⟨by simp; omega, by omega, by omega, by simp; omega⟩
            · right
              by_cases h0 : 0 < k
              · left
                exact ⟨by simp; omega, by omega, by simp; omega⟩
              · right
                exact ⟨by simp; omega, by omega⟩
          have hdI : ((c.toNat % 128 : Nat) : Int) ≤ 127 := by omega
          have hd0 : (0 : Int) ≤ ((c.toNat % 128 : Nat) : Int) := by omega
          clear hbad hkc hdm hp9 hp
          by_cases hmore : 128 ≤ c.toNat
          · have b2 := more_yes c hmore
            have hnx := fhid (hd.out hmore)
            have hs2 := fhid (hsum.2 hmore)
            clear hd hg hsum hMiss hmore
            generalize a + c.toNat % 128 * 128 ^ k = a' at *
            generalize c.toNat % 128 * 128 ^ k = s at *
            generalize ((c.toNat % 128 : Nat) : Int) = d at *
            rcases hcase with ⟨t1, t2, t3, t4⟩ | ⟨t1, t2, t3⟩ | ⟨t1, t2⟩
            all_goals
              go_wp2_with fail
              go_round
              case rel => exact ⟨k + 1, a', by omega, hs2.out.1, by go_num, rfl, hs2.out.2, by rw [hdec.out, hdrop.out, hnx.out]⟩
              case measure => simp [intOf]; omega
          · have b2 := more_no c hmore
            have hnx := fhid (hg.out hmore)
            have hlt64 := hsum.1
            clear hd hg hsum hMiss hmore
            generalize a + c.toNat % 128 * 128 ^ k = a' at *
            generalize c.toNat % 128 * 128 ^ k = s at *
            generalize ((c.toNat % 128 : Nat) : Int) = d at *
            have hu := unfold_any a' wc hlt64
            have hur := unfold_range a' hlt64
            have hnr := fhid (show numRes l at_ low high = if unfoldN a' < low ∨ high < unfoldN a' then (0, 0, 5, at_) else (unfoldN a', at_ + (k + 1), 0, 0) by
              unfold numRes
              rw [hrest.out, hdec.out, hdrop.out, hnx.out])
            clear hlt64
            generalize unfoldN a' = n at *
            by_cases hlow : n < low
            · have hnum := fhid (hnr.out.trans (if_pos (.inl hlow)))
              clear hnr
              rcases hcase with ⟨t1, t2, t3, t4⟩ | ⟨t1, t2, t3⟩ | ⟨t1, t2⟩
              all_goals
                go_wp2_with (go_at_call 33; with_reducible refine hu.mono ?_; rintro e w1 ⟨rfl, rfl⟩)
                go_region
                go_wp2_with fail
                exact bodyPost_ret (v := .tuple #[.int .i64 0, .int .i64 0, .agg #[.int .i64 5, .int .i64 (at_ : Int)]]) (by simp [results, Try.results31, go_sem, r0, r1]) rfl ⟨by rw [hnum.out]; rfl, ((hb.setCell (p := ⟨w.heap.size, 0, none⟩) (Nat.le_refl _) _).setCell (p := ⟨w.heap.size, 1, none⟩) (Nat.le_refl _) _).drew⟩
            · by_cases hhigh : n > high
              · have hnum := fhid (hnr.out.trans (if_pos (.inr hhigh)))
                clear hnr
                rcases hcase with ⟨t1, t2, t3, t4⟩ | ⟨t1, t2, t3⟩ | ⟨t1, t2⟩
                all_goals
                  go_wp2_with (go_at_call 33; with_reducible refine hu.mono ?_; rintro e w1 ⟨rfl, rfl⟩)
                  go_region
                  go_wp2_with fail
                  exact bodyPost_ret (v := .tuple #[.int .i64 0, .int .i64 0, .agg #[.int .i64 5, .int .i64 (at_ : Int)]]) (by simp [results, Try.results31, go_sem, r0, r1]) rfl ⟨by rw [hnum.out]; rfl, ((hb.setCell (p := ⟨w.heap.size, 0, none⟩) (Nat.le_refl _) _).setCell (p := ⟨w.heap.size, 1, none⟩) (Nat.le_refl _) _).drew⟩
              · have hnum := fhid (hnr.out.trans (if_neg (fun h => h.elim hlow hhigh)))
                clear hnr
                rcases hcase with ⟨t1, t2, t3, t4⟩ | ⟨t1, t2, t3⟩ | ⟨t1, t2⟩
                all_goals
                  go_wp2_with (go_at_call 33; with_reducible refine hu.mono ?_; rintro e w1 ⟨rfl, rfl⟩)
                  go_region
                  go_wp2_with fail
                  exact bodyPost_ret (v := .tuple #[.int .i64 n, .int .i64 ((at_ : Int) + k + 1), .agg #[.int .i64 0, .int .i64 0]]) (by simp [results, Try.results31, go_sem, r0, r1]) rfl ⟨by rw [hnum.out]; show _ = Ending.returned (.tuple #[.int .i64 n, .int .i64 ((at_ + (k + 1) : Nat) : Int), .agg #[.int .i64 0, .int .i64 ((0 : Nat) : Int)]]); rw [show ((at_ + (k + 1) : Nat) : Int) = (at_ : Int) + k + 1 by omega]; rfl, ((hb.setCell (p := ⟨w.heap.size, 0, none⟩) (Nat.le_refl _) _).setCell (p := ⟨w.heap.size, 1, none⟩) (Nat.le_refl _) _).drew⟩
      · have h2 : ¬ (k : Int) < m := by omega
        have hnum := fhid (show numRes l at_ low high = (0, 0, 4, l.length) by
          have hkm : k = rest.length := by have := hms.out (by omega); omega
          unfold numRes
          rw [hrest.out, hdec.out, hkm, List.drop_length, dec_nil])
        go_wp2_with (go_at_call 29; with_reducible refine hMiss.mono ?_; rintro e w1 ⟨rfl, b1⟩; have f0' : w1.frozen? ⟨w.heap.size, 0, none⟩ = false := (b1.frozen (p := ⟨w.heap.size, 0, none⟩) (by show w.heap.size < _; rw [hz.out]; omega)).trans f0; have f1' : w1.frozen? ⟨w.heap.size, 1, none⟩ = false := (b1.frozen (p := ⟨w.heap.size, 1, none⟩) (by show w.heap.size < _; rw [hz.out]; omega)).trans f1; have r0' := (b1.cell (p := ⟨w.heap.size, 0, none⟩) (by show w.heap.size < _; rw [hz.out]; omega)).trans r0; have r1' := (b1.cell (p := ⟨w.heap.size, 1, none⟩) (by show w.heap.size < _; rw [hz.out]; omega)).trans r1)
        exact bodyPost_ret (v := .tuple #[.int .i64 0, .int .i64 0, .agg #[.int .i64 4, .int .i64 l.length]]) (by simp [results, Try.results31, go_sem, r0', r1']) rfl ⟨by rw [hnum.out]; rfl, (((hb.trans (b1.mono hb.size)).setCell (p := ⟨w.heap.size, 0, none⟩) (Nat.le_refl _) _).setCell (p := ⟨w.heap.size, 1, none⟩) (Nat.le_refl _) _)⟩
end Go.Proofs.Ytbclmgakifmgfaa
