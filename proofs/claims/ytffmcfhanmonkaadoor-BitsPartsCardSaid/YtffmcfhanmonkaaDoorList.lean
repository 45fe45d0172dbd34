/-
  List: the numbers of a set, rising.
-/
import Derived.Test.YtffmcfhanmonkaaDoorCount
namespace Go.Proofs.YtffmcfhanmonkaaDoor
open Go.RowKit
/-- Word k of a set, of its places from t on. -/
def rest (p : Nat → Bool) (k t : Nat) : Nat := word (fun i => p i && decide (64 * k + t ≤ i)) k
theorem rest_lt (p : Nat → Bool) (k t : Nat) : rest p k t < 18446744073709551616 := word_lt _ _
theorem rest_bit (p : Nat → Bool) (k t j : Nat) (hj : j < 64) : (rest p k t).testBit j = (p (64 * k + j) && decide (t ≤ j)) := by
  unfold rest
  rw [word_testBit _ _ _ hj]
  congr 1
  rw [Bool.eq_iff_iff]; simp
theorem rest_zero (p : Nat → Bool) (k : Nat) : rest p k 0 = word p k :=
  word_congr fun j hj => by simp
theorem lst_skip (p : Nat → Bool) (a d : Nat) (h : ∀ i, a ≤ i → i < a + d → p i = false) : lst p (a + d) = lst p a := by
  induction d with
  | zero => rfl
  | succ d ih => rw [show a + (d + 1) = (a + d) + 1 by omega, lst_out p _ (h _ (by omega) (by omega)), ih fun i h1 h2 => h i h1 (by omega)]
theorem rest_none (p : Nat → Bool) (k t : Nat) (h : rest p k t = 0) (ht : t ≤ 64) : lst p (64 * (k + 1)) = lst p (64 * k + t) := by
  rw [show 64 * (k + 1) = 64 * k + t + (64 - t) by omega]
  refine lst_skip p _ _ fun i h1 h2 => ?_
  have := rest_bit p k t (i - 64 * k) (by omega)
  rw [h, Nat.zero_testBit, show 64 * k + (i - 64 * k) = i by omega, decide_eq_true (by omega), Bool.and_true] at this
  exact this.symm
theorem rest_some (p : Nat → Bool) (k t : Nat) (h : rest p k t ≠ 0) : ∃ c : Nat, Lib.ctz 64 (rest p k t) = c ∧ t ≤ c ∧ c < 64 ∧ lst p (64 * k + (c + 1)) = lst p (64 * k + t) ++ [64 * k + c] ∧
    rest p k t &&& (rest p k t - 1) = rest p k (c + 1) ∧ rest p k (c + 1) < rest p k t := by
  obtain ⟨h1, h2, h3, h4⟩ := low_bit (rest p k t) h (rest_lt p k t)
  refine ⟨_, rfl, ?_⟩
  generalize Lib.ctz 64 (rest p k t) = c at *
  rw [rest_bit p k t c h1, Bool.and_eq_true, decide_eq_true_iff] at h2
  have e : rest p k t &&& (rest p k t - 1) = rest p k (c + 1) := by
    refine word_eq (Nat.lt_of_le_of_lt Nat.and_le_left (rest_lt p k t)) fun j hj => ?_
    rw [h4 j]
    have hb := rest_bit p k t j hj
    by_cases hjc : j < c
    · rw [h3 j hjc]; simp; omega
    · rw [hb, decide_eq_true (by omega : t ≤ j), Bool.and_true]
      congr 1
      rw [Bool.eq_iff_iff]; simp; omega
  refine ⟨h2.2, h1, ?_, e, ?_⟩
  · rw [show 64 * k + (c + 1) = (64 * k + c) + 1 by omega, lst_in p _ h2.1]
    congr 1
    rw [show 64 * k + c = 64 * k + t + (c - t) by omega]
    refine lst_skip p _ _ fun i g1 g2 => ?_
    have b1 := rest_bit p k t (i - 64 * k) (by omega)
    rw [h3 (i - 64 * k) (by omega), show 64 * k + (i - 64 * k) = i by omega, decide_eq_true (by omega), Bool.and_true] at b1
    exact b1.symm
  · rw [← e]
    have : rest p k t &&& (rest p k t - 1) ≤ rest p k t - 1 := Nat.and_le_right
    omega
theorem Tab.pos {w : World} (h : Tab w) : 0 < w.heap.size := by
  have h0 := h 0 (by decide)
  unfold World.cell? at h0
  by_cases hb : (0 : Nat) < w.heap.size
  · omega
  · rw [Array.getElem?_eq_none (by omega)] at h0; cases h0
theorem tab_below {w w' : World} (h : Tab w) (hb : Below w.heap.size w w') : Tab w' := h.below h.pos hb
theorem Blk.grown {w w' : World} {b : Nat} {p : Nat → Bool} {row : Option Nat} (h : Blk w b p) (hg : w.grownBy w' row) (hne : some b ≠ row) : Blk w' b p := by
  have := h.lt
  unfold Blk at *
  rw [hg.block b this hne]; exact h
set_option maxRecDepth 100000 in
set_option maxHeartbeats 1600000 in
theorem list_any (p : Nat → Bool) (w : World) (hT : Tab w) :
    Calls Tryd.prog 30 #[nodes p] w (Row w (lst p 256)) := by
  obtain ⟨i0, hi, hz0, hz1, hz2⟩ := info_parts infoInt
  have hcnt := cnt_le p 256
  go_enter Tryd.func30, Tryd.ntmps30
  go_wp2_with fail
  refine (count_any p _).mono ?_
  rintro e w1 ⟨rfl, hx⟩
  have hb1 := (Blk.new w p).below hx (by simp)
  have hB1 : Below w.heap.size w w1 := ((Below.refl _ _).alloc (Nat.le_refl _) _).trans (hx.mono (by simp))
  clear hx
  obtain ⟨c0, c1, c2, c3⟩ := hb1.four
  go_wp2_with ((at_make; refine wpList_make_own _ rfl _ _ 22 rfl w.heap.size 3 i0 (.int .i64 0) 1 Tryd.underlying22 hi hz0 hz1 .i64 .i64 _ (cnt p 256) rfl rfl rfl (by rw [hz2]; omega) (by unfold maxLen; omega) (by have := hb1.lt; omega) ?_; intro w2 hown hgrow; have hb2 := hb1.grown hgrow (fun h => by cases h); obtain ⟨d0, d1, d2, d3⟩ := hb2.four; have hB2 : Below w.heap.size w w2 := hB1.grown hgrow hB1.size (fun j hj => by cases hj)))
  clear hb1 hB1 c0 c1 c2 c3 hgrow hb2
  go_loopw [3, 10] (fun v i wr => ∃ k : Nat, k ≤ 4 ∧ i = .int .i64 k ∧ wr.ownsRow w.heap.size 3 1 v (lst p (64 * k)).length ((lst p (64 * k)).map iv) ∧ Below w.heap.size w wr) (fun _ i _ => 4 - (intOf i).toNat)
  case atStart => exact ⟨0, by omega, rfl, hown, hB2⟩
  case round =>
    obtain ⟨k, hk, rfl, hownk, hBk⟩ := hrel
    clear hown hB2 d0 d1 d2 d3
    by_cases hlt : k < 4
    · have hix := index_at p k hlt
      have hkb : decide ((k : Int) < 4) = true := by rw [decide_eq_true_iff]; omega
      obtain ⟨wo, rfl⟩ : ∃ wo : World, wo = wr := ⟨_, rfl⟩
      go_wp2_with fail
      go_loopw [3, 5] (fun v x wr => ∃ t : Nat, t ≤ 64 ∧ x = .int .u64 (rest p k t) ∧ wr.ownsRow w.heap.size 3 1 v (lst p (64 * k + t)).length ((lst p (64 * k + t)).map iv) ∧ Below w.heap.size w wr) (fun _ x _ => (intOf x).toNat)
      case atStart => exact ⟨0, by omega, by rw [rest_zero], by simpa using hownk, hBk⟩
      case round =>
        obtain ⟨t, ht, rfl, hown, hB⟩ := hrel
        have hTw := tab_below hT hB
        have hl := lst_len p (64 * k + t)
        by_cases hz : rest p k t = 0
        · have hn := hid (rest_none p k t hz ht)
          go_wp2
          go_roundw
          case rel => exact ⟨k + 1, by omega, by go_num, by rw [hn.out]; exact hown, hB⟩
          case measure => simp [intOf]; omega
        · obtain ⟨c, hc, hc1, hc2, hc3, hc4, hc5⟩ := rest_some p k t hz
          have hxl := rest_lt p k t
          have hx0 : 0 < rest p k t := by omega
          have hb1 : (((rest p k t : Nat) : Int) != 0) = true := by rw [bne_iff_ne]; omega
          have kc := hid hc
          have kl := hid hc3
          have kr := hid hc4
          have kv : Hid (Value.int .i64 (↑k * 64 + ↑c) = iv (64 * k + c)) := by
            show Value.int .i64 (↑k * 64 + ↑c) = iv (64 * k + c)
            unfold iv; rw [show (k : Int) * 64 + c = ((64 * k + c : Nat) : Int) by omega]
          have hnz := hid hz
          have hT2 := hid hTw
          clear hc hc3 hc4 hz hTw hix hBk hownk
          go_wp2_with fail
          refine (tz_any (rest p k t) _ hxl hnz.out hT2.out).mono ?_
          rintro e w' ⟨rfl, rfl⟩
          rw [kc.out]
          go_wp2_with (first | (at_builtin; refine wpList_append_own _ rfl _ _ 22 rfl w.heap.size 3 i0 (.int .i64 0) 1 8 Tryd.underlying22 hi hz0 hz1 hz2 rfl (by decide) _ _ _ rfl (hown.alloc _) ⟨wr.heap.size, 0, none⟩ 1 1 [.int .i64 (↑k * 64 + ↑c)] rfl rfl ?c1 ?c2 ?c3 ?c4 ?c5 ?_))
          case c1 =>
            intro j u hj
            match j, hj with
            | 0, hj => simp at hj; subst hj; simp [Addr.add]
          case c2 => intro u hu; simp at hu; subst hu; rfl
          case c3 => unfold maxLen; omega
          case c4 => omega
          case c5 => have := hB.size; simp; omega
          intro v' w2 hown' hgrow _
          have hB2 : Below w.heap.size w w2 := (hB.alloc hB.size _).grown hgrow (by simp; have := hB.size; omega) (fun j hj => by have := (hown.lt j hj).1; omega)
          clear hgrow hown hB hT2
          go_wp2_with fail
          refine (withoutLowest_any (rest p k t) _ hxl hx0).mono ?_
          rintro e w' ⟨rfl, rfl⟩
          rw [kr.out]
          go_wp2
          go_roundw
          case rel => exact ⟨c + 1, by omega, rfl, by rw [kl.out, List.map_append, List.map_cons, List.map_nil, List.length_append, ← kv.out]; exact hown', hB2⟩
          case measure => simp [intOf]; omega
    · obtain rfl : k = 4 := by omega
      go_wp2
      go_ret
      exact ⟨_, rfl, hownk, hBk⟩
end Go.Proofs.YtffmcfhanmonkaaDoor
