/-
  The reference's List: the numbers of a set, rising.
-/
import Derived.Test.YtffmcfhanmonkaaDoorWith
namespace Go.Proofs.YtffmcfhanmonkaaDoor
open Go.RowKit
/-- The numbers below k of a set, rising. -/
def lst (p : Nat → Bool) (k : Nat) : List Nat := (List.range k).filter p
/-- A number as a value. -/
def iv (n : Nat) : Value := .int .i64 n
theorem lst_len (p : Nat → Bool) (k : Nat) : (lst p k).length ≤ k := by
  unfold lst; exact Nat.le_trans (List.length_filter_le _ _) (by simp)
theorem lst_in (p : Nat → Bool) (k : Nat) (h : p k = true) : lst p (k + 1) = lst p k ++ [k] := by
  unfold lst; rw [List.range_succ, List.filter_append]; simp [h]
theorem lst_out (p : Nat → Bool) (k : Nat) (h : p k = false) : lst p (k + 1) = lst p k := by
  unfold lst; rw [List.range_succ, List.filter_append]; simp [h]
theorem lst_count (p : Nat → Bool) (k : Nat) : (lst p k).length = cnt p k := by
  induction k with
  | zero => rfl
  | succ k ih =>
    cases h : p k with
    | true => rw [lst_in p k h]; simp [cnt, ih, h]
    | false => rw [lst_out p k h]; simp [cnt, ih, h]
/-- What a call that answers a list of numbers leaves: a row of its own, and what was there as it was. -/
def Row (w : World) (l : List Nat) (e : Ending) (w' : World) : Prop :=
  ∃ v, e = .returned v ∧ w'.ownsRow w.heap.size 3 1 v l.length (l.map iv) ∧ Below w.heap.size w w'
theorem infoInt : (Tryd.prog.info? 3).map (fun i => (i.zero, i.size, i.bytes)) = some (some (.int .i64 0), 1, 8) := by kernel_rfl
theorem own_below {w w' : World} {base n : Nat} {e : TypeId} {v : Value} {xs : List Value} (h : w.ownsRow base e 1 v n xs) (hb : Below w.heap.size w w') : w'.ownsRow base e 1 v n xs := by
  obtain ⟨h1, h2⟩ := h
  refine ⟨h1, h2.imp id ?_⟩
  rintro ⟨g, cap, cur, e1, e2, e3, e4⟩
  have hg : g < w.heap.size := by
    by_cases hg : g < w.heap.size
    · exact hg
    · rw [Array.getElem?_eq_none (by omega)] at e3; cases e3
  exact ⟨g, cap, cur, e1, e2, by rw [hb.block g hg]; exact e3, e4⟩
set_option maxRecDepth 100000 in
set_option maxHeartbeats 800000 in
theorem rlist_any (p : Nat → Bool) (w : World) :
    Calls Tryd.prog 28 #[nodes p] w (Row w (lst p 256)) := by
  obtain ⟨i0, hi, hz0, hz1, hz2⟩ := info_parts infoInt
  go_enter Tryd.func28, Tryd.ntmps28
  go_wp2
  go_loopw [3, 4] (fun v i wr => ∃ k : Nat, k ≤ 256 ∧ i = .int .i64 k ∧ wr.ownsRow (w.heap.size + 1) 3 1 v (lst p k).length ((lst p k).map iv) ∧ Blk wr w.heap.size p ∧ Below w.heap.size w wr) (fun _ i _ => 256 - (intOf i).toNat)
  case atStart => exact ⟨0, by omega, rfl, World.ownsRow_nil _ _ _ _, Blk.new w p, (Below.refl _ _).alloc (Nat.le_refl _) _⟩
  case round =>
    obtain ⟨k, hk, rfl, hown, hb, hB⟩ := hrel
    have hl := lst_len p k
    by_cases hlt : k < 256
    · obtain ⟨c0, c1, c2, c3⟩ := hb.four
      cases hp : p k with
      | false =>
        have hs := hid hp
        clear hp
        go_wp2_with (go_at_call 16; refine (rhas_in p k _ hlt).mono ?_; rintro e w1 ⟨rfl, hx⟩; rw [hs.out]; have hb1 := hb.below hx hb.lt; have hB1 := hB.trans (hx.mono (Nat.le_of_lt hb.lt)); have hown1 := own_below hown hx)
        go_roundw
        case rel => exact ⟨k + 1, by omega, by go_num, by rw [lst_out p k hs.out]; exact hown1, hb1, hB1⟩
        case measure => simp [intOf]; omega
      | true =>
        have hs := hid hp
        clear hp
        go_wp2_with fail
        refine (rhas_in p k _ hlt).mono ?_
        rintro e w1 ⟨rfl, hx⟩
        rw [hs.out]
        have hb1 := hb.below hx hb.lt
        have hB1 := hB.trans (hx.mono (Nat.le_of_lt hb.lt))
        have hown1 := own_below hown hx
        clear hb hB hown hx c0 c1 c2 c3
        go_wp2_with ((at_builtin; refine wpList_append_own _ rfl _ _ 22 rfl (w.heap.size + 1) 3 i0 (.int .i64 0) 1 8 Tryd.underlying22 hi hz0 hz1 hz2 rfl (by decide) _ _ _ rfl (hown1.alloc _) ⟨w1.heap.size, 0, none⟩ 1 1 [iv k] rfl rfl ?c1 ?c2 ?c3 ?c4 ?c5 ?_))
        case c1 =>
          intro j u hj
          match j, hj with
          | 0, hj => simp [iv] at hj; subst hj; simp [Addr.add]
        case c2 => intro u hu; simp at hu; subst hu; rfl
        case c3 => unfold maxLen; omega
        case c4 => omega
        case c5 => have := hb1.lt; simp; omega
        intro v' w2 hown' hgrow _
        have hz := hb1.lt
        have hb2 : Blk w2 w.heap.size p := by
          unfold Blk at *
          rw [hgrow.block w.heap.size (by simp; have := hB1.size; omega) (fun h => by have := (hown1.lt _ h.symm).1; omega), Below.heap_alloc w1 _ w.heap.size hz]
          exact hb1
        have hB2 : Below w.heap.size w w2 := (hB1.alloc hB1.size _).grown hgrow (by simp; have := hB1.size; omega) (fun j hj => by have := (hown1.lt j hj).1; omega)
        clear hgrow hown1 hb1 hB1
        go_wp2
        go_roundw
        case rel => exact ⟨k + 1, by omega, by go_num, by rw [lst_in p k hs.out]; simpa using hown', hb2, hB2⟩
        case measure => simp [intOf]; omega
    · obtain rfl : k = 256 := by omega
      go_wp2
      go_ret
      exact ⟨_, rfl, ⟨hown.1, hown.2.imp id fun ⟨g, cap, cur, e1, e2, e3⟩ => ⟨g, cap, cur, e1, by omega, e3⟩⟩, hB⟩
end Go.Proofs.YtffmcfhanmonkaaDoor
