/-
  The reference's Ints: two slices that read as one list.
-/
import Derived.Test.YtffmcfhanmonkaaDoorOf
import Derived.Test.YtffmcfhanmonkaaDoorList
namespace Go.Proofs.YtffmcfhanmonkaaDoor
open Go.RowKit
/-- A row of the call's own, read as a list. -/
theorem Reads.ofOwn {w : World} {base : Nat} {v : Value} {l : List Nat} (h : w.ownsRow base 3 1 v l.length (l.map iv)) : Reads w v (l.map fun n : Nat => (n : Int)) := by
  obtain ⟨h1, h2⟩ := h
  rcases h2 with ⟨rfl, hl⟩ | ⟨g, cap, cur, rfl, hg, hc, hn, _, hs, ht⟩
  · exact .inl ⟨by simpa using hl, none, 0, rfl⟩
  · refine .inr ⟨g, 0, cap, by simp, ?_, ?_⟩
    · by_cases hb : g < w.heap.size
      · exact hb
      · rw [Array.getElem?_eq_none (by omega)] at hc; cases hc
    · intro k x hx
      rw [List.getElem?_map] at hx
      obtain ⟨n, hn2, hx2⟩ := Option.map_eq_some_iff.1 hx
      have hk : k < l.length := by
        by_cases hk : k < l.length
        · exact hk
        · rw [List.getElem?_eq_none (by omega)] at hn2; cases hn2
      have e : (cur.toList.take (l.length * 1))[k]? = some (iv n) := by rw [ht, List.getElem?_map, hn2]; rfl
      rw [List.getElem?_take, if_pos (by omega), Array.getElem?_toList] at e
      simp only [World.cell?, hc, Nat.zero_add]
      simpa [iv, hx2] using e
theorem Reads.below {w w' : World} {v : Value} {l : List Int} (h : Reads w v l) (hb : Below w.heap.size w w') : Reads w' v l := by
  refine h.imp id ?_
  rintro ⟨b, off, cap, e, h1, h2⟩
  exact ⟨b, off, cap, e, Nat.lt_of_lt_of_le h1 hb.size, fun k x hx => (hb.cell (by exact h1)).trans (h2 k x hx)⟩
set_option maxRecDepth 100000 in
set_option maxHeartbeats 800000 in
theorem ints_empty (a b : Option Addr) (ca cb : Nat) (w : World) :
    Calls Tryd.prog 29 #[.slice a 0 ca, .slice b 0 cb] w fun e w' => e = .returned (.bool true) ∧ Below w.heap.size w w' := by
  go_enter Tryd.func29, Tryd.ntmps29
  go_wp2
  refine wp_loop_rounds 1 ?_
  rw [rounds_succ]
  go_wp2
  go_ret
  exact ⟨rfl, Below.refl _ _⟩
set_option maxRecDepth 100000 in
set_option maxHeartbeats 1600000 in
theorem ints_some (b off cap b' off' cap' : Nat) (l : List Int) (w : World) (hb : b < w.heap.size) (hb' : b' < w.heap.size) (hl : l.length ≤ 140737488355328)
    (hc : ∀ k x, l[k]? = some x → w.cell? ⟨b, off + k, none⟩ = some (.int .i64 x))
    (hc' : ∀ k x, l[k]? = some x → w.cell? ⟨b', off' + k, none⟩ = some (.int .i64 x)) :
    Calls Tryd.prog 29 #[.slice (some ⟨b, off, none⟩) l.length cap, .slice (some ⟨b', off', none⟩) l.length cap'] w fun e w' => e = .returned (.bool true) ∧ Below w.heap.size w w' := by
  have gc := hid hc
  have gc' := hid hc'
  clear hc hc'
  go_enter Tryd.func29, Tryd.ntmps29
  go_wp2
  go_loopw [5] (fun i wr => ∃ k : Nat, k ≤ l.length ∧ i = .int .i64 k ∧ Below w.heap.size w wr) (fun i _ => l.length - (intOf i).toNat)
  case atStart => exact ⟨0, by omega, rfl, Below.refl _ _⟩
  case round =>
    obtain ⟨k, hk, rfl, hB⟩ := hrel
    by_cases hlt : k < l.length
    · obtain ⟨x, hx⟩ : ∃ x, l[k]? = some x := ⟨l[k], List.getElem?_eq_getElem hlt⟩
      have c1 : wr.cell? ⟨b, off + k, none⟩ = some (.int .i64 x) := (hB.cell (by exact hb)).trans (gc.out k x hx)
      have c2 : wr.cell? ⟨b', off' + k, none⟩ = some (.int .i64 x) := (hB.cell (by exact hb')).trans (gc'.out k x hx)
      have h0 : (0 : Int) ≤ k := by omega
      have h1 : (k : Int) < l.length := by omega
      clear hx
      go_wp2_with fail
      go_quiet (fail)
      go_wp2
      go_roundw
      case rel => exact ⟨k + 1, by omega, by go_num, below_drewN hB _⟩
      case measure => simp [intOf]; omega
    · have h1 : ¬ (k : Int) < l.length := by omega
      go_wp2
      go_ret
      exact ⟨rfl, hB⟩
theorem ints_any (v v' : Value) (l : List Int) (w : World) (h : Reads w v l) (h' : Reads w v' l) (hl : l.length ≤ 140737488355328) :
    Calls Tryd.prog 29 #[v, v'] w fun e w' => e = .returned (.bool true) ∧ Below w.heap.size w w' := by
  rcases h with ⟨rfl, a, cap, rfl⟩ | ⟨b, off, cap, rfl, hb, hc⟩
  · rcases h' with ⟨_, a', cap', rfl⟩ | ⟨b', off', cap', rfl, hb', hc'⟩
    · exact ints_empty a a' cap cap' w
    · exact ints_empty a _ cap cap' w
  · rcases h' with ⟨rfl, a', cap', rfl⟩ | ⟨b', off', cap', rfl, hb', hc'⟩
    · exact ints_empty _ a' cap cap' w
    · exact ints_some b off cap b' off' cap' l w hb hb' hl hc hc'
end Go.Proofs.YtffmcfhanmonkaaDoor
