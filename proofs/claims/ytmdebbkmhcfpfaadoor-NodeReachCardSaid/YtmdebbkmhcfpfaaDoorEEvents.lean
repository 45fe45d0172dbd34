/-
  Events, the program's and the document's.
-/
import Derived.Test.YtmdebbkmhcfpfaaDoorEAlive
namespace Go.Proofs.YtmdebbkmhcfpfaaDoor
open Go.RowKit

/-- The events up to a place. -/
def evUpto (s k : Nat) : List Int := ((List.range k).filter fun e => decide (tabN s e ≠ 0)).map fun e : Nat => (e : Int)
theorem ev_zero (s : Nat) : evUpto s 0 = [] := rfl
theorem ev_yes {s k : Nat} (h : tabN s k ≠ 0) : evUpto s (k + 1) = evUpto s k ++ [(k : Int)] := by
  unfold evUpto
  rw [List.range_succ, List.filter_append, List.map_append, List.filter_cons, if_pos (by simpa using h)]
  rfl
theorem ev_no {s k : Nat} (h : tabN s k = 0) : evUpto s (k + 1) = evUpto s k := by
  unfold evUpto
  rw [List.range_succ, List.filter_append, List.map_append, List.filter_cons, if_neg (by simpa using h)]
  exact List.append_nil _
theorem ev_len (s k : Nat) : (evUpto s k).length ≤ k := by
  unfold evUpto
  rw [List.length_map]
  have := List.length_filter_le (fun e => decide (tabN s e ≠ 0)) (List.range k)
  rwa [List.length_range] at this
theorem ev_all (s : Nat) : evUpto s 12 = eventsL s := rfl
/-- Numbers of the call's own. -/
def IntsPost (w : World) (l : List Int) (e : Ending) (w' : World) : Prop := ∃ v, e = .returned v ∧ OwnI w' w.heap.size v l ∧ Below w.heap.size w w'
theorem ints_none (w : World) : IntsPost w [] (.returned (.slice none 0 0)) w := ⟨_, rfl, ownsRow_nil _ _ _ _, Below.refl _ _⟩
theorem index_row (n k : Nat) (hk : k < 12) (w : World) : (Instr.index 42 (.agg #[.int .i64 (tabN n 0), .int .i64 (tabN n 1), .int .i64 (tabN n 2), .int .i64 (tabN n 3), .int .i64 (tabN n 4), .int .i64 (tabN n 5), .int .i64 (tabN n 6), .int .i64 (tabN n 7), .int .i64 (tabN n 8), .int .i64 (tabN n 9), .int .i64 (tabN n 10), .int .i64 (tabN n 11)]) (.int .i64 (k : Int))).run Tryd.prog w = .ok (.int .i64 (tabN n k)) w := by
  rcases (show k = 0 ∨ k = 1 ∨ k = 2 ∨ k = 3 ∨ k = 4 ∨ k = 5 ∨ k = 6 ∨ k = 7 ∨ k = 8 ∨ k = 9 ∨ k = 10 ∨ k = 11 by omega) with rfl | rfl | rfl | rfl | rfl | rfl | rfl | rfl | rfl | rfl | rfl | rfl
  all_goals rfl
set_option maxRecDepth 100000 in
set_option maxHeartbeats 4000000 in
theorem Events_any (s : Int) (w : World) (hT : TabW w) : Calls Tryd.prog 9 #[.int .i64 s] w (IntsPost w (eventsP s)) := by
  have hS := fun W => isState_any s W
  unfold eventsP
  cases h : stOk s with
  | false =>
    rw [h] at hS
    rw [if_neg (by decide)]
    clear h
    replace hT := fhid hT
    go_enter Tryd.func9, Tryd.ntmps9
    go_wp2_with (go_at_call 20; (with_reducible refine (hS _).mono ?_); rintro e w3 ⟨rfl, rfl⟩)
    go_ret
    exact ints_none _
  | true =>
    rw [h] at hS
    rw [if_pos rfl]
    obtain ⟨n, rfl, hn⟩ := st_nat h
    clear h
    rw [Int.toNat_natCast, ← ev_all]
    have h0 := hT n 0 hn (by omega)
    have h1 := hT n 1 hn (by omega)
    have h2 := hT n 2 hn (by omega)
    have h3 := hT n 3 hn (by omega)
    have h4 := hT n 4 hn (by omega)
    have h5 := hT n 5 hn (by omega)
    have h6 := hT n 6 hn (by omega)
    have h7 := hT n 7 hn (by omega)
    have h8 := hT n 8 hn (by omega)
    have h9 := hT n 9 hn (by omega)
    have h10 := hT n 10 hn (by omega)
    have h11 := hT n 11 hn (by omega)
    have i5 : (n : Int) < 8 := by omega
    have i7 : ¬ (n : Int) < 0 := by omega
    replace hT := fhid hT
    rw [Nat.add_zero] at h0
    go_enter Tryd.func9, Tryd.ntmps9
    go_upto_region 4 with (go_at_call 20; (with_reducible refine (hS _).mono ?_); rintro e w3 ⟨rfl, rfl⟩)
    go_wp2_with fail
    go_loopw [3, 12] (fun v i wr => ∃ k : Nat, k ≤ 12 ∧ i = .int .i64 (k : Int) ∧ OwnI wr w3.heap.size v (evUpto n k) ∧ Below w3.heap.size w3 wr) (fun _ i _ => (12 - intOf i).toNat)
    case atStart => exact ⟨0, by omega, rfl, ownsRow_nil _ _ _ _, Below.refl _ _⟩
    case round =>
      obtain ⟨k, hk, rfl, hO, hB⟩ := hrel
      clear h0 h1 h2 h3 h4 h5 h6 h7 h8 h9 h10 h11
      by_cases hlt : k < 12
      · have hs1 := fun h => ev_yes (s := n) (k := k) h
        have hs2 := fun h => ev_no (s := n) (k := k) h
        have hl := ev_len n k
        generalize hE : evUpto n k = E at *
        generalize hE2 : evUpto n (k + 1) = E2 at *
        have i1 : (k : Int) < 12 := by omega
        have i0 : ¬ (k : Int) < 0 := by omega
        have hix := fun W => index_row n k hlt W
        replace hO := fhid hO
        replace hB := fhid hB
        by_cases hx : tabN n k = 0
        · obtain rfl := hs2 hx
          have bx : (tabN n k != 0) = false := by simpa using hx
          clear hs1 hs2
          go_wp2_with fail
          go_roundw
          case rel => exact ⟨k + 1, by omega, by go_num, by rw [hE2]; exact hO.out, hB.out⟩
          case measure => simp [intOf]; omega
        · obtain rfl := hs1 hx
          have bx : (tabN n k != 0) = true := by simpa using hx
          clear hs1 hs2
          go_wp2_with (at_builtin; (refine app_int rfl _ _ rfl w3.heap.size _ E k wr rfl hO.out rfl wr.heap.size rfl rfl (by omega) hB.out.size ?_; intro v3 w4 o3 _ b3))
          go_roundw
          case rel => exact ⟨k + 1, by omega, by go_num, by rw [hE2]; exact o3, hB.out.trans b3⟩
          case measure => simp [intOf]; omega
      · obtain rfl : k = 12 := by omega
        go_wp2_with fail
        go_ret
        exact ⟨_, rfl, hO, hB⟩
end Go.Proofs.YtmdebbkmhcfpfaaDoor
