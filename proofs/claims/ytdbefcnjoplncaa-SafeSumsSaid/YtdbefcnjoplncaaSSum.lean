/-
  The sum of several, in the package and in its reference.
-/
import Derived.Test.YtdbefcnjoplncaaSScale
namespace Go.Proofs.Ytdbefcnjoplncaa
open Go.RowKit

/-- The sum from the left: none as soon as it is no int. -/
def run (s : Int) : List Int → Option Int
  | [] => some s
  | x :: l => if Fits (s + x) then run (s + x) l else none
def sumGot (l : List Int) : Int := (run 0 l).getD 0
def sumErr (l : List Int) : Int := if (run 0 l).isSome then 0 else 5
theorem run_drop (s : Int) (l : List Int) (k : Nat) (x : Int) (h : l[k]? = some x) : run s (l.drop k) = if Fits (s + x) then run (s + x) (l.drop (k + 1)) else none := by
  have hk : k < l.length := by
    by_cases hk : k < l.length
    · exact hk
    · rw [List.getElem?_eq_none (by omega)] at h; cases h
  rw [List.drop_eq_getElem_cons hk]
  rw [List.getElem?_eq_getElem hk] at h
  cases h
  rfl
/-- v is a slice that reads as the list l of ints. -/
def Reads (w : World) (v : Value) (l : List Int) : Prop :=
  (l = [] ∧ ∃ a cap, v = .slice a 0 cap) ∨
  ∃ b off cap, v = .slice (some ⟨b, off, none⟩) l.length cap ∧ b < w.heap.size ∧ ∀ k x, l[k]? = some x → w.cell? ⟨b, off + k, none⟩ = some (.int .i64 x)

set_option maxRecDepth 100000 in
theorem Sum_empty (a : Option Addr) (cap : Nat) (w : World) :
    Calls Try.prog 18 #[.slice a 0 cap] w fun e w' => e = .returned (.tuple #[.int .i64 0, .int .i64 0]) ∧ w = w' := by
  go_enter Try.func18, Try.ntmps18
  go_wp2
  refine wp_loop_rounds 1 ?_
  rw [rounds_succ]
  go_wp2
  go_ret2
  exact ⟨rfl, rfl⟩
set_option maxRecDepth 100000 in
theorem rSum_empty (a : Option Addr) (cap : Nat) (w : World) :
    Calls Try.prog 19 #[.slice a 0 cap] w fun e w' => e = .returned (.tuple #[.int .i64 0, .int .i64 0]) ∧ w = w' := by
  go_enter Try.func19, Try.ntmps19
  go_wp2
  refine wp_loop_rounds 1 ?_
  rw [rounds_succ]
  go_wp2
  go_ret2
  exact ⟨rfl, rfl⟩
set_option maxRecDepth 100000 in
set_option maxHeartbeats 1600000 in
theorem Sum_some (b off cap : Nat) (l : List Int) (w : World) (hl : l.length ≤ 9223372036854775807) (hf : ∀ x ∈ l, Fits x)
    (hc : ∀ k x, l[k]? = some x → w.cell? ⟨b, off + k, none⟩ = some (.int .i64 x)) :
    Calls Try.prog 18 #[.slice (some ⟨b, off, none⟩) l.length cap] w fun e w' => e = .returned (.tuple #[.int .i64 (sumGot l), .int .i64 (sumErr l)]) ∧ w = w' := by
  replace hc := hid hc
  replace hf := hid hf
  go_enter Try.func18, Try.ntmps18
  go_wp2
  go_loop [4, 11] (fun s i => ∃ (k : Nat) (n : Int), k ≤ l.length ∧ i = .int .i64 k ∧ s = .int .i64 n ∧ Fits n ∧ run 0 l = run n (l.drop k)) (fun _ i => l.length - (intOf i).toNat)
  case atStart => exact ⟨0, 0, by omega, rfl, rfl, by decide, rfl⟩
  case round =>
    obtain ⟨k, n, hk, rfl, rfl, hn, hr⟩ := hrel
    by_cases hlt : k < l.length
    · have hex : ∃ x, l[k]? = some x := ⟨l[k], List.getElem?_eq_getElem hlt⟩
      obtain ⟨x, hx⟩ := hex
      have hcell : w.cell? ⟨b, off + k, none⟩ = some (.int .i64 x) := hc.out k x hx
      have h0 : (0 : Int) ≤ k := by omega
      have h1 : (k : Int) < l.length := by omega
      have hxf : Fits x := hf.out x (List.mem_of_getElem? hx)
      rw [run_drop n l k x hx] at hr
      have c := fun w => Add_any n x w hn hxf
      clear hx
      by_cases hs : Fits (n + x)
      · rw [if_pos hs] at hr
        rw [got_in hs, err_in hs] at c
        replace hr := hid hr
        go_wp2_with (go_at_call 9; with_reducible refine (c _).mono ?_; rintro e w' ⟨rfl, rfl⟩)
        go_round
        case rel => exact ⟨k + 1, n + x, by omega, by go_num, rfl, hs, hr.out⟩
        case measure => simp [intOf]; omega
      · rw [if_neg hs] at hr
        rw [got_out hs, err_out hs] at c
        have E := hid (show sumGot l = 0 ∧ sumErr l = 5 by unfold sumGot sumErr; rw [hr]; exact ⟨rfl, rfl⟩)
        clear hr
        go_wp2_with (go_at_call 9; with_reducible refine (c _).mono ?_; rintro e w' ⟨rfl, rfl⟩)
        go_ret2
        exact ⟨ret2 E.out.1.symm E.out.2.symm, rfl⟩
    · obtain rfl : k = l.length := by omega
      have h1 : ¬ (l.length : Int) < l.length := by omega
      rw [List.drop_length] at hr
      have E := hid (show sumGot l = n ∧ sumErr l = 0 by unfold sumGot sumErr; rw [hr]; exact ⟨rfl, rfl⟩)
      clear hr
      go_wp2
      go_ret2
      exact ⟨ret2 E.out.1.symm E.out.2.symm, rfl⟩
set_option maxRecDepth 100000 in
set_option maxHeartbeats 1600000 in
theorem rSum_some (b off cap : Nat) (l : List Int) (w : World) (hl : l.length ≤ 9223372036854775807) (hf : ∀ x ∈ l, Fits x)
    (hc : ∀ k x, l[k]? = some x → w.cell? ⟨b, off + k, none⟩ = some (.int .i64 x)) :
    Calls Try.prog 19 #[.slice (some ⟨b, off, none⟩) l.length cap] w fun e w' => e = .returned (.tuple #[.int .i64 (sumGot l), .int .i64 (sumErr l)]) ∧ w = w' := by
  replace hc := hid hc
  replace hf := hid hf
  go_enter Try.func19, Try.ntmps19
  go_wp2
  go_loop [4, 5] (fun s i => ∃ (k : Nat) (n : Int), k ≤ l.length ∧ i = .int .i64 k ∧ s = .int .i64 n ∧ Fits n ∧ run 0 l = run n (l.drop k)) (fun _ i => l.length - (intOf i).toNat)
  case atStart => exact ⟨0, 0, by omega, rfl, rfl, by decide, rfl⟩
  case round =>
    obtain ⟨k, n, hk, rfl, rfl, hn, hr⟩ := hrel
    by_cases hlt : k < l.length
    · have hex : ∃ x, l[k]? = some x := ⟨l[k], List.getElem?_eq_getElem hlt⟩
      obtain ⟨x, hx⟩ := hex
      have hcell : w.cell? ⟨b, off + k, none⟩ = some (.int .i64 x) := hc.out k x hx
      have h0 : (0 : Int) ≤ k := by omega
      have h1 : (k : Int) < l.length := by omega
      have hxf : Fits x := hf.out x (List.mem_of_getElem? hx)
      rw [run_drop n l k x hx] at hr
      have c := fun w => rAdd_any n x w hn hxf
      clear hx
      by_cases hs : Fits (n + x)
      · rw [if_pos hs] at hr
        rw [got_in hs, err_in hs] at c
        replace hr := hid hr
        go_wp2_with (go_at_call 10; with_reducible refine (c _).mono ?_; rintro e w' ⟨rfl, rfl⟩)
        go_round
        case rel => exact ⟨k + 1, n + x, by omega, by go_num, rfl, hs, hr.out⟩
        case measure => simp [intOf]; omega
      · rw [if_neg hs] at hr
        rw [got_out hs, err_out hs] at c
        have E := hid (show sumGot l = 0 ∧ sumErr l = 5 by unfold sumGot sumErr; rw [hr]; exact ⟨rfl, rfl⟩)
        clear hr
        go_wp2_with (go_at_call 10; with_reducible refine (c _).mono ?_; rintro e w' ⟨rfl, rfl⟩)
        go_ret2
        exact ⟨ret2 E.out.1.symm E.out.2.symm, rfl⟩
    · obtain rfl : k = l.length := by omega
      have h1 : ¬ (l.length : Int) < l.length := by omega
      rw [List.drop_length] at hr
      have E := hid (show sumGot l = n ∧ sumErr l = 0 by unfold sumGot sumErr; rw [hr]; exact ⟨rfl, rfl⟩)
      clear hr
      go_wp2
      go_ret2
      exact ⟨ret2 E.out.1.symm E.out.2.symm, rfl⟩
theorem Sum_any (v : Value) (l : List Int) (w : World) (h : Reads w v l) (hl : l.length ≤ 9223372036854775807) (hf : ∀ x ∈ l, Fits x) :
    Calls Try.prog 18 #[v] w fun e w' => e = .returned (.tuple #[.int .i64 (sumGot l), .int .i64 (sumErr l)]) ∧ w = w' := by
  rcases h with ⟨rfl, a, cap, rfl⟩ | ⟨b, off, cap, rfl, _, hc⟩
  · exact Sum_empty a cap w
  · exact Sum_some b off cap l w hl hf hc
theorem rSum_any (v : Value) (l : List Int) (w : World) (h : Reads w v l) (hl : l.length ≤ 9223372036854775807) (hf : ∀ x ∈ l, Fits x) :
    Calls Try.prog 19 #[v] w fun e w' => e = .returned (.tuple #[.int .i64 (sumGot l), .int .i64 (sumErr l)]) ∧ w = w' := by
  rcases h with ⟨rfl, a, cap, rfl⟩ | ⟨b, off, cap, rfl, _, hc⟩
  · exact rSum_empty a cap w
  · exact rSum_some b off cap l w hl hf hc
end Go.Proofs.Ytdbefcnjoplncaa
