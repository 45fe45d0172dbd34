/-
  The document's own text of a vector.
-/
import Derived.Test.YtkmknogejhhajaaDoorVRFmt
import Derived.Lib.QuietBelow
import Derived.BigQuiet
namespace Go.Proofs.YtkmknogejhhajaaDoor
open Go.RowKit

/-- One part more behind the text. -/
def fstep (s k : List UInt8) (n : Int) : List UInt8 := if n = 0 then s else (if s = [] then s else s ++ [44]) ++ pc k n
def facc (v : V3) : Nat → List UInt8
  | 0 => []
  | 1 => fstep [] kCpu v.1
  | 2 => fstep (fstep [] kCpu v.1) kMem v.2.1
  | _ => fstep (fstep (fstep [] kCpu v.1) kMem v.2.1) kGpu v.2.2
theorem pc_ne (k : List UInt8) (n : Int) : pc k n ≠ [] := by unfold pc; simp
theorem pc_app_ne (k : List UInt8) (n : Int) (r : List UInt8) : pc k n ++ r ≠ [] := fun h => pc_ne k n (List.append_eq_nil_iff.1 h).1
theorem fmt_facc (v : V3) : (if facc v 3 = [] then noneT else facc v 3) = fmt v := by
  obtain ⟨a, b, c⟩ := v
  unfold fmt allPcs pcs
  simp only [facc, fstep]
  by_cases ha : a = 0 <;> by_cases hb : b = 0 <;> by_cases hc : c = 0
  all_goals
    simp [ha, hb, hc, pc_ne, Go.Lib.join_one, join_two, join_three]
theorem fstep_len (s k : List UInt8) (n : Int) (hk : k.length = 3) (h : I64 n) : (fstep s k n).length ≤ s.length + 26 := by
  have := num_len n h
  unfold fstep pc
  split
  · omega
  · split <;> simp only [List.length_append, List.length_singleton] <;> omega
theorem facc_len (v : V3) (k : Nat) (h1 : I64 v.1) (h2 : I64 v.2.1) (h3 : I64 v.2.2) : (facc v k).length ≤ 78 := by
  have q1 := fstep_len [] kCpu v.1 rfl h1
  have q2 := fstep_len (fstep [] kCpu v.1) kMem v.2.1 rfl h2
  have q3 := fstep_len (fstep (fstep [] kCpu v.1) kMem v.2.1) kGpu v.2.2 rfl h3
  simp only [List.length_nil] at q1
  rcases k with _ | _ | _ | k <;> simp only [facc, List.length_nil] <;> omega
theorem str_empty (l : List UInt8) : (str l).toList.isEmpty = decide (l = []) := by
  have h := str_eq (str l) ⟨#[]⟩
  rw [bl_str, show bl ⟨#[]⟩ = [] from rfl] at h
  rw [← h]
  simp
def nmK : Nat → List UInt8
  | 0 => kCpu
  | 1 => kMem
  | _ => kGpu
def lvK (v : V3) : Nat → Int
  | 0 => v.1
  | 1 => v.2.1
  | _ => v.2.2
theorem facc_step (v : V3) (k : Nat) (h : k < 3) : facc v (k + 1) = fstep (facc v k) (nmK k) (lvK v k) := by
  obtain rfl | rfl | rfl : k = 0 ∨ k = 1 ∨ k = 2 := by omega
  all_goals rfl
theorem fmt_world (a b c : Int) (w : World) : let W := ((w.alloc (.cells #[.int .i64 a, .int .i64 b, .int .i64 c] 23)).alloc (.cells #[.string ⟨#[99, 112, 117]⟩, .string ⟨#[109, 101, 109]⟩, .string ⟨#[103, 112, 117]⟩] 9)).alloc (.cells #[.int .i64 a, .int .i64 b, .int .i64 c] 3)
    Grew w W ∧ w.heap.size + 2 < W.heap.size ∧ (∀ k, k < 3 → W.cell? ⟨w.heap.size + 1, k, none⟩ = some (.string (str (nmK k)))) ∧ ∀ k, k < 3 → W.cell? ⟨w.heap.size + 1 + 1, k, none⟩ = some (.int .i64 (lvK (a, b, c) k)) := by
  intro W
  have h1 : W.heap[w.heap.size + 1]? = some (.cells #[.string ⟨#[99, 112, 117]⟩, .string ⟨#[109, 101, 109]⟩, .string ⟨#[103, 112, 117]⟩] 9) := by
    have e := heap_alloc_new (w.alloc (.cells #[.int .i64 a, .int .i64 b, .int .i64 c] 23)) (.cells #[.string ⟨#[99, 112, 117]⟩, .string ⟨#[109, 101, 109]⟩, .string ⟨#[103, 112, 117]⟩] 9)
    rw [World.size_alloc] at e
    exact (Below.heap_alloc _ _ _ (by rw [World.size_alloc, World.size_alloc]; omega)).trans e
  have h2 : W.heap[w.heap.size + 1 + 1]? = some (.cells #[.int .i64 a, .int .i64 b, .int .i64 c] 3) := by
    have e := heap_alloc_new ((w.alloc (.cells #[.int .i64 a, .int .i64 b, .int .i64 c] 23)).alloc (.cells #[.string ⟨#[99, 112, 117]⟩, .string ⟨#[109, 101, 109]⟩, .string ⟨#[103, 112, 117]⟩] 9)) (.cells #[.int .i64 a, .int .i64 b, .int .i64 c] 3)
    rw [World.size_alloc, World.size_alloc] at e
    exact e
  refine ⟨(((Grew.refl w).alloc _).alloc _).alloc _, lt_of_block h2, fun k hk => ?_, fun k hk => ?_⟩
  · obtain rfl | rfl | rfl : k = 0 ∨ k = 1 ∨ k = 2 := by omega
    all_goals (simp [World.cell?, h1]; rfl)
  · obtain rfl | rfl | rfl : k = 0 ∨ k = 1 ∨ k = 2 := by omega
    all_goals (simp [World.cell?, h2]; rfl)
set_option maxRecDepth 100000 in
set_option maxHeartbeats 2000000 in
theorem rFormat_any (a b c : Int) (w : World) (ha : I64 a) (hb : I64 b) (hc : I64 c) : Calls Tryd.prog 28 #[vec a b c] w fun e w' => e = .returned (.string (str (fmt (a, b, c)))) ∧ Below w.heap.size w w' := by
  have hrng : ∀ k, k < 3 → I64 (lvK (a, b, c) k) := fun k hk => by
    obtain rfl | rfl | rfl : k = 0 ∨ k = 1 ∨ k = 2 := by omega
    · exact ha
    · exact hb
    · exact hc
  have hlen := fun k => facc_len (a, b, c) k ha hb hc
  have hst := facc_step (a, b, c)
  have hfin := fmt_facc (a, b, c)
  obtain ⟨gW, hsz, cn, cl⟩ := fmt_world a b c w
  have hf0 : facc (a, b, c) 0 = [] := rfl
  generalize facc (a, b, c) = fa at *
  replace hrng := fhid hrng
  replace hlen := fhid hlen
  replace hst := fhid hst
  replace hfin := fhid hfin
  replace hf0 := fhid hf0
  go_enter Tryd.func28, Tryd.ntmps28
  go_wp2_with fail
  generalize (((w.alloc _).alloc _).alloc _) = w1 at *
  have g1 : w.heap.size + 1 < w1.heap.size := by omega
  have g2 : w.heap.size + 1 + 1 < w1.heap.size := by omega
  generalize w.heap.size + 1 = n1 at *
  generalize n1 + 1 = n2 at *
  replace g1 := fhid g1
  replace g2 := fhid g2
  clear hsz
  go_loopw [3, 6] (fun s i wr => ∃ k : Nat, k ≤ 3 ∧ s = .string (str (fa k)) ∧ i = .int .i64 k ∧ Below w1.heap.size w1 wr) (fun _ i _ => 3 - (intOf i).toNat)
  case atStart => exact ⟨0, by decide, by rw [hf0.out]; rfl, rfl, Below.refl _ _⟩
  case round =>
    obtain ⟨k, hk, rfl, rfl, hg⟩ := hrel
    by_cases h3 : k < 3
    · have c1 := (hg.cell (p := ⟨n1, k, none⟩) g1.out).trans (cn k h3)
      have c2 := (hg.cell (p := ⟨n2, k, none⟩) g2.out).trans (cl k h3)
      have hr := hrng.out k h3
      have hs := hst.out k h3
      have hl := hlen.out k
      have i1 : (k : Int) < 3 := by omega
      have i0 : (0 : Int) ≤ k := by omega
      generalize lvK (a, b, c) k = n at *
      have hkl : (nmK k).length = 3 := by
        obtain rfl | rfl | rfl : k = 0 ∨ k = 1 ∨ k = 2 := by omega
        all_goals rfl
      generalize nmK k = K at *
      unfold fstep at hs
      by_cases hn : n = 0
      · subst hn
        rw [if_pos rfl] at hs
        generalize hS : str (fa k) = S at *
        replace hS := fhid hS
        replace hs := fhid hs
        clear hl hr hkl
        go_wp2_with fail
        go_roundw
        case rel => exact ⟨k + 1, by omega, by rw [← hS.out, hs.out], by go_num, hg⟩
        case measure => simp [intOf]; omega
      · have hnl := num_len n hr
        have hd := fun W => (rdigits_any n W hr).mono fun e W' h => (show e = .returned (.string (str (num n))) ∧ Below W.heap.size W W' from ⟨h.1, h.2.below⟩)
        have hnz : (n == 0) = false := by simpa using hn
        rw [if_neg hn] at hs
        have q0 := str_empty (fa k)
        have q1 : str K ++ ⟨#[61]⟩ = str (K ++ [61]) := str_app K [61]
        have q2 : str (K ++ [61]) ++ str (num n) = str (pc K n) := str_app _ _
        have z1 := str_size K
        have z2 := str_size (K ++ [61])
        have z3 := str_size (num n)
        have z4 := str_size (fa k)
        have z5 := str_size (pc K n)
        have z6 := str_size (fa k ++ [44])
        have z7 : (pc K n).length = K.length + 1 + (num n).length := by unfold pc; simp only [List.length_append, List.length_singleton]
        rw [List.length_append, List.length_singleton] at z2 z6
        have b1 : ¬ 9223372036854775807 < (str K).size + 1 := by omega
        have b2 : ¬ 9223372036854775807 < (str (K ++ [61])).size + (str (num n)).size := by omega
        by_cases he : fa k = []
        · rw [if_pos he] at hs
          rw [decide_eq_true he] at q0
          have q3 : str (fa k) ++ str (pc K n) = str (fa k ++ pc K n) := str_app _ _
          have b3 : ¬ 9223372036854775807 < (str (fa k)).size + (str (pc K n)).size := by omega
          rw [← hs] at q3
          clear z1 z2 z3 z4 z5 z6 z7 hnl hl hkl hr he hs
          generalize hQ : str (fa (k + 1)) = Q at *
          replace hQ := fhid hQ
          generalize str (pc K n) = P at *
          generalize str (K ++ [61]) = K1 at *
          generalize str (num n) = N1 at *
          generalize str (fa k) = S at *
          generalize str K = K0 at *
          have m1 := fun d os => cell_regrown c1 d os
          have m2 := fun d os => cell_regrown c2 d os
          have m3 := fun d os => Calls.regrown_of (hd (Sort.grow (redrawn wr d) os))
          go_wp2_with fail
          clear c1 c2 hd
          refine wp_region_quiet_below (by kernel_rfl) (by kernel_rfl) ?_
          repeat (first | go_big_quiet_step (exact m3 _ _) | quiet_step (exact m3 _ _))
          refine wpQuiet_nil ?_
          rintro w9 ⟨pq, rfl⟩
          have g5 := hg.trans ((below_regrown wr pq.d pq.os).mono hg.size)
          generalize Sort.grow (redrawn wr pq.d) pq.os = w5 at *
          go_wp2_with fail
          go_roundw
          case rel => exact ⟨k + 1, by omega, by rw [hQ.out], by go_num, g5⟩
          case measure => simp [intOf]; omega
        · rw [if_neg he] at hs
          rw [decide_eq_false he] at q0
          have q4 : str (fa k) ++ ⟨#[44]⟩ = str (fa k ++ [44]) := str_app _ [44]
          have q3 : str (fa k ++ [44]) ++ str (pc K n) = str ((fa k ++ [44]) ++ pc K n) := str_app _ _
          have b3 : ¬ 9223372036854775807 < (str (fa k ++ [44])).size + (str (pc K n)).size := by omega
          have b4 : ¬ 9223372036854775807 < (str (fa k)).size + 1 := by omega
          rw [← hs] at q3
          clear z1 z2 z3 z4 z5 z6 z7 hnl hl hkl hr he hs
          generalize hQ : str (fa (k + 1)) = Q at *
          replace hQ := fhid hQ
          generalize str (fa k ++ [44]) = S1 at *
          generalize str (pc K n) = P at *
          generalize str (K ++ [61]) = K1 at *
          generalize str (num n) = N1 at *
          generalize str (fa k) = S at *
          generalize str K = K0 at *
          have m1 := fun d os => cell_regrown c1 d os
          have m2 := fun d os => cell_regrown c2 d os
          have m3 := fun d os => Calls.regrown_of (hd (Sort.grow (redrawn wr d) os))
          go_wp2_with fail
          clear c1 c2 hd
          refine wp_region_quiet_below (by kernel_rfl) (by kernel_rfl) ?_
          repeat (first | go_big_quiet_step (exact m3 _ _) | quiet_step (exact m3 _ _))
          refine wpQuiet_nil ?_
          rintro w9 ⟨pq, rfl⟩
          have g5 := hg.trans ((below_regrown wr pq.d pq.os).mono hg.size)
          generalize Sort.grow (redrawn wr pq.d) pq.os = w5 at *
          go_wp2_with fail
          go_roundw
          case rel => exact ⟨k + 1, by omega, by rw [hQ.out], by go_num, g5⟩
          case measure => simp [intOf]; omega
    · obtain rfl : k = 3 := by omega
      have q0 := str_empty (fa 3)
      have hF := hfin.out
      by_cases he : fa 3 = []
      · rw [if_pos he] at hF
        rw [decide_eq_true he] at q0
        replace hF := fhid hF
        clear he
        generalize str (fa 3) = S at *
        go_wp2_with fail
        go_ret
        exact ⟨frets (by rw [← hF.out]; rfl), gW.below.trans (hg.mono gW.below.size)⟩
      · rw [if_neg he] at hF
        rw [decide_eq_false he] at q0
        have hF2 := fhid (congrArg str hF)
        clear he hF
        generalize str (fa 3) = S at *
        go_wp2_with fail
        go_ret
        exact ⟨frets hF2.out, gW.below.trans (hg.mono gW.below.size)⟩
end Go.Proofs.YtkmknogejhhajaaDoor
