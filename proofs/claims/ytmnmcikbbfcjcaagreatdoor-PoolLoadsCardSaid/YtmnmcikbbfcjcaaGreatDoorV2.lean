/-
  Parts: VDig VRFmt VRFmt2 VNums VAddL VRef VRParse.
-/
import Derived.Test.YtmnmcikbbfcjcaaGreatDoorV1
import Derived.Laws.IdiomStrings
import Derived.Lib.QuietBelow
import Derived.BigQuiet
import Derived.Deep.DeepCutAuto
set_option linter.unusedSimpArgs false
set_option linter.unusedVariables false
/-
  The document's own digits of a number, without a width.
-/
namespace Go.Proofs.YtmnmcikbbfcjcaaGreatDoor.Vs
open Go.RowKit

theorem dec_step (u : Nat) : dec u = (if u / 10 = 0 then [] else dec (u / 10)) ++ [UInt8.ofNat (48 + u % 10)] := by
  by_cases h : u < 10
  · rw [dec_small h, if_pos (by omega), show u % 10 = u by omega]; rfl
  · rw [dec_big h, if_neg (by omega)]
def bitOf_ : Value → Nat
  | .bool true => 1
  | _ => 0
def left (u : Nat) (b : Bool) : List UInt8 := if u = 0 ∧ b = false then [] else dec u
theorem left_step (u : Nat) (b : Bool) (h : ¬ (u = 0 ∧ b = false)) (t : List UInt8) : left u b ++ t = left (u / 10) false ++ (UInt8.ofNat (48 + u % 10) :: t) := by
  unfold left
  rw [if_neg h, dec_step u]
  by_cases h0 : u / 10 = 0 <;> simp [h0]
theorem left_done (t : List UInt8) : left 0 false ++ t = t := by simp [left]
theorem conv_one (w : World) (u : Nat) (g : Nat) (hg : g = w.heap.size) : (convert 51 9 (.slice (some ⟨g, 0, none⟩) 1 1)).run Tryz.prog (w.alloc (.cells #[.int .u8 (48 + (u : Int) % 10)] 5)) = .ok (.string (str [UInt8.ofNat (48 + u % 10)])) (w.alloc (.cells #[.int .u8 (48 + (u : Int) % 10)] 5)) := by
  subst hg
  refine run_convert_bytes_back _ 51 9 5 ⟨w.heap.size, 0, none⟩ 1 [UInt8.ofNat (48 + u % 10)] Tryz.underlying51 Tryz.underlying5 Tryz.underlying9 (fun j hj => ?_)
  have : j = 0 := by simpa using hj
  subst this
  have e : ((UInt8.ofNat (48 + u % 10)).toNat : Int) = 48 + (u : Int) % 10 := by rw [UInt8.toNat_ofNat']; omega
  have hh := heap_alloc_new w (.cells #[.int .u8 (48 + (u : Int) % 10)] 5)
  rw [List.getElem_singleton, e]
  generalize (48 + (u : Int) % 10) = x at *
  generalize w.alloc (.cells #[.int .u8 x] 5) = w' at *
  simp [World.cell?, Addr.add, hh]
theorem dec_len_le (N : Nat) (h : (N : Int) ≤ 9223372036854775807) : (dec N).length ≤ 21 := by
  have := num_len (N : Int) ⟨by omega, by omega⟩
  rw [num_pos (by omega), show ((N : Int)).toNat = N by omega] at this
  exact this
set_option maxRecDepth 100000 in
set_option maxHeartbeats 2000000 in
theorem Digits_any (N : Nat) (ni : Int) (w : World) (hni : ni = N) (hn : ni ≤ 9223372036854775807) :
    Calls Tryz.prog 147 #[.int .i64 ni, .int .i64 0] w fun e w' => e = .returned (.string (str (dec N))) ∧ Grew w w' := by
  subst hni
  have hl : (dec N).length ≤ 21 := dec_len_le N hn
  go_enter Tryz.func147, Tryz.ntmps147
  go_wp2_with fail
  go_loopw [0, 5, 6] (fun n s f wr => ∃ (u : Nat) (t : List UInt8) (b : Bool), n = .int .i64 u ∧ s = .string (str t) ∧ f = .bool b ∧ u ≤ N ∧ left u b ++ t = dec N ∧ Grew w wr) (fun n _ f _ => (intOf n).toNat + bitOf_ f)
  case atStart => exact ⟨N, [], true, rfl, rfl, rfl, Nat.le_refl _, by simp [left], Grew.refl _⟩
  case round =>
    obtain ⟨u, t, b, rfl, rfl, rfl, hu, hlt, hb⟩ := hrel
    have htl : t.length ≤ 21 := by
      have := congrArg List.length hlt
      rw [List.length_append] at this
      omega
    by_cases hc : u = 0 ∧ b = false
    · obtain ⟨rfl, rfl⟩ := hc
      rw [left_done] at hlt
      subst hlt
      go_wp2_with fail
      go_loopw [5] (fun s wr => s = .string (str (dec N)) ∧ Grew w wr) (fun _ _ => 0)
      case atStart => exact ⟨rfl, hb⟩
      case round =>
        obtain ⟨rfl, hb2⟩ := hrel
        have i1 : ¬ ((str (dec N)).size : Int) < 0 := by omega
        generalize hS : str (dec N) = S at *
        replace hS := fhid hS
        go_wp2_with fail
        go_ret
        exact ⟨frets hS.out.symm, hb2⟩
    · have hstep := left_step u b hc t
      rw [hlt] at hstep
      replace hstep := fhid hstep
      have hc' : b = true ∨ (b = false ∧ 0 < u) := by
        cases b with
        | true => exact .inl rfl
        | false => exact .inr ⟨rfl, by simp at hc; omega⟩
      have i1 : (0 : Int) ≤ u := by omega
      have i2 : (u : Int) ≤ 9223372036854775807 := by omega
      have hsz := str_size t
      have hN : ¬ 9223372036854775807 < 1 + (str t).size := by rw [hsz]; omega
      have hcv := conv_one wr u wr.heap.size rfl
      have q1 : str [UInt8.ofNat (48 + u % 10)] ++ str t = str (UInt8.ofNat (48 + u % 10) :: t) := str_app _ _
      have hz := str_size [UInt8.ofNat (48 + u % 10)]
      rw [List.length_singleton] at hz
      generalize str [UInt8.ofNat (48 + u % 10)] = C at *
      have hN2 : ¬ 9223372036854775807 < C.size + (str t).size := by rw [hz]; exact hN
      have hqq : IntKind.i64.wrap ((u : Int).tdiv 10) = ((u / 10 : Nat) : Int) := by
        rw [show (u : Int).tdiv 10 = ((u / 10 : Nat) : Int) from rfl]
        exact IntWalk.i64_in _ (by omega)
      have hu3 := fhid (show u / 10 ≤ N by omega)
      clear hz hsz hN
      generalize hQ : str (UInt8.ofNat (48 + u % 10) :: t) = Q at *
      replace hQ := fhid hQ
      generalize hT : str t = T at *
      replace hT := fhid hT
      rcases hc' with rfl | ⟨rfl, hpos⟩
      · go_wp2_with fail
        go_roundw
        case rel => exact ⟨u / 10, _, false, by go_num, by rw [← hQ.out], rfl, hu3.out, hstep.out.symm, hb.alloc _⟩
        case measure => simp [intOf, bitOf_]; omega
      · have i3 : (0 : Int) < u := by omega
        go_wp2_with fail
        go_roundw
        case rel => exact ⟨u / 10, _, false, by go_num, by rw [← hQ.out], rfl, hu3.out, hstep.out.symm, hb.alloc _⟩
        case measure => simp [intOf, bitOf_]; omega
theorem num_split {n : Int} (h : n ≤ -10) : num n = 45 :: (dec (-(n.tdiv 10)).toNat ++ dec (-(n.tmod 10)).toNat) := by
  obtain ⟨m, rfl⟩ : ∃ m : Nat, n = -(m : Int) := ⟨n.natAbs, by omega⟩
  have hm : ¬ m < 10 := by omega
  rw [num_neg (by omega), show (-(m : Int)).natAbs = m by omega, dec_big hm, Int.neg_tdiv, Int.neg_tmod, Int.neg_neg, Int.neg_neg,
    show (m : Int).tdiv 10 = ((m / 10 : Nat) : Int) from rfl, show (m : Int).tmod 10 = ((m % 10 : Nat) : Int) from rfl, Int.toNat_natCast, Int.toNat_natCast, dec_small (Nat.mod_lt m (by decide))]
end Go.Proofs.YtmnmcikbbfcjcaaGreatDoor.Vs
/-
  The document's own text of a vector.
-/
namespace Go.Proofs.YtmnmcikbbfcjcaaGreatDoor.Vs
open Go.RowKit

set_option maxRecDepth 100000 in
set_option maxHeartbeats 2000000 in
theorem rdigits_any (n : Int) (w : World) (h : I64 n) : Calls Tryz.prog 148 #[.int .i64 n] w fun e w' => e = .returned (.string (str (num n))) ∧ Grew w w' := by
  obtain ⟨h0, h1⟩ := h
  by_cases hp : 0 ≤ n
  · have hD := fun W => Digits_any n.toNat n W (by omega) h1
    rw [← num_pos hp] at hD
    go_enter Tryz.func148, Tryz.ntmps148
    go_wp2_with (go_at_call 147; (with_reducible refine (hD _).mono ?_); rintro e w1 ⟨rfl, g1⟩)
    go_ret
    exact ⟨rfl, g1⟩
  · by_cases h2 : -10 < n
    · have hD := fun W => Digits_any (-n).toNat (-n) W (by omega) (by omega)
      have hE : str [45] ++ str (dec (-n).toNat) = str (num n) := by rw [str_app, num_neg (by omega), show (-n).toNat = n.natAbs by omega]; rfl
      have hl := dec_len_le (-n).toNat (by omega)
      have hz := str_size (dec (-n).toNat)
      have hi : ¬ 9223372036854775807 < 1 + (str (dec (-n).toNat)).size := by omega
      have hw1 : IntKind.i64.wrap (-n) = -n := IntWalk.i64_in _ (by omega)
      rw [show str [45] = ⟨#[45]⟩ from rfl] at hE
      clear hz hl
      generalize str (dec (-n).toNat) = S at *
      replace hE := fhid hE
      go_enter Tryz.func148, Tryz.ntmps148
      go_wp2_with (go_at_call 147; (with_reducible refine (hD _).mono ?_); rintro e w1 ⟨rfl, g1⟩)
      go_ret
      exact ⟨frets hE.out, g1⟩
    · have hq0 : n.tdiv 10 = -((-n / 10 : Int)) := by
        obtain ⟨m, rfl⟩ : ∃ m : Nat, n = -(m : Int) := ⟨n.natAbs, by omega⟩
        rw [Int.neg_tdiv, Int.neg_neg]; rfl
      have hr0 : n.tmod 10 = -((-n % 10 : Int)) := by
        obtain ⟨m, rfl⟩ : ∃ m : Nat, n = -(m : Int) := ⟨n.natAbs, by omega⟩
        rw [Int.neg_tmod, Int.neg_neg]; rfl
      have hE := congrArg str (num_split (n := n) (by omega))
      rw [show (45 :: (dec (-(n.tdiv 10)).toNat ++ dec (-(n.tmod 10)).toNat)) = ([45] ++ dec (-(n.tdiv 10)).toNat) ++ dec (-(n.tmod 10)).toNat from rfl, ← str_app, ← str_app] at hE
      have hD := fun W => Digits_any (-(n.tdiv 10)).toNat (-(n.tdiv 10)) W (by omega) (by omega)
      have hF := fun W => Digits_any (-(n.tmod 10)).toNat (-(n.tmod 10)) W (by omega) (by omega)
      have hl := dec_len_le (-(n.tdiv 10)).toNat (by omega)
      have hz := str_size (dec (-(n.tdiv 10)).toNat)
      have hl2 := dec_len_le (-(n.tmod 10)).toNat (by omega)
      have hz2 := str_size (dec (-(n.tmod 10)).toNat)
      have hi : ¬ 9223372036854775807 < 1 + (str (dec (-(n.tdiv 10)).toNat)).size := by omega
      have hi2 : ¬ 9223372036854775807 < (str [45] ++ str (dec (-(n.tdiv 10)).toNat)).size + (str (dec (-(n.tmod 10)).toNat)).size := by
        rw [str_app, str_size, List.length_append, List.length_singleton]; omega
      have hw1 : IntKind.i64.wrap (n.tdiv 10) = n.tdiv 10 := IntWalk.i64_in _ (by omega)
      have hw2 : IntKind.i64.wrap (n.tmod 10) = n.tmod 10 := IntWalk.i64_in _ (by omega)
      have hw3 : IntKind.i64.wrap (-(n.tdiv 10)) = -(n.tdiv 10) := IntWalk.i64_in _ (by omega)
      have hw4 : IntKind.i64.wrap (-(n.tmod 10)) = -(n.tmod 10) := IntWalk.i64_in _ (by omega)
      rw [show str [45] = ⟨#[45]⟩ from rfl] at hE hi2
      clear hz hl hz2 hl2
      replace hE := fhid hE
      generalize str (dec (-(n.tdiv 10)).toNat) = S at *
      generalize str (dec (-(n.tmod 10)).toNat) = T at *
      clear hq0 hr0
      go_enter Tryz.func148, Tryz.ntmps148
      go_wp2_with (first
        | (go_at_call 147; (with_reducible refine (hD _).mono ?_); clear hD; rintro e w1 ⟨rfl, g1⟩)
        | (go_at_call 147; (with_reducible refine (hF _).mono ?_); rintro e w2 ⟨rfl, g2⟩))
      go_ret
      exact ⟨frets hE.out.symm, g1.trans g2⟩
end Go.Proofs.YtmnmcikbbfcjcaaGreatDoor.Vs
/-
  The document's own text of a vector.
-/
namespace Go.Proofs.YtmnmcikbbfcjcaaGreatDoor.Vs
open Go.RowKit

/-- One part more behind the text. -/
def fstep (s k : List UInt8) (n : Int) : List UInt8 := if n = 0 then s else (if s = [] then s else s ++ [44]) ++ pc k n
def facc (v : V3) : Nat → List UInt8
  | 0 => []
  | 1 => fstep [] kCpu v.1
  | 2 => fstep (fstep [] kCpu v.1) kMem v.2.1
  | _ => fstep (fstep (fstep [] kCpu v.1) kMem v.2.1) kGpu v.2.2
theorem pc_ne (k : List UInt8) (n : Int) : pc k n ≠ [] := by unfold pc; simp
theorem fmt_facc (v : V3) : (if facc v 3 = [] then noneT else facc v 3) = fmt v := by
  obtain ⟨a, b, c⟩ := v
  unfold fmt allPcs pcs
  simp only [facc, fstep]
  by_cases ha : a = 0 <;> by_cases hb : b = 0 <;> by_cases hc : c = 0
  all_goals
    simp [ha, hb, hc, pc_ne, Go.Lib.join_one, join_two, join_three]
theorem fstep_len (s k : List UInt8) (n : Int) (hk : k.length = 3) (h : I64 n) : (fstep s k n).length ≤ s.length + 26 := by
  have := num_len n h
  unfold fstep pc
  split
  · omega
  · split <;> simp only [List.length_append, List.length_singleton] <;> omega
theorem facc_len (v : V3) (k : Nat) (h1 : I64 v.1) (h2 : I64 v.2.1) (h3 : I64 v.2.2) : (facc v k).length ≤ 78 := by
  have q1 := fstep_len [] kCpu v.1 rfl h1
  have q2 := fstep_len (fstep [] kCpu v.1) kMem v.2.1 rfl h2
  have q3 := fstep_len (fstep (fstep [] kCpu v.1) kMem v.2.1) kGpu v.2.2 rfl h3
  simp only [List.length_nil] at q1
  rcases k with _ | _ | _ | k <;> simp only [facc, List.length_nil] <;> omega
theorem str_empty (l : List UInt8) : (str l).toList.isEmpty = decide (l = []) := by
  have h := str_eq (str l) ⟨#[]⟩
  rw [bl_str, show bl ⟨#[]⟩ = [] from rfl] at h
  rw [← h]
  simp
def nmK : Nat → List UInt8
  | 0 => kCpu
  | 1 => kMem
  | _ => kGpu
def lvK (v : V3) : Nat → Int
  | 0 => v.1
  | 1 => v.2.1
  | _ => v.2.2
theorem facc_step (v : V3) (k : Nat) (h : k < 3) : facc v (k + 1) = fstep (facc v k) (nmK k) (lvK v k) := by
  obtain rfl | rfl | rfl : k = 0 ∨ k = 1 ∨ k = 2 := by omega
  all_goals rfl
theorem fmt_world (a b c : Int) (w : World) : let W := ((w.alloc (.cells #[.int .i64 a, .int .i64 b, .int .i64 c] 120)).alloc (.cells #[.string ⟨#[99, 112, 117]⟩, .string ⟨#[109, 101, 109]⟩, .string ⟨#[103, 112, 117]⟩] 9)).alloc (.cells #[.int .i64 a, .int .i64 b, .int .i64 c] 3)
    Grew w W ∧ w.heap.size + 2 < W.heap.size ∧ (∀ k, k < 3 → W.cell? ⟨w.heap.size + 1, k, none⟩ = some (.string (str (nmK k)))) ∧ ∀ k, k < 3 → W.cell? ⟨w.heap.size + 1 + 1, k, none⟩ = some (.int .i64 (lvK (a, b, c) k)) := by
  intro W
  have h1 : W.heap[w.heap.size + 1]? = some (.cells #[.string ⟨#[99, 112, 117]⟩, .string ⟨#[109, 101, 109]⟩, .string ⟨#[103, 112, 117]⟩] 9) := by
    have e := heap_alloc_new (w.alloc (.cells #[.int .i64 a, .int .i64 b, .int .i64 c] 120)) (.cells #[.string ⟨#[99, 112, 117]⟩, .string ⟨#[109, 101, 109]⟩, .string ⟨#[103, 112, 117]⟩] 9)
    rw [World.size_alloc] at e
    exact (Below.heap_alloc _ _ _ (by rw [World.size_alloc, World.size_alloc]; omega)).trans e
  have h2 : W.heap[w.heap.size + 1 + 1]? = some (.cells #[.int .i64 a, .int .i64 b, .int .i64 c] 3) := by
    have e := heap_alloc_new ((w.alloc (.cells #[.int .i64 a, .int .i64 b, .int .i64 c] 120)).alloc (.cells #[.string ⟨#[99, 112, 117]⟩, .string ⟨#[109, 101, 109]⟩, .string ⟨#[103, 112, 117]⟩] 9)) (.cells #[.int .i64 a, .int .i64 b, .int .i64 c] 3)
    rw [World.size_alloc, World.size_alloc] at e
    exact e
  refine ⟨(((Grew.refl w).alloc _).alloc _).alloc _, lt_of_block h2, fun k hk => ?_, fun k hk => ?_⟩
  · obtain rfl | rfl | rfl : k = 0 ∨ k = 1 ∨ k = 2 := by omega
    all_goals (simp [World.cell?, h1]; rfl)
  · obtain rfl | rfl | rfl : k = 0 ∨ k = 1 ∨ k = 2 := by omega
    all_goals (simp [World.cell?, h2]; rfl)
set_option maxRecDepth 100000 in
set_option maxHeartbeats 2000000 in
theorem rFormat_any (a b c : Int) (w : World) (ha : I64 a) (hb : I64 b) (hc : I64 c) : Calls Tryz.prog 134 #[vec a b c] w fun e w' => e = .returned (.string (str (fmt (a, b, c)))) ∧ Below w.heap.size w w' := by
  have hrng : ∀ k, k < 3 → I64 (lvK (a, b, c) k) := fun k hk => by
    obtain rfl | rfl | rfl : k = 0 ∨ k = 1 ∨ k = 2 := by omega
    · exact ha
    · exact hb
    · exact hc
  have hlen := fun k => facc_len (a, b, c) k ha hb hc
  have hst := facc_step (a, b, c)
  have hfin := fmt_facc (a, b, c)
  obtain ⟨gW, hsz, cn, cl⟩ := fmt_world a b c w
  have hf0 : facc (a, b, c) 0 = [] := rfl
  generalize facc (a, b, c) = fa at *
  replace hrng := fhid hrng
  replace hlen := fhid hlen
  replace hst := fhid hst
  replace hfin := fhid hfin
  replace hf0 := fhid hf0
  go_enter Tryz.func134, Tryz.ntmps134
  go_wp2_with fail
  generalize (((w.alloc _).alloc _).alloc _) = w1 at *
  have g1 : w.heap.size + 1 < w1.heap.size := by omega
  have g2 : w.heap.size + 1 + 1 < w1.heap.size := by omega
  generalize w.heap.size + 1 = n1 at *
  generalize n1 + 1 = n2 at *
  replace g1 := fhid g1
  replace g2 := fhid g2
  clear hsz
  go_loopw [3, 6] (fun s i wr => ∃ k : Nat, k ≤ 3 ∧ s = .string (str (fa k)) ∧ i = .int .i64 k ∧ Below w1.heap.size w1 wr) (fun _ i _ => 3 - (intOf i).toNat)
  case atStart => exact ⟨0, by decide, by rw [hf0.out]; rfl, rfl, Below.refl _ _⟩
  case round =>
    obtain ⟨k, hk, rfl, rfl, hg⟩ := hrel
    by_cases h3 : k < 3
    · have c1 := (hg.cell (p := ⟨n1, k, none⟩) g1.out).trans (cn k h3)
      have c2 := (hg.cell (p := ⟨n2, k, none⟩) g2.out).trans (cl k h3)
      have hr := hrng.out k h3
      have hs := hst.out k h3
      have hl := hlen.out k
      have i1 : (k : Int) < 3 := by omega
      have i0 : (0 : Int) ≤ k := by omega
      generalize lvK (a, b, c) k = n at *
      have hkl : (nmK k).length = 3 := by
        obtain rfl | rfl | rfl : k = 0 ∨ k = 1 ∨ k = 2 := by omega
        all_goals rfl
      generalize nmK k = K at *
      unfold fstep at hs
      by_cases hn : n = 0
      · subst hn
        rw [if_pos rfl] at hs
        generalize hS : str (fa k) = S at *
        replace hS := fhid hS
        replace hs := fhid hs
        clear hl hr hkl
        go_wp2_with fail
        go_roundw
        case rel => exact ⟨k + 1, by omega, by rw [← hS.out, hs.out], by go_num, hg⟩
        case measure => simp [intOf]; omega
      · have hnl := num_len n hr
        have hd := fun W => (rdigits_any n W hr).mono fun e W' h => (show e = .returned (.string (str (num n))) ∧ Below W.heap.size W W' from ⟨h.1, h.2.below⟩)
        have hnz : (n == 0) = false := by simpa using hn
        rw [if_neg hn] at hs
        have q0 := str_empty (fa k)
        have q1 : str K ++ ⟨#[61]⟩ = str (K ++ [61]) := str_app K [61]
        have q2 : str (K ++ [61]) ++ str (num n) = str (pc K n) := str_app _ _
        have z1 := str_size K
        have z2 := str_size (K ++ [61])
        have z3 := str_size (num n)
        have z4 := str_size (fa k)
        have z5 := str_size (pc K n)
        have z6 := str_size (fa k ++ [44])
        have z7 : (pc K n).length = K.length + 1 + (num n).length := by unfold pc; simp only [List.length_append, List.length_singleton]
        rw [List.length_append, List.length_singleton] at z2 z6
        have b1 : ¬ 9223372036854775807 < (str K).size + 1 := by omega
        have b2 : ¬ 9223372036854775807 < (str (K ++ [61])).size + (str (num n)).size := by omega
        by_cases he : fa k = []
        · rw [if_pos he] at hs
          rw [decide_eq_true he] at q0
          have q3 : str (fa k) ++ str (pc K n) = str (fa k ++ pc K n) := str_app _ _
          have b3 : ¬ 9223372036854775807 < (str (fa k)).size + (str (pc K n)).size := by omega
          rw [← hs] at q3
          clear z1 z2 z3 z4 z5 z6 z7 hnl hl hkl hr he hs
          generalize hQ : str (fa (k + 1)) = Q at *
          replace hQ := fhid hQ
          generalize str (pc K n) = P at *
          generalize str (K ++ [61]) = K1 at *
          generalize str (num n) = N1 at *
          generalize str (fa k) = S at *
          generalize str K = K0 at *
          have m1 := fun d os => cell_regrown c1 d os
          have m2 := fun d os => cell_regrown c2 d os
          have m3 := fun d os => Calls.regrown_of (hd (Sort.grow (redrawn wr d) os))
          go_wp2_with fail
          clear c1 c2 hd
          refine wp_region_quiet_below (by kernel_rfl) (by kernel_rfl) ?_
          repeat (first | go_big_quiet_step (exact m3 _ _) | quiet_step (exact m3 _ _))
          refine wpQuiet_nil ?_
          rintro w9 ⟨pq, rfl⟩
          have g5 := hg.trans ((below_regrown wr pq.d pq.os).mono hg.size)
          generalize Sort.grow (redrawn wr pq.d) pq.os = w5 at *
          go_wp2_with fail
          go_roundw
          case rel => exact ⟨k + 1, by omega, by rw [hQ.out], by go_num, g5⟩
          case measure => simp [intOf]; omega
        · rw [if_neg he] at hs
          rw [decide_eq_false he] at q0
          have q4 : str (fa k) ++ ⟨#[44]⟩ = str (fa k ++ [44]) := str_app _ [44]
          have q3 : str (fa k ++ [44]) ++ str (pc K n) = str ((fa k ++ [44]) ++ pc K n) := str_app _ _
          have b3 : ¬ 9223372036854775807 < (str (fa k ++ [44])).size + (str (pc K n)).size := by omega
          have b4 : ¬ 9223372036854775807 < (str (fa k)).size + 1 := by omega
          rw [← hs] at q3
          clear z1 z2 z3 z4 z5 z6 z7 hnl hl hkl hr he hs
          generalize hQ : str (fa (k + 1)) = Q at *
          replace hQ := fhid hQ
          generalize str (fa k ++ [44]) = S1 at *
          generalize str (pc K n) = P at *
          generalize str (K ++ [61]) = K1 at *
          generalize str (num n) = N1 at *
          generalize str (fa k) = S at *
          generalize str K = K0 at *
          have m1 := fun d os => cell_regrown c1 d os
          have m2 := fun d os => cell_regrown c2 d os
          have m3 := fun d os => Calls.regrown_of (hd (Sort.grow (redrawn wr d) os))
          go_wp2_with fail
          clear c1 c2 hd
          refine wp_region_quiet_below (by kernel_rfl) (by kernel_rfl) ?_
          repeat (first | go_big_quiet_step (exact m3 _ _) | quiet_step (exact m3 _ _))
          refine wpQuiet_nil ?_
          rintro w9 ⟨pq, rfl⟩
          have g5 := hg.trans ((below_regrown wr pq.d pq.os).mono hg.size)
          generalize Sort.grow (redrawn wr pq.d) pq.os = w5 at *
          go_wp2_with fail
          go_roundw
          case rel => exact ⟨k + 1, by omega, by rw [hQ.out], by go_num, g5⟩
          case measure => simp [intOf]; omega
    · obtain rfl : k = 3 := by omega
      have q0 := str_empty (fa 3)
      have hF := hfin.out
      by_cases he : fa 3 = []
      · rw [if_pos he] at hF
        rw [decide_eq_true he] at q0
        replace hF := fhid hF
        clear he
        generalize str (fa 3) = S at *
        go_wp2_with fail
        go_ret
        exact ⟨frets (by rw [← hF.out]; rfl), gW.below.trans (hg.mono gW.below.size)⟩
      · rw [if_neg he] at hF
        rw [decide_eq_false he] at q0
        have hF2 := fhid (congrArg str hF)
        clear he hF
        generalize str (fa 3) = S at *
        go_wp2_with fail
        go_ret
        exact ⟨frets hF2.out, gW.below.trans (hg.mono gW.below.size)⟩
end Go.Proofs.YtmnmcikbbfcjcaaGreatDoor.Vs
/-
  Plain mathematics: the numbers that stand in a text, and which vector they make. No model in it.
-/
namespace Go.Proofs.YtmnmcikbbfcjcaaGreatDoor.Vs

/-- The number that begins there, up to the limit. -/
def numAt : List UInt8 → Nat → Nat
  | [], n => n
  | c :: r, n => if isDig c = true ∧ n ≤ 1073741824 then numAt r (10 * n + dv c) else n
/-- The numbers behind each '='. -/
def nums : List UInt8 → List Nat
  | [] => []
  | c :: r => if c = 61 then numAt r 0 :: nums r else nums r
/-- Behind a number stands no digit. -/
def Stop (r : List UInt8) : Prop := r = [] ∨ ∃ c t, r = c :: t ∧ isDig c = false
theorem numAt_stop {r : List UInt8} (h : Stop r) (n : Nat) : numAt r n = n := by
  rcases h with rfl | ⟨c, t, rfl, hc⟩
  · rfl
  · unfold numAt; rw [if_neg (by simp [hc])]
theorem numAt_digits : ∀ (l r : List UInt8) (n : Nat), l.all isDig = true → l.foldl (fun n c => 10 * n + dv c) n ≤ 1073741824 → numAt (l ++ r) n = numAt r (l.foldl (fun n c => 10 * n + dv c) n)
  | [], _, _, _, _ => rfl
  | c :: t, r, n, ha, hb => by
    rw [List.all_cons, Bool.and_eq_true] at ha
    rw [List.foldl_cons] at hb
    have hl := fold_le t (10 * n + dv c)
    rw [List.foldl_cons, List.cons_append]
    conv => lhs; unfold numAt
    rw [if_pos ⟨ha.1, by omega⟩]
    exact numAt_digits t r _ ha.2 hb
theorem nums_no : ∀ (l r : List UInt8), 61 ∉ l → nums (l ++ r) = nums r
  | [], _, _ => rfl
  | c :: t, r, h => by
    rw [List.cons_append]
    conv => lhs; unfold nums
    rw [if_neg (fun e => h (by rw [e]; simp))]
    exact nums_no t r (fun e => h (by simp [e]))
theorem dec_no61 (u : Nat) : 61 ∉ dec u := fun hm => by
  have := List.all_eq_true.1 (dec_facts u).1 61 hm
  revert this; decide
theorem nums_pc (k : List UInt8) (n : Int) (r : List UInt8) (hk : 61 ∉ k) (h0 : 0 ≤ n) (h1 : n ≤ 1073741824) (hr : Stop r) : nums (pc k n ++ r) = n.toNat :: nums r := by
  have e : pc k n ++ r = k ++ (61 :: (dec n.toNat ++ r)) := by unfold pc; rw [num_pos h0]; simp
  obtain ⟨d1, d2, _⟩ := dec_facts n.toNat
  have hd := numAt_digits (dec n.toNat) r 0 d1 (by show dval (dec n.toNat) ≤ _; rw [d2]; omega)
  rw [show List.foldl (fun n c => 10 * n + dv c) 0 (dec n.toNat) = n.toNat from d2, numAt_stop hr] at hd
  rw [e, nums_no k _ hk]
  conv => lhs; unfold nums
  rw [if_pos rfl, hd, nums_no _ r (dec_no61 _)]
def nz (n : Int) : List Nat := if n = 0 then [] else [n.toNat]
theorem stop_comma (r : List UInt8) : Stop (44 :: r) := .inr ⟨44, r, rfl, by decide⟩
theorem nums_fmt (v : V3) (h : right v.1 v.2.1 v.2.2 = true) : nums (fmt v) = nz v.1 ++ nz v.2.1 ++ nz v.2.2 := by
  obtain ⟨a, b, c⟩ := v
  obtain ⟨⟨a0, a1⟩, ⟨b0, b1⟩, ⟨c0, c1⟩⟩ := right_iff.1 h
  simp only at a0 a1 b0 b1 c0 c1
  have one := fun (k : List UInt8) (n : Int) (hk : 61 ∉ k) (h0 : 0 ≤ n) (h1 : n ≤ 1073741824) => by
    have := nums_pc k n [] hk h0 h1 (.inl rfl)
    rw [List.append_nil] at this
    exact this
  have more := fun (k : List UInt8) (n : Int) (r : List UInt8) (hk : 61 ∉ k) (h0 : 0 ≤ n) (h1 : n ≤ 1073741824) => by
    have := nums_pc k n (44 :: r) hk h0 h1 (stop_comma r)
    rw [show nums (44 :: r) = nums r from rfl] at this
    exact this
  unfold fmt allPcs pcs nz
  simp only
  by_cases ha : a = 0 <;> by_cases hb : b = 0 <;> by_cases hc : c = 0
  · subst ha hb hc; rfl
  all_goals
    rw [if_neg (by omega)]
    simp only [ha, hb, hc, if_true, if_false, List.nil_append, List.append_nil, List.cons_append, Go.Lib.join_one, join_two, join_three]
  · exact one kGpu c (by decide) c0 c1
  · exact one kMem b (by decide) b0 b1
  · rw [more kMem b _ (by decide) b0 b1, one kGpu c (by decide) c0 c1]; rfl
  · exact one kCpu a (by decide) a0 a1
  · rw [more kCpu a _ (by decide) a0 a1, one kGpu c (by decide) c0 c1]; rfl
  · rw [more kCpu a _ (by decide) a0 a1, one kMem b (by decide) b0 b1]; rfl
  · rw [more kCpu a _ (by decide) a0 a1, more kMem b _ (by decide) b0 b1, one kGpu c (by decide) c0 c1]; rfl
theorem dec_len : ∀ (k u : Nat), u < 10 ^ (k + 1) → (dec u).length ≤ k + 1
  | 0, u, h => by rw [dec_small (by simpa using h)]; simp
  | k + 1, u, h => by
    by_cases hu : u < 10
    · rw [dec_small hu]; simp
    · rw [dec_big hu, List.length_append, List.length_singleton]
      have := dec_len k (u / 10) (by rw [Nat.pow_succ] at h; omega)
      omega
theorem fmt_short (v : V3) (h : right v.1 v.2.1 v.2.2 = true) : (fmt v).length ≤ 60 := by
  obtain ⟨a, b, c⟩ := v
  obtain ⟨⟨a0, a1⟩, ⟨b0, b1⟩, ⟨c0, c1⟩⟩ := right_iff.1 h
  simp only at a0 a1 b0 b1 c0 c1
  have one := fun (k : List UInt8) (n : Int) (hk : k.length = 3) (h0 : 0 ≤ n) (h1 : n ≤ 1073741824) => (show (pc k n).length ≤ 14 by
    have := dec_len 9 n.toNat (by have : (10 : Nat) ^ (9 + 1) = 10000000000 := by decide
                                  omega)
    unfold pc
    rw [num_pos h0, List.length_append, List.length_append, List.length_singleton]
    omega)
  have q1 := one kCpu a rfl a0 a1
  have q2 := one kMem b rfl b0 b1
  have q3 := one kGpu c rfl c0 c1
  unfold fmt allPcs pcs
  simp only
  by_cases ha : a = 0 <;> by_cases hb : b = 0 <;> by_cases hc : c = 0
  · subst ha hb hc; decide
  all_goals
    rw [if_neg (by omega)]
    simp only [ha, hb, hc, if_true, if_false, List.nil_append, List.append_nil, List.cons_append, Go.Lib.join_one, join_two, join_three, List.length_append, List.length_cons]
    omega
/-- One part of the three: of the numbers the next one, if it is its turn. -/
def pick (b : Bool) (k : Nat) (ls : List Nat) : Int × Nat := if b = true ∧ k < ls.length then ((ls.getD k 0 : Nat), k + 1) else (0, k)
def cand (b1 b2 b3 : Bool) (ls : List Nat) : V3 × Nat :=
  (((pick b1 0 ls).1, (pick b2 (pick b1 0 ls).2 ls).1, (pick b3 (pick b2 (pick b1 0 ls).2 ls).2 ls).1), (pick b3 (pick b2 (pick b1 0 ls).2 ls).2 ls).2)
def bit1 (m : Nat) : Bool := decide (m % 2 = 1)
def bit2 (m : Nat) : Bool := decide (m / 2 % 2 = 1)
def bit3 (m : Nat) : Bool := decide (m / 4 = 1)
/-- What is taken. -/
def Good (s : List UInt8) (ls : List Nat) (m : Nat) : Prop := (cand (bit1 m) (bit2 m) (bit3 m) ls).2 = ls.length ∧ right (cand (bit1 m) (bit2 m) (bit3 m) ls).1.1 (cand (bit1 m) (bit2 m) (bit3 m) ls).1.2.1 (cand (bit1 m) (bit2 m) (bit3 m) ls).1.2.2 = true ∧ fmt (cand (bit1 m) (bit2 m) (bit3 m) ls).1 = s
theorem parse_good {s : List UInt8} {ls : List Nat} {m : Nat} (h : Good s ls m) : parseP s = ((cand (bit1 m) (bit2 m) (bit3 m) ls).1, 0) := parse_iff s _ h.2.1 h.2.2
def bitsOf (v : V3) : Nat := (if v.1 = 0 then 0 else 1) + (if v.2.1 = 0 then 0 else 2) + (if v.2.2 = 0 then 0 else 4)
theorem cand_of (v : V3) (h : right v.1 v.2.1 v.2.2 = true) : bitsOf v < 8 ∧ cand (bit1 (bitsOf v)) (bit2 (bitsOf v)) (bit3 (bitsOf v)) (nz v.1 ++ nz v.2.1 ++ nz v.2.2) = (v, (nz v.1 ++ nz v.2.1 ++ nz v.2.2).length) := by
  obtain ⟨a, b, c⟩ := v
  obtain ⟨⟨a0, _⟩, ⟨b0, _⟩, ⟨c0, _⟩⟩ := right_iff.1 h
  simp only at a0 b0 c0
  unfold bitsOf nz cand pick
  simp only
  by_cases ha : a = 0 <;> by_cases hb : b = 0 <;> by_cases hc : c = 0
  all_goals
    simp [ha, hb, hc, bit1, bit2, bit3]
  all_goals omega
theorem parse_none {s : List UInt8} (h : ∀ m, m < 8 → ¬ Good s (nums s) m) : parseP s = ((0, 0, 0), 3) := parse_not s fun v hv e => by
  obtain ⟨h8, hc⟩ := cand_of v hv
  rw [← nums_fmt v hv, e] at hc
  refine h _ h8 ?_
  unfold Good
  rw [hc]
  exact ⟨rfl, hv, e⟩
theorem parse_long {s : List UInt8} (h : 60 < s.length) : parseP s = ((0, 0, 0), 3) := parse_not s fun v hv e => by
  have := fmt_short v hv
  rw [e] at this
  omega
theorem parse_many {s : List UInt8} (h : 3 < (nums s).length) : parseP s = ((0, 0, 0), 3) := parse_not s fun v hv e => by
  have := congrArg List.length (nums_fmt v hv)
  rw [e, List.length_append, List.length_append] at this
  have q := fun n => (show (nz n).length ≤ 1 by unfold nz; split <;> simp)
  have := q v.1
  have := q v.2.1
  have := q v.2.2
  omega
end Go.Proofs.YtmnmcikbbfcjcaaGreatDoor.Vs
/-
  Add, walked.
-/
namespace Go.Proofs.YtmnmcikbbfcjcaaGreatDoor.Vs
open Go.RowKit

end Go.Proofs.YtmnmcikbbfcjcaaGreatDoor.Vs
/-
  The document's own Sub and Times; Into, and the document's.
-/
namespace Go.Proofs.YtmnmcikbbfcjcaaGreatDoor.Vs
open Go.RowKit

end Go.Proofs.YtmnmcikbbfcjcaaGreatDoor.Vs
/-
  The document's own reading of a text.
-/
namespace Go.Proofs.YtmnmcikbbfcjcaaGreatDoor.Vs
open Go.RowKit

theorem drop_step (s : ByteArray) (k : Nat) (h : k < s.size) : (bl s).drop k = s[k] :: (bl s).drop (k + 1) := by
  have hl : k < (bl s).length := by rw [bl_len]; exact h
  rw [List.drop_eq_getElem_cons hl, bl_get s k h hl]
theorem numAt_dig {c : UInt8} {r : List UInt8} {m : Nat} (h1 : 48 ≤ c.toNat) (h2 : c.toNat ≤ 57) (hm : m ≤ 1073741824) : numAt (c :: r) m = numAt r (m * 10 + (c.toNat - 48)) := by
  conv => lhs; unfold numAt
  rw [if_pos ⟨(isDig_iff c).2 ⟨h1, h2⟩, hm⟩]
  congr 1
  unfold dv
  omega
theorem numAt_end {l : List UInt8} {m : Nat} (h : l = [] ∨ ∃ c r, l = c :: r ∧ ¬ ((48 ≤ c.toNat ∧ c.toNat ≤ 57) ∧ m ≤ 1073741824)) : numAt l m = m := by
  rcases h with rfl | ⟨c, r, rfl, h⟩
  · rfl
  · unfold numAt
    rw [if_neg (fun e => h ⟨(isDig_iff c).1 e.1, e.2⟩)]
theorem nums_len (l : List UInt8) : (nums l).length ≤ l.length := by
  induction l with
  | nil => simp [nums]
  | cons c r ih => unfold nums; split <;> simp <;> omega
theorem pick_yes {b : Bool} {k : Nat} {ls : List Nat} (hb : b = true) (hk : k < ls.length) : pick b k ls = (((ls[k] : Nat) : Int), k + 1) := by
  unfold pick
  rw [if_pos ⟨hb, hk⟩, List.getD_eq_getElem?_getD, List.getElem?_eq_getElem hk]
  rfl
theorem pick_no {b : Bool} {k : Nat} {ls : List Nat} (h : ¬ (b = true ∧ k < ls.length)) : pick b k ls = (0, k) := by
  unfold pick
  rw [if_neg h]
theorem pick_le (b : Bool) (k : Nat) (ls : List Nat) : (pick b k ls).2 ≤ k + 1 := by
  unfold pick
  split <;> simp
theorem not_good {s : List UInt8} {ls : List Nat} {m k : Nat} {x y z : Int} (h : cand (bit1 m) (bit2 m) (bit3 m) ls = ((x, y, z), k)) (hb : ¬ (k = ls.length ∧ right x y z = true ∧ fmt (x, y, z) = s)) : ¬ Good s ls m := by
  unfold Good
  rw [h]
  exact hb
theorem not_more {s : List UInt8} {ls : List Nat} {m : Nat} (h : ∀ q, q < m → ¬ Good s ls q) (hm : ¬ Good s ls m) : ∀ q, q < m + 1 → ¬ Good s ls q := fun q hq => by
  by_cases e : q = m
  · rw [e]; exact hm
  · exact h q (by omega)
/-- A candidate between two of its parts. -/
def PMid (W : World) (g k : Nat) (a b c : Int) (v : Value) (wx : World) : Prop := v = .int .i64 (k : Int) ∧ VB wx g a b c ∧ Below W.heap.size W wx
set_option maxRecDepth 100000 in
set_option maxHeartbeats 8000000 in
theorem rParse_any (s : ByteArray) (w : World) : Calls Tryz.prog 118 #[.string s] w (VP w (parseP (bl s))) := by
  have hsl := bl_len s
  by_cases hl : 60 < s.size
  · have hp := fhid (parse_long (s := bl s) (by omega)).symm
    have i1 : (60 : Int) < s.size := by omega
    clear hsl
    go_enter Tryz.func118, Tryz.ntmps118
    go_upto_region 1 with fail
    have g0 := (Grew.refl w).alloc (.cells #[.int .i64 0, .int .i64 0, .int .i64 0] 120)
    have b2 := VB.new w 0 0 0 _ rfl
    generalize w.alloc _ = w1 at *
    obtain ⟨d0, d1, d2, ⟨u0, u1, u2⟩, yy⟩ := b2.facts
    go_wp2_with fail
    exact bodyPost_ret (v := .tuple #[vec 0 0 0, .int .i64 3]) (by simp [results, Tryz.results118, go_sem, d0, d1, d2]) rfl (VP.ret hp.out (set3 g0.below (by omega) _ _ _))
  · have i1 : ¬ (60 : Int) < s.size := by omega
    have hs60 : s.size ≤ 60 := by omega
    have hmany := @parse_many (bl s)
    have hgood := fun m => @parse_good (bl s) (nums (bl s)) m
    have hnone := @parse_none (bl s)
    obtain ⟨R, hR⟩ : ∃ R, parseP (bl s) = R := ⟨_, rfl⟩
    rw [hR] at hmany hgood hnone
    rw [hR]
    replace hR := fhid hR
    replace hmany := fhid hmany
    replace hgood := fhid hgood
    replace hnone := fhid hnone
    obtain ⟨NS, hNS⟩ : ∃ NS, nums (bl s) = NS := ⟨_, rfl⟩
    have hNL : NS.length ≤ 60 := by
      have := nums_len (bl s)
      rw [hNS] at this
      omega
    rw [hNS] at hmany hgood hnone
    replace hNS := fhid hNS
    go_enter Tryz.func118, Tryz.ntmps118
    go_upto_region 1 with fail
    have g0 := (Grew.refl w).alloc (.cells #[.int .i64 0, .int .i64 0, .int .i64 0] 120)
    have b2 := VB.new w 0 0 0 _ rfl
    generalize w.alloc _ = w1 at *
    have hB := lt_of_block b2
    go_wp2_with fail
    go_loopw [4, 5] (fun l i wr => ∃ (acc : List Nat) (k : Nat), i = .int .i64 k ∧ k ≤ s.size ∧ OwnI wr w1.heap.size l acc ∧ acc.length ≤ k ∧ acc ++ nums ((bl s).drop k) = NS ∧ Below w1.heap.size w1 wr) (fun _ i _ => s.size - (intOf i).toNat)
    case atStart => exact ⟨[], 0, rfl, by omega, OwnI.nil _ _, by simp, hNS.out, Below.refl _ _⟩
    case round =>
      obtain ⟨acc, k, rfl, hk, hown, hal, hacc, hb⟩ := hrel
      have k0 : (0 : Int) ≤ k := by omega
      replace hacc := fhid hacc
      by_cases hks : k < s.size
      · have i2 : (k : Int) < s.size := by omega
        have hdr := drop_step s k hks
        obtain ⟨c, hc⟩ : ∃ c, s[k]'hks = c := ⟨_, rfl⟩
        rw [hc] at hdr
        replace hdr := fhid hdr
        replace hown := fhid hown
        by_cases h61 : c.toNat = 61
        · have i3 : (c.toNat : Int) = 61 := by omega
          have hce : c = 61 := UInt8.toNat_inj.1 h61
          go_wp2_with fail
          go_loop [6, 7] (fun n i => ∃ m j : Nat, n = .int .i64 m ∧ i = .int .i64 j ∧ k + 1 ≤ j ∧ j ≤ s.size ∧ m ≤ 10737418249 ∧ numAt ((bl s).drop j) m = numAt ((bl s).drop (k + 1)) 0) (fun _ i => s.size - (intOf i).toNat)
          case atStart => exact ⟨0, k + 1, rfl, by go_num, by omega, by omega, by omega, rfl⟩
          case round =>
            obtain ⟨m, j, rfl, rfl, hj1, hj2, hm, hnum⟩ := hrel
            have m0 : (0 : Int) ≤ m := by omega
            have j0 : (0 : Int) ≤ j := by omega
            replace hnum := fhid hnum
            by_cases hgo : ∃ h : j < s.size, (48 ≤ s[j].toNat ∧ s[j].toNat ≤ 57) ∧ m ≤ 1073741824
            · obtain ⟨hjs, ⟨hd1, hd2⟩, hm2⟩ := hgo
              have hdj := drop_step s j hjs
              obtain ⟨d, hd⟩ : ∃ d, s[j]'hjs = d := ⟨_, rfl⟩
              rw [hd] at hdj hd1 hd2
              have hst := hnum.out
              rw [hdj, numAt_dig hd1 hd2 hm2] at hst
              replace hst := fhid hst
              have e1 : (j : Int) < s.size := by omega
              have e2 : (48 : Int) ≤ d.toNat := by omega
              have e3 : (d.toNat : Int) ≤ 57 := by omega
              have e4 : (m : Int) ≤ 1073741824 := by omega
              have e5 : ((m * 10 + (d.toNat - 48) : Nat) : Int) = (m : Int) * 10 + ((d.toNat : Int) - 48) := by omega
              replace e5 := fhid e5
              clear hdj hd1 hd2
              go_wp2_with fail
              go_round
              case rel => exact ⟨m * 10 + (d.toNat - 48), j + 1, by rw [e5.out], by go_num, by omega, by omega, by omega, hst.out⟩
              case measure => simp [intOf]; omega
            · have hN : m = numAt ((bl s).drop (k + 1)) 0 := by
                rw [← hnum.out]
                refine (numAt_end ?_).symm
                by_cases hjs : j < s.size
                · exact .inr ⟨s[j], _, drop_step s j hjs, fun e => hgo ⟨hjs, e⟩⟩
                · exact .inl (List.drop_eq_nil_of_le (by omega))
              have hac := hacc.out
              rw [hdr.out, hce] at hac
              unfold nums at hac
              rw [if_pos rfl, ← hN] at hac
              replace hac := fhid hac
              clear hN hnum
              have hcs : ¬ j < s.size ∨ (∃ h : j < s.size, s[j].toNat < 48) ∨ (∃ h : j < s.size, 48 ≤ s[j].toNat ∧ ¬ s[j].toNat ≤ 57) ∨ (∃ h : j < s.size, (48 ≤ s[j].toNat ∧ s[j].toNat ≤ 57) ∧ ¬ m ≤ 1073741824) := by
                by_cases h1 : j < s.size
                · by_cases h2 : 48 ≤ s[j].toNat
                  · by_cases h3 : s[j].toNat ≤ 57
                    · exact .inr (.inr (.inr ⟨h1, ⟨h2, h3⟩, fun h4 => hgo ⟨h1, ⟨h2, h3⟩, h4⟩⟩))
                    · exact .inr (.inr (.inl ⟨h1, h2, h3⟩))
                  · exact .inr (.inl ⟨h1, by omega⟩)
                · exact .inl h1
              clear hgo
              rcases hcs with h1 | ⟨h1, h2⟩ | ⟨h1, h2, h3⟩ | ⟨h1, ⟨h2, h3⟩, h4⟩
              · have e1 : ¬ (j : Int) < s.size := by omega
                go_wp2_with (at_builtin
                             refine app_int rfl _ _ rfl w1.heap.size u4 acc m wr rfl hown.out rfl _ (by first | rfl | simp) rfl (by omega) hb.size ?_
                             intro v' w3 o3 b3)
                go_roundw
                case rel => exact ⟨acc ++ [m], k + 1, by go_num, by omega, o3, by rw [List.length_append, List.length_singleton]; omega, by rw [List.append_assoc]; exact hac.out, hb.trans b3⟩
                case measure => simp [intOf]; omega
              · obtain ⟨d, hd⟩ : ∃ d, s[j]'h1 = d := ⟨_, rfl⟩
                rw [hd] at h2
                have e1 : (j : Int) < s.size := by omega
                have e2 : ¬ (48 : Int) ≤ d.toNat := by omega
                clear h2
                go_wp2_with (at_builtin
                             refine app_int rfl _ _ rfl w1.heap.size u4 acc m wr rfl hown.out rfl _ (by first | rfl | simp) rfl (by omega) hb.size ?_
                             intro v' w3 o3 b3)
                go_roundw
                case rel => exact ⟨acc ++ [m], k + 1, by go_num, by omega, o3, by rw [List.length_append, List.length_singleton]; omega, by rw [List.append_assoc]; exact hac.out, hb.trans b3⟩
                case measure => simp [intOf]; omega
              · obtain ⟨d, hd⟩ : ∃ d, s[j]'h1 = d := ⟨_, rfl⟩
                rw [hd] at h2 h3
                have e1 : (j : Int) < s.size := by omega
                have e2 : (48 : Int) ≤ d.toNat := by omega
                have e3 : ¬ (d.toNat : Int) ≤ 57 := by omega
                clear h2 h3
                go_wp2_with (at_builtin
                             refine app_int rfl _ _ rfl w1.heap.size u4 acc m wr rfl hown.out rfl _ (by first | rfl | simp) rfl (by omega) hb.size ?_
                             intro v' w3 o3 b3)
                go_roundw
                case rel => exact ⟨acc ++ [m], k + 1, by go_num, by omega, o3, by rw [List.length_append, List.length_singleton]; omega, by rw [List.append_assoc]; exact hac.out, hb.trans b3⟩
                case measure => simp [intOf]; omega
              · obtain ⟨d, hd⟩ : ∃ d, s[j]'h1 = d := ⟨_, rfl⟩
                rw [hd] at h2 h3
                have e1 : (j : Int) < s.size := by omega
                have e2 : (48 : Int) ≤ d.toNat := by omega
                have e3 : (d.toNat : Int) ≤ 57 := by omega
                have e4 : ¬ (m : Int) ≤ 1073741824 := by omega
                clear h2 h3
                go_wp2_with (at_builtin
                             refine app_int rfl _ _ rfl w1.heap.size u4 acc m wr rfl hown.out rfl _ (by first | rfl | simp) rfl (by omega) hb.size ?_
                             intro v' w3 o3 b3)
                go_roundw
                case rel => exact ⟨acc ++ [m], k + 1, by go_num, by omega, o3, by rw [List.length_append, List.length_singleton]; omega, by rw [List.append_assoc]; exact hac.out, hb.trans b3⟩
                case measure => simp [intOf]; omega
        · have i3 : ¬ (c.toNat : Int) = 61 := by omega
          go_wp2_with fail
          go_roundw
          case rel =>
            refine ⟨acc, k + 1, by go_num, by omega, hown.out, by omega, ?_, hb⟩
            rw [← hacc.out, hdr.out]
            conv => rhs; unfold nums
            rw [if_neg (fun e => h61 (by rw [e]; rfl))]
          case measure => simp [intOf]; omega
      · have i2 : ¬ (k : Int) < s.size := by omega
        have hkk : k = s.size := by omega
        have hA := hacc.out
        rw [hkk, List.drop_eq_nil_of_le (by omega), show nums [] = [] from rfl, List.append_nil] at hA
        subst hA
        obtain ⟨A, cap, rfl, hI⟩ := hown.shape
        have r2 := fhid (b2.on hb)
        have hz := hb.size
        have z2 := g0.below.trans (hb.mono g0.below.size)
        clear hkk hown hacc hal
        by_cases hm3 : 3 < acc.length
        · have i3 : (3 : Int) < acc.length := by omega
          obtain ⟨d0, d1, d2, ⟨u0, u1, u2⟩, yy⟩ := r2.out.facts
          have hp := fhid (hmany.out hm3).symm
          clear hgood hnone hmany hNS
          go_wp2_with fail
          exact bodyPost_ret (v := .tuple #[vec 0 0 0, .int .i64 3]) (by simp [results, Tryz.results118, go_sem, d0, d1, d2]) rfl (VP.ret hp.out (set3 z2 (by omega) _ _ _))
        · have i3 : ¬ (3 : Int) < acc.length := by omega
          go_wp2_with fail
          rename World => w2
          go_loopw [8] (fun bv wx => ∃ m : Nat, m ≤ 8 ∧ bv = .int .i64 m ∧ (∀ q, q < m → ¬ Good (bl s) acc q) ∧ Below w2.heap.size w2 wx) (fun bv _ => 8 - (intOf bv).toNat)
          case atStart => exact ⟨0, by decide, rfl, fun q hq => absurd hq (Nat.not_lt_zero _), Below.refl _ _⟩
          case round =>
            obtain ⟨m, hm, rfl, hnot, hbt⟩ := hrel
            replace hnot := fhid hnot
            by_cases h8 : m < 8
            ·
              have m0 : (0 : Int) ≤ m := by omega
              have i4 : (m : Int) < 8 := by omega
              have q2 : IntKind.i64.wrap ((m : Int).tdiv 2) = ((m / 2 : Nat) : Int) := by
                rw [show (m : Int).tdiv 2 = ((m / 2 : Nat) : Int) from rfl]
                exact IntWalk.i64_in _ (by omega)
              have q4 : IntKind.i64.wrap ((m : Int).tdiv 4) = ((m / 4 : Nat) : Int) := by
                rw [show (m : Int).tdiv 4 = ((m / 4 : Nat) : Int) from rfl]
                exact IntWalk.i64_in _ (by omega)
              obtain ⟨mh, hmh⟩ : ∃ x, m / 2 = x := ⟨_, rfl⟩
              obtain ⟨mq, hmq⟩ : ∃ x, m / 4 = x := ⟨_, rfl⟩
              rw [hmh] at q2
              rw [hmq] at q4
              have mh0 : (0 : Int) ≤ mh := by omega
              go_upto_region 21 with fail
              have g1 := VB.new wr 0 0 0 _ rfl
              have y1 := hbt.trans (((Grew.refl wr).alloc (.cells #[.int .i64 0, .int .i64 0, .int .i64 0] 120)).below.mono hbt.size)
              have hg := hbt.size
              clear hbt
              generalize wr.alloc _ = wc at *
              generalize wr.heap.size = g at *
              go_cut [78] (fun sf wx => sf = .bool (decide (bit1 m = true ∧ 0 < acc.length)) ∧ wx = wc)
              case first =>
                by_cases c1 : bit1 m = true
                · have e1 : (m : Int) % 2 = 1 := by
                    have := of_decide_eq_true (show decide (m % 2 = 1) = true from c1)
                    omega
                  by_cases c2 : 0 < acc.length
                  · have e2 : (0 : Int) < acc.length := by omega
                    have hd := fhid (decide_eq_true (show bit1 m = true ∧ 0 < acc.length from ⟨c1, c2⟩))
                    generalize decide (bit1 m = true ∧ 0 < acc.length) = Q at *
                    clear c1 c2
                    go_wp2_with fail
                    go_meet
                    exact ⟨congrArg Value.bool (by first | exact hd.out.symm | (rw [hd.out]; exact decide_eq_true (by omega)) | (rw [hd.out]; exact decide_eq_false (by omega))), rfl⟩
                  · have e2 : ¬ (0 : Int) < acc.length := by omega
                    have hd := fhid (decide_eq_false (show ¬ (bit1 m = true ∧ 0 < acc.length) from fun h => c2 h.2))
                    generalize decide (bit1 m = true ∧ 0 < acc.length) = Q at *
                    clear c1 c2
                    go_wp2_with fail
                    go_meet
                    exact ⟨congrArg Value.bool (by first | exact hd.out.symm | (rw [hd.out]; exact decide_eq_true (by omega)) | (rw [hd.out]; exact decide_eq_false (by omega))), rfl⟩
                · have e1 : (m : Int) % 2 = 0 := by
                    have := of_decide_eq_false (show decide (m % 2 = 1) = false by simpa [bit1] using c1)
                    omega
                  have hd := fhid (decide_eq_false (show ¬ (bit1 m = true ∧ 0 < acc.length) from fun h => c1 h.1))
                  generalize decide (bit1 m = true ∧ 0 < acc.length) = Q at *
                  clear c1
                  go_wp2_with fail
                  go_meet
                  exact ⟨congrArg Value.bool (by first | exact hd.out.symm | (rw [hd.out]; exact decide_eq_true (by omega)) | (rw [hd.out]; exact decide_eq_false (by omega))), rfl⟩
              case rest =>
                obtain ⟨rfl, hw⟩ := hcut
                subst hw
                go_upto_if 78 with fail
                go_cut [10] (fun s10 wx => PMid w2 g (pick (bit1 m) 0 acc).2 (pick (bit1 m) 0 acc).1 0 0 s10 wx)
                case first =>
                  by_cases cq : bit1 m = true ∧ 0 < acc.length
                  · obtain ⟨B, o, rfl, hB', hcell⟩ := hI.at_ cq.2
                    have c1 := (y1.cell (p := ⟨B, o + 0, none⟩) hB').trans hcell
                    rw [Nat.add_zero] at c1
                    obtain ⟨d0, d1, d2, ⟨u0, u1, u2⟩, yy⟩ := g1.facts
                    have hp := pick_yes cq.1 cq.2
                    obtain ⟨x, hx⟩ : ∃ x, acc[0]'cq.2 = x := ⟨_, rfl⟩
                    rw [hx] at hcell hp c1
                    replace hp := fhid hp
                    have e2 : (0 : Int) < acc.length := by have := cq.2; omega
                    rw [decide_eq_true cq]
                    clear hcell hx cq
                    go_wp2_with fail
                    go_meet
                    rw [hp.out]
                    exact ⟨by first | rfl | go_num, block_set 0 _ g1, y1.setCell (p := ⟨g, 0, none⟩) hg _⟩
                  · have hp := fhid (pick_no cq)
                    rw [decide_eq_false cq]
                    clear cq
                    go_wp2_with fail
                    go_meet
                    rw [hp.out]
                    exact ⟨rfl, g1, y1⟩
                case rest =>
                  clear g1 y1
                  obtain ⟨rfl, g1, y1⟩ := hcut
                  have hk1 := pick_le (bit1 m) 0 acc
                  obtain ⟨p1, hp1⟩ : ∃ p, pick (bit1 m) 0 acc = p := ⟨_, rfl⟩
                  rw [hp1] at hk1 g1
                  rw [hp1]
                  obtain ⟨x1, k1⟩ := p1
                  simp only at hk1 g1
                  have kI1 : (0 : Int) ≤ k1 := by omega
                  replace hp1 := fhid hp1
                  go_upto_region 24 with fail
                  go_cut [95] (fun sf wx => sf = .bool (decide (bit2 m = true ∧ k1 < acc.length)) ∧ wx = wc)
                  case first =>
                    by_cases c1 : bit2 m = true
                    · have e1 : (mh : Int) % 2 = 1 := by
                        have := of_decide_eq_true (show decide (m / 2 % 2 = 1) = true from c1)
                        omega
                      by_cases c2 : k1 < acc.length
                      · have e2 : (k1 : Int) < acc.length := by omega
                        have hd := fhid (decide_eq_true (show bit2 m = true ∧ k1 < acc.length from ⟨c1, c2⟩))
                        generalize decide (bit2 m = true ∧ k1 < acc.length) = Q at *
                        clear c1 c2
                        go_wp2_with fail
                        go_meet
                        exact ⟨congrArg Value.bool (by first | exact hd.out.symm | (rw [hd.out]; exact decide_eq_true (by omega)) | (rw [hd.out]; exact decide_eq_false (by omega))), rfl⟩
                      · have e2 : ¬ (k1 : Int) < acc.length := by omega
                        have hd := fhid (decide_eq_false (show ¬ (bit2 m = true ∧ k1 < acc.length) from fun h => c2 h.2))
                        generalize decide (bit2 m = true ∧ k1 < acc.length) = Q at *
                        clear c1 c2
                        go_wp2_with fail
                        go_meet
                        exact ⟨congrArg Value.bool (by first | exact hd.out.symm | (rw [hd.out]; exact decide_eq_true (by omega)) | (rw [hd.out]; exact decide_eq_false (by omega))), rfl⟩
                    · have e1 : (mh : Int) % 2 = 0 := by
                        have := of_decide_eq_false (show decide (m / 2 % 2 = 1) = false by simpa [bit2] using c1)
                        omega
                      have hd := fhid (decide_eq_false (show ¬ (bit2 m = true ∧ k1 < acc.length) from fun h => c1 h.1))
                      generalize decide (bit2 m = true ∧ k1 < acc.length) = Q at *
                      clear c1
                      go_wp2_with fail
                      go_meet
                      exact ⟨congrArg Value.bool (by first | exact hd.out.symm | (rw [hd.out]; exact decide_eq_true (by omega)) | (rw [hd.out]; exact decide_eq_false (by omega))), rfl⟩
                  case rest =>
                    obtain ⟨rfl, hw⟩ := hcut
                    subst hw
                    go_upto_if 95 with fail
                    go_cut [10] (fun s10 wx => PMid w2 g (pick (bit2 m) k1 acc).2 x1 (pick (bit2 m) k1 acc).1 0 s10 wx)
                    case first =>
                      by_cases cq : bit2 m = true ∧ k1 < acc.length
                      · obtain ⟨B, o, rfl, hB', hcell⟩ := hI.at_ cq.2
                        have c1 := (y1.cell (p := ⟨B, o + k1, none⟩) hB').trans hcell
                        obtain ⟨d0, d1, d2, ⟨u0, u1, u2⟩, yy⟩ := g1.facts
                        have hp := pick_yes cq.1 cq.2
                        obtain ⟨x, hx⟩ : ∃ x, acc[k1]'cq.2 = x := ⟨_, rfl⟩
                        rw [hx] at hcell hp c1
                        replace hp := fhid hp
                        have e2 : (k1 : Int) < acc.length := by have := cq.2; omega
                        rw [decide_eq_true cq]
                        clear hcell hx cq
                        go_wp2_with fail
                        go_meet
                        rw [hp.out]
                        exact ⟨by first | rfl | go_num, block_set 1 _ g1, y1.setCell (p := ⟨g, 1, none⟩) hg _⟩
                      · have hp := fhid (pick_no cq)
                        rw [decide_eq_false cq]
                        clear cq
                        go_wp2_with fail
                        go_meet
                        rw [hp.out]
                        exact ⟨rfl, g1, y1⟩
                    case rest =>
                      clear g1 y1
                      obtain ⟨rfl, g1, y1⟩ := hcut
                      have hk2 := pick_le (bit2 m) k1 acc
                      obtain ⟨p2, hp2⟩ : ∃ p, pick (bit2 m) k1 acc = p := ⟨_, rfl⟩
                      rw [hp2] at hk2 g1
                      rw [hp2]
                      obtain ⟨x2, k2⟩ := p2
                      simp only at hk2 g1
                      have kI2 : (0 : Int) ≤ k2 := by omega
                      replace hp2 := fhid hp2
                      go_upto_region 27 with fail
                      go_cut [111] (fun sf wx => sf = .bool (decide (bit3 m = true ∧ k2 < acc.length)) ∧ wx = wc)
                      case first =>
                        by_cases c1 : bit3 m = true
                        · have e1 : (mq : Int) = 1 := by
                            have := of_decide_eq_true (show decide (m / 4 = 1) = true from c1)
                            omega
                          by_cases c2 : k2 < acc.length
                          · have e2 : (k2 : Int) < acc.length := by omega
                            have hd := fhid (decide_eq_true (show bit3 m = true ∧ k2 < acc.length from ⟨c1, c2⟩))
                            generalize decide (bit3 m = true ∧ k2 < acc.length) = Q at *
                            clear c1 c2
                            go_wp2_with fail
                            go_meet
                            exact ⟨congrArg Value.bool (by first | exact hd.out.symm | (rw [hd.out]; exact decide_eq_true (by omega)) | (rw [hd.out]; exact decide_eq_false (by omega))), rfl⟩
                          · have e2 : ¬ (k2 : Int) < acc.length := by omega
                            have hd := fhid (decide_eq_false (show ¬ (bit3 m = true ∧ k2 < acc.length) from fun h => c2 h.2))
                            generalize decide (bit3 m = true ∧ k2 < acc.length) = Q at *
                            clear c1 c2
                            go_wp2_with fail
                            go_meet
                            exact ⟨congrArg Value.bool (by first | exact hd.out.symm | (rw [hd.out]; exact decide_eq_true (by omega)) | (rw [hd.out]; exact decide_eq_false (by omega))), rfl⟩
                        · have e1 : (mq : Int) = 0 := by
                            have := of_decide_eq_false (show decide (m / 4 = 1) = false by simpa [bit3] using c1)
                            omega
                          have hd := fhid (decide_eq_false (show ¬ (bit3 m = true ∧ k2 < acc.length) from fun h => c1 h.1))
                          generalize decide (bit3 m = true ∧ k2 < acc.length) = Q at *
                          clear c1
                          go_wp2_with fail
                          go_meet
                          exact ⟨congrArg Value.bool (by first | exact hd.out.symm | (rw [hd.out]; exact decide_eq_true (by omega)) | (rw [hd.out]; exact decide_eq_false (by omega))), rfl⟩
                      case rest =>
                        obtain ⟨rfl, hw⟩ := hcut
                        subst hw
                        go_upto_if 111 with fail
                        go_cut [10] (fun s10 wx => PMid w2 g (pick (bit3 m) k2 acc).2 x1 x2 (pick (bit3 m) k2 acc).1 s10 wx)
                        case first =>
                          by_cases cq : bit3 m = true ∧ k2 < acc.length
                          · obtain ⟨B, o, rfl, hB', hcell⟩ := hI.at_ cq.2
                            have c1 := (y1.cell (p := ⟨B, o + k2, none⟩) hB').trans hcell
                            obtain ⟨d0, d1, d2, ⟨u0, u1, u2⟩, yy⟩ := g1.facts
                            have hp := pick_yes cq.1 cq.2
                            obtain ⟨x, hx⟩ : ∃ x, acc[k2]'cq.2 = x := ⟨_, rfl⟩
                            rw [hx] at hcell hp c1
                            replace hp := fhid hp
                            have e2 : (k2 : Int) < acc.length := by have := cq.2; omega
                            rw [decide_eq_true cq]
                            clear hcell hx cq
                            go_wp2_with fail
                            go_meet
                            rw [hp.out]
                            exact ⟨by first | rfl | go_num, block_set 2 _ g1, y1.setCell (p := ⟨g, 2, none⟩) hg _⟩
                          · have hp := fhid (pick_no cq)
                            rw [decide_eq_false cq]
                            clear cq
                            go_wp2_with fail
                            go_meet
                            rw [hp.out]
                            exact ⟨rfl, g1, y1⟩
                        case rest =>
                          clear g1 y1
                          obtain ⟨rfl, g1, y1⟩ := hcut
                          have hk3 := pick_le (bit3 m) k2 acc
                          obtain ⟨p3, hp3⟩ : ∃ p, pick (bit3 m) k2 acc = p := ⟨_, rfl⟩
                          rw [hp3] at hk3 g1
                          rw [hp3]
                          obtain ⟨x3, k3⟩ := p3
                          simp only at hk3 g1
                          have kI3 : (0 : Int) ≤ k3 := by omega
                          replace hp3 := fhid hp3
                          have hcand : cand (bit1 m) (bit2 m) (bit3 m) acc = ((x1, x2, x3), k3) := by
                            unfold cand
                            rw [hp1.out, hp2.out, hp3.out]
                          clear hp1 hp2 hp3 q2 q4 hmh hmq mh0
                          have hng := fhid (@not_good (bl s) acc m k3 x1 x2 x3 hcand)
                          have hgd := hgood.out m
                          rw [hcand] at hgd
                          have hGd : k3 = acc.length ∧ right x1 x2 x3 = true ∧ fmt (x1, x2, x3) = bl s → Good (bl s) acc m := fun h => by
                            unfold Good
                            rw [hcand]
                            exact h
                          have hfound := fhid fun h => hgd (hGd h)
                          clear hgd hGd hcand
                          obtain ⟨c0, c1, c2, _, yy⟩ := g1.facts
                          by_cases hk : k3 = acc.length
                          · have e1 : (k3 : Int) = acc.length := by omega
                            have hri := fun W => rRight_any x1 x2 x3 W
                            cases hr : right x1 x2 x3 with
                            | false =>
                              rw [hr] at hri
                              have hno := fhid (hng.out (fun h => by rw [hr] at h; cases h.2.1))
                              clear hfound hr hng
                              go_wp2_with (go_at_call 97; (with_reducible refine (hri _).mono ?_); rintro e w5 ⟨rfl, g5⟩)
                              go_roundw
                              case rel => exact ⟨m + 1, by omega, by go_num, not_more hnot.out hno.out, y1.trans (g5.below.mono y1.size)⟩
                              case measure => simp [intOf]; omega
                            | true =>
                              rw [hr] at hri
                              obtain ⟨j1, j2, j3⟩ := right_I64 (v := (x1, x2, x3)) hr
                              have hf := fun W => rFormat_any x1 x2 x3 W j1 j2 j3
                              have hse := str_eq (str (fmt (x1, x2, x3))) s
                              rw [bl_str] at hse
                              by_cases hfs : fmt (x1, x2, x3) = bl s
                              · rw [decide_eq_true hfs] at hse
                                have hres := fhid (hfound.out ⟨hk, hr, hfs⟩)
                                clear hfound hng hr hfs j1 j2 j3
                                generalize str (fmt (x1, x2, x3)) = F at *
                                go_wp2_with (first
                                  | (go_at_call 97; (with_reducible refine (hri _).mono ?_); rintro e w5 ⟨rfl, g5⟩
                                     clear c0 c1 c2
                                     have g2 := g1.grew g5
                                     have y2 := y1.trans (g5.below.mono y1.size)
                                     obtain ⟨c0, c1, c2, _, _⟩ := g2.facts)
                                  | (go_at_call 134; (with_reducible refine (hf _).mono ?_); rintro e w6 ⟨rfl, b6⟩
                                     clear c0 c1 c2
                                     have g3 := g2.on b6
                                     have y3 := y2.trans (b6.mono y2.size)
                                     obtain ⟨c0, c1, c2, _, _⟩ := g3.facts
                                     obtain ⟨d0, d1, d2, ⟨u0, u1, u2⟩, yy2⟩ := (r2.out.on y3).facts))
                                exact bodyPost_ret (v := .tuple #[vec x1 x2 x3, .int .i64 0]) (by simp [results, Tryz.results118, go_sem, d0, d1, d2]) rfl (VP.ret hres.out.symm (set3 (z2.trans (y3.mono z2.size)) (by omega) _ _ _))
                              · rw [decide_eq_false hfs] at hse
                                have hno := fhid (hng.out (fun h => hfs h.2.2))
                                clear hfound hng hr hfs j1 j2 j3
                                generalize str (fmt (x1, x2, x3)) = F at *
                                go_wp2_with (first
                                  | (go_at_call 97; (with_reducible refine (hri _).mono ?_); rintro e w5 ⟨rfl, g5⟩
                                     clear c0 c1 c2
                                     have g2 := g1.grew g5
                                     have y2 := y1.trans (g5.below.mono y1.size)
                                     obtain ⟨c0, c1, c2, _, _⟩ := g2.facts)
                                  | (go_at_call 134; (with_reducible refine (hf _).mono ?_); rintro e w6 ⟨rfl, b6⟩
                                     have y3 := y2.trans (b6.mono y2.size)))
                                go_roundw
                                case rel => exact ⟨m + 1, by omega, by go_num, not_more hnot.out hno.out, y3⟩
                                case measure => simp [intOf]; omega
                          · have e1 : ¬ (k3 : Int) = acc.length := by omega
                            have hno := fhid (hng.out (fun h => hk h.1))
                            clear hfound hng hk
                            go_wp2_with fail
                            go_roundw
                            case rel => exact ⟨m + 1, by omega, by go_num, not_more hnot.out hno.out, y1⟩
                            case measure => simp [intOf]; omega
            · obtain rfl : m = 8 := by omega
              have hres := fhid (hnone.out hnot.out).symm
              obtain ⟨d0, d1, d2, ⟨u0, u1, u2⟩, yy⟩ := (r2.out.on hbt).facts
              go_wp2_with fail
              exact bodyPost_ret (v := .tuple #[vec 0 0 0, .int .i64 3]) (by simp [results, Tryz.results118, go_sem, d0, d1, d2]) rfl (VP.ret hres.out (set3 (z2.trans (hbt.mono z2.size)) (by omega) _ _ _))
end Go.Proofs.YtmnmcikbbfcjcaaGreatDoor.Vs
