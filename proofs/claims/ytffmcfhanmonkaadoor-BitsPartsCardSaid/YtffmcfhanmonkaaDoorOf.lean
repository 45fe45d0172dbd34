/-
  Of: the set of a list of numbers, in the package and in its reference.
-/
import Derived.Test.YtffmcfhanmonkaaDoorCount
namespace Go.Proofs.YtffmcfhanmonkaaDoor
open Go.RowKit
/-- v is a slice that reads as the list l. -/
def Reads (w : World) (v : Value) (l : List Int) : Prop :=
  (l = [] ∧ ∃ a cap, v = .slice a 0 cap) ∨
  ∃ b off cap, v = .slice (some ⟨b, off, none⟩) l.length cap ∧ b < w.heap.size ∧ ∀ k x, l[k]? = some x → w.cell? ⟨b, off + k, none⟩ = some (.int .i64 x)
/-- Whether a number stands in a list. -/
def memP (l : List Int) : Nat → Bool := fun j => decide ((j : Int) ∈ l)
theorem memP_take (l : List Int) (k : Nat) (x : Int) (h : l[k]? = some x) (j : Nat) : ins (memP (l.take k)) x j = memP (l.take (k + 1)) j := by
  unfold ins memP
  rw [List.take_add_one, h, Bool.eq_iff_iff]
  simp
theorem memP_skip (l : List Int) (k : Nat) (x : Int) (h : l[k]? = some x) (hx : x < 0 ∨ 256 ≤ x) (j : Nat) (hj : j < 256) : memP (l.take k) j = memP (l.take (k + 1)) j := by
  rw [← memP_take l k x h j]
  unfold ins
  rw [decide_eq_false (by omega), Bool.or_false]
theorem or_word (p : Nat → Bool) (n : Nat) : word p (n / 64) ||| 2 ^ (n % 64) = word (ins p n) (n / 64) := by
  refine word_eq (Nat.or_lt_two_pow (n := 64) (word_lt p _) (pow_lt _ (by omega))) fun j hj => ?_
  rw [Nat.testBit_or, word_testBit _ _ _ hj, Nat.testBit_two_pow]
  unfold ins
  congr 1
  rw [Bool.eq_iff_iff]
  simp
  omega
set_option maxRecDepth 100000 in
set_option maxHeartbeats 800000 in
theorem of_empty (a : Option Addr) (cap : Nat) (w : World) :
    Calls Tryd.prog 11 #[.slice a 0 cap] w fun e w' => e = .returned (nodes (memP [])) ∧ Below w.heap.size w w' := by
  have hz : nodes (memP []) = .agg #[.int .u64 0, .int .u64 0, .int .u64 0, .int .u64 0] := by
    have e : memP [] = fun _ => false := by funext j; simp [memP]
    rw [e]; unfold nodes; rw [zero_word, zero_word, zero_word, zero_word]; rfl
  rw [hz]
  go_enter Tryd.func11, Tryd.ntmps11
  go_wp2
  refine wp_loop_rounds 1 ?_
  rw [rounds_succ]
  go_wp2
  refine bodyPost_ret (v := .agg #[.int .u64 0, .int .u64 0, .int .u64 0, .int .u64 0]) (by simp [results, Tryd.results11, go_sem]) rfl ⟨rfl, ?_⟩
  exact ((Below.refl _ _).alloc (Nat.le_refl _) _).alloc (by simp) _
set_option maxRecDepth 100000 in
set_option maxHeartbeats 1600000 in
theorem of_some (b off cap : Nat) (l : List Int) (w : World) (hb : b < w.heap.size) (hl : l.length ≤ 140737488355328)
    (hc : ∀ k x, l[k]? = some x → w.cell? ⟨b, off + k, none⟩ = some (.int .i64 x)) :
    Calls Tryd.prog 11 #[.slice (some ⟨b, off, none⟩) l.length cap] w fun e w' => e = .returned (nodes (memP l)) ∧ Below w.heap.size w w' := by
  have hc := hid hc
  go_enter Tryd.func11, Tryd.ntmps11
  go_wp2
  go_loopw [8] (fun i wr => ∃ k : Nat, k ≤ l.length ∧ i = .int .i64 k ∧ Blk wr (w.heap.size + 1) (memP (l.take k)) ∧ Blk wr w.heap.size (fun _ => false) ∧ Below w.heap.size w wr) (fun i _ => l.length - (intOf i).toNat)
  case atStart =>
    refine ⟨0, by omega, rfl, ?_, (Blk.zero w).old _, ((Below.refl _ _).alloc (Nat.le_refl _) _).alloc (by simp) _⟩
    have := Blk.zero (w.alloc (.cells #[.int .u64 0, .int .u64 0, .int .u64 0, .int .u64 0] 26))
    rw [World.size_alloc] at this
    exact this.congr fun j _ => by simp [memP]
  case round =>
    obtain ⟨k, hk, rfl, hs, hr, hB⟩ := hrel
    by_cases hlt : k < l.length
    · obtain ⟨x, hx⟩ : ∃ x, l[k]? = some x := ⟨l[k], List.getElem?_eq_getElem hlt⟩
      have hcell : wr.cell? ⟨b, off + k, none⟩ = some (.int .i64 x) := (hB.cell (by exact hb)).trans (hc.out k x hx)
      have hm := hid (memP_take l k x hx)
      by_cases hx2 : x < 0 ∨ 256 ≤ x
      · have hsk := hid (memP_skip l k x hx hx2)
        have hx2 := hid hx2
        clear hx
        go_wp2_with (go_at_call 33; refine (isNode_out x _ hx2.out).mono ?_; rintro e w' ⟨rfl, rfl⟩)
        go_roundw
        case rel => exact ⟨k + 1, by omega, by go_num, hs.congr hsk.out, hr, hB⟩
        case measure => simp [intOf]; omega
      · obtain ⟨n, rfl⟩ := Int.eq_ofNat_of_zero_le (show 0 ≤ x by omega)
        have hn : n < 256 := by omega
        have h0 : (0 : Int) ≤ n := by omega
        have h1 : (n : Int) < 256 := by omega
        have hk4 : n / 64 < 4 := by omega
        have hk' : (n : Int) / 64 < 4 := by omega
        have hk0 : 0 ≤ (n : Int) / 64 := by omega
        have ck := hs.cell (n / 64) hk4
        have fk := hs.free (n / 64)
        have hq : IntKind.i64.wrap ((n : Int) / 64) = (n : Int) / 64 := IntWalk.i64_in _ (by omega)
        have ht : ((n : Int) / 64).toNat = n / 64 := by omega
        have hv : bits BinOp.or IntKind.u64 (↑(word (memP (l.take k)) (n / 64))) (2 ^ ((n : Int) % 64).toNat) = ↑(word (ins (memP (l.take k)) n) (n / 64)) := by
          rw [show ((n : Int) % 64).toNat = n % 64 by omega, cast_pow, bits_or_u64_nat _ _ (word_lt _ _) (pow_lt _ (by omega)), or_word]
        have hio : Hid (∀ j, j < 4 → j ≠ n / 64 → word (memP (l.take k)) j = word (ins (memP (l.take k)) n) j) := fun j _ hj => ins_other _ n j hj
        clear hx hx2
        go_wp2_with (go_at_call 33; refine (isNode_in n _ h0 h1).mono ?_; rintro e w' ⟨rfl, rfl⟩)
        go_region_with (go_at_call 34; refine (bit_any n _ h0).mono ?_; rintro e w' ⟨rfl, rfl⟩)
        all_goals
          have cc : Blk (wr.setCell ⟨w.heap.size + 1, n / 64, none⟩ (.int .u64 (word (ins (memP (l.take k)) n) (n / 64)))).drew (w.heap.size + 1) (ins (memP (l.take k)) n) := (hs.store (n / 64) _ hk4 rfl hio.out).drew
          have dd : Blk (wr.setCell ⟨w.heap.size + 1, n / 64, none⟩ (.int .u64 (word (ins (memP (l.take k)) n) (n / 64)))).drew w.heap.size (fun _ => false) := (hr.other (by simp) _).drew
          have bbb : Below w.heap.size w (wr.setCell ⟨w.heap.size + 1, n / 64, none⟩ (.int .u64 (word (ins (memP (l.take k)) n) (n / 64)))).drew := (hB.setCell (by simp) _).drew
          clear hs hr hB ck fk hio hcell
          generalize (wr.setCell ⟨w.heap.size + 1, n / 64, none⟩ (.int .u64 (word (ins (memP (l.take k)) n) (n / 64)))).drew = w2 at *
          clear hv
          go_wp2
          go_roundw
          case rel => exact ⟨k + 1, by omega, by go_num, cc.congr (fun j _ => hm.out j), dd, bbb⟩
          case measure => simp [intOf]; omega
    · obtain rfl : k = l.length := by omega
      have hs' : Blk wr (w.heap.size + 1) (memP l) := by rw [List.take_length] at hs; exact hs
      obtain ⟨c0, c1, c2, c3⟩ := hs'.four
      obtain ⟨g0, g1, g2, g3⟩ := hr.frees
      obtain ⟨d0, d1, d2, d3⟩ := hr.four
      go_wp2
      obtain ⟨k0, k1, k2, k3⟩ := (hr.stores (memP l)).four
      refine bodyPost_ret (v := nodes (memP l)) (by simp [results, Tryd.results11, go_sem, k0, k1, k2, k3]) rfl ⟨rfl, below_stores hB (by omega) _ _ _ _⟩
theorem of_any (v : Value) (l : List Int) (w : World) (h : Reads w v l) (hl : l.length ≤ 140737488355328) :
    Calls Tryd.prog 11 #[v] w fun e w' => e = .returned (nodes (memP l)) ∧ Below w.heap.size w w' := by
  rcases h with ⟨rfl, a, cap, rfl⟩ | ⟨b, off, cap, rfl, hb, hc⟩
  · exact of_empty a cap w
  · exact of_some b off cap l w hb hl hc
set_option maxRecDepth 100000 in
set_option maxHeartbeats 800000 in
theorem rof_empty (a : Option Addr) (cap : Nat) (w : World) :
    Calls Tryd.prog 12 #[.slice a 0 cap] w fun e w' => e = .returned (nodes (memP [])) ∧ Below w.heap.size w w' := by
  have hz : nodes (memP []) = .agg #[.int .u64 0, .int .u64 0, .int .u64 0, .int .u64 0] := by
    have e : memP [] = fun _ => false := by funext j; simp [memP]
    rw [e]; unfold nodes; rw [zero_word, zero_word, zero_word, zero_word]; rfl
  rw [hz]
  go_enter Tryd.func12, Tryd.ntmps12
  go_wp2
  refine wp_loop_rounds 1 ?_
  rw [rounds_succ]
  go_wp2
  refine bodyPost_ret (v := .agg #[.int .u64 0, .int .u64 0, .int .u64 0, .int .u64 0]) (by simp [results, Tryd.results12, go_sem]) rfl ⟨rfl, ?_⟩
  exact ((Below.refl _ _).alloc (Nat.le_refl _) _).alloc (by simp) _
set_option maxRecDepth 100000 in
set_option maxHeartbeats 1600000 in
theorem rof_some (b off cap : Nat) (l : List Int) (w : World) (hb : b < w.heap.size) (hl : l.length ≤ 140737488355328)
    (hc : ∀ k x, l[k]? = some x → w.cell? ⟨b, off + k, none⟩ = some (.int .i64 x)) :
    Calls Tryd.prog 12 #[.slice (some ⟨b, off, none⟩) l.length cap] w fun e w' => e = .returned (nodes (memP l)) ∧ Below w.heap.size w w' := by
  have hc := hid hc
  go_enter Tryd.func12, Tryd.ntmps12
  go_wp2
  go_loopw [4] (fun i wr => ∃ k : Nat, k ≤ l.length ∧ i = .int .i64 k ∧ Blk wr (w.heap.size + 1) (memP (l.take k)) ∧ Blk wr w.heap.size (fun _ => false) ∧ Below w.heap.size w wr) (fun i _ => l.length - (intOf i).toNat)
  case atStart =>
    refine ⟨0, by omega, rfl, ?_, (Blk.zero w).old _, ((Below.refl _ _).alloc (Nat.le_refl _) _).alloc (by simp) _⟩
    have := Blk.zero (w.alloc (.cells #[.int .u64 0, .int .u64 0, .int .u64 0, .int .u64 0] 26))
    rw [World.size_alloc] at this
    exact this.congr fun j _ => by simp [memP]
  case round =>
    obtain ⟨k, hk, rfl, hs, hr, hB⟩ := hrel
    by_cases hlt : k < l.length
    · obtain ⟨x, hx⟩ : ∃ x, l[k]? = some x := ⟨l[k], List.getElem?_eq_getElem hlt⟩
      have hcell : wr.cell? ⟨b, off + k, none⟩ = some (.int .i64 x) := (hB.cell (by exact hb)).trans (hc.out k x hx)
      have hm := hid (memP_take l k x hx)
      obtain ⟨c0, c1, c2, c3⟩ := hs.four
      have h0 : (0 : Int) ≤ k := by omega
      have h1 : (k : Int) < l.length := by omega
      clear hx
      go_wp2_with fail
      go_region_with (go_at_call 35; refine (with_any (memP (l.take k)) x _).mono ?_; rintro e w1 ⟨rfl, hx⟩; have hs1 := hs.drew.below hx hs.lt; have hr1 := hr.drew.below hx hr.lt; have hB1 := hB.drew.trans (hx.mono (Nat.le_of_lt hr.lt)); clear hx; obtain ⟨f0, f1, f2, f3⟩ := hs1.frees; obtain ⟨d0, d1, d2, d3⟩ := hs1.four)
      all_goals
        go_wp2
        go_roundw
        case rel => exact ⟨k + 1, by omega, by go_num, (hs1.stores _).congr (fun j _ => hm.out j), hr1.others (by omega) _ _ _ _, below_stores hB1 (by omega) _ _ _ _⟩
        case measure => simp [intOf]; omega
    · obtain rfl : k = l.length := by omega
      have hs' : Blk wr (w.heap.size + 1) (memP l) := by rw [List.take_length] at hs; exact hs
      obtain ⟨c0, c1, c2, c3⟩ := hs'.four
      obtain ⟨g0, g1, g2, g3⟩ := hr.frees
      obtain ⟨d0, d1, d2, d3⟩ := hr.four
      go_wp2
      obtain ⟨k0, k1, k2, k3⟩ := (hr.stores (memP l)).four
      refine bodyPost_ret (v := nodes (memP l)) (by simp [results, Tryd.results12, go_sem, k0, k1, k2, k3]) rfl ⟨rfl, below_stores hB (by omega) _ _ _ _⟩
theorem rof_any (v : Value) (l : List Int) (w : World) (h : Reads w v l) (hl : l.length ≤ 140737488355328) :
    Calls Tryd.prog 12 #[v] w fun e w' => e = .returned (nodes (memP l)) ∧ Below w.heap.size w w' := by
  rcases h with ⟨rfl, a, cap, rfl⟩ | ⟨b, off, cap, rfl, hb, hc⟩
  · exact rof_empty a cap w
  · exact rof_some b off cap l w hb hl hc
end Go.Proofs.YtffmcfhanmonkaaDoor
