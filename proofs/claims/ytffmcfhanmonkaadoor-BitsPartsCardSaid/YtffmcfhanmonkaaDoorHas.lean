/-
  Package bits and its reference: whether a number is in a set.
-/
import Derived.Test.YtffmcfhanmonkaaDoorLeaf
import Derived.Deep.QuietTactic
import Derived.BigQuiet
namespace Go.Proofs.YtffmcfhanmonkaaDoor
open Go.RowKit
abbrev nodes (p : Nat → Bool) : Value := .agg #[.int .u64 (word p 0), .int .u64 (word p 1), .int .u64 (word p 2), .int .u64 (word p 3)]
abbrev objOf (p : Nat → Bool) : Obj := .cells #[.int .u64 (word p 0), .int .u64 (word p 1), .int .u64 (word p 2), .int .u64 (word p 3)] 26
theorem cells_at (p : Nat → Bool) (w : World) (k : Nat) (h : k < 4) : (w.alloc (objOf p)).cell? ⟨w.heap.size, k, none⟩ = some (.int .u64 (word p k)) := by
  have hk : k = 0 ∨ k = 1 ∨ k = 2 ∨ k = 3 := by omega
  rcases hk with rfl | rfl | rfl | rfl <;> simp [go_sem]
theorem quiet_same {P : Program} {f : FuncId} {args : Array Value} {w : World} {n : Nat} {v : Value}
    (h : Calls P f args (w.drewN n) fun e w' => e = .returned v ∧ w.drewN n = w') : Calls P f args (w.drewN n) fun e w'' => e = .returned v ∧ ∃ m, w'' = w.drewN m :=
  h.mono fun _ _ ⟨he, hm⟩ => ⟨he, n, hm.symm⟩
theorem ret_bool {a b : Bool} (h : a = b) : Ending.returned (.bool a) = .returned (.bool b) := by rw [h]
set_option maxHeartbeats 400000 in
theorem has_out (p : Nat → Bool) (i : Int) (w : World) (h : i < 0 ∨ 256 ≤ i) :
    Calls Tryd.prog 15 #[nodes p, .int .i64 i] w fun e w' => e = .returned (.bool false) ∧ Below w.heap.size w w' := by
  go_enter Tryd.func15, Tryd.ntmps15
  go_wp2_with fail
  go_quiet ((go_at_call 33; exact quiet_same (isNode_out _ _ h)))
  go_wp2
  go_ret
  exact ⟨rfl, below_drewN ((Below.refl _ _).alloc (Nat.le_refl _) _) _⟩
theorem has_bit (p : Nat → Bool) (n : Nat) : (bits BinOp.and IntKind.u64 (↑(word p (n / 64))) (2 ^ (n % 64)) != 0) = p n := by
  rw [cast_pow, bits_and_u64_nat _ _ (word_lt _ _) (pow_lt _ (by omega))]
  have h := and_pow_ne (word p (n / 64)) (n % 64)
  rw [word_at] at h
  cases hp : p n with
  | true => rw [bne_iff_ne]; have := h.2 hp; omega
  | false => rw [bne_eq_false_iff_eq]; have : ¬ (word p (n / 64) &&& 2 ^ (n % 64) ≠ 0) := fun h' => by rw [hp] at h; exact absurd (h.1 h') (by decide)
             omega
set_option maxHeartbeats 400000 in
theorem has_in (p : Nat → Bool) (n : Nat) (w : World) (h : n < 256) :
    Calls Tryd.prog 15 #[nodes p, .int .i64 n] w fun e w' => e = .returned (.bool (p n)) ∧ Below w.heap.size w w' := by
  have hc := cells_at p w (n / 64) (by omega)
  go_enter Tryd.func15, Tryd.ntmps15
  go_wp2_with fail
  go_quiet (first | (go_at_call 33; exact quiet_same (isNode_in _ _ (by omega) (by omega))) | (go_at_call 34; exact quiet_same (bit_any _ _ (by omega))))
  go_wp2
  go_ret
  exact ⟨ret_bool (has_bit p n), below_drewN ((Below.refl _ _).alloc (Nat.le_refl _) _) _⟩
theorem has_any (p : Nat → Bool) (i : Int) (w : World) :
    Calls Tryd.prog 15 #[nodes p, .int .i64 i] w fun e w' => e = .returned (.bool (hasB p i)) ∧ Below w.heap.size w w' := by
  unfold hasB
  by_cases h : i < 0 ∨ 256 ≤ i
  · refine (has_out p i w h).mono fun e w' ⟨he, hw⟩ => ⟨he.trans (ret_bool ?_), hw⟩
    rcases h with h | h
    · simp; omega
    · have : ¬ i < 256 := by omega
      simp [this]
  · obtain ⟨n, rfl⟩ := Int.eq_ofNat_of_zero_le (show 0 ≤ i by omega)
    refine (has_in p n w (by omega)).mono fun e w' ⟨he, hw⟩ => ⟨he.trans (ret_bool ?_), hw⟩
    have h2 : (n : Int) < 256 := by omega
    simp [h2]
set_option maxHeartbeats 400000 in
theorem rhas_neg (p : Nat → Bool) (i : Int) (w : World) (h : i < 0) :
    Calls Tryd.prog 16 #[nodes p, .int .i64 i] w fun e w' => e = .returned (.bool false) ∧ Below w.heap.size w w' := by
  have h0 : decide (0 ≤ i) = false := by simp; omega
  go_enter Tryd.func16, Tryd.ntmps16
  go_wp2_with fail
  go_quiet (fail)
  go_wp2
  go_ret
  exact ⟨rfl, below_drewN ((Below.refl _ _).alloc (Nat.le_refl _) _) _⟩
set_option maxHeartbeats 400000 in
theorem rhas_big (p : Nat → Bool) (i : Int) (w : World) (h : 256 ≤ i) :
    Calls Tryd.prog 16 #[nodes p, .int .i64 i] w fun e w' => e = .returned (.bool false) ∧ Below w.heap.size w w' := by
  have h0 : 0 ≤ i := by omega
  have h1 : decide (i < 256) = false := by simp; omega
  go_enter Tryd.func16, Tryd.ntmps16
  go_wp2_with fail
  go_quiet (fail)
  go_wp2
  go_ret
  exact ⟨rfl, below_drewN ((Below.refl _ _).alloc (Nat.le_refl _) _) _⟩
theorem rhas_bit (p : Nat → Bool) (n : Nat) : ((IntKind.u64.wrap (↑(word p (n / 64)) / 2 ^ (n % 64))).tmod 2 == 1) = p n := by
  have hl := word_lt p (n / 64)
  have h := word_at p n
  rw [Nat.testBit_eq_decide_div_mod_eq] at h
  rw [cast_pow, ← Int.natCast_ediv]
  have h2 : word p (n / 64) / 2 ^ (n % 64) ≤ word p (n / 64) := Nat.div_le_self _ _
  generalize word p (n / 64) / 2 ^ (n % 64) = y at *
  rw [IntWalk.u64_in _ (by omega), Int.tmod_eq_emod_of_nonneg (by omega), ← h, Bool.eq_iff_iff, beq_iff_eq, decide_eq_true_iff]
  omega
set_option maxHeartbeats 400000 in
theorem rhas_in (p : Nat → Bool) (n : Nat) (w : World) (h : n < 256) :
    Calls Tryd.prog 16 #[nodes p, .int .i64 n] w fun e w' => e = .returned (.bool (p n)) ∧ Below w.heap.size w w' := by
  have hc := cells_at p w (n / 64) (by omega)
  have h0 : (0 : Int) ≤ n := by omega
  have h1 : (n : Int) < 256 := by omega
  have hp : (1 : Int) ≤ 2 ^ (n % 64) := by have := Nat.two_pow_pos (n % 64); rw [cast_pow]; omega
  go_enter Tryd.func16, Tryd.ntmps16
  go_wp2_with fail
  go_quiet ((go_at_call 37; exact quiet_same (power_any (n % 64) _ (by omega))))
  go_wp2
  go_ret
  exact ⟨ret_bool (rhas_bit p n), below_drewN ((Below.refl _ _).alloc (Nat.le_refl _) _) _⟩
theorem rhas_any (p : Nat → Bool) (i : Int) (w : World) :
    Calls Tryd.prog 16 #[nodes p, .int .i64 i] w fun e w' => e = .returned (.bool (hasB p i)) ∧ Below w.heap.size w w' := by
  unfold hasB
  by_cases h : i < 0
  · refine (rhas_neg p i w h).mono fun e w' ⟨he, hw⟩ => ⟨he.trans (ret_bool ?_), hw⟩
    simp; omega
  by_cases h' : 256 ≤ i
  · refine (rhas_big p i w h').mono fun e w' ⟨he, hw⟩ => ⟨he.trans (ret_bool ?_), hw⟩
    have : ¬ i < 256 := by omega
    simp [this]
  · obtain ⟨n, rfl⟩ := Int.eq_ofNat_of_zero_le (show 0 ≤ i by omega)
    refine (rhas_in p n w (by omega)).mono fun e w' ⟨he, hw⟩ => ⟨he.trans (ret_bool ?_), hw⟩
    have h2 : (n : Int) < 256 := by omega
    simp [h2]
end Go.Proofs.YtffmcfhanmonkaaDoor
