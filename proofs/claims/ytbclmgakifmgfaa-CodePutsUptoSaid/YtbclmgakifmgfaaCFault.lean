/-
  What a reader tells of itself: its fault, whether it stopped, how much is left, the fault of bytes that are missing.
-/
import Derived.Test.YtbclmgakifmgfaaCBase
import Derived.BigQuiet
import Derived.Deep.QuietTactic
namespace Go.Proofs.Ytbclmgakifmgfaa
open Go.RowKit

set_option maxHeartbeats 400000 in
theorem Fault_any (p : Nat) (v : Value) (at_ why fat : Int) (w : World) (h : Rd w p v at_ why fat) :
    Calls Try.prog 23 #[.pointer (some ⟨p, 0, none⟩)] w fun e w' => e = .returned (.agg #[.int .i64 why, .int .i64 fat]) ∧ Below w.heap.size w w' := by
  obtain ⟨c0, c1, c2, c3, hp⟩ := h.facts
  go_enter Try.func23, Try.ntmps23
  go_wp2
  exact bodyPost_ret (v := .agg #[.int .i64 why, .int .i64 fat]) (by simp [results, Try.results23, go_sem]) rfl ⟨rfl, (Below.refl _ _).alloc (Nat.le_refl _) _⟩
set_option maxHeartbeats 400000 in
theorem Fault_nil (w : World) :
    Calls Try.prog 23 #[.pointer none] w fun e w' => e = .returned (.agg #[.int .i64 4, .int .i64 0]) ∧ Below w.heap.size w w' := by
  go_enter Try.func23, Try.ntmps23
  go_wp2
  exact bodyPost_ret (v := .agg #[.int .i64 4, .int .i64 0]) (by simp [results, Try.results23, go_sem]) rfl ⟨rfl, (Below.refl _ _).alloc (Nat.le_refl _) _⟩
theorem fault_why (why fat : Int) (w : World) : (Instr.field 47 (.agg #[.int .i64 why, .int .i64 fat]) 0).run Try.prog w = .ok (.int .i64 why) w := by kernel_rfl
set_option maxHeartbeats 400000 in
theorem stopped_yes (a : Option Addr) (why fat : Int) (w : World) (hw : ¬ why = 0) (f : Calls Try.prog 23 #[.pointer a] w fun e w' => e = .returned (.agg #[.int .i64 why, .int .i64 fat]) ∧ Below w.heap.size w w') :
    Calls Try.prog 28 #[.pointer a] w fun e w' => e = .returned (.bool true) ∧ Below w.heap.size w w' := by
  have hfd := fault_why why fat
  have hb : (why != 0) = true := by simpa using hw
  go_enter Try.func28, Try.ntmps28
  go_wp2_with (go_at_call 23; with_reducible refine f.mono ?_; rintro e w1 ⟨rfl, b1⟩)
  go_ret
  exact ⟨rfl, b1⟩
set_option maxHeartbeats 400000 in
theorem stopped_no (p : Nat) (v : Value) (at_ fat : Int) (w : World) (h : Rd w p v at_ 0 fat) :
    Calls Try.prog 28 #[.pointer (some ⟨p, 0, none⟩)] w fun e w' => e = .returned (.bool false) ∧ Below w.heap.size w w' := by
  have f := Fault_any p v at_ 0 fat w h
  have hfd := fault_why 0 fat
  clear h
  go_enter Try.func28, Try.ntmps28
  go_wp2_with (go_at_call 23; with_reducible refine f.mono ?_; rintro e w1 ⟨rfl, b1⟩)
  go_ret
  exact ⟨rfl, b1⟩
set_option maxHeartbeats 400000 in
theorem Left_any (p n cap : Nat) (A : Option Addr) (at_ : Nat) (why fat : Int) (w : World) (h : Rd w p (.slice A n cap) at_ why fat) (hn : n ≤ 140737488355328) (ha : at_ ≤ n) :
    Calls Try.prog 22 #[.pointer (some ⟨p, 0, none⟩)] w fun e w' => e = .returned (.int .i64 ((n - at_ : Nat) : Int)) ∧ ∃ q, w' = w.drewN q := by
  obtain ⟨c0, c1, c2, c3, hp⟩ := h.facts
  have e1 : ((n - at_ : Nat) : Int) = (n : Int) - at_ := by omega
  have e2 : IntKind.i64.wrap ((n : Int) - at_) = (n : Int) - at_ := IntWalk.i64_in _ (by omega)
  rw [e1]
  clear e1
  go_enter Try.func22, Try.ntmps22
  go_wp2_with fail
  go_quiet (fail)
  go_wp2
  go_ret
  exact ⟨rfl, _, rfl⟩
theorem Left_nil (w : World) :
    Calls Try.prog 22 #[.pointer none] w fun e w' => e = .returned (.int .i64 0) ∧ w = w' := by
  go_enter Try.func22, Try.ntmps22
  go_wp2
  go_ret
  exact ⟨rfl, rfl⟩
set_option maxHeartbeats 400000 in
theorem missing_any (p n cap : Nat) (A : Option Addr) (at_ why fat : Int) (w : World) (h : Rd w p (.slice A n cap) at_ why fat) :
    Calls Try.prog 29 #[.pointer (some ⟨p, 0, none⟩)] w fun e w' => e = .returned (.agg #[.int .i64 4, .int .i64 n]) ∧ Below w.heap.size w w' := by
  obtain ⟨c0, c1, c2, c3, hp⟩ := h.facts
  go_enter Try.func29, Try.ntmps29
  go_wp2
  exact bodyPost_ret (v := .agg #[.int .i64 4, .int .i64 n]) (by simp [results, Try.results29, go_sem]) rfl ⟨rfl, (Below.refl _ _).alloc (Nat.le_refl _) _⟩
end Go.Proofs.Ytbclmgakifmgfaa
