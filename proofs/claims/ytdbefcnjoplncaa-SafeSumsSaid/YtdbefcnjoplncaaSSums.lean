/-
  SafeSums's walk: the sum of any numbers, and any number between any others, is the document's, or refused.
-/
import Derived.Test.YtdbefcnjoplncaaSSum
import Derived.BigQuiet
namespace Go.Proofs.Ytdbefcnjoplncaa
open Go.RowKit

theorem quiet_same {P : Program} {f : FuncId} {args : Array Value} {w : World} {n : Nat} {v : Value}
    (h : Calls P f args (w.drewN n) fun e w' => e = .returned v ∧ w.drewN n = w') : Calls P f args (w.drewN n) fun e w'' => e = .returned v ∧ ∃ m, w'' = w.drewN m :=
  h.mono fun _ _ ⟨he, hm⟩ => ⟨he, n, hm.symm⟩

set_option maxRecDepth 100000 in
set_option maxHeartbeats 2000000 in
theorem safeSums_walk (v : Value) (l : List Int) (x y z : Int) (w : World) (h : Reads w v l) (hl : l.length ≤ 9223372036854775807) (hf : ∀ x ∈ l, Fits x) :
    Calls Try.prog 4 #[v, .agg #[.int .i64 x, .int .i64 y, .int .i64 z]] w fun e w' => e = .returned (.bool true) ∧ Below w.heap.size w w' := by
  have h1 : Reads (w.alloc (.cells #[.int .i64 x, .int .i64 y, .int .i64 z] 31)) v l := by
    refine h.imp id ?_
    rintro ⟨b, off, cap, e, h1, h2⟩
    exact ⟨b, off, cap, e, by rw [World.size_alloc]; omega, fun k x hx => (((Below.refl w.heap.size w).alloc (Nat.le_refl _) _).cell (by exact h1)).trans (h2 k x hx)⟩
  have c1 := Sum_any v l _ h1 hl hf
  have c2 := rSum_any v l _ h1 hl hf
  have hb := (Below.refl w.heap.size w).alloc (Nat.le_refl _) (.cells #[.int .i64 x, .int .i64 y, .int .i64 z] 31)
  replace hb := hid hb
  clear h h1 hf
  generalize sumGot l = s at *
  generalize sumErr l = t at *
  go_enter Try.func4, Try.ntmps4
  go_wp2_with (first
    | (go_at_call 18; refine c1.mono ?_; rintro e w' ⟨rfl, rfl⟩)
    | (go_at_call 19; refine c2.mono ?_; rintro e w' ⟨rfl, rfl⟩)
    | fail)
  go_quiet (first
    | (go_at_call 20; exact quiet_same (Clamp_any x y z _))
    | (go_at_call 21; exact quiet_same (rClamp_any x y z _))
    | (go_at_call 17; exact Calls.quiet_of (alive_any _)))
  go_wp2
  go_ret
  exact ⟨rfl, below_drewN hb.out _⟩
end Go.Proofs.Ytdbefcnjoplncaa
