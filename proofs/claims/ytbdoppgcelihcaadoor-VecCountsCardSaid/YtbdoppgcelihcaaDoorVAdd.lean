/-
  Add, Sub, Times.
-/
import Derived.Test.YtbdoppgcelihcaaDoorVComb2
namespace Go.Proofs.YtbdoppgcelihcaaDoor
open Go.RowKit

/-- A vector that may be, or the fault. -/
def okV (x y z : Int) : V3 × Int := if right x y z = true then ((x, y, z), 0) else ((0, 0, 0), 5)
def addGo : V3 → List V3 → V3 × Int
  | s, [] => (s, 0)
  | s, v :: r => if right (s.1 + v.1) (s.2.1 + v.2.1) (s.2.2 + v.2.2) = true then addGo (s.1 + v.1, s.2.1 + v.2.1, s.2.2 + v.2.2) r else ((0, 0, 0), 5)
def addV (l : List V3) : V3 × Int := if allR l = true then addGo (0, 0, 0) l else ((0, 0, 0), 1)
def subV (a b : V3) : V3 × Int := if (right a.1 a.2.1 a.2.2 && right b.1 b.2.1 b.2.2) = true then okV (a.1 - b.1) (a.2.1 - b.2.1) (a.2.2 - b.2.2) else ((0, 0, 0), 1)
def timesV (v : V3) (n : Int) : V3 × Int := if right v.1 v.2.1 v.2.2 = true ∧ 0 ≤ n then okV (v.1 * n) (v.2.1 * n) (v.2.2 * n) else ((0, 0, 0), 1)
theorem cres_zero (x y z : Int) : cres x y z 0 0 0 = okV x y z := by
  unfold cres okV; rw [if_neg (fun h => h rfl)]
theorem mul_cres (a b c : Int) : cres (mgot a) (mgot b) (mgot c) (merr a) (merr b) (merr c) = okV a b c := by
  by_cases h1 : a ≤ 9223372036854775807 <;> by_cases h2 : b ≤ 9223372036854775807 <;> by_cases h3 : c ≤ 9223372036854775807
  all_goals
    unfold mgot merr
    simp only [h1, h2, h3, if_true, if_false]
    first
      | exact cres_zero a b c
      | (have hr : right a b c = false := by
           cases hq : right a b c with
           | false => rfl
           | true => have := right_iff.1 hq; omega
         unfold okV
         rw [hr, if_neg (by decide)]
         exact cres_bad (by decide))
theorem okV_cases (x y z : Int) : (okV x y z = ((x, y, z), 0) ∧ right x y z = true) ∨ (okV x y z = ((0, 0, 0), 5) ∧ right x y z = false) := by
  unfold okV
  cases h : right x y z with
  | true => exact .inl ⟨if_pos rfl, rfl⟩
  | false => exact .inr ⟨if_neg (by decide), rfl⟩
theorem VP.ret {w w' : World} {r : V3 × Int} {x y z e : Int} (h : ((x, y, z), e) = r) (b : Below w.heap.size w w') : VP w r (.returned (.tuple #[vec x y z, .int .i64 e])) w' := by subst h; exact ⟨rfl, b⟩

end Go.Proofs.YtbdoppgcelihcaaDoor
