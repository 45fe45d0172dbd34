/-
  The table, as it lies in memory; a node in a block; the smallest calls.
-/
import Derived.Test.YtmdebbkmhcfpfaaDoorEMath
import Derived.WalkKit
import Derived.Maps.RangeWalk
import Derived.Deep.QuietTactic
import Derived.BigQuiet
import Derived.Deep.DeepCutAuto
import Derived.Deep.CutBlock
import Derived.Deep.RegionHeld3
namespace Go.Proofs.YtmdebbkmhcfpfaaDoor
open Go.RowKit

abbrev TNd : TypeId := 30
abbrev TRNd : TypeId := 23
def nv (n : N3) : Value := .agg #[.int .i64 n.1, .int .i64 n.2.1, .int .i64 n.2.2]
/-- The table, as the program's text lays it. -/
def TabW (w : World) : Prop := ∀ s e : Nat, s < 8 → e < 12 → w.cell? ⟨0, s * 12 + e, none⟩ = some (.int .i64 (tabN s e))
theorem TabW.lt {w : World} (h : TabW w) : 0 < w.heap.size := by
  have h0 := h 0 0 (by omega) (by omega)
  by_cases hb : 0 < w.heap.size
  · exact hb
  · simp only [World.cell?] at h0
    rw [Array.getElem?_eq_none (by omega)] at h0
    cases h0
theorem TabW.below {w w' : World} (h : TabW w) (hb : Below w.heap.size w w') : TabW w' := fun s e hs he => by
  have h0 := h s e hs he
  have hk := hb.block _ h.lt
  unfold World.cell? at h0 ⊢
  rw [hk]
  exact h0
/-- A node, in a block of its own. -/
def NB (w : World) (b : Nat) (T : TypeId) (n : N3) : Prop := w.heap[b]? = some (.cells #[.int .i64 n.1, .int .i64 n.2.1, .int .i64 n.2.2] T (0, 0))
theorem NB.facts {w : World} {b : Nat} {T : TypeId} {n : N3} (h : NB w b T n) : w.cell? ⟨b, 0, none⟩ = some (.int .i64 n.1) ∧ w.cell? ⟨b, 1, none⟩ = some (.int .i64 n.2.1) ∧ w.cell? ⟨b, 2, none⟩ = some (.int .i64 n.2.2) ∧ w.frozen? ⟨b, 0, none⟩ = false ∧ w.frozen? ⟨b, 1, none⟩ = false ∧ w.frozen? ⟨b, 2, none⟩ = false ∧ b < w.heap.size := by
  unfold NB at h
  exact ⟨by simp [World.cell?, h], by simp [World.cell?, h], by simp [World.cell?, h], by simp [World.frozen?, h], by simp [World.frozen?, h], by simp [World.frozen?, h], lt_of_block h⟩
theorem NB.below {w w' : World} {B b : Nat} {T : TypeId} {n : N3} (h : NB w b T n) (hb : Below B w w') (hB : b < B) : NB w' b T n := (hb.block b hB).trans h
theorem NB.new (w : World) (T : TypeId) (n : N3) : NB (w.alloc (.cells #[.int .i64 n.1, .int .i64 n.2.1, .int .i64 n.2.2] T)) w.heap.size T n := heap_alloc_new w _
theorem NB.alloc {w : World} {b : Nat} {T : TypeId} {n : N3} (h : NB w b T n) (o : Obj) : NB (w.alloc o) b T n := (Below.heap_alloc w o b (lt_of_block h)).trans h
theorem block_set {w : World} {b : Nat} {cs : Array Value} {t : TypeId} (i : Nat) (u : Value) (h : w.heap[b]? = some (.cells cs t (0, 0))) : (w.setCell ⟨b, i, none⟩ u).heap[b]? = some (.cells (cs.setIfInBounds i u) t (0, 0)) := by
  unfold World.setCell
  simp [Array.getElem?_modify, h]
theorem NB.other {w : World} {b c : Nat} {T : TypeId} {n : N3} (h : NB w b T n) (i : Nat) (u : Value) (hne : b ≠ c) : NB (w.setCell ⟨c, i, none⟩ u) b T n := (Below.heap_setCell _ _ _ _ hne).trans h
theorem NB.set0 {w : World} {b : Nat} {T : TypeId} {n : N3} (h : NB w b T n) (x : Int) : NB (w.setCell ⟨b, 0, none⟩ (.int .i64 x)) b T (x, n.2) := block_set 0 (.int .i64 x) h
theorem NB.set1 {w : World} {b : Nat} {T : TypeId} {n : N3} (h : NB w b T n) (x : Int) : NB (w.setCell ⟨b, 1, none⟩ (.int .i64 x)) b T (n.1, x, n.2.2) := block_set 1 (.int .i64 x) h
theorem NB.set2 {w : World} {b : Nat} {T : TypeId} {n : N3} (h : NB w b T n) (x : Int) : NB (w.setCell ⟨b, 2, none⟩ (.int .i64 x)) b T (n.1, n.2.1, x) := block_set 2 (.int .i64 x) h
/-- What a call that gives a truth hands back. -/
def BoolPost (w : World) (b : Bool) (e : Ending) (w' : World) : Prop := e = .returned (.bool b) ∧ Below w.heap.size w w'
theorem isState_any (n : Int) (w : World) : Calls Tryd.prog 20 #[.int .i64 n] w fun e w' => e = .returned (.bool (stOk n)) ∧ w' = w := by
  obtain ⟨b, hb⟩ : ∃ b, stOk n = b := ⟨_, rfl⟩
  rw [hb]
  by_cases h1 : 0 ≤ n
  · by_cases h2 : n ≤ 7
    · have hb : b = true := by rw [← hb]; exact decide_eq_true ⟨h1, h2⟩
      subst hb
      go_enter Tryd.func20, Tryd.ntmps20
      go_wp2
      go_ret
      exact ⟨rfl, rfl⟩
    · have hb : b = false := by rw [← hb]; exact decide_eq_false fun h => h2 h.2
      subst hb
      go_enter Tryd.func20, Tryd.ntmps20
      go_wp2
      go_ret
      exact ⟨rfl, rfl⟩
  · have hb : b = false := by rw [← hb]; exact decide_eq_false fun h => h1 h.1
    subst hb
    go_enter Tryd.func20, Tryd.ntmps20
    go_wp2
    go_ret
    exact ⟨rfl, rfl⟩
theorem isEvent_any (n : Int) (w : World) : Calls Tryd.prog 22 #[.int .i64 n] w fun e w' => e = .returned (.bool (evOk n)) ∧ w' = w := by
  obtain ⟨b, hb⟩ : ∃ b, evOk n = b := ⟨_, rfl⟩
  rw [hb]
  by_cases h1 : 1 ≤ n
  · by_cases h2 : n ≤ 11
    · have hb : b = true := by rw [← hb]; exact decide_eq_true ⟨h1, h2⟩
      subst hb
      go_enter Tryd.func22, Tryd.ntmps22
      go_wp2
      go_ret
      exact ⟨rfl, rfl⟩
    · have hb : b = false := by rw [← hb]; exact decide_eq_false fun h => h2 h.2
      subst hb
      go_enter Tryd.func22, Tryd.ntmps22
      go_wp2
      go_ret
      exact ⟨rfl, rfl⟩
  · have hb : b = false := by rw [← hb]; exact decide_eq_false fun h => h1 h.1
    subst hb
    go_enter Tryd.func22, Tryd.ntmps22
    go_wp2
    go_ret
    exact ⟨rfl, rfl⟩
theorem more_any (t : Int) (w : World) (h0 : 0 ≤ t) : Calls Tryd.prog 23 #[.int .i64 t] w fun e w' => e = .returned (.int .i64 (moreT t)) ∧ w' = w := by
  unfold moreT
  by_cases h : 4611686018427387904 ≤ t
  · rw [if_pos h]
    go_enter Tryd.func23, Tryd.ntmps23
    go_wp2
    go_ret
    exact ⟨rfl, rfl⟩
  · rw [if_neg h]
    go_enter Tryd.func23, Tryd.ntmps23
    go_wp2
    go_ret
    exact ⟨rfl, rfl⟩
end Go.Proofs.YtmdebbkmhcfpfaaDoor
