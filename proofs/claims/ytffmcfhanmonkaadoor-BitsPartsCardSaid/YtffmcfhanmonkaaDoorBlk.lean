/-
  A block of memory that holds a set.
-/
import Derived.Test.YtffmcfhanmonkaaDoorHas
import Derived.Deep.RegionWith
import Derived.BigRegion
namespace Go.Proofs.YtffmcfhanmonkaaDoor
open Go.RowKit
theorem zero_word (k : Nat) : word (fun _ => false) k = 0 := (word_eq (x := 0) (by omega) (by simp)).symm
/-- Block b of the world holds the set p, and may be written. -/
def Blk (w : World) (b : Nat) (p : Nat → Bool) : Prop := w.heap[b]? = some (objOf p)
theorem Blk.cell {w : World} {b : Nat} {p : Nat → Bool} (h : Blk w b p) (k : Nat) (hk : k < 4) : w.cell? ⟨b, k, none⟩ = some (.int .u64 (word p k)) := by
  have hk4 : k = 0 ∨ k = 1 ∨ k = 2 ∨ k = 3 := by omega
  unfold Blk at h
  rcases hk4 with rfl | rfl | rfl | rfl <;> simp [World.cell?, h]
theorem Blk.four {w : World} {b : Nat} {p : Nat → Bool} (h : Blk w b p) : w.cell? ⟨b, 0, none⟩ = some (.int .u64 (word p 0)) ∧ w.cell? ⟨b, 1, none⟩ = some (.int .u64 (word p 1)) ∧ w.cell? ⟨b, 2, none⟩ = some (.int .u64 (word p 2)) ∧ w.cell? ⟨b, 3, none⟩ = some (.int .u64 (word p 3)) :=
  ⟨h.cell 0 (by omega), h.cell 1 (by omega), h.cell 2 (by omega), h.cell 3 (by omega)⟩
theorem Blk.free {w : World} {b : Nat} {p : Nat → Bool} (h : Blk w b p) (k : Nat) : w.frozen? ⟨b, k, none⟩ = false := by
  unfold Blk at h
  simp [World.frozen?, h]
theorem Blk.frees {w : World} {b : Nat} {p : Nat → Bool} (h : Blk w b p) : w.frozen? ⟨b, 0, none⟩ = false ∧ w.frozen? ⟨b, 1, none⟩ = false ∧ w.frozen? ⟨b, 2, none⟩ = false ∧ w.frozen? ⟨b, 3, none⟩ = false :=
  ⟨h.free 0, h.free 1, h.free 2, h.free 3⟩
theorem Blk.lt {w : World} {b : Nat} {p : Nat → Bool} (h : Blk w b p) : b < w.heap.size := by
  unfold Blk at h
  by_cases hb : b < w.heap.size
  · exact hb
  · rw [Array.getElem?_eq_none (by omega)] at h; cases h
theorem Blk.below {w w' : World} {b B : Nat} {p : Nat → Bool} (h : Blk w b p) (hb : Below B w w') (hB : b < B) : Blk w' b p := by
  unfold Blk at *
  rw [hb.block b hB]; exact h
theorem Blk.drew {w : World} {b : Nat} {p : Nat → Bool} (h : Blk w b p) : Blk w.drew b p := h
theorem Blk.drewN {w : World} {b : Nat} {p : Nat → Bool} (h : Blk w b p) (n : Nat) : Blk (w.drewN n) b p := h
theorem Blk.new (w : World) (p : Nat → Bool) : Blk (w.alloc (objOf p)) w.heap.size p := by
  show (w.heap.push (objOf p))[w.heap.size]? = _
  simp
theorem Blk.zero (w : World) : Blk (w.alloc (.cells #[.int .u64 0, .int .u64 0, .int .u64 0, .int .u64 0] 26)) w.heap.size fun _ => false := by
  have := Blk.new w fun _ => false
  rw [show objOf (fun _ => false) = .cells #[.int .u64 0, .int .u64 0, .int .u64 0, .int .u64 0] 26 by unfold objOf; rw [zero_word, zero_word, zero_word, zero_word]; rfl] at this
  exact this
theorem Blk.old {w : World} {b : Nat} {p : Nat → Bool} (h : Blk w b p) (o : Obj) : Blk (w.alloc o) b p := by
  have := h.lt
  unfold Blk at *
  rw [Below.heap_alloc _ _ _ this]; exact h
/-- A store into another block. -/
theorem Blk.other {w : World} {b : Nat} {p : Nat → Bool} (h : Blk w b p) {a : Addr} (ha : b ≠ a.block) (v : Value) : Blk (w.setCell a v) b p := by
  unfold Blk at *
  rw [Below.heap_setCell _ _ _ _ ha]; exact h
theorem Blk.store {w : World} {b : Nat} {p q : Nat → Bool} (h : Blk w b p) (k : Nat) (x : Nat) (hk : k < 4) (hx : x = word q k) (ho : ∀ j, j < 4 → j ≠ k → word p j = word q j) :
    Blk (w.setCell ⟨b, k, none⟩ (.int .u64 x)) b q := by
  unfold Blk at *
  subst hx
  have hk4 : k = 0 ∨ k = 1 ∨ k = 2 ∨ k = 3 := by omega
  show (w.heap.modify _ _)[b]? = _
  rw [Array.getElem?_modify, if_pos rfl, h]
  rcases hk4 with rfl | rfl | rfl | rfl
  · simp [ho 1 (by omega) (by omega), ho 2 (by omega) (by omega), ho 3 (by omega) (by omega)]
  · simp [ho 0 (by omega) (by omega), ho 2 (by omega) (by omega), ho 3 (by omega) (by omega)]
  · simp [ho 1 (by omega) (by omega), ho 0 (by omega) (by omega), ho 3 (by omega) (by omega)]
  · simp [ho 1 (by omega) (by omega), ho 2 (by omega) (by omega), ho 0 (by omega) (by omega)]
/-- All four words stored, one behind the other. -/
theorem Blk.stores {w : World} {b : Nat} {p : Nat → Bool} (h : Blk w b p) (q : Nat → Bool) :
    Blk ((((w.setCell ⟨b, 0, none⟩ (.int .u64 (word q 0))).setCell ⟨b, 1, none⟩ (.int .u64 (word q 1))).setCell ⟨b, 2, none⟩ (.int .u64 (word q 2))).setCell ⟨b, 3, none⟩ (.int .u64 (word q 3))) b q := by
  unfold Blk at *
  unfold World.setCell
  simp only [Array.getElem?_modify, if_true, h, Option.map_some, Option.isSome_none, Bool.false_eq_true, if_false]
  rfl
theorem Blk.others {w : World} {b b' : Nat} {p : Nat → Bool} (h : Blk w b p) (hb : b ≠ b') (x0 x1 x2 x3 : Value) :
    Blk ((((w.setCell ⟨b', 0, none⟩ x0).setCell ⟨b', 1, none⟩ x1).setCell ⟨b', 2, none⟩ x2).setCell ⟨b', 3, none⟩ x3) b p :=
  (((h.other hb _).other hb _).other hb _).other hb _
theorem below_stores {B b : Nat} {w w1 : World} (h : Below B w w1) (hb : B ≤ b) (x0 x1 x2 x3 : Value) :
    Below B w ((((w1.setCell ⟨b, 0, none⟩ x0).setCell ⟨b, 1, none⟩ x1).setCell ⟨b, 2, none⟩ x2).setCell ⟨b, 3, none⟩ x3) :=
  (((h.setCell hb _).setCell hb _).setCell hb _).setCell hb _
theorem calls_symm {P : Program} {f : FuncId} {args : Array Value} {w : World} {v : Value}
    (h : Calls P f args w fun e w' => e = .returned v ∧ w = w') : Calls P f args w fun e w'' => e = .returned v ∧ w'' = w :=
  h.mono fun _ _ ⟨he, hm⟩ => ⟨he, hm.symm⟩
/-- A set with one more number. -/
def ins (p : Nat → Bool) (i : Int) : Nat → Bool := fun j => p j || decide ((j : Int) = i)
theorem nodes_congr {p q : Nat → Bool} (h : ∀ j, j < 256 → p j = q j) : nodes p = nodes q := by
  unfold nodes
  rw [word_congr (k := 0) fun j hj => h _ (by omega), word_congr (k := 1) fun j hj => h _ (by omega), word_congr (k := 2) fun j hj => h _ (by omega), word_congr (k := 3) fun j hj => h _ (by omega)]
theorem Blk.congr {w : World} {b : Nat} {p q : Nat → Bool} (h : Blk w b p) (e : ∀ j, j < 256 → p j = q j) : Blk w b q := by
  unfold Blk at *
  have n := nodes_congr e
  simp only [nodes, Value.agg.injEq] at n
  rw [h]
  show some (Obj.cells _ _) = some (Obj.cells _ _)
  rw [n]
end Go.Proofs.YtffmcfhanmonkaaDoor
