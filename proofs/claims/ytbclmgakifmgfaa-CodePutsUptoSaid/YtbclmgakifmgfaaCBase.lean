/-
  A reader and a writer in memory; what a call leaves as it was.
-/
import Derived.Test.YtbclmgakifmgfaaFApp
import Derived.Test.YtbclmgakifmgfaaCMath
import Derived.OneCell
import Derived.Lib.AppendStr
namespace Go.Proofs.Ytbclmgakifmgfaa
open Go.RowKit

/-- A reader: its bytes' slice, its place, its fault. -/
def Rd (w : World) (p : Nat) (v : Value) (at_ why fat : Int) : Prop := w.heap[p]? = some (.cells #[v, .int .i64 at_, .int .i64 why, .int .i64 fat] 60 (0, 0))
section
variable {w : World} {p : Nat} {v : Value} {at_ why fat : Int}
theorem Rd.lt (h : Rd w p v at_ why fat) : p < w.heap.size := lt_of_block h
theorem Rd.c0 (h : Rd w p v at_ why fat) : w.cell? ⟨p, 0, none⟩ = some v := by unfold Rd at h; simp [World.cell?, h]
theorem Rd.c1 (h : Rd w p v at_ why fat) : w.cell? ⟨p, 1, none⟩ = some (.int .i64 at_) := by unfold Rd at h; simp [World.cell?, h]
theorem Rd.c2 (h : Rd w p v at_ why fat) : w.cell? ⟨p, 2, none⟩ = some (.int .i64 why) := by unfold Rd at h; simp [World.cell?, h]
theorem Rd.c3 (h : Rd w p v at_ why fat) : w.cell? ⟨p, 3, none⟩ = some (.int .i64 fat) := by unfold Rd at h; simp [World.cell?, h]
theorem Rd.f1 (h : Rd w p v at_ why fat) : w.frozen? ⟨p, 1, none⟩ = false := by unfold Rd at h; simp [World.frozen?, h]
theorem Rd.f2 (h : Rd w p v at_ why fat) : w.frozen? ⟨p, 2, none⟩ = false := by unfold Rd at h; simp [World.frozen?, h]
theorem Rd.f3 (h : Rd w p v at_ why fat) : w.frozen? ⟨p, 3, none⟩ = false := by unfold Rd at h; simp [World.frozen?, h]
theorem Rd.facts (h : Rd w p v at_ why fat) : w.cell? ⟨p, 0, none⟩ = some v ∧ w.cell? ⟨p, 1, none⟩ = some (.int .i64 at_) ∧ w.cell? ⟨p, 2, none⟩ = some (.int .i64 why) ∧ w.cell? ⟨p, 3, none⟩ = some (.int .i64 fat) ∧ p < w.heap.size := ⟨h.c0, h.c1, h.c2, h.c3, h.lt⟩
theorem Rd.below {w' : World} (h : Rd w p v at_ why fat) (hb : Below w.heap.size w w') : Rd w' p v at_ why fat := (hb.block p h.lt).trans h
theorem Rd.alloc (h : Rd w p v at_ why fat) (o : Obj) : Rd (w.alloc o) p v at_ why fat := (Below.heap_alloc w o p h.lt).trans h
theorem block_set {b : Nat} {cs : Array Value} {t : TypeId} (i : Nat) (u : Value) (h : w.heap[b]? = some (.cells cs t (0, 0))) : (w.setCell ⟨b, i, none⟩ u).heap[b]? = some (.cells (cs.setIfInBounds i u) t (0, 0)) := by
  have hlt := lt_of_block h
  have h' : w.heap[b] = .cells cs t (0, 0) := by simpa [Array.getElem?_eq_getElem hlt] using h
  show (w.heap.modify b _)[b]? = _
  rw [Array.getElem?_eq_getElem (by simpa using hlt), Array.getElem_modify_self, h']
  rfl
theorem Rd.set1 (h : Rd w p v at_ why fat) (n : Int) : Rd (w.setCell ⟨p, 1, none⟩ (.int .i64 n)) p v n why fat := block_set 1 _ h
theorem Rd.set2 (h : Rd w p v at_ why fat) (n : Int) : Rd (w.setCell ⟨p, 2, none⟩ (.int .i64 n)) p v at_ n fat := block_set 2 _ h
theorem Rd.set3 (h : Rd w p v at_ why fat) (n : Int) : Rd (w.setCell ⟨p, 3, none⟩ (.int .i64 n)) p v at_ why n := block_set 3 _ h
end
/-- A call that turns block p alone, of those that were there, and of p not the first cell. -/
structure Turns (w w' : World) (p : Nat) : Prop where
  os : w'.os = w.os
  tape : w'.tape = w.tape
  output : w'.output = w.output
  size : w.heap.size ≤ w'.heap.size
  block : ∀ k, k < w.heap.size → some k ≠ some p → w'.heap[k]? = w.heap[k]?
  head : p < w.heap.size → w'.cell? ⟨p, 0, none⟩ = w.cell? ⟨p, 0, none⟩
theorem cell_setCell_off (w : World) (b i j : Nat) (u : Value) (h : i ≠ j) : (w.setCell ⟨b, i, none⟩ u).cell? ⟨b, j, none⟩ = w.cell? ⟨b, j, none⟩ := by
  simp only [World.cell?, World.setCell, Array.getElem?_modify, if_true]
  cases w.heap[b]? with
  | none => rfl
  | some o =>
    cases o <;> simp [Array.getElem?_setIfInBounds_ne h]
section
variable {w w' w'' : World} {p : Nat}
theorem Turns.refl (w : World) (p : Nat) : Turns w w p := ⟨rfl, rfl, rfl, Nat.le_refl _, fun _ _ _ => rfl, fun _ => rfl⟩
theorem Turns.trans (h : Turns w w' p) (k : Turns w' w'' p) : Turns w w'' p :=
  ⟨k.os.trans h.os, k.tape.trans h.tape, k.output.trans h.output, Nat.le_trans h.size k.size, fun i hi hne => (k.block i (Nat.lt_of_lt_of_le hi h.size) hne).trans (h.block i hi hne), fun hp => (k.head (Nat.lt_of_lt_of_le hp h.size)).trans (h.head hp)⟩
theorem Turns.ofBelow (h : Below w.heap.size w w') (p : Nat) : Turns w w' p := ⟨h.os, h.tape, h.output, h.size, fun k hk _ => h.block k hk, fun hp => h.cell (p := ⟨p, 0, none⟩) hp⟩
theorem Turns.set (h : Turns w w' p) (i : Nat) (u : Value) (hi : i ≠ 0 := by decide) : Turns w (w'.setCell ⟨p, i, none⟩ u) p :=
  h.trans ⟨rfl, rfl, rfl, by simp [World.setCell], fun k hk hne => Below.heap_setCell _ _ _ _ (fun e => hne (by rw [e])), fun _ => cell_setCell_off _ _ _ _ _ hi⟩
theorem Turns.gb (h : Turns w w' p) : w.grownBy w' (some p) := ⟨h.os, h.tape, h.output, h.size, h.block⟩
theorem Turns.below (h : Turns w w' p) {B : Nat} (hp : B ≤ p) (hB : B ≤ w.heap.size) : Below B w w' := ⟨h.os, h.tape, h.output, h.size, fun k hk => h.block k (by omega) (fun e => by injection e with e; omega)⟩
end
end Go.Proofs.Ytbclmgakifmgfaa
