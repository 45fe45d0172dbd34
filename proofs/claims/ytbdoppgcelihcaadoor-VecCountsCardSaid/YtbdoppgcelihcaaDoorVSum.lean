/-
  Times; Add.
-/
import Derived.Test.YtbdoppgcelihcaaDoorVAdd
namespace Go.Proofs.YtbdoppgcelihcaaDoor
open Go.RowKit

theorem block_set {w : World} {b : Nat} {cs : Array Value} {t : TypeId} (i : Nat) (u : Value) (h : w.heap[b]? = some (.cells cs t (0, 0))) : (w.setCell ⟨b, i, none⟩ u).heap[b]? = some (.cells (cs.setIfInBounds i u) t (0, 0)) := by
  have hlt := lt_of_block h
  have h' : w.heap[b] = .cells cs t (0, 0) := by simpa [Array.getElem?_eq_getElem hlt] using h
  show (w.heap.modify b _)[b]? = _
  rw [Array.getElem?_eq_getElem (by simpa using hlt), Array.getElem_modify_self, h']
  rfl
theorem block_other {w : World} {b c : Nat} {o : Option Obj} (i : Nat) (u : Value) (h : w.heap[b]? = o) (hne : b ≠ c) : (w.setCell ⟨c, i, none⟩ u).heap[b]? = o := (Below.heap_setCell _ _ _ _ hne).trans h
theorem VB.put {w : World} {b : Nat} {x y z : Int} (h : VB w b x y z) (p q r : Int) : VB (((w.setCell ⟨b, 0, none⟩ (.int .i64 p)).setCell ⟨b, 1, none⟩ (.int .i64 q)).setCell ⟨b, 2, none⟩ (.int .i64 r)) b p q r := block_set 2 _ (block_set 1 _ (block_set 0 _ h))
theorem VB.other {w : World} {b c : Nat} {x y z : Int} (h : VB w b x y z) (hne : b ≠ c) (p q r : Value) : VB (((w.setCell ⟨c, 0, none⟩ p).setCell ⟨c, 1, none⟩ q).setCell ⟨c, 2, none⟩ r) b x y z := block_other 2 _ (block_other 1 _ (block_other 0 _ h hne) hne) hne
theorem box2v (a b c : Int) (w : World) : let W := (w.alloc (.cells #[.int .i64 a, .int .i64 b, .int .i64 c] 37)).alloc (.cells #[.int .i64 0, .int .i64 0, .int .i64 0] 37)
    Grew w W ∧ W.heap.size = w.heap.size + 2 ∧ VB W w.heap.size a b c ∧ VB W (w.heap.size + 1) 0 0 0 := by
  intro W
  refine ⟨((Grew.refl w).alloc _).alloc _, by simp [W], ?_, ?_⟩
  · exact (Below.heap_alloc _ _ w.heap.size (by simp)).trans (heap_alloc_new w _)
  · have h := heap_alloc_new (w.alloc (.cells #[.int .i64 a, .int .i64 b, .int .i64 c] 37)) (.cells #[.int .i64 0, .int .i64 0, .int .i64 0] 37)
    rw [World.size_alloc] at h
    exact h
theorem addGo_drop (s : V3) (l : List V3) (k : Nat) (h : k < l.length) : addGo s (l.drop k) = if right (s.1 + l[k].1) (s.2.1 + l[k].2.1) (s.2.2 + l[k].2.2) = true then addGo (s.1 + l[k].1, s.2.1 + l[k].2.1, s.2.2 + l[k].2.2) (l.drop (k + 1)) else ((0, 0, 0), 5) := by
  rw [List.drop_eq_getElem_cons h]; rfl
theorem allR_get {l : List V3} (h : allR l = true) (k : Nat) (hk : k < l.length) : right l[k].1 l[k].2.1 l[k].2.2 = true := List.all_eq_true.1 h _ (List.getElem_mem hk)
end Go.Proofs.YtbdoppgcelihcaaDoor
