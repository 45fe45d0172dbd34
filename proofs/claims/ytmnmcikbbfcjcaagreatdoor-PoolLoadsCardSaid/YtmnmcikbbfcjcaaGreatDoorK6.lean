/-
  Parts: KParse.
-/
import Derived.Test.YtmnmcikbbfcjcaaGreatDoorK5
set_option linter.unusedSimpArgs false
set_option linter.unusedVariables false
/-
  A text's config.
-/
namespace Go.Proofs.YtmnmcikbbfcjcaaGreatDoor
open Go.RowKit Go.Shelf Vs
attribute [local go_sem] Oper.semAt_some

/-- What Parse answers: a config that reads so, and a fault. -/
def ParseP (w : World) (r : Cfg × Nat × Nat) (e : Ending) (w' : World) : Prop := ∃ v, e = .returned (.tuple #[v, .agg #[.int .i64 (r.2.1 : Int), .int .i64 (r.2.2 : Int)]]) ∧ CR w' v r.1 ∧ Below w.heap.size w w'
theorem cr_none (w : World) : CR w (.agg zeros12.toArray) noCfg :=
  ⟨none, 0, none, 0, none, 0, none, 0, 0, 0, 0, 0, 0, 0, 0, 0, rfl, rfl, ⟨Nat.le_refl _, Nat.zero_le _, SegC.nil _ _ _⟩, ⟨Nat.le_refl _, Nat.zero_le _, SegC.nil _ _ _⟩, ⟨Nat.le_refl _, Nat.zero_le _, SegC.nil _ _ _⟩, ⟨Nat.le_refl _, Nat.zero_le _, SegC.nil _ _ _⟩⟩
theorem parse_no {w W : World} (e k : Nat) (hb : Below w.heap.size w W) : ParseP w (noCfg, e, k) (.returned (.tuple #[.agg zeros12.toArray, .agg #[.int .i64 (e : Int), .int .i64 (k : Int)]])) W := ⟨_, rfl, cr_none _, hb⟩
theorem parse_yes {w W : World} {v : Value} {c : Cfg} (h : CR W v c) (hb : Below w.heap.size w W) : ParseP w (c, 0, 0) (.returned (.tuple #[v, .agg #[.int .i64 0, .int .i64 0]])) W := ⟨_, rfl, h, hb⟩
theorem Box.drew {w : World} {b : Nat} {T : TypeId} {cs : List Value} (h : Box w b T cs) : Box w.drew b T cs := h
theorem keep_rf {w : World} {rc : Nat} {T : TypeId} {cs : List Value} (h : Box w (rc + 1) T cs) (i : Nat) (v : Value) : Box (w.setCell ⟨rc, i, none⟩ v) (rc + 1) T cs := h.other (Nat.succ_ne_self rc) v
theorem set_rf0 {w : World} {b : Nat} {T : TypeId} {x y : Value} (h : Box w b T [x, y]) (v : Value) : Box (w.setCell ⟨b, 0, none⟩ v) b T [v, y] := h.set 0 v
theorem set_rf1 {w : World} {b : Nat} {T : TypeId} {x y : Value} (h : Box w b T [x, y]) (v : Value) : Box (w.setCell ⟨b, 1, none⟩ v) b T [x, v] := h.set 1 v
theorem keep_up {w : World} {rc : Nat} {T : TypeId} {cs : List Value} (h : Box w rc T cs) (i : Nat) (v : Value) : Box (w.setCell ⟨rc + 1, i, none⟩ v) rc T cs := h.other (Nat.ne_of_lt (Nat.lt_succ_self rc)) v
/-- Any results stored. -/
def WG (W : World) (rc : Nat) (v0 v1 v2 v3 v4 v5 v6 v7 v8 v9 v10 v11 x y : Value) : World := ((((((((((((((W.setCell ⟨rc, 0, none⟩ v0).setCell ⟨rc, 1, none⟩ v1).setCell ⟨rc, 2, none⟩ v2).setCell ⟨rc, 3, none⟩ v3).setCell ⟨rc, 4, none⟩ v4).setCell ⟨rc, 5, none⟩ v5).setCell ⟨rc, 6, none⟩ v6).setCell ⟨rc, 7, none⟩ v7).setCell ⟨rc, 8, none⟩ v8).setCell ⟨rc, 9, none⟩ v9).setCell ⟨rc, 10, none⟩ v10).setCell ⟨rc, 11, none⟩ v11).setCell ⟨rc + 1, 0, none⟩ x).setCell ⟨rc + 1, 1, none⟩ y)
theorem wg_rf {W : World} {rc : Nat} {v0 v1 v2 v3 v4 v5 v6 v7 v8 v9 v10 v11 x y : Value} (h : Box W (rc + 1) TFault [.int .i64 0, .int .i64 0]) : Box (WG W rc v0 v1 v2 v3 v4 v5 v6 v7 v8 v9 v10 v11 x y) (rc + 1) TFault [x, y] := by
  unfold WG
  refine set_rf1 (x := x) (y := .int .i64 0) (set_rf0 (x := .int .i64 0) ?_ _) _
  iterate 12 refine keep_rf ?_ _ _
  exact h
theorem wg_below {w W : World} {v0 v1 v2 v3 v4 v5 v6 v7 v8 v9 v10 v11 x y : Value} (h : Below w.heap.size w W) : Below w.heap.size w (WG W w.heap.size v0 v1 v2 v3 v4 v5 v6 v7 v8 v9 v10 v11 x y) := by
  unfold WG
  exact (((((((below8 h (Nat.le_refl _)).setCell (p := ⟨w.heap.size, 8, none⟩) (Nat.le_refl _) _).setCell (p := ⟨w.heap.size, 9, none⟩) (Nat.le_refl _) _).setCell (p := ⟨w.heap.size, 10, none⟩) (Nat.le_refl _) _).setCell (p := ⟨w.heap.size, 11, none⟩) (Nat.le_refl _) _).setCell (p := ⟨w.heap.size + 1, 0, none⟩) (Nat.le_succ _) _).setCell (p := ⟨w.heap.size + 1, 1, none⟩) (Nat.le_succ _) _)
end Go.Proofs.YtmnmcikbbfcjcaaGreatDoor
