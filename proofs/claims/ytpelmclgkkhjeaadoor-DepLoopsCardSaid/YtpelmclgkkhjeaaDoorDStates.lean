/-
  The states of jobs, as a map.
-/
import Derived.Test.YtpelmclgkkhjeaaDoorDLaw
import Derived.Carry
namespace Go.Proofs.YtpelmclgkkhjeaaDoor
open Go.RowKit

theorem below_put {w w' : World} {b B : Nat} (h : w.grownBy w' (some b)) (hB : B ≤ b) (hb : b < w.heap.size) : Below B w w' :=
  ⟨h.os, h.tape, h.output, h.size, fun k hk => h.block k (by omega) (by intro e; injection e with e; omega)⟩
/-- A map of jobs' states, of the call's own. -/
def MapPost (w : World) (l : List (Int × Int)) (e : Ending) (w' : World) : Prop := ∃ b, e = .returned (.map (some b)) ∧ w.heap.size ≤ b ∧ SMap w' b (stP l) ∧ Below w.heap.size w w'
/-- The probe's map. -/
theorem lit_map (w : World) : ∃ w1 w2, (Instr.mapUpdate 48 (.map (some w.heap.size)) (.int .i64 3) (.int .i64 3)).run Tryd.prog (w.alloc (.map #[] 0)) = .ok () w1 ∧ (Instr.mapUpdate 48 (.map (some w.heap.size)) (.int .i64 4) (.int .i64 4)).run Tryd.prog w1 = .ok () w2 ∧ SMap w2 w.heap.size [(3, 3), (4, 4)] ∧ Below w.heap.size w w2 := by
  have step : ∀ (W : World) (l : List (Int × Int)) (b : Nat) (k u : Int), SMap W b l → look l k = none → ∃ W', (Instr.mapUpdate 48 (.map (some b)) (.int .i64 k) (.int .i64 u)).run Tryd.prog W = .ok () W' ∧ SMap W' b (l ++ [(k, u)]) ∧ W.grownBy W' (some b) := by
    intro W l b k u h hl
    obtain ⟨es, clock, hb, he⟩ := h
    obtain ⟨j, hj⟩ := findNow_look k es.toList (SV l) 0 he
    rw [look_SV, hl] at hj
    have hf := MapKept.run_findKey (w := W) Tryd.underlying3 hj
    have hc := fun e => MapKept.run_checkKey (P := Tryd.prog) (w := W) Tryd.underlying3 (isKey_int k) e 9999
    refine ⟨ChangeMaps.setBlock W b (.map (es.push ⟨.int .i64 k, .int .i64 u, clock⟩) (clock + 1)), ?_, ⟨_, _, ChangeMaps.heap_setBlock_same hb _, ?_⟩, ⟨rfl, rfl, rfl, by simp [ChangeMaps.setBlock], fun i _ hi => ChangeMaps.heap_setBlock_other hb _ (fun e => hi (by rw [e]))⟩⟩
    · simp [Instr.mapUpdate, run_underlying Tryd.underlying48, MapKept.run_getObj_map hb, hc, hf, MapKept.run_setObj_map _ hb, Result.andThen, ChangeMaps.setBlock]
    · rw [Array.toList_push, List.map_append, he, SV, SV, List.map_append, List.map_append]
      rfl
  obtain ⟨w1, r1, m1, g1⟩ := step _ [] w.heap.size 3 3 (IMap.new w) rfl
  obtain ⟨w2, r2, m2, g2⟩ := step w1 _ w.heap.size 4 4 m1 (by decide)
  have z := World.size_alloc w (.map #[] 0)
  exact ⟨w1, w2, r1, r2, m2, (((Below.refl _ _).alloc (Nat.le_refl _) _).trans (below_put g1 (Nat.le_refl _) (by omega))).trans (below_put g2 (Nat.le_refl _) m1.lt)⟩
end Go.Proofs.YtpelmclgkkhjeaaDoor
