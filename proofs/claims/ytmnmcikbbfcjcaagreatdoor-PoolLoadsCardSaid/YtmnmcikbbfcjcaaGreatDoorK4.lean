/-
  Parts: KRPart.
-/
import Derived.Test.YtmnmcikbbfcjcaaGreatDoorK3
import Derived.Deep.RegionWith
set_option linter.unusedSimpArgs false
set_option linter.unusedVariables false
/-
  A line that tells a partition.
-/
namespace Go.Proofs.YtmnmcikbbfcjcaaGreatDoor
open Go.RowKit Go.Shelf Vs

theorem partP_few {c : Cfg} {ws : List Str} (h : ws.length < 2) : partP c ws = .error 3 := by
  match ws, h with
  | [], _ => rfl
  | [_], _ => rfl
  | _ :: _ :: _, h => simp at h; omega
theorem partP_name {c : Cfg} {n l : Str} {os : List Str} (h : isNameP n = false) : partP c (n :: l :: os) = .error 3 := by
  unfold partP
  dsimp only
  rw [h]
theorem partP_opts {c : Cfg} {n l : Str} {os : List Str} (h : optsP partS os [] (untold partS) = none) : partP c (n :: l :: os) = .error 3 := by
  unfold partP
  dsimp only
  rw [h]
  cases isNameP n <;> rfl
theorem partP_ok {c : Cfg} {n l : Str} {os : List Str} {r : List Int} (h1 : isNameP n = true) (h : optsP partS os [] (untold partS) = some r) : partP c (n :: l :: os) = if (setOf c l).2 ≠ 0 then .error (setOf c l).2 else if n ∈ c.parts.map (·.name) then .error 7 else if 16 < c.parts.length + 1 then .error 5 else if partWrong (partOf n (setOf c l).1 r) = true then .error 12 else .ok { c with parts := c.parts ++ [partOf n (setOf c l).1 r] } := by
  unfold partP
  dsimp only
  rw [h, h1]
abbrev TParts : TypeId := 37
theorem part_one (p : PartC) : ∀ u ∈ partV p, u.oneCell' = true := by
  intro u hu
  simp [partV] at hu
  rcases hu with rfl | rfl | rfl | rfl | rfl | rfl | rfl | rfl <;> rfl
theorem PVs_app (l : List PartC) (q : PartC) : PVs (l ++ [q]) = PVs l ++ partV q := by simp [PVs, List.flatMap_append]
/-- Behind the first call: where the nodes lie. -/
def NodesAt (w : World) (x0 x1 x2 x3 : Int) (s5 : Value) (W : World) : Prop := ∃ bn, s5 = .pointer (some ⟨bn, 0, none⟩) ∧ Box W bn TNodes [.int .u64 x0, .int .u64 x1, .int .u64 x2, .int .u64 x3] ∧ w.heap.size ≤ bn ∧ Below w.heap.size w W
theorem na_new {w w1 : World} {x0 x1 x2 x3 : Int} (b1 : Below w.heap.size w w1) : NodesAt w x0 x1 x2 x3 (.pointer (some ⟨w1.heap.size, 0, none⟩)) (w1.alloc (.cells #[.int .u64 x0, .int .u64 x1, .int .u64 x2, .int .u64 x3] TNodes)) :=
  ⟨_, rfl, Box.new w1 TNodes [.int .u64 x0, .int .u64 x1, .int .u64 x2, .int .u64 x3], b1.size, b1.alloc b1.size _⟩
theorem na_set {w w1 : World} {x0 x1 x2 x3 : Int} (b1 : Below (w.alloc (.cells #[.int .u64 0, .int .u64 0, .int .u64 0, .int .u64 0] TNodes)).heap.size (w.alloc (.cells #[.int .u64 0, .int .u64 0, .int .u64 0, .int .u64 0] TNodes)) w1) :
    NodesAt w x0 x1 x2 x3 (.pointer (some ⟨w.heap.size, 0, none⟩)) ((((w1.setCell ⟨w.heap.size, 0, none⟩ (.int .u64 x0)).setCell ⟨w.heap.size, 1, none⟩ (.int .u64 x1)).setCell ⟨w.heap.size, 2, none⟩ (.int .u64 x2)).setCell ⟨w.heap.size, 3, none⟩ (.int .u64 x3)) := by
  have kz : Box w1 w.heap.size TNodes [.int .u64 0, .int .u64 0, .int .u64 0, .int .u64 0] := Box.below (Box.new w TNodes [.int .u64 0, .int .u64 0, .int .u64 0, .int .u64 0]) b1 (by simp)
  have hb : Below w.heap.size w w1 := ((Below.refl w.heap.size w).alloc (Nat.le_refl _) _).trans (b1.mono (by simp))
  exact ⟨_, rfl, (((kz.set 0 _).set 1 _).set 2 _).set 3 _, Nat.le_refl _, below4 hb (Nat.le_refl _)⟩
end Go.Proofs.YtmnmcikbbfcjcaaGreatDoor
