/-
  Parts: QKindL QKinds QParse.
-/
import Derived.Test.YtjpihophigjbpaaGreatDoorQ5
import Derived.Test.YtjpihophigjbpaaGreatDoorK1
set_option linter.unusedSimpArgs false
set_option linter.unusedVariables false
/-
  Commands without further words.
-/
namespace Go.Proofs.YtjpihophigjbpaaGreatDoor
open Go.RowKit Go.Shelf Vs

set_option maxRecDepth 100000 in
set_option maxHeartbeats 8000000 in
theorem read_8_yes (X0 : Nat → Prop) (A : Option Addr) (cap : Nat) (ws : List Str) (w : World) (hn : ws = []) :
    Calls Tryz.prog 17 #[.int .i64 8, .slice A ws.length cap] w (ReadP X0 (some { noCmd with kind := 8 }) w) := by
  obtain ⟨q0, g0⟩ := start_cmd w
  obtain ⟨⟨k0, k1, k2, k3, k4, k5, k6, k7, k8, k9, k10, k11, k12, k13, k14, k15, k16⟩, ⟨f0, f1, f2, f3, f4, f5, f6, f7, f8, f9, f10, f11, f12, f13, f14, f15, f16⟩, z0⟩ := Box.seventeen q0
  subst hn
  replace q0 := fhid q0
  replace g0 := fhid g0
  go_enter Tryz.func17, Tryz.ntmps17
  go_upto_region 1 with fail
  generalize w.alloc _ = w0 at *
  go_wp2_with fail
  refine ret_cell4 (c := { noCmd with kind := 8 }) (vi := .slice none 0 0) (va := .slice none 0 0) (ok := true) rfl rfl rfl rfl (Box.over17 q0.out _ _ _ _ _ _ _ _ _ _ _ _ _ _ _ _ _) ?_
  exact ⟨below17 g0.out (Nat.le_refl _) _ _ _ _ _ _ _ _ _ _ _ _ _ _ _ _ _, { noCmd with kind := 8 }, _, _, rfl, HasI.nil, HasA.nil, fun c' h => by injection h⟩
set_option maxRecDepth 100000 in
set_option maxHeartbeats 8000000 in
theorem read_8_no (X0 : Nat → Prop) (A : Option Addr) (cap : Nat) (ws : List Str) (w : World) (hn : ¬ ws = []) :
    Calls Tryz.prog 17 #[.int .i64 8, .slice A ws.length cap] w (ReadP X0 none w) := by
  obtain ⟨q0, g0⟩ := start_cmd w
  obtain ⟨⟨k0, k1, k2, k3, k4, k5, k6, k7, k8, k9, k10, k11, k12, k13, k14, k15, k16⟩, ⟨f0, f1, f2, f3, f4, f5, f6, f7, f8, f9, f10, f11, f12, f13, f14, f15, f16⟩, z0⟩ := Box.seventeen q0
  have hl : ((ws.length : Int) == 0) = false := by simpa using hn
  have hl2 : ¬ (ws.length : Int) = 0 := by simpa using hn
  replace q0 := fhid q0
  replace g0 := fhid g0
  go_enter Tryz.func17, Tryz.ntmps17
  go_upto_region 1 with fail
  generalize w.alloc _ = w0 at *
  go_wp2_with fail
  refine ret_cell4 (c := { noCmd with kind := 8 }) (vi := .slice none 0 0) (va := .slice none 0 0) (ok := false) rfl rfl rfl rfl (Box.over17 q0.out _ _ _ _ _ _ _ _ _ _ _ _ _ _ _ _ _) ?_
  exact ⟨below17 g0.out (Nat.le_refl _) _ _ _ _ _ _ _ _ _ _ _ _ _ _ _ _ _, { noCmd with kind := 8 }, _, _, rfl, HasI.nil, HasA.nil, fun c' h => by cases h⟩
set_option maxRecDepth 100000 in
set_option maxHeartbeats 8000000 in
theorem read_9_yes (X0 : Nat → Prop) (A : Option Addr) (cap : Nat) (ws : List Str) (w : World) (hn : ws = []) :
    Calls Tryz.prog 17 #[.int .i64 9, .slice A ws.length cap] w (ReadP X0 (some { noCmd with kind := 9 }) w) := by
  obtain ⟨q0, g0⟩ := start_cmd w
  obtain ⟨⟨k0, k1, k2, k3, k4, k5, k6, k7, k8, k9, k10, k11, k12, k13, k14, k15, k16⟩, ⟨f0, f1, f2, f3, f4, f5, f6, f7, f8, f9, f10, f11, f12, f13, f14, f15, f16⟩, z0⟩ := Box.seventeen q0
  subst hn
  replace q0 := fhid q0
  replace g0 := fhid g0
  go_enter Tryz.func17, Tryz.ntmps17
  go_upto_region 1 with fail
  generalize w.alloc _ = w0 at *
  go_wp2_with fail
  refine ret_cell4 (c := { noCmd with kind := 9 }) (vi := .slice none 0 0) (va := .slice none 0 0) (ok := true) rfl rfl rfl rfl (Box.over17 q0.out _ _ _ _ _ _ _ _ _ _ _ _ _ _ _ _ _) ?_
  exact ⟨below17 g0.out (Nat.le_refl _) _ _ _ _ _ _ _ _ _ _ _ _ _ _ _ _ _, { noCmd with kind := 9 }, _, _, rfl, HasI.nil, HasA.nil, fun c' h => by injection h⟩
set_option maxRecDepth 100000 in
set_option maxHeartbeats 8000000 in
theorem read_9_no (X0 : Nat → Prop) (A : Option Addr) (cap : Nat) (ws : List Str) (w : World) (hn : ¬ ws = []) :
    Calls Tryz.prog 17 #[.int .i64 9, .slice A ws.length cap] w (ReadP X0 none w) := by
  obtain ⟨q0, g0⟩ := start_cmd w
  obtain ⟨⟨k0, k1, k2, k3, k4, k5, k6, k7, k8, k9, k10, k11, k12, k13, k14, k15, k16⟩, ⟨f0, f1, f2, f3, f4, f5, f6, f7, f8, f9, f10, f11, f12, f13, f14, f15, f16⟩, z0⟩ := Box.seventeen q0
  have hl : ((ws.length : Int) == 0) = false := by simpa using hn
  have hl2 : ¬ (ws.length : Int) = 0 := by simpa using hn
  replace q0 := fhid q0
  replace g0 := fhid g0
  go_enter Tryz.func17, Tryz.ntmps17
  go_upto_region 1 with fail
  generalize w.alloc _ = w0 at *
  go_wp2_with fail
  refine ret_cell4 (c := { noCmd with kind := 9 }) (vi := .slice none 0 0) (va := .slice none 0 0) (ok := false) rfl rfl rfl rfl (Box.over17 q0.out _ _ _ _ _ _ _ _ _ _ _ _ _ _ _ _ _) ?_
  exact ⟨below17 g0.out (Nat.le_refl _) _ _ _ _ _ _ _ _ _ _ _ _ _ _ _ _ _, { noCmd with kind := 9 }, _, _, rfl, HasI.nil, HasA.nil, fun c' h => by cases h⟩
set_option maxRecDepth 100000 in
set_option maxHeartbeats 8000000 in
theorem read_10_yes (X0 : Nat → Prop) (A : Option Addr) (cap : Nat) (ws : List Str) (w : World) (hn : ws = []) :
    Calls Tryz.prog 17 #[.int .i64 10, .slice A ws.length cap] w (ReadP X0 (some { noCmd with kind := 10 }) w) := by
  obtain ⟨q0, g0⟩ := start_cmd w
  obtain ⟨⟨k0, k1, k2, k3, k4, k5, k6, k7, k8, k9, k10, k11, k12, k13, k14, k15, k16⟩, ⟨f0, f1, f2, f3, f4, f5, f6, f7, f8, f9, f10, f11, f12, f13, f14, f15, f16⟩, z0⟩ := Box.seventeen q0
  subst hn
  replace q0 := fhid q0
  replace g0 := fhid g0
  go_enter Tryz.func17, Tryz.ntmps17
  go_upto_region 1 with fail
  generalize w.alloc _ = w0 at *
  go_wp2_with fail
  refine ret_cell4 (c := { noCmd with kind := 10 }) (vi := .slice none 0 0) (va := .slice none 0 0) (ok := true) rfl rfl rfl rfl (Box.over17 q0.out _ _ _ _ _ _ _ _ _ _ _ _ _ _ _ _ _) ?_
  exact ⟨below17 g0.out (Nat.le_refl _) _ _ _ _ _ _ _ _ _ _ _ _ _ _ _ _ _, { noCmd with kind := 10 }, _, _, rfl, HasI.nil, HasA.nil, fun c' h => by injection h⟩
set_option maxRecDepth 100000 in
set_option maxHeartbeats 8000000 in
theorem read_10_no (X0 : Nat → Prop) (A : Option Addr) (cap : Nat) (ws : List Str) (w : World) (hn : ¬ ws = []) :
    Calls Tryz.prog 17 #[.int .i64 10, .slice A ws.length cap] w (ReadP X0 none w) := by
  obtain ⟨q0, g0⟩ := start_cmd w
  obtain ⟨⟨k0, k1, k2, k3, k4, k5, k6, k7, k8, k9, k10, k11, k12, k13, k14, k15, k16⟩, ⟨f0, f1, f2, f3, f4, f5, f6, f7, f8, f9, f10, f11, f12, f13, f14, f15, f16⟩, z0⟩ := Box.seventeen q0
  have hl : ((ws.length : Int) == 0) = false := by simpa using hn
  have hl2 : ¬ (ws.length : Int) = 0 := by simpa using hn
  replace q0 := fhid q0
  replace g0 := fhid g0
  go_enter Tryz.func17, Tryz.ntmps17
  go_upto_region 1 with fail
  generalize w.alloc _ = w0 at *
  go_wp2_with fail
  refine ret_cell4 (c := { noCmd with kind := 10 }) (vi := .slice none 0 0) (va := .slice none 0 0) (ok := false) rfl rfl rfl rfl (Box.over17 q0.out _ _ _ _ _ _ _ _ _ _ _ _ _ _ _ _ _) ?_
  exact ⟨below17 g0.out (Nat.le_refl _) _ _ _ _ _ _ _ _ _ _ _ _ _ _ _ _ _, { noCmd with kind := 10 }, _, _, rfl, HasI.nil, HasA.nil, fun c' h => by cases h⟩
end Go.Proofs.YtjpihophigjbpaaGreatDoor
/-
  A command's further words, by its kind.
-/
namespace Go.Proofs.YtjpihophigjbpaaGreatDoor
open Go.RowKit Go.Shelf Vs

theorem read_any (X0 : Nat → Prop) (k : Int) (A : Option Addr) (cap : Nat) (ws : List Str) (w : World) (hw : Env w) (hA : Strs w w.heap.size A ws) (hL : ∀ x ∈ ws, x.length ≤ 65536) (hws : ws.length ≤ 65536) (hX0 : XOk X0 w) :
    Calls Tryz.prog 17 #[.int .i64 k, .slice A ws.length cap] w (ReadP X0 (readC k ws) w) := by
  by_cases hk : 1 ≤ k ∧ k ≤ 10
  · rcases (show k = 1 ∨ k = 2 ∨ k = 3 ∨ k = 4 ∨ k = 5 ∨ k = 6 ∨ k = 7 ∨ k = 8 ∨ k = 9 ∨ k = 10 by omega) with rfl | rfl | rfl | rfl | rfl | rfl | rfl | rfl | rfl | rfl
    · exact read_1 X0 A cap ws w hw hA hL hws hX0
    · exact read_2 X0 A cap ws w hw hA hL hws hX0
    · exact read_3 X0 A cap ws w hw hA hL hws hX0
    · exact read_4 X0 A cap ws w hw hA hL hws hX0
    · exact read_5 X0 A cap ws w hw hA hL hws hX0
    · exact read_6 X0 A cap ws w hw hA hL hws hX0
    · exact read_7 X0 A cap ws w hw hA hL hws hX0
    · by_cases hn : ws = []
      · have h := read_8_yes X0 A cap ws w hn
        rwa [show readC 8 ws = some { noCmd with kind := 8 } from by subst hn; rfl]
      · have h := read_8_no X0 A cap ws w hn
        rwa [show readC 8 ws = none from by
          show (if ws = [] then some { noCmd with kind := 8 } else none) = none
          exact if_neg hn]
    · by_cases hn : ws = []
      · have h := read_9_yes X0 A cap ws w hn
        rwa [show readC 9 ws = some { noCmd with kind := 9 } from by subst hn; rfl]
      · have h := read_9_no X0 A cap ws w hn
        rwa [show readC 9 ws = none from by
          show (if ws = [] then some { noCmd with kind := 9 } else none) = none
          exact if_neg hn]
    · by_cases hn : ws = []
      · have h := read_10_yes X0 A cap ws w hn
        rwa [show readC 10 ws = some { noCmd with kind := 10 } from by subst hn; rfl]
      · have h := read_10_no X0 A cap ws w hn
        rwa [show readC 10 ws = none from by
          show (if ws = [] then some { noCmd with kind := 10 } else none) = none
          exact if_neg hn]
  · rw [show readC k ws = none by
      unfold readC
      rw [if_neg (by omega), if_neg (by omega), if_neg (by omega), if_neg (by omega)]]
    exact read_none_of X0 k A cap ws w hk
end Go.Proofs.YtjpihophigjbpaaGreatDoor
/-
  A command's text, read.
-/
namespace Go.Proofs.YtjpihophigjbpaaGreatDoor
open Go.RowKit Go.Shelf Vs

/-- What Parse comes to. -/
def ParP (X0 : Nat → Prop) (R : CmdC × Int) (w : World) (e : Ending) (w' : World) : Prop :=
  Below w.heap.size w w' ∧ ∃ vi va, e = .returned (.tuple #[.agg (cellsC R.1 vi va).toArray, .int .i64 R.2]) ∧ HasI X0 w' vi R.1.items ∧ HasA X0 w' va R.1.idx
set_option maxRecDepth 100000 in
theorem ret_parse {W : World} {P : Ending → World → Prop} {a : Act} {r : Nat} {c : CmdC} {vi va : Value} {n : Int} (hd : a.defers = []) (h2 : a.tmps[2]? = some (.pointer (some ⟨r, 0, none⟩))) (h3 : a.tmps[3]? = some (.int .i64 n)) (hb : Box W r TCmd (cellsC c vi va))
    (hp : P (.returned (.tuple #[.agg (cellsC c vi va).toArray, .int .i64 n])) W) : bodyPost Tryz.prog Tryz.f10 P .ret a W := by
  obtain ⟨⟨k0, k1, k2, k3, k4, k5, k6, k7, k8, k9, k10, k11, k12, k13, k14, k15, k16⟩, _, hl⟩ := Box.seventeen hb
  exact bodyPost_ret (v := .tuple #[.agg (cellsC c vi va).toArray, .int .i64 n]) (by simp [results, Tryz.results10, go_sem, h2, h3, k0, k1, k2, k3, k4, k5, k6, k7, k8, k9, k10, k11, k12, k13, k14, k15, k16, hl, cellsC]) hd hp
set_option maxRecDepth 100000 in
set_option maxHeartbeats 8000000 in
theorem parse_long (X0 : Nat → Prop) (l : Str) (w : World) (hl : 4096 < l.length) : Calls Tryz.prog 10 #[.string (str l)] w (ParP X0 (noCmd, 5) w) := by
  obtain ⟨q0, g0⟩ := start_cmd w
  obtain ⟨⟨k0, k1, k2, k3, k4, k5, k6, k7, k8, k9, k10, k11, k12, k13, k14, k15, k16⟩, ⟨f0, f1, f2, f3, f4, f5, f6, f7, f8, f9, f10, f11, f12, f13, f14, f15, f16⟩, z0⟩ := Box.seventeen q0
  have hsz : (str l).size = l.length := str_size l
  have i1 : ((str l).size : Int) > 4096 := by omega
  have i2 : (str l).size > 4096 := by omega
  replace hsz := fhid hsz
  generalize str l = D at *
  replace q0 := fhid q0
  replace g0 := fhid g0
  clear hl
  go_enter Tryz.func10, Tryz.ntmps10
  go_upto_region 1 with fail
  generalize w.alloc _ = w0 at *
  go_wp2_with fail
  refine ret_parse (c := noCmd) (vi := .slice none 0 0) (va := .slice none 0 0) rfl rfl rfl (Box.over17 q0.out _ _ _ _ _ _ _ _ _ _ _ _ _ _ _ _ _) ?_
  exact ⟨below17 g0.out (Nat.le_refl _) _ _ _ _ _ _ _ _ _ _ _ _ _ _ _ _ _, _, _, rfl, HasI.nil, HasA.nil⟩
set_option maxRecDepth 100000 in
set_option maxHeartbeats 8000000 in
theorem parse_empty (X0 : Nat → Prop) (l : Str) (w : World) (hl : l.length ≤ 4096) (hws : words l = []) : Calls Tryz.prog 10 #[.string (str l)] w (ParP X0 (noCmd, 6) w) := by
  obtain ⟨q0, g0⟩ := start_cmd w
  obtain ⟨⟨k0, k1, k2, k3, k4, k5, k6, k7, k8, k9, k10, k11, k12, k13, k14, k15, k16⟩, ⟨f0, f1, f2, f3, f4, f5, f6, f7, f8, f9, f10, f11, f12, f13, f14, f15, f16⟩, z0⟩ := Box.seventeen q0
  have hsz : (str l).size = l.length := str_size l
  have i1 : ¬ ((str l).size : Int) > 4096 := by omega
  have hf := fun W => fields_any l W (by omega)
  rw [hws] at hf
  replace hsz := fhid hsz
  generalize str l = D at *
  replace q0 := fhid q0
  replace g0 := fhid g0
  clear hl hws
  go_enter Tryz.func10, Tryz.ntmps10
  go_upto_region 1 with fail
  generalize w.alloc _ = w0 at *
  go_upto_region 4 with (go_at_call 16; (with_reducible refine (hf _).mono ?_); rintro e w3 ⟨A, rfl, _, _, b3⟩)
  have q3 := Box.below q0.out b3 z0
  clear k0 k1 k2 k3 k4 k5 k6 k7 k8 k9 k10 k11 k12 k13 k14 k15 k16 f0 f1 f2 f3 f4 f5 f6 f7 f8 f9 f10 f11 f12 f13 f14 f15 f16
  obtain ⟨⟨k0, k1, k2, k3, k4, k5, k6, k7, k8, k9, k10, k11, k12, k13, k14, k15, k16⟩, ⟨f0, f1, f2, f3, f4, f5, f6, f7, f8, f9, f10, f11, f12, f13, f14, f15, f16⟩, z3⟩ := Box.seventeen q3
  replace q3 := fhid q3
  replace b3 := fhid b3
  go_wp2_with fail
  refine ret_parse (c := noCmd) (vi := .slice none 0 0) (va := .slice none 0 0) rfl rfl rfl (Box.over17 q3.out _ _ _ _ _ _ _ _ _ _ _ _ _ _ _ _ _) ?_
  exact ⟨below17 (g0.out.trans (b3.out.mono g0.out.size)) (Nat.le_refl _) _ _ _ _ _ _ _ _ _ _ _ _ _ _ _ _ _, _, _, rfl, HasI.nil, HasA.nil⟩
end Go.Proofs.YtjpihophigjbpaaGreatDoor
