/-
  Parts: QKind0 QKindS QKindJ QKindK QKindH.
-/
import Derived.Test.YtjpihophigjbpaaGreatDoorQ4
set_option linter.unusedSimpArgs false
set_option linter.unusedVariables false
/-
  Lists kept while a result's cells are written.
-/
namespace Go.Proofs.YtjpihophigjbpaaGreatDoor
open Go.RowKit Go.Shelf Vs

theorem aft17 {w0 w : World} {b : Nat} (h : Aft b w0 w) (v0 v1 v2 v3 v4 v5 v6 v7 v8 v9 v10 v11 v12 v13 v14 v15 v16 : Value) : Aft b w0 (((((((((((((((((w.setCell ⟨b, 0, none⟩ v0).setCell ⟨b, 1, none⟩ v1).setCell ⟨b, 2, none⟩ v2).setCell ⟨b, 3, none⟩ v3).setCell ⟨b, 4, none⟩ v4).setCell ⟨b, 5, none⟩ v5).setCell ⟨b, 6, none⟩ v6).setCell ⟨b, 7, none⟩ v7).setCell ⟨b, 8, none⟩ v8).setCell ⟨b, 9, none⟩ v9).setCell ⟨b, 10, none⟩ v10).setCell ⟨b, 11, none⟩ v11).setCell ⟨b, 12, none⟩ v12).setCell ⟨b, 13, none⟩ v13).setCell ⟨b, 14, none⟩ v14).setCell ⟨b, 15, none⟩ v15).setCell ⟨b, 16, none⟩ v16) :=
  Aft.set (Aft.set (Aft.set (Aft.set (Aft.set (Aft.set (Aft.set (Aft.set (Aft.set (Aft.set (Aft.set (Aft.set (Aft.set (Aft.set (Aft.set (Aft.set (Aft.set h 0 v0) 1 v1) 2 v2) 3 v3) 4 v4) 5 v5) 6 v6) 7 v7) 8 v8) 9 v9) 10 v10) 11 v11) 12 v12) 13 v13) 14 v14) 15 v15) 16 v16
theorem keepI {X0 : Nat → Prop} {w W : World} {r : Nat} {v : Value} {l : List Ds.Itm} (h : HasI (fun n => n = r ∨ X0 n) w v l) (ha : Aft r w W) : HasI X0 W v l :=
  (h.keep (fun k h1 h2 => ha.block k h1 (fun e => by injection e with e; exact h2 (.inl e))) ha.size).imp (fun _ _ h => .inr h)
theorem keepA {X0 : Nat → Prop} {w W : World} {r : Nat} {v : Value} {l : List Int} (h : HasA (fun n => n = r ∨ X0 n) w v l) (ha : Aft r w W) : HasA X0 W v l :=
  (h.keep (fun k h1 h2 => ha.block k h1 (fun e => by injection e with e; exact h2 (.inl e))) ha.size).imp (fun _ _ h => .inr h)
/-- The answer's cells, written out. -/
theorem ReadP.open17 {X0 : Nat → Prop} {r : Option CmdC} {w w' : World} {e : Ending} (h : ReadP X0 r w e w') : Below w.heap.size w w' ∧ ∃ (c : CmdC) (Ai Aa : Option Addr) (ni na ci ca : Nat), e = .returned (.tuple #[.agg #[.int .i64 c.kind, .string (str c.user), .string (str c.part), .string (str c.qos), .string (str c.name), .int .i64 c.nodes, .int .i64 c.time, .int .i64 c.run, .int .i64 c.req.1, .int .i64 c.req.2.1, .int .i64 c.req.2.2, .bool c.any, .slice Ai ni ci, .slice Aa na ca, .int .i64 c.lim, .int .i64 c.job, .string (str c.host)], .bool r.isSome]) ∧ HasI X0 w' (.slice Ai ni ci) c.items ∧ HasA X0 w' (.slice Aa na ca) c.idx ∧ ∀ c', r = some c' → c = c' := by
  obtain ⟨hb, c, vi, va, he, hi, ha, hc⟩ := h
  obtain ⟨Ai, ci, rfl, _⟩ := id hi
  obtain ⟨Aa, ca, rfl, _⟩ := id ha
  exact ⟨hb, c, Ai, Aa, _, _, ci, ca, he, hi, ha, hc⟩
theorem xok_add {X0 : Nat → Prop} {w w0 : World} {cs : List Value} (h : XOk X0 w) (hb : Below w.heap.size w w0) (hq : Box w0 w.heap.size TCmd cs) : XOk (fun n => n = w.heap.size ∨ X0 n) w0 := fun k hk => by
  rcases hk with rfl | hk
  · exact ⟨_, TCmd, (0, 0), hq, by decide⟩
  · exact h.below hb k hk
end Go.Proofs.YtjpihophigjbpaaGreatDoor
/-
  A submit's further words.
-/
namespace Go.Proofs.YtjpihophigjbpaaGreatDoor
open Go.RowKit Go.Shelf Vs

set_option maxRecDepth 100000 in
set_option maxHeartbeats 8000000 in
theorem read_1 (X0 : Nat → Prop) (A : Option Addr) (cap : Nat) (ws : List Str) (w : World) (hw : Env w) (hA : Strs w w.heap.size A ws) (hL : ∀ x ∈ ws, x.length ≤ 65536) (hws : ws.length ≤ 65536) (hX0 : XOk X0 w) :
    Calls Tryz.prog 17 #[.int .i64 1, .slice A ws.length cap] w (ReadP X0 (submitQ ws) w) := by
  obtain ⟨q0, g0⟩ := start_cmd w
  have hS := readSubmit_any (fun n => n = w.heap.size ∨ X0 n) A cap ws _ (hw.below g0) ((hA.below g0).more g0.size) hL hws (xok_add hX0 g0 q0)
  obtain ⟨⟨k0, k1, k2, k3, k4, k5, k6, k7, k8, k9, k10, k11, k12, k13, k14, k15, k16⟩, ⟨f0, f1, f2, f3, f4, f5, f6, f7, f8, f9, f10, f11, f12, f13, f14, f15, f16⟩, z0⟩ := Box.seventeen q0
  clear hX0 hA hw hL
  replace q0 := fhid q0
  replace g0 := fhid g0
  go_enter Tryz.func17, Tryz.ntmps17
  go_upto_region 1 with fail
  generalize w.alloc _ = w0 at *
  go_wp2_with (first
    | (go_at_call 29
       (with_reducible refine (hS.mono fun _ _ h => h.open17).mono ?_)
       rintro e w3 ⟨b3, c, Ai, Aa, ni, na, ci, ca, rfl, hi, ha, hc⟩
       have q3 := Box.below q0.out b3 z0
       clear k0 k1 k2 k3 k4 k5 k6 k7 k8 k9 k10 k11 k12 k13 k14 k15 k16 f0 f1 f2 f3 f4 f5 f6 f7 f8 f9 f10 f11 f12 f13 f14 f15 f16
       obtain ⟨⟨k0, k1, k2, k3, k4, k5, k6, k7, k8, k9, k10, k11, k12, k13, k14, k15, k16⟩, ⟨f0, f1, f2, f3, f4, f5, f6, f7, f8, f9, f10, f11, f12, f13, f14, f15, f16⟩, z3⟩ := Box.seventeen q3
       replace q3 := fhid q3
       replace hi := fhid hi
       replace ha := fhid ha
       replace hc := fhid hc
       replace b3 := fhid b3)
    | fail)
  refine ret_cell4 (c := c) (vi := .slice Ai ni ci) (va := .slice Aa na ca) rfl rfl rfl rfl (Box.over17 q3.out _ _ _ _ _ _ _ _ _ _ _ _ _ _ _ _ _) ?_
  exact ⟨below17 (g0.out.trans (b3.out.mono g0.out.size)) (Nat.le_refl _) _ _ _ _ _ _ _ _ _ _ _ _ _ _ _ _ _, c, _, _, rfl, keepI hi.out (aft17 (Aft.of (Below.refl _ _)) _ _ _ _ _ _ _ _ _ _ _ _ _ _ _ _ _), keepA ha.out (aft17 (Aft.of (Below.refl _ _)) _ _ _ _ _ _ _ _ _ _ _ _ _ _ _ _ _), hc.out⟩
set_option maxRecDepth 100000 in
set_option maxHeartbeats 8000000 in
theorem read_none_of (X0 : Nat → Prop) (k : Int) (A : Option Addr) (cap : Nat) (ws : List Str) (w : World) (hk : ¬ (1 ≤ k ∧ k ≤ 10)) :
    Calls Tryz.prog 17 #[.int .i64 k, .slice A ws.length cap] w (ReadP X0 none w) := by
  obtain ⟨q0, g0⟩ := start_cmd w
  obtain ⟨⟨k0, k1, k2, k3, k4, k5, k6, k7, k8, k9, k10, k11, k12, k13, k14, k15, k16⟩, ⟨f0, f1, f2, f3, f4, f5, f6, f7, f8, f9, f10, f11, f12, f13, f14, f15, f16⟩, z0⟩ := Box.seventeen q0
  have e1 : (k == 1) = false := by simpa using (show ¬ k = 1 by omega)
  have e2 : (k == 2) = false := by simpa using (show ¬ k = 2 by omega)
  have e3 : (k == 3) = false := by simpa using (show ¬ k = 3 by omega)
  have e4 : (k == 4) = false := by simpa using (show ¬ k = 4 by omega)
  have e5 : (k == 5) = false := by simpa using (show ¬ k = 5 by omega)
  have e6 : (k == 6) = false := by simpa using (show ¬ k = 6 by omega)
  have e7 : (k == 7) = false := by simpa using (show ¬ k = 7 by omega)
  have e8 : (k == 8) = false := by simpa using (show ¬ k = 8 by omega)
  have e9 : (k == 9) = false := by simpa using (show ¬ k = 9 by omega)
  have e10 : (k == 10) = false := by simpa using (show ¬ k = 10 by omega)
  replace q0 := fhid q0
  replace g0 := fhid g0
  clear hk
  go_enter Tryz.func17, Tryz.ntmps17
  go_upto_region 1 with fail
  generalize w.alloc _ = w0 at *
  go_wp2_with fail
  refine ret_cell4 (c := noCmd) (vi := .slice none 0 0) (va := .slice none 0 0) (ok := false) rfl rfl rfl rfl (Box.over17 q0.out _ _ _ _ _ _ _ _ _ _ _ _ _ _ _ _ _) ?_
  exact read_none noCmd (below17 g0.out (Nat.le_refl _) _ _ _ _ _ _ _ _ _ _ _ _ _ _ _ _ _) HasI.nil HasA.nil
end Go.Proofs.YtjpihophigjbpaaGreatDoor
/-
  The further words of a command that names a job.
-/
namespace Go.Proofs.YtjpihophigjbpaaGreatDoor
open Go.RowKit Go.Shelf Vs

set_option maxRecDepth 100000 in
set_option maxHeartbeats 8000000 in
theorem read_2 (X0 : Nat → Prop) (A : Option Addr) (cap : Nat) (ws : List Str) (w : World) (hw : Env w) (hA : Strs w w.heap.size A ws) (hL : ∀ x ∈ ws, x.length ≤ 65536) (hws : ws.length ≤ 65536) (hX0 : XOk X0 w) :
    Calls Tryz.prog 17 #[.int .i64 2, .slice A ws.length cap] w (ReadP X0 (jobQ 2 ws) w) := by
  obtain ⟨q0, g0⟩ := start_cmd w
  have hJ := readJob_any (fun n => n = w.heap.size ∨ X0 n) 2 A cap ws _ (hw.below g0) ((hA.below g0).more g0.size) hL hws
  obtain ⟨⟨k0, k1, k2, k3, k4, k5, k6, k7, k8, k9, k10, k11, k12, k13, k14, k15, k16⟩, ⟨f0, f1, f2, f3, f4, f5, f6, f7, f8, f9, f10, f11, f12, f13, f14, f15, f16⟩, z0⟩ := Box.seventeen q0
  clear hX0 hA hw hL
  replace q0 := fhid q0
  replace g0 := fhid g0
  go_enter Tryz.func17, Tryz.ntmps17
  go_upto_region 1 with fail
  generalize w.alloc _ = w0 at *
  go_wp2_with (first
    | (go_at_call 30
       (with_reducible refine (hJ.mono fun _ _ h => h.open17).mono ?_)
       rintro e w3 ⟨b3, c, Ai, Aa, ni, na, ci, ca, rfl, hi, ha, hc⟩
       have q3 := Box.below q0.out b3 z0
       clear k0 k1 k2 k3 k4 k5 k6 k7 k8 k9 k10 k11 k12 k13 k14 k15 k16 f0 f1 f2 f3 f4 f5 f6 f7 f8 f9 f10 f11 f12 f13 f14 f15 f16
       obtain ⟨⟨k0, k1, k2, k3, k4, k5, k6, k7, k8, k9, k10, k11, k12, k13, k14, k15, k16⟩, ⟨f0, f1, f2, f3, f4, f5, f6, f7, f8, f9, f10, f11, f12, f13, f14, f15, f16⟩, z3⟩ := Box.seventeen q3
       replace q3 := fhid q3
       replace hi := fhid hi
       replace ha := fhid ha
       replace hc := fhid hc
       replace b3 := fhid b3)
    | fail)
  refine ret_cell4 (c := c) (vi := .slice Ai ni ci) (va := .slice Aa na ca) rfl rfl rfl rfl (Box.over17 q3.out _ _ _ _ _ _ _ _ _ _ _ _ _ _ _ _ _) ?_
  exact ⟨below17 (g0.out.trans (b3.out.mono g0.out.size)) (Nat.le_refl _) _ _ _ _ _ _ _ _ _ _ _ _ _ _ _ _ _, c, _, _, rfl, keepI hi.out (aft17 (Aft.of (Below.refl _ _)) _ _ _ _ _ _ _ _ _ _ _ _ _ _ _ _ _), keepA ha.out (aft17 (Aft.of (Below.refl _ _)) _ _ _ _ _ _ _ _ _ _ _ _ _ _ _ _ _), hc.out⟩
set_option maxRecDepth 100000 in
set_option maxHeartbeats 8000000 in
theorem read_3 (X0 : Nat → Prop) (A : Option Addr) (cap : Nat) (ws : List Str) (w : World) (hw : Env w) (hA : Strs w w.heap.size A ws) (hL : ∀ x ∈ ws, x.length ≤ 65536) (hws : ws.length ≤ 65536) (hX0 : XOk X0 w) :
    Calls Tryz.prog 17 #[.int .i64 3, .slice A ws.length cap] w (ReadP X0 (jobQ 3 ws) w) := by
  obtain ⟨q0, g0⟩ := start_cmd w
  have hJ := readJob_any (fun n => n = w.heap.size ∨ X0 n) 3 A cap ws _ (hw.below g0) ((hA.below g0).more g0.size) hL hws
  obtain ⟨⟨k0, k1, k2, k3, k4, k5, k6, k7, k8, k9, k10, k11, k12, k13, k14, k15, k16⟩, ⟨f0, f1, f2, f3, f4, f5, f6, f7, f8, f9, f10, f11, f12, f13, f14, f15, f16⟩, z0⟩ := Box.seventeen q0
  clear hX0 hA hw hL
  replace q0 := fhid q0
  replace g0 := fhid g0
  go_enter Tryz.func17, Tryz.ntmps17
  go_upto_region 1 with fail
  generalize w.alloc _ = w0 at *
  go_wp2_with (first
    | (go_at_call 30
       (with_reducible refine (hJ.mono fun _ _ h => h.open17).mono ?_)
       rintro e w3 ⟨b3, c, Ai, Aa, ni, na, ci, ca, rfl, hi, ha, hc⟩
       have q3 := Box.below q0.out b3 z0
       clear k0 k1 k2 k3 k4 k5 k6 k7 k8 k9 k10 k11 k12 k13 k14 k15 k16 f0 f1 f2 f3 f4 f5 f6 f7 f8 f9 f10 f11 f12 f13 f14 f15 f16
       obtain ⟨⟨k0, k1, k2, k3, k4, k5, k6, k7, k8, k9, k10, k11, k12, k13, k14, k15, k16⟩, ⟨f0, f1, f2, f3, f4, f5, f6, f7, f8, f9, f10, f11, f12, f13, f14, f15, f16⟩, z3⟩ := Box.seventeen q3
       replace q3 := fhid q3
       replace hi := fhid hi
       replace ha := fhid ha
       replace hc := fhid hc
       replace b3 := fhid b3)
    | fail)
  refine ret_cell4 (c := c) (vi := .slice Ai ni ci) (va := .slice Aa na ca) rfl rfl rfl rfl (Box.over17 q3.out _ _ _ _ _ _ _ _ _ _ _ _ _ _ _ _ _) ?_
  exact ⟨below17 (g0.out.trans (b3.out.mono g0.out.size)) (Nat.le_refl _) _ _ _ _ _ _ _ _ _ _ _ _ _ _ _ _ _, c, _, _, rfl, keepI hi.out (aft17 (Aft.of (Below.refl _ _)) _ _ _ _ _ _ _ _ _ _ _ _ _ _ _ _ _), keepA ha.out (aft17 (Aft.of (Below.refl _ _)) _ _ _ _ _ _ _ _ _ _ _ _ _ _ _ _ _), hc.out⟩
end Go.Proofs.YtjpihophigjbpaaGreatDoor
/-
  The further words of a command that names a job.
-/
namespace Go.Proofs.YtjpihophigjbpaaGreatDoor
open Go.RowKit Go.Shelf Vs

set_option maxRecDepth 100000 in
set_option maxHeartbeats 8000000 in
theorem read_4 (X0 : Nat → Prop) (A : Option Addr) (cap : Nat) (ws : List Str) (w : World) (hw : Env w) (hA : Strs w w.heap.size A ws) (hL : ∀ x ∈ ws, x.length ≤ 65536) (hws : ws.length ≤ 65536) (hX0 : XOk X0 w) :
    Calls Tryz.prog 17 #[.int .i64 4, .slice A ws.length cap] w (ReadP X0 (jobQ 4 ws) w) := by
  obtain ⟨q0, g0⟩ := start_cmd w
  have hJ := readJob_any (fun n => n = w.heap.size ∨ X0 n) 4 A cap ws _ (hw.below g0) ((hA.below g0).more g0.size) hL hws
  obtain ⟨⟨k0, k1, k2, k3, k4, k5, k6, k7, k8, k9, k10, k11, k12, k13, k14, k15, k16⟩, ⟨f0, f1, f2, f3, f4, f5, f6, f7, f8, f9, f10, f11, f12, f13, f14, f15, f16⟩, z0⟩ := Box.seventeen q0
  clear hX0 hA hw hL
  replace q0 := fhid q0
  replace g0 := fhid g0
  go_enter Tryz.func17, Tryz.ntmps17
  go_upto_region 1 with fail
  generalize w.alloc _ = w0 at *
  go_wp2_with (first
    | (go_at_call 30
       (with_reducible refine (hJ.mono fun _ _ h => h.open17).mono ?_)
       rintro e w3 ⟨b3, c, Ai, Aa, ni, na, ci, ca, rfl, hi, ha, hc⟩
       have q3 := Box.below q0.out b3 z0
       clear k0 k1 k2 k3 k4 k5 k6 k7 k8 k9 k10 k11 k12 k13 k14 k15 k16 f0 f1 f2 f3 f4 f5 f6 f7 f8 f9 f10 f11 f12 f13 f14 f15 f16
       obtain ⟨⟨k0, k1, k2, k3, k4, k5, k6, k7, k8, k9, k10, k11, k12, k13, k14, k15, k16⟩, ⟨f0, f1, f2, f3, f4, f5, f6, f7, f8, f9, f10, f11, f12, f13, f14, f15, f16⟩, z3⟩ := Box.seventeen q3
       replace q3 := fhid q3
       replace hi := fhid hi
       replace ha := fhid ha
       replace hc := fhid hc
       replace b3 := fhid b3)
    | fail)
  refine ret_cell4 (c := c) (vi := .slice Ai ni ci) (va := .slice Aa na ca) rfl rfl rfl rfl (Box.over17 q3.out _ _ _ _ _ _ _ _ _ _ _ _ _ _ _ _ _) ?_
  exact ⟨below17 (g0.out.trans (b3.out.mono g0.out.size)) (Nat.le_refl _) _ _ _ _ _ _ _ _ _ _ _ _ _ _ _ _ _, c, _, _, rfl, keepI hi.out (aft17 (Aft.of (Below.refl _ _)) _ _ _ _ _ _ _ _ _ _ _ _ _ _ _ _ _), keepA ha.out (aft17 (Aft.of (Below.refl _ _)) _ _ _ _ _ _ _ _ _ _ _ _ _ _ _ _ _), hc.out⟩
set_option maxRecDepth 100000 in
set_option maxHeartbeats 8000000 in
theorem read_5 (X0 : Nat → Prop) (A : Option Addr) (cap : Nat) (ws : List Str) (w : World) (hw : Env w) (hA : Strs w w.heap.size A ws) (hL : ∀ x ∈ ws, x.length ≤ 65536) (hws : ws.length ≤ 65536) (hX0 : XOk X0 w) :
    Calls Tryz.prog 17 #[.int .i64 5, .slice A ws.length cap] w (ReadP X0 (jobQ 5 ws) w) := by
  obtain ⟨q0, g0⟩ := start_cmd w
  have hJ := readJob_any (fun n => n = w.heap.size ∨ X0 n) 5 A cap ws _ (hw.below g0) ((hA.below g0).more g0.size) hL hws
  obtain ⟨⟨k0, k1, k2, k3, k4, k5, k6, k7, k8, k9, k10, k11, k12, k13, k14, k15, k16⟩, ⟨f0, f1, f2, f3, f4, f5, f6, f7, f8, f9, f10, f11, f12, f13, f14, f15, f16⟩, z0⟩ := Box.seventeen q0
  clear hX0 hA hw hL
  replace q0 := fhid q0
  replace g0 := fhid g0
  go_enter Tryz.func17, Tryz.ntmps17
  go_upto_region 1 with fail
  generalize w.alloc _ = w0 at *
  go_wp2_with (first
    | (go_at_call 30
       (with_reducible refine (hJ.mono fun _ _ h => h.open17).mono ?_)
       rintro e w3 ⟨b3, c, Ai, Aa, ni, na, ci, ca, rfl, hi, ha, hc⟩
       have q3 := Box.below q0.out b3 z0
       clear k0 k1 k2 k3 k4 k5 k6 k7 k8 k9 k10 k11 k12 k13 k14 k15 k16 f0 f1 f2 f3 f4 f5 f6 f7 f8 f9 f10 f11 f12 f13 f14 f15 f16
       obtain ⟨⟨k0, k1, k2, k3, k4, k5, k6, k7, k8, k9, k10, k11, k12, k13, k14, k15, k16⟩, ⟨f0, f1, f2, f3, f4, f5, f6, f7, f8, f9, f10, f11, f12, f13, f14, f15, f16⟩, z3⟩ := Box.seventeen q3
       replace q3 := fhid q3
       replace hi := fhid hi
       replace ha := fhid ha
       replace hc := fhid hc
       replace b3 := fhid b3)
    | fail)
  refine ret_cell4 (c := c) (vi := .slice Ai ni ci) (va := .slice Aa na ca) rfl rfl rfl rfl (Box.over17 q3.out _ _ _ _ _ _ _ _ _ _ _ _ _ _ _ _ _) ?_
  exact ⟨below17 (g0.out.trans (b3.out.mono g0.out.size)) (Nat.le_refl _) _ _ _ _ _ _ _ _ _ _ _ _ _ _ _ _ _, c, _, _, rfl, keepI hi.out (aft17 (Aft.of (Below.refl _ _)) _ _ _ _ _ _ _ _ _ _ _ _ _ _ _ _ _), keepA ha.out (aft17 (Aft.of (Below.refl _ _)) _ _ _ _ _ _ _ _ _ _ _ _ _ _ _ _ _), hc.out⟩
end Go.Proofs.YtjpihophigjbpaaGreatDoor
/-
  The further words of a command that names nodes.
-/
namespace Go.Proofs.YtjpihophigjbpaaGreatDoor
open Go.RowKit Go.Shelf Vs

set_option maxRecDepth 100000 in
set_option maxHeartbeats 8000000 in
theorem read_6 (X0 : Nat → Prop) (A : Option Addr) (cap : Nat) (ws : List Str) (w : World) (hw : Env w) (hA : Strs w w.heap.size A ws) (hL : ∀ x ∈ ws, x.length ≤ 65536) (hws : ws.length ≤ 65536) (hX0 : XOk X0 w) :
    Calls Tryz.prog 17 #[.int .i64 6, .slice A ws.length cap] w (ReadP X0 (hostQ 6 ws) w) := by
  obtain ⟨q0, g0⟩ := start_cmd w
  have hH := readHost_any (fun n => n = w.heap.size ∨ X0 n) 6 A cap ws _ (hw.below g0) ((hA.below g0).more g0.size) hL hws
  obtain ⟨⟨k0, k1, k2, k3, k4, k5, k6, k7, k8, k9, k10, k11, k12, k13, k14, k15, k16⟩, ⟨f0, f1, f2, f3, f4, f5, f6, f7, f8, f9, f10, f11, f12, f13, f14, f15, f16⟩, z0⟩ := Box.seventeen q0
  clear hX0 hA hw hL
  replace q0 := fhid q0
  replace g0 := fhid g0
  go_enter Tryz.func17, Tryz.ntmps17
  go_upto_region 1 with fail
  generalize w.alloc _ = w0 at *
  go_wp2_with (first
    | (go_at_call 31
       (with_reducible refine (hH.mono fun _ _ h => h.open17).mono ?_)
       rintro e w3 ⟨b3, c, Ai, Aa, ni, na, ci, ca, rfl, hi, ha, hc⟩
       have q3 := Box.below q0.out b3 z0
       clear k0 k1 k2 k3 k4 k5 k6 k7 k8 k9 k10 k11 k12 k13 k14 k15 k16 f0 f1 f2 f3 f4 f5 f6 f7 f8 f9 f10 f11 f12 f13 f14 f15 f16
       obtain ⟨⟨k0, k1, k2, k3, k4, k5, k6, k7, k8, k9, k10, k11, k12, k13, k14, k15, k16⟩, ⟨f0, f1, f2, f3, f4, f5, f6, f7, f8, f9, f10, f11, f12, f13, f14, f15, f16⟩, z3⟩ := Box.seventeen q3
       replace q3 := fhid q3
       replace hi := fhid hi
       replace ha := fhid ha
       replace hc := fhid hc
       replace b3 := fhid b3)
    | fail)
  refine ret_cell4 (c := c) (vi := .slice Ai ni ci) (va := .slice Aa na ca) rfl rfl rfl rfl (Box.over17 q3.out _ _ _ _ _ _ _ _ _ _ _ _ _ _ _ _ _) ?_
  exact ⟨below17 (g0.out.trans (b3.out.mono g0.out.size)) (Nat.le_refl _) _ _ _ _ _ _ _ _ _ _ _ _ _ _ _ _ _, c, _, _, rfl, keepI hi.out (aft17 (Aft.of (Below.refl _ _)) _ _ _ _ _ _ _ _ _ _ _ _ _ _ _ _ _), keepA ha.out (aft17 (Aft.of (Below.refl _ _)) _ _ _ _ _ _ _ _ _ _ _ _ _ _ _ _ _), hc.out⟩
set_option maxRecDepth 100000 in
set_option maxHeartbeats 8000000 in
theorem read_7 (X0 : Nat → Prop) (A : Option Addr) (cap : Nat) (ws : List Str) (w : World) (hw : Env w) (hA : Strs w w.heap.size A ws) (hL : ∀ x ∈ ws, x.length ≤ 65536) (hws : ws.length ≤ 65536) (hX0 : XOk X0 w) :
    Calls Tryz.prog 17 #[.int .i64 7, .slice A ws.length cap] w (ReadP X0 (hostQ 7 ws) w) := by
  obtain ⟨q0, g0⟩ := start_cmd w
  have hH := readHost_any (fun n => n = w.heap.size ∨ X0 n) 7 A cap ws _ (hw.below g0) ((hA.below g0).more g0.size) hL hws
  obtain ⟨⟨k0, k1, k2, k3, k4, k5, k6, k7, k8, k9, k10, k11, k12, k13, k14, k15, k16⟩, ⟨f0, f1, f2, f3, f4, f5, f6, f7, f8, f9, f10, f11, f12, f13, f14, f15, f16⟩, z0⟩ := Box.seventeen q0
  clear hX0 hA hw hL
  replace q0 := fhid q0
  replace g0 := fhid g0
  go_enter Tryz.func17, Tryz.ntmps17
  go_upto_region 1 with fail
  generalize w.alloc _ = w0 at *
  go_wp2_with (first
    | (go_at_call 31
       (with_reducible refine (hH.mono fun _ _ h => h.open17).mono ?_)
       rintro e w3 ⟨b3, c, Ai, Aa, ni, na, ci, ca, rfl, hi, ha, hc⟩
       have q3 := Box.below q0.out b3 z0
       clear k0 k1 k2 k3 k4 k5 k6 k7 k8 k9 k10 k11 k12 k13 k14 k15 k16 f0 f1 f2 f3 f4 f5 f6 f7 f8 f9 f10 f11 f12 f13 f14 f15 f16
       obtain ⟨⟨k0, k1, k2, k3, k4, k5, k6, k7, k8, k9, k10, k11, k12, k13, k14, k15, k16⟩, ⟨f0, f1, f2, f3, f4, f5, f6, f7, f8, f9, f10, f11, f12, f13, f14, f15, f16⟩, z3⟩ := Box.seventeen q3
       replace q3 := fhid q3
       replace hi := fhid hi
       replace ha := fhid ha
       replace hc := fhid hc
       replace b3 := fhid b3)
    | fail)
  refine ret_cell4 (c := c) (vi := .slice Ai ni ci) (va := .slice Aa na ca) rfl rfl rfl rfl (Box.over17 q3.out _ _ _ _ _ _ _ _ _ _ _ _ _ _ _ _ _) ?_
  exact ⟨below17 (g0.out.trans (b3.out.mono g0.out.size)) (Nat.le_refl _) _ _ _ _ _ _ _ _ _ _ _ _ _ _ _ _ _, c, _, _, rfl, keepI hi.out (aft17 (Aft.of (Below.refl _ _)) _ _ _ _ _ _ _ _ _ _ _ _ _ _ _ _ _), keepA ha.out (aft17 (Aft.of (Below.refl _ _)) _ _ _ _ _ _ _ _ _ _ _ _ _ _ _ _ _), hc.out⟩
end Go.Proofs.YtjpihophigjbpaaGreatDoor
