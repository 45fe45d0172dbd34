/-
  Parts: QJob QJobL QJobZ QJobK QHost QJobs.
-/
import Derived.Test.YtjpihophigjbpaaGreatDoorQ3
import Derived.Test.YtjpihophigjbpaaGreatDoorH2
import Derived.BigRegion
set_option linter.unusedSimpArgs false
set_option linter.unusedVariables false
/-
  A job's number, a list of nodes: read.
-/
namespace Go.Proofs.YtjpihophigjbpaaGreatDoor
open Go.RowKit Go.Shelf Vs

set_option maxRecDepth 100000 in
/-- What a call hands back whose result lies in a block (readJob, readHost, read). -/
theorem ret_cell4 {W : World} {P : Ending → World → Prop} {a : Act} {r : Nat} {c : CmdC} {vi va : Value} {ok : Bool} {f : Func} (hf : f.results = #[.cell 4 TCmd, .tmp 5]) (hd : a.defers = []) (h2 : a.tmps[4]? = some (.pointer (some ⟨r, 0, none⟩))) (h3 : a.tmps[5]? = some (.bool ok)) (hb : Box W r TCmd (cellsC c vi va))
    (hp : P (.returned (.tuple #[.agg (cellsC c vi va).toArray, .bool ok])) W) : bodyPost Tryz.prog f P .ret a W := by
  obtain ⟨⟨k0, k1, k2, k3, k4, k5, k6, k7, k8, k9, k10, k11, k12, k13, k14, k15, k16⟩, _, hl⟩ := Box.seventeen hb
  exact bodyPost_ret (v := .tuple #[.agg (cellsC c vi va).toArray, .bool ok]) (by simp [results, hf, go_sem, h2, h3, k0, k1, k2, k3, k4, k5, k6, k7, k8, k9, k10, k11, k12, k13, k14, k15, k16, hl, cellsC]) hd hp
theorem start_cmd (w : World) : Box (w.alloc (.cells #[.int .i64 0, .string ⟨#[]⟩, .string ⟨#[]⟩, .string ⟨#[]⟩, .string ⟨#[]⟩, .int .i64 0, .int .i64 0, .int .i64 0, .int .i64 0, .int .i64 0, .int .i64 0, .bool false, .slice none 0 0, .slice none 0 0, .int .i64 0, .int .i64 0, .string ⟨#[]⟩] TCmd)) w.heap.size TCmd (cellsC noCmd (.slice none 0 0) (.slice none 0 0)) ∧
    Below w.heap.size w (w.alloc (.cells #[.int .i64 0, .string ⟨#[]⟩, .string ⟨#[]⟩, .string ⟨#[]⟩, .string ⟨#[]⟩, .int .i64 0, .int .i64 0, .int .i64 0, .int .i64 0, .int .i64 0, .int .i64 0, .bool false, .slice none 0 0, .slice none 0 0, .int .i64 0, .int .i64 0, .string ⟨#[]⟩] TCmd)) :=
  ⟨Box.new w TCmd (cellsC noCmd (.slice none 0 0) (.slice none 0 0)), (Below.refl _ _).alloc (Nat.le_refl _) _⟩
theorem Box.drew {w : World} {b : Nat} {T : TypeId} {cs : List Value} (h : Box w b T cs) : Box w.drew b T cs := h
theorem jobQ_none {k : Int} {ws : List Str} (h : ws.length ≠ 1) : jobQ k ws = none := by
  rcases ws with _ | ⟨d, _ | ⟨e, r⟩⟩
  · rfl
  · exact absurd rfl h
  · rfl
set_option maxRecDepth 100000 in
set_option maxHeartbeats 16000000 in
theorem job_many (X0 : Nat → Prop) (k : Int) (A : Option Addr) (cap : Nat) (ws : List Str) (w : World) (h1 : ¬ ws.length = 1) :
    Calls Tryz.prog 30 #[.int .i64 k, .slice A ws.length cap] w (ReadP X0 none w) := by
  obtain ⟨q0, g0⟩ := start_cmd w
  obtain ⟨⟨k0, k1, k2, k3, k4, k5, k6, k7, k8, k9, k10, k11, k12, k13, k14, k15, k16⟩, ⟨f0, f1, f2, f3, f4, f5, f6, f7, f8, f9, f10, f11, f12, f13, f14, f15, f16⟩, z0⟩ := Box.seventeen q0
  have i1 : ((ws.length : Int) != 1) = true := by simp; omega
  have i2 : ¬ (ws.length : Int) = 1 := by omega
  replace q0 := fhid q0
  replace g0 := fhid g0
  go_enter Tryz.func30, Tryz.ntmps30
  go_upto_region 1 with fail
  generalize w.alloc _ = w0 at *
  go_wp2_with fail
  refine ret_cell4 (c := noCmd) (vi := .slice none 0 0) (va := .slice none 0 0) (ok := false) rfl rfl rfl rfl (Box.over17 q0.out _ _ _ _ _ _ _ _ _ _ _ _ _ _ _ _ _) ?_
  exact read_none noCmd (below17 g0.out (Nat.le_refl _) _ _ _ _ _ _ _ _ _ _ _ _ _ _ _ _ _) HasI.nil HasA.nil
set_option maxRecDepth 100000 in
set_option maxHeartbeats 16000000 in
theorem job_none (X0 : Nat → Prop) (k : Int) (bb oo cap : Nat) (d : Str) (w : World) (hw : Env w) (hbb : bb < w.heap.size) (hc : w.cell? ⟨bb, oo, none⟩ = some (.string (str d))) (hd : d.length ≤ 65536) (hr : readNumP d = none) :
    Calls Tryz.prog 30 #[.int .i64 k, .slice (some ⟨bb, oo, none⟩) 1 cap] w (ReadP X0 none w) := by
  obtain ⟨q0, g0⟩ := start_cmd w
  obtain ⟨⟨k0, k1, k2, k3, k4, k5, k6, k7, k8, k9, k10, k11, k12, k13, k14, k15, k16⟩, ⟨f0, f1, f2, f3, f4, f5, f6, f7, f8, f9, f10, f11, f12, f13, f14, f15, f16⟩, z0⟩ := Box.seventeen q0
  have hnu := fun W (hW : Env W) => readNumber_any (str d) W hW (by rw [str_size]; omega)
  rw [bl_str, hr] at hnu
  unfold numV at hnu
  simp only at hnu
  have hc0 := (g0.cell (p := ⟨bb, oo, none⟩) hbb).trans hc
  replace q0 := fhid q0
  replace g0 := fhid g0
  clear hr hd
  go_enter Tryz.func30, Tryz.ntmps30
  go_upto_region 1 with fail
  generalize w.alloc _ = w0 at *
  go_upto_region 5 with (go_at_call 39; (with_reducible refine (hnu _ (hw.below g0.out)).mono ?_); rintro e w3 ⟨rfl, b3⟩)
  have q3 := Box.below q0.out b3 z0
  clear k0 k1 k2 k3 k4 k5 k6 k7 k8 k9 k10 k11 k12 k13 k14 k15 k16 f0 f1 f2 f3 f4 f5 f6 f7 f8 f9 f10 f11 f12 f13 f14 f15 f16
  obtain ⟨⟨k0, k1, k2, k3, k4, k5, k6, k7, k8, k9, k10, k11, k12, k13, k14, k15, k16⟩, ⟨f0, f1, f2, f3, f4, f5, f6, f7, f8, f9, f10, f11, f12, f13, f14, f15, f16⟩, z3⟩ := Box.seventeen q3
  replace q3 := fhid q3
  replace b3 := fhid b3
  go_region
  go_wp2_with fail
  refine ret_cell4 (c := { noCmd with kind := k, job := 0 }) (vi := .slice none 0 0) (va := .slice none 0 0) (ok := false) rfl rfl rfl rfl (Box.drew (Box.over17 q3.out _ _ _ _ _ _ _ _ _ _ _ _ _ _ _ _ _)) ?_
  exact ⟨(below17 (g0.out.trans (b3.out.mono g0.out.size)) (Nat.le_refl _) _ _ _ _ _ _ _ _ _ _ _ _ _ _ _ _ _).drew, { noCmd with kind := k, job := 0 }, _, _, rfl, HasI.nil, HasA.nil, fun c' h => by cases h⟩

end Go.Proofs.YtjpihophigjbpaaGreatDoor
/-
  A job's number of too many digits.
-/
namespace Go.Proofs.YtjpihophigjbpaaGreatDoor
open Go.RowKit Go.Shelf Vs

set_option maxRecDepth 100000 in
set_option maxHeartbeats 16000000 in
theorem job_long (X0 : Nat → Prop) (k : Int) (bb oo cap : Nat) (d : Str) (n : Nat) (w : World) (hw : Env w) (hbb : bb < w.heap.size) (hc : w.cell? ⟨bb, oo, none⟩ = some (.string (str d))) (hd : d.length ≤ 65536) (hr : readNumP d = some n) (hl : ¬ d.length ≤ 6) :
    Calls Tryz.prog 30 #[.int .i64 k, .slice (some ⟨bb, oo, none⟩) 1 cap] w (ReadP X0 none w) := by
  obtain ⟨q0, g0⟩ := start_cmd w
  obtain ⟨⟨k0, k1, k2, k3, k4, k5, k6, k7, k8, k9, k10, k11, k12, k13, k14, k15, k16⟩, ⟨f0, f1, f2, f3, f4, f5, f6, f7, f8, f9, f10, f11, f12, f13, f14, f15, f16⟩, z0⟩ := Box.seventeen q0
  have hnu := fun W (hW : Env W) => readNumber_any (str d) W hW (by rw [str_size]; omega)
  rw [bl_str, hr] at hnu
  unfold numV at hnu
  simp only at hnu
  have hc0 := (g0.cell (p := ⟨bb, oo, none⟩) hbb).trans hc
  have hsz : (str d).size = d.length := str_size d
  have i1 : ¬ ((str d).size : Int) ≤ 6 := by omega
  replace hsz := fhid hsz
  generalize str d = D at *
  have i3 : decide ((D.size : Int) ≤ 6) = false := decide_eq_false i1
  have i4 : (6 : Int) < D.size := by omega
  clear hl
  replace q0 := fhid q0
  replace g0 := fhid g0
  clear hr hd
  go_enter Tryz.func30, Tryz.ntmps30
  go_upto_region 1 with fail
  generalize w.alloc _ = w0 at *
  go_upto_region 5 with (go_at_call 39; (with_reducible refine (hnu _ (hw.below g0.out)).mono ?_); rintro e w3 ⟨rfl, b3⟩)
  have q3 := Box.below q0.out b3 z0
  clear k0 k1 k2 k3 k4 k5 k6 k7 k8 k9 k10 k11 k12 k13 k14 k15 k16 f0 f1 f2 f3 f4 f5 f6 f7 f8 f9 f10 f11 f12 f13 f14 f15 f16
  obtain ⟨⟨k0, k1, k2, k3, k4, k5, k6, k7, k8, k9, k10, k11, k12, k13, k14, k15, k16⟩, ⟨f0, f1, f2, f3, f4, f5, f6, f7, f8, f9, f10, f11, f12, f13, f14, f15, f16⟩, z3⟩ := Box.seventeen q3
  replace q3 := fhid q3
  replace b3 := fhid b3
  go_region
  go_wp2_with fail
  refine ret_cell4 (c := { noCmd with kind := k, job := (n : Int) }) (vi := .slice none 0 0) (va := .slice none 0 0) (ok := false) rfl rfl rfl rfl (Box.drew (Box.over17 q3.out _ _ _ _ _ _ _ _ _ _ _ _ _ _ _ _ _)) ?_
  exact ⟨(below17 (g0.out.trans (b3.out.mono g0.out.size)) (Nat.le_refl _) _ _ _ _ _ _ _ _ _ _ _ _ _ _ _ _ _).drew, { noCmd with kind := k, job := (n : Int) }, _, _, rfl, HasI.nil, HasA.nil, fun c' h => by cases h⟩

end Go.Proofs.YtjpihophigjbpaaGreatDoor
/-
  A job's number that begins with a nought.
-/
namespace Go.Proofs.YtjpihophigjbpaaGreatDoor
open Go.RowKit Go.Shelf Vs

set_option maxRecDepth 100000 in
set_option maxHeartbeats 16000000 in
theorem job_zero (X0 : Nat → Prop) (k : Int) (bb oo cap : Nat) (x : UInt8) (r : Str) (n : Nat) (w : World) (hw : Env w) (hbb : bb < w.heap.size) (hc : w.cell? ⟨bb, oo, none⟩ = some (.string (str (x :: r)))) (hd : (x :: r).length ≤ 65536) (hr : readNumP (x :: r) = some n) (hl : (x :: r).length ≤ 6) (hx : x = 48) :
    Calls Tryz.prog 30 #[.int .i64 k, .slice (some ⟨bb, oo, none⟩) 1 cap] w (ReadP X0 none w) := by
  obtain ⟨q0, g0⟩ := start_cmd w
  obtain ⟨⟨k0, k1, k2, k3, k4, k5, k6, k7, k8, k9, k10, k11, k12, k13, k14, k15, k16⟩, ⟨f0, f1, f2, f3, f4, f5, f6, f7, f8, f9, f10, f11, f12, f13, f14, f15, f16⟩, z0⟩ := Box.seventeen q0
  have hnu := fun W (hW : Env W) => readNumber_any (str (x :: r)) W hW (by rw [str_size]; omega)
  rw [bl_str, hr] at hnu
  unfold numV at hnu
  simp only at hnu
  have hc0 := (g0.cell (p := ⟨bb, oo, none⟩) hbb).trans hc
  have hsz : (str (x :: r)).size = (x :: r).length := str_size _
  have i1 : ((str (x :: r)).size : Int) ≤ 6 := by omega
  have i2 : (str (x :: r)).size ≤ 6 := by omega
  have hix : ∀ W, (Instr.index 9 (.string (str (x :: r))) (.int .i64 0)).run Tryz.prog W = .ok (.int .u8 x.toNat) W := fun W => rfl
  have i3 : (0 : Int) < ((str (x :: r)).size : Int) := by rw [hsz]; simp
  have i4 : 0 < (str (x :: r)).size := by rw [hsz]; simp
  have i5 : ((x.toNat : Int) != 48) = false := by subst hx; rfl
  have i6 : (x.toNat : Int) = 48 := by subst hx; rfl
  clear hx
  replace hsz := fhid hsz
  generalize str (x :: r) = D at *
  replace q0 := fhid q0
  replace g0 := fhid g0
  clear hr hd
  go_enter Tryz.func30, Tryz.ntmps30
  go_upto_region 1 with fail
  generalize w.alloc _ = w0 at *
  go_upto_region 5 with (go_at_call 39; (with_reducible refine (hnu _ (hw.below g0.out)).mono ?_); rintro e w3 ⟨rfl, b3⟩)
  have q3 := Box.below q0.out b3 z0
  clear k0 k1 k2 k3 k4 k5 k6 k7 k8 k9 k10 k11 k12 k13 k14 k15 k16 f0 f1 f2 f3 f4 f5 f6 f7 f8 f9 f10 f11 f12 f13 f14 f15 f16
  obtain ⟨⟨k0, k1, k2, k3, k4, k5, k6, k7, k8, k9, k10, k11, k12, k13, k14, k15, k16⟩, ⟨f0, f1, f2, f3, f4, f5, f6, f7, f8, f9, f10, f11, f12, f13, f14, f15, f16⟩, z3⟩ := Box.seventeen q3
  replace q3 := fhid q3
  replace b3 := fhid b3
  go_region
  go_wp2_with fail
  refine ret_cell4 (c := { noCmd with kind := k, job := (n : Int) }) (vi := .slice none 0 0) (va := .slice none 0 0) (ok := false) rfl rfl rfl rfl (Box.drew (Box.over17 q3.out _ _ _ _ _ _ _ _ _ _ _ _ _ _ _ _ _)) ?_
  exact ⟨(below17 (g0.out.trans (b3.out.mono g0.out.size)) (Nat.le_refl _) _ _ _ _ _ _ _ _ _ _ _ _ _ _ _ _ _).drew, { noCmd with kind := k, job := (n : Int) }, _, _, rfl, HasI.nil, HasA.nil, fun c' h => by cases h⟩

end Go.Proofs.YtjpihophigjbpaaGreatDoor
/-
  A job's number.
-/
namespace Go.Proofs.YtjpihophigjbpaaGreatDoor
open Go.RowKit Go.Shelf Vs

set_option maxRecDepth 100000 in
set_option maxHeartbeats 16000000 in
theorem job_ok (X0 : Nat → Prop) (k : Int) (bb oo cap : Nat) (x : UInt8) (r : Str) (n : Nat) (w : World) (hw : Env w) (hbb : bb < w.heap.size) (hc : w.cell? ⟨bb, oo, none⟩ = some (.string (str (x :: r)))) (hd : (x :: r).length ≤ 65536) (hr : readNumP (x :: r) = some n) (hl : (x :: r).length ≤ 6) (hx : x ≠ 48) :
    Calls Tryz.prog 30 #[.int .i64 k, .slice (some ⟨bb, oo, none⟩) 1 cap] w (ReadP X0 (some { noCmd with kind := k, job := (n : Int) }) w) := by
  obtain ⟨q0, g0⟩ := start_cmd w
  obtain ⟨⟨k0, k1, k2, k3, k4, k5, k6, k7, k8, k9, k10, k11, k12, k13, k14, k15, k16⟩, ⟨f0, f1, f2, f3, f4, f5, f6, f7, f8, f9, f10, f11, f12, f13, f14, f15, f16⟩, z0⟩ := Box.seventeen q0
  have hnu := fun W (hW : Env W) => readNumber_any (str (x :: r)) W hW (by rw [str_size]; omega)
  rw [bl_str, hr] at hnu
  unfold numV at hnu
  simp only at hnu
  have hc0 := (g0.cell (p := ⟨bb, oo, none⟩) hbb).trans hc
  have hsz : (str (x :: r)).size = (x :: r).length := str_size _
  have i1 : ((str (x :: r)).size : Int) ≤ 6 := by omega
  have i2 : (str (x :: r)).size ≤ 6 := by omega
  have hix : ∀ W, (Instr.index 9 (.string (str (x :: r))) (.int .i64 0)).run Tryz.prog W = .ok (.int .u8 x.toNat) W := fun W => rfl
  have i3 : (0 : Int) < ((str (x :: r)).size : Int) := by rw [hsz]; simp
  have i4 : 0 < (str (x :: r)).size := by rw [hsz]; simp
  have i6 : ¬ (x.toNat : Int) = 48 := fun e => hx (UInt8.toNat_inj.1 (show x.toNat = 48 by omega))
  have i5 : ((x.toNat : Int) != 48) = true := by simpa using i6
  clear hx
  replace hsz := fhid hsz
  generalize str (x :: r) = D at *
  replace q0 := fhid q0
  replace g0 := fhid g0
  clear hr hd
  go_enter Tryz.func30, Tryz.ntmps30
  go_upto_region 1 with fail
  generalize w.alloc _ = w0 at *
  go_upto_region 5 with (go_at_call 39; (with_reducible refine (hnu _ (hw.below g0.out)).mono ?_); rintro e w3 ⟨rfl, b3⟩)
  have q3 := Box.below q0.out b3 z0
  clear k0 k1 k2 k3 k4 k5 k6 k7 k8 k9 k10 k11 k12 k13 k14 k15 k16 f0 f1 f2 f3 f4 f5 f6 f7 f8 f9 f10 f11 f12 f13 f14 f15 f16
  obtain ⟨⟨k0, k1, k2, k3, k4, k5, k6, k7, k8, k9, k10, k11, k12, k13, k14, k15, k16⟩, ⟨f0, f1, f2, f3, f4, f5, f6, f7, f8, f9, f10, f11, f12, f13, f14, f15, f16⟩, z3⟩ := Box.seventeen q3
  replace q3 := fhid q3
  replace b3 := fhid b3
  go_region
  go_wp2_with fail
  refine ret_cell4 (c := { noCmd with kind := k, job := (n : Int) }) (vi := .slice none 0 0) (va := .slice none 0 0) (ok := true) rfl rfl rfl rfl (Box.drew (Box.over17 q3.out _ _ _ _ _ _ _ _ _ _ _ _ _ _ _ _ _)) ?_
  exact ⟨(below17 (g0.out.trans (b3.out.mono g0.out.size)) (Nat.le_refl _) _ _ _ _ _ _ _ _ _ _ _ _ _ _ _ _ _).drew, { noCmd with kind := k, job := (n : Int) }, _, _, rfl, HasI.nil, HasA.nil, fun c' h => Option.some.inj h⟩

end Go.Proofs.YtjpihophigjbpaaGreatDoor
/-
  A list of nodes, read.
-/
namespace Go.Proofs.YtjpihophigjbpaaGreatDoor
open Go.RowKit Go.Shelf Vs

set_option maxRecDepth 100000 in
set_option maxHeartbeats 16000000 in
theorem host_many (X0 : Nat → Prop) (k : Int) (A : Option Addr) (cap : Nat) (ws : List Str) (w : World) (h1 : ¬ ws.length = 1) :
    Calls Tryz.prog 31 #[.int .i64 k, .slice A ws.length cap] w (ReadP X0 none w) := by
  obtain ⟨q0, g0⟩ := start_cmd w
  obtain ⟨⟨k0, k1, k2, k3, k4, k5, k6, k7, k8, k9, k10, k11, k12, k13, k14, k15, k16⟩, ⟨f0, f1, f2, f3, f4, f5, f6, f7, f8, f9, f10, f11, f12, f13, f14, f15, f16⟩, z0⟩ := Box.seventeen q0
  have i1 : ((ws.length : Int) != 1) = true := by simp; omega
  have i2 : ¬ (ws.length : Int) = 1 := by omega
  replace q0 := fhid q0
  replace g0 := fhid g0
  go_enter Tryz.func31, Tryz.ntmps31
  go_upto_region 1 with fail
  generalize w.alloc _ = w0 at *
  go_wp2_with fail
  refine ret_cell4 (c := noCmd) (vi := .slice none 0 0) (va := .slice none 0 0) (ok := false) rfl rfl rfl rfl (Box.over17 q0.out _ _ _ _ _ _ _ _ _ _ _ _ _ _ _ _ _) ?_
  exact read_none noCmd (below17 g0.out (Nat.le_refl _) _ _ _ _ _ _ _ _ _ _ _ _ _ _ _ _ _) HasI.nil HasA.nil
set_option maxRecDepth 100000 in
set_option maxHeartbeats 16000000 in
theorem host_yes (X0 : Nat → Prop) (k : Int) (bb oo cap : Nat) (d : Str) (w : World) (hw : Env w) (hbb : bb < w.heap.size) (hc : w.cell? ⟨bb, oo, none⟩ = some (.string (str d))) (hd : d.length ≤ 65536) (hy : (Hs.expand d).2.1 = 0) :
    Calls Tryz.prog 31 #[.int .i64 k, .slice (some ⟨bb, oo, none⟩) 1 cap] w (ReadP X0 (some { noCmd with kind := k, host := d }) w) := by
  obtain ⟨q0, g0⟩ := start_cmd w
  obtain ⟨⟨k0, k1, k2, k3, k4, k5, k6, k7, k8, k9, k10, k11, k12, k13, k14, k15, k16⟩, ⟨f0, f1, f2, f3, f4, f5, f6, f7, f8, f9, f10, f11, f12, f13, f14, f15, f16⟩, z0⟩ := Box.seventeen q0
  have hex := fun W (hW : Env W) => Hs.Expand_any (str d) W hW.1 (by rw [str_size]; omega)
  rw [show Hs.bl (str d) = d from bl_str d] at hex
  unfold Hs.ExpPost at hex
  have hc0 := (g0.cell (p := ⟨bb, oo, none⟩) hbb).trans hc
  generalize (Hs.expand d).2.1 = y at *
  generalize (Hs.expand d).2.2 = z at *
  generalize (Hs.expand d).1 = ns at *
  have e1 : ((y : Int) == 0) = true := by rw [hy]; rfl
  replace hy := fhid hy
  have hbb0 : bb < (w.alloc (.cells #[.int .i64 0, .string ⟨#[]⟩, .string ⟨#[]⟩, .string ⟨#[]⟩, .string ⟨#[]⟩, .int .i64 0, .int .i64 0, .int .i64 0, .int .i64 0, .int .i64 0, .int .i64 0, .bool false, .slice none 0 0, .slice none 0 0, .int .i64 0, .int .i64 0, .string ⟨#[]⟩] TCmd)).heap.size := Nat.lt_of_lt_of_le hbb g0.size
  replace q0 := fhid q0
  replace g0 := fhid g0
  go_enter Tryz.func31, Tryz.ntmps31
  go_upto_region 1 with fail
  generalize w.alloc _ = w0 at *
  go_upto_region 4 with (go_at_call 40; (with_reducible refine (hex _ (hw.below g0.out)).mono ?_); rintro e w3 ⟨v, rfl, _, b3⟩)
  have b4 : Below w0.heap.size w0 (w3.alloc (.cells #[.int .i64 y, .int .i64 z] 88)) := b3.alloc b3.size _
  have n4 : (w3.alloc (.cells #[.int .i64 y, .int .i64 z] 88)).cell? ⟨w3.heap.size, 0, none⟩ = some (.int .i64 y) := by simp [go_sem]
  have hne : w3.heap.size ≠ w.heap.size := by have := b3.size; omega
  generalize w3.alloc _ = w4 at *
  generalize w3.heap.size = c3 at *
  have hne2 : w.heap.size ≠ c3 := Ne.symm hne
  have hne3 : bb ≠ w.heap.size := by omega
  have hne4 : w.heap.size ≠ bb := by omega
  have q3 := Box.below q0.out b4 z0
  have hc4 := (b4.cell (p := ⟨bb, oo, none⟩) hbb0).trans hc0
  clear k0 k1 k2 k3 k4 k5 k6 k7 k8 k9 k10 k11 k12 k13 k14 k15 k16 f0 f1 f2 f3 f4 f5 f6 f7 f8 f9 f10 f11 f12 f13 f14 f15 f16
  obtain ⟨⟨k0, k1, k2, k3, k4, k5, k6, k7, k8, k9, k10, k11, k12, k13, k14, k15, k16⟩, ⟨f0, f1, f2, f3, f4, f5, f6, f7, f8, f9, f10, f11, f12, f13, f14, f15, f16⟩, z3⟩ := Box.seventeen q3
  replace q3 := fhid q3
  replace b4 := fhid b4
  clear hex hc hc0 b3
  go_region
  go_wp2_with fail
  refine ret_cell4 (c := { noCmd with kind := k, host := d }) (vi := .slice none 0 0) (va := .slice none 0 0) (ok := true) rfl rfl rfl rfl (Box.drew (Box.over17 q3.out _ _ _ _ _ _ _ _ _ _ _ _ _ _ _ _ _)) ?_
  exact ⟨(below17 (g0.out.trans (b4.out.mono g0.out.size)) (Nat.le_refl _) _ _ _ _ _ _ _ _ _ _ _ _ _ _ _ _ _).drew, { noCmd with kind := k, host := d }, _, _, rfl, HasI.nil, HasA.nil, fun c' h => Option.some.inj h⟩
set_option maxRecDepth 100000 in
set_option maxHeartbeats 16000000 in
theorem host_no (X0 : Nat → Prop) (k : Int) (bb oo cap : Nat) (d : Str) (w : World) (hw : Env w) (hbb : bb < w.heap.size) (hc : w.cell? ⟨bb, oo, none⟩ = some (.string (str d))) (hd : d.length ≤ 65536) (hy : ¬ (Hs.expand d).2.1 = 0) :
    Calls Tryz.prog 31 #[.int .i64 k, .slice (some ⟨bb, oo, none⟩) 1 cap] w (ReadP X0 none w) := by
  obtain ⟨q0, g0⟩ := start_cmd w
  obtain ⟨⟨k0, k1, k2, k3, k4, k5, k6, k7, k8, k9, k10, k11, k12, k13, k14, k15, k16⟩, ⟨f0, f1, f2, f3, f4, f5, f6, f7, f8, f9, f10, f11, f12, f13, f14, f15, f16⟩, z0⟩ := Box.seventeen q0
  have hex := fun W (hW : Env W) => Hs.Expand_any (str d) W hW.1 (by rw [str_size]; omega)
  rw [show Hs.bl (str d) = d from bl_str d] at hex
  unfold Hs.ExpPost at hex
  have hc0 := (g0.cell (p := ⟨bb, oo, none⟩) hbb).trans hc
  generalize (Hs.expand d).2.1 = y at *
  generalize (Hs.expand d).2.2 = z at *
  generalize (Hs.expand d).1 = ns at *
  have e1 : ((y : Int) == 0) = false := by simpa using hy
  have e2 : ¬ (y : Int) = 0 := by omega
  have hbb0 : bb < (w.alloc (.cells #[.int .i64 0, .string ⟨#[]⟩, .string ⟨#[]⟩, .string ⟨#[]⟩, .string ⟨#[]⟩, .int .i64 0, .int .i64 0, .int .i64 0, .int .i64 0, .int .i64 0, .int .i64 0, .bool false, .slice none 0 0, .slice none 0 0, .int .i64 0, .int .i64 0, .string ⟨#[]⟩] TCmd)).heap.size := Nat.lt_of_lt_of_le hbb g0.size
  replace q0 := fhid q0
  replace g0 := fhid g0
  go_enter Tryz.func31, Tryz.ntmps31
  go_upto_region 1 with fail
  generalize w.alloc _ = w0 at *
  go_upto_region 4 with (go_at_call 40; (with_reducible refine (hex _ (hw.below g0.out)).mono ?_); rintro e w3 ⟨v, rfl, _, b3⟩)
  have b4 : Below w0.heap.size w0 (w3.alloc (.cells #[.int .i64 y, .int .i64 z] 88)) := b3.alloc b3.size _
  have n4 : (w3.alloc (.cells #[.int .i64 y, .int .i64 z] 88)).cell? ⟨w3.heap.size, 0, none⟩ = some (.int .i64 y) := by simp [go_sem]
  have hne : w3.heap.size ≠ w.heap.size := by have := b3.size; omega
  generalize w3.alloc _ = w4 at *
  generalize w3.heap.size = c3 at *
  have hne2 : w.heap.size ≠ c3 := Ne.symm hne
  have hne3 : bb ≠ w.heap.size := by omega
  have hne4 : w.heap.size ≠ bb := by omega
  have q3 := Box.below q0.out b4 z0
  have hc4 := (b4.cell (p := ⟨bb, oo, none⟩) hbb0).trans hc0
  clear k0 k1 k2 k3 k4 k5 k6 k7 k8 k9 k10 k11 k12 k13 k14 k15 k16 f0 f1 f2 f3 f4 f5 f6 f7 f8 f9 f10 f11 f12 f13 f14 f15 f16
  obtain ⟨⟨k0, k1, k2, k3, k4, k5, k6, k7, k8, k9, k10, k11, k12, k13, k14, k15, k16⟩, ⟨f0, f1, f2, f3, f4, f5, f6, f7, f8, f9, f10, f11, f12, f13, f14, f15, f16⟩, z3⟩ := Box.seventeen q3
  replace q3 := fhid q3
  replace b4 := fhid b4
  clear hex hc hc0 b3
  go_region
  go_wp2_with fail
  refine ret_cell4 (c := { noCmd with kind := k, host := d }) (vi := .slice none 0 0) (va := .slice none 0 0) (ok := false) rfl rfl rfl rfl (Box.drew (Box.over17 q3.out _ _ _ _ _ _ _ _ _ _ _ _ _ _ _ _ _)) ?_
  exact ⟨(below17 (g0.out.trans (b4.out.mono g0.out.size)) (Nat.le_refl _) _ _ _ _ _ _ _ _ _ _ _ _ _ _ _ _ _).drew, { noCmd with kind := k, host := d }, _, _, rfl, HasI.nil, HasA.nil, fun c' h => by cases h⟩
end Go.Proofs.YtjpihophigjbpaaGreatDoor
/-
  A job's number, a list of nodes: whatever the further words.
-/
namespace Go.Proofs.YtjpihophigjbpaaGreatDoor
open Go.RowKit Go.Shelf Vs

theorem readJob_any (X0 : Nat → Prop) (k : Int) (A : Option Addr) (cap : Nat) (ws : List Str) (w : World) (hw : Env w) (hA : Strs w w.heap.size A ws) (hL : ∀ x ∈ ws, x.length ≤ 65536) (hws : ws.length ≤ 65536) :
    Calls Tryz.prog 30 #[.int .i64 k, .slice A ws.length cap] w (ReadP X0 (jobQ k ws) w) := by
  by_cases h1 : ws.length = 1
  · match ws, h1 with
    | [d], _ =>
    have hd := hL d (by simp)
    obtain ⟨bb, oo, rfl, hbb, hc⟩ := hA.at_ (k := 0) (by simp)
    rw [Nat.add_zero] at hc
    have hq : jobQ k [d] = (jobOkQ d).map fun n : Nat => { noCmd with kind := k, job := (n : Int) } := rfl
    rw [hq]
    unfold jobOkQ
    cases hr : readNumP d with
    | none => exact job_none X0 k bb oo cap d w hw hbb hc hd hr
    | some n =>
      simp only
      by_cases hl : d.length ≤ 6
      · match d, hr, hl, hd, hc with
        | [], hr, _, _, _ =>
          exfalso
          unfold readNumP isOfP at hr
          simp at hr
        | x :: r, hr, hl, hd, hc =>
          by_cases hx : x = 48
          · rw [if_neg (by rintro ⟨_, h⟩; exact h (by rw [hx]; rfl))]
            exact job_zero X0 k bb oo cap x r n w hw hbb hc hd hr hl hx
          · rw [if_pos ⟨hl, fun h => hx (by simpa using h)⟩]
            exact job_ok X0 k bb oo cap x r n w hw hbb hc hd hr hl hx
      · rw [if_neg (fun h => hl h.1)]
        exact job_long X0 k bb oo cap d n w hw hbb hc hd hr hl
  · rw [jobQ_none h1]
    exact job_many X0 k A cap ws w h1
theorem hostQ_none {k : Int} {ws : List Str} (h : ws.length ≠ 1) : hostQ k ws = none := by
  rcases ws with _ | ⟨d, _ | ⟨e, r⟩⟩
  · rfl
  · exact absurd rfl h
  · rfl
theorem readHost_any (X0 : Nat → Prop) (k : Int) (A : Option Addr) (cap : Nat) (ws : List Str) (w : World) (hw : Env w) (hA : Strs w w.heap.size A ws) (hL : ∀ x ∈ ws, x.length ≤ 65536) (hws : ws.length ≤ 65536) :
    Calls Tryz.prog 31 #[.int .i64 k, .slice A ws.length cap] w (ReadP X0 (hostQ k ws) w) := by
  by_cases h1 : ws.length = 1
  · match ws, h1 with
    | [d], _ =>
    have hd := hL d (by simp)
    obtain ⟨bb, oo, rfl, hbb, hc⟩ := hA.at_ (k := 0) (by simp)
    rw [Nat.add_zero] at hc
    rw [hostQ_one]
    by_cases hy : (Hs.expand d).2.1 = 0
    · rw [if_pos hy]
      exact host_yes X0 k bb oo cap d w hw hbb hc hd hy
    · rw [if_neg hy]
      exact host_no X0 k bb oo cap d w hw hbb hc hd hy
  · rw [hostQ_none h1]
    exact host_many X0 k A cap ws w h1
end Go.Proofs.YtjpihophigjbpaaGreatDoor
