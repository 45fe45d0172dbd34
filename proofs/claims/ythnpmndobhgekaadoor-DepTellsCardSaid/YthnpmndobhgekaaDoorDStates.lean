/-
  The states of jobs, as a map.
-/
import Derived.Test.YthnpmndobhgekaaDoorDLaw
import Derived.Carry
namespace Go.Proofs.YthnpmndobhgekaaDoor
open Go.RowKit

abbrev TJob : TypeId := 62
def JB (w : World) (b : Nat) (i s : Int) : Prop := w.heap[b]? = some (.cells #[.int .i64 i, .int .i64 s] TJob (0, 0))
theorem JB.facts {w : World} {b : Nat} {e f : Int} (h : JB w b e f) : w.cell? ⟨b, 0, none⟩ = some (.int .i64 e) ∧ w.cell? ⟨b, 1, none⟩ = some (.int .i64 f) ∧ w.frozen? ⟨b, 0, none⟩ = false ∧ w.frozen? ⟨b, 1, none⟩ = false ∧ b < w.heap.size := by
  unfold JB at h
  exact ⟨by simp [World.cell?, h], by simp [World.cell?, h], by simp [World.frozen?, h], by simp [World.frozen?, h], lt_of_block h⟩
theorem below_put {w w' : World} {b B : Nat} (h : w.grownBy w' (some b)) (hB : B ≤ b) (hb : b < w.heap.size) : Below B w w' :=
  ⟨h.os, h.tape, h.output, h.size, fun k hk => h.block k (by omega) (by intro e; injection e with e; omega)⟩
/-- A map of jobs' states, of the call's own. -/
def MapPost (w : World) (l : List (Int × Int)) (e : Ending) (w' : World) : Prop := ∃ b, e = .returned (.map (some b)) ∧ w.heap.size ≤ b ∧ SMap w' b (stP l) ∧ Below w.heap.size w w'
set_option maxRecDepth 100000 in
set_option maxHeartbeats 4000000 in
theorem states_any (l : List (Int × Int)) (A : Option Addr) (cap : Nat) (w : World) (hs : Prs w w.heap.size A l) (hl : l.length ≤ 1000) :
    Calls Tryd.prog 23 #[.slice A l.length cap] w (MapPost w l) := by
  replace hs := fhid hs
  have hmm := @run_makeMap Tryd.prog
  go_enter Tryd.func23, Tryd.ntmps23
  go_upto_region 2 with fail
  have hm : SMap (w.alloc (.map #[] 0)) w.heap.size [] := IMap.new w
  have g0 : Below w.heap.size w (w.alloc (.map #[] 0)) := (Below.refl _ _).alloc (Nat.le_refl _) _
  have hz := hm.lt
  generalize w.alloc _ = w1 at *
  replace hm := fhid hm
  go_wp2_with fail
  go_loopw [11] (fun i wr => ∃ j : Nat, j ≤ l.length ∧ i = .int .i64 (j : Int) ∧ SMap wr w.heap.size (stP (l.take j)) ∧ Below w.heap.size w wr) (fun i _ => l.length - (intOf i).toNat)
  case atStart => exact ⟨0, Nat.zero_le _, rfl, hm.out, g0⟩
  case round =>
    obtain ⟨j, hjl, rfl, hM, hB⟩ := hrel
    have hsz := hB.size
    have hbz := hM.lt
    by_cases hlt : j < l.length
    · obtain ⟨bb, o, rfl, hbb, hc1, hc2⟩ := Prs.at_ (SegC.below hs.out hB) hlt
      have hsn := fhid (show stP (l.take (j + 1)) = addS (stP (l.take j)) l[j] by rw [List.take_succ_eq_append_getElem hlt, stP_snoc])
      have i1 : (j : Int) < l.length := by omega
      have i0 : (0 : Int) ≤ j := by omega
      generalize l[j] = x at *
      obtain ⟨id, s⟩ := x
      simp only at hc1 hc2
      generalize stP (l.take j) = pre at *
      go_upto_region 5 with fail
      have hjb : JB (wr.alloc (.cells #[.int .i64 id, .int .i64 s] TJob)) wr.heap.size id s := heap_alloc_new wr _
      have bA : Below wr.heap.size wr (wr.alloc (.cells #[.int .i64 id, .int .i64 s] TJob)) := (Below.refl _ _).alloc (Nat.le_refl _) _
      have hM2 := fhid (SMap.below hM bA hbz)
      have zA := World.size_alloc wr (.cells #[.int .i64 id, .int .i64 s] TJob)
      clear hc1 hc2
      generalize wr.alloc _ = w2 at *
      obtain ⟨c0, c1, _, _, _⟩ := hjb.facts
      replace hjb := fhid hjb
      cases hlk : look pre id with
      | some v =>
        have hE := fhid (hsn.out.trans (show addS pre (id, s) = pre from if_neg (by show ¬ look pre id = none; rw [hlk]; intro h; cases h)))
        replace hlk := fhid hlk
        clear hsn
        go_wp2_with (at_lookup; refine smap_some rfl _ _ rfl w.heap.size pre rfl hM2.out id rfl v hlk.out ?_)
        go_roundw
        case rel => exact ⟨j + 1, by omega, by go_num, by rw [hE.out]; exact hM2.out, hB.trans (bA.mono hsz)⟩
        case measure => simp [intOf]; omega
      | none =>
        have hE := fhid (hsn.out.trans (show addS pre (id, s) = pre ++ [(id, s)] from if_pos hlk))
        replace hlk := fhid hlk
        clear hsn
        go_wp2_with (first
          | (at_lookup; refine smap_none rfl _ _ rfl w.heap.size pre rfl hM2.out id rfl hlk.out ?_)
          | (at_mapUpdate; refine smap_put rfl _ _ _ rfl w.heap.size pre rfl hM2.out id rfl s rfl hlk.out ?_; intro w3 m3 g3 z3))
        go_roundw
        case rel => exact ⟨j + 1, by omega, by go_num, by rw [hE.out]; exact m3, (hB.trans (bA.mono hsz)).trans (below_put g3 (Nat.le_refl _) (by omega))⟩
        case measure => simp [intOf]; omega
    · obtain rfl : j = l.length := by omega
      rw [List.take_length] at hM
      have i1 : ¬ (l.length : Int) < l.length := by omega
      replace hM := fhid hM
      go_wp2_with fail
      go_ret
      exact ⟨_, rfl, Nat.le_refl _, hM.out, hB⟩
/-- The probe's map. -/
theorem lit_map (w : World) : ∃ w1 w2, (Instr.mapUpdate 42 (.map (some w.heap.size)) (.int .i64 3) (.int .i64 3)).run Tryd.prog (w.alloc (.map #[] 0)) = .ok () w1 ∧ (Instr.mapUpdate 42 (.map (some w.heap.size)) (.int .i64 4) (.int .i64 4)).run Tryd.prog w1 = .ok () w2 ∧ SMap w2 w.heap.size [(3, 3), (4, 4)] ∧ Below w.heap.size w w2 := by
  have step : ∀ (W : World) (l : List (Int × Int)) (b : Nat) (k u : Int), SMap W b l → look l k = none → ∃ W', (Instr.mapUpdate 42 (.map (some b)) (.int .i64 k) (.int .i64 u)).run Tryd.prog W = .ok () W' ∧ SMap W' b (l ++ [(k, u)]) ∧ W.grownBy W' (some b) := by
    intro W l b k u h hl
    obtain ⟨es, clock, hb, he⟩ := h
    obtain ⟨j, hj⟩ := findNow_look k es.toList (SV l) 0 he
    rw [look_SV, hl] at hj
    have hf := MapKept.run_findKey (w := W) Tryd.underlying3 hj
    have hc := fun e => MapKept.run_checkKey (P := Tryd.prog) (w := W) Tryd.underlying3 (isKey_int k) e 9999
    refine ⟨ChangeMaps.setBlock W b (.map (es.push ⟨.int .i64 k, .int .i64 u, clock⟩) (clock + 1)), ?_, ⟨_, _, ChangeMaps.heap_setBlock_same hb _, ?_⟩, ⟨rfl, rfl, rfl, by simp [ChangeMaps.setBlock], fun i _ hi => ChangeMaps.heap_setBlock_other hb _ (fun e => hi (by rw [e]))⟩⟩
    · simp [Instr.mapUpdate, run_underlying Tryd.underlying42, MapKept.run_getObj_map hb, hc, hf, MapKept.run_setObj_map _ hb, Result.andThen, ChangeMaps.setBlock]
    · rw [Array.toList_push, List.map_append, he, SV, SV, List.map_append, List.map_append]
      rfl
  obtain ⟨w1, r1, m1, g1⟩ := step _ [] w.heap.size 3 3 (IMap.new w) rfl
  obtain ⟨w2, r2, m2, g2⟩ := step w1 _ w.heap.size 4 4 m1 (by decide)
  have z := World.size_alloc w (.map #[] 0)
  exact ⟨w1, w2, r1, r2, m2, (((Below.refl _ _).alloc (Nat.le_refl _) _).trans (below_put g1 (Nat.le_refl _) (by omega))).trans (below_put g2 (Nat.le_refl _) m1.lt)⟩
end Go.Proofs.YthnpmndobhgekaaDoor
