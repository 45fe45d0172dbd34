/-
  combine, at whatever is done to the parts.
-/
import Derived.Test.YtkmknogejhhajaaDoorVSafe
namespace Go.Proofs.YtkmknogejhhajaaDoor
open Go.RowKit

set_option maxRecDepth 100000 in
set_option maxHeartbeats 1000000 in
theorem orE_any (l : List Int) (b o cap : Nat) (n : Int) (w : World) (_hn : n = l.length) (hc : ∀ j (h : j < l.length), w.cell? ⟨b, o + j, none⟩ = some (.int .i64 l[j])) (hl : l.length ≤ 1000) :
    Calls Tryd.prog 48 #[.slice (some ⟨b, o, none⟩) l.length cap] w fun e w' => e = .returned (.int .i64 (orI l)) ∧ w = w' := by
  obtain ⟨R, hR⟩ : ∃ R, orI l = R := ⟨_, rfl⟩
  rw [hR]
  clear _hn
  replace hc := fhid hc
  replace hR := fhid hR
  go_enter Tryd.func48, Tryd.ntmps48
  go_wp2
  go_loop [8] (fun i => ∃ k : Nat, k ≤ l.length ∧ i = .int .i64 (k : Int) ∧ R = orI (l.drop k)) (fun i => l.length - (intOf i).toNat)
  case atStart => exact ⟨0, Nat.zero_le _, rfl, hR.out.symm⟩
  case round =>
    obtain ⟨k, hk, rfl, hE⟩ := hrel
    replace hE := fhid hE
    by_cases h : k < l.length
    · have i1 : (k : Int) < l.length := by omega
      have i2 : (l.length : Int) ≤ 1000 := by omega
      have c0 := hc.out k h
      have hd := orI_drop l k h
      by_cases hz : l[k] = 0
      · rw [hz] at c0
        rw [if_pos hz] at hd
        replace hd := fhid hd
        clear hz
        go_wp2
        go_round
        case rel => exact ⟨k + 1, h, by go_num, hE.out.trans hd.out⟩
        case measure => simp [intOf]; omega
      · rw [if_neg hz] at hd
        have e1 : ((l[k] : Int) != 0) = true := by simpa using hz
        replace hd := fhid hd
        generalize l[k] = x at *
        go_wp2
        go_ret
        exact ⟨fret1 (hE.out.trans hd.out).symm, rfl⟩
    · have i1 : ¬ (k : Int) < l.length := by omega
      obtain rfl : k = l.length := by omega
      have hd := fhid (show orI (l.drop l.length) = 0 by rw [List.drop_length]; rfl)
      go_wp2
      go_ret
      exact ⟨fret1 (hE.out.trans hd.out).symm, rfl⟩
theorem or3E (x y z : Int) (g : Nat) (W : World) (h : W.heap[g]? = some (.cells #[.int .i64 x, .int .i64 y, .int .i64 z] 29 (0, 0))) : Calls Tryd.prog 48 #[.slice (some ⟨g, 0, none⟩) 3 3] W fun e w' => e = .returned (.int .i64 (orI [x, y, z])) ∧ W = w' :=
  orE_any [x, y, z] g 0 3 3 W rfl (fun j hj => by
    simp only [World.cell?, h, Nat.zero_add]
    match j, hj with
    | 0, _ => rfl
    | 1, _ => rfl
    | 2, _ => rfl) (by show 3 ≤ 1000; omega)
theorem cres_bad {x y z e f g : Int} (h : orI [e, f, g] ≠ 0) : cres x y z e f g = ((0, 0, 0), orI [e, f, g]) := if_pos h
theorem cres_in {x y z e f g : Int} (h : orI [e, f, g] = 0) (h2 : right x y z = true) : cres x y z e f g = ((x, y, z), 0) := by unfold cres; rw [if_neg (fun k => k h), if_pos h2]
theorem cres_out {x y z e f g : Int} (h : orI [e, f, g] = 0) (h2 : right x y z = false) : cres x y z e f g = ((0, 0, 0), 5) := by unfold cres; rw [if_neg (fun k => k h), if_neg (by rw [h2]; decide)]
/-- A vector's box. -/
def VB (w : World) (b : Nat) (x y z : Int) : Prop := w.heap[b]? = some (.cells #[.int .i64 x, .int .i64 y, .int .i64 z] 23 (0, 0))
theorem VB.facts {w : World} {b : Nat} {x y z : Int} (h : VB w b x y z) : w.cell? ⟨b, 0, none⟩ = some (.int .i64 x) ∧ w.cell? ⟨b, 1, none⟩ = some (.int .i64 y) ∧ w.cell? ⟨b, 2, none⟩ = some (.int .i64 z) ∧ (w.frozen? ⟨b, 0, none⟩ = false ∧ w.frozen? ⟨b, 1, none⟩ = false ∧ w.frozen? ⟨b, 2, none⟩ = false) ∧ b < w.heap.size := by
  unfold VB at h
  exact ⟨by simp [World.cell?, h], by simp [World.cell?, h], by simp [World.cell?, h], ⟨by simp [World.frozen?, h], by simp [World.frozen?, h], by simp [World.frozen?, h]⟩, lt_of_block h⟩
theorem VB.grew {w w' : World} {b : Nat} {x y z : Int} (h : VB w b x y z) (g : Grew w w') : VB w' b x y z := (g.below.block b (lt_of_block h)).trans h
theorem VB.on {w w' : World} {b : Nat} {x y z : Int} (h : VB w b x y z) (g : Below w.heap.size w w') : VB w' b x y z := (g.block b (lt_of_block h)).trans h
theorem VB.new (w : World) (x y z : Int) (g : Nat) (hg : g = w.heap.size) : VB (w.alloc (.cells #[.int .i64 x, .int .i64 y, .int .i64 z] 23)) g x y z := by subst hg; exact heap_alloc_new _ _
/-- Three boxes, and what lies in them, in each world that grew. -/
theorem box3 (a b c d e f : Int) (w : World) : let W := ((w.alloc (.cells #[.int .i64 a, .int .i64 b, .int .i64 c] 23)).alloc (.cells #[.int .i64 d, .int .i64 e, .int .i64 f] 23)).alloc (.cells #[.int .i64 0, .int .i64 0, .int .i64 0] 23)
    Grew w W ∧ W.heap.size = w.heap.size + 3 ∧ VB W w.heap.size a b c ∧ VB W (w.heap.size + 1) d e f ∧ VB W (w.heap.size + 2) 0 0 0 := by
  intro W
  refine ⟨(((Grew.refl w).alloc _).alloc _).alloc _, by simp [W], ?_, ?_, ?_⟩
  · refine (Below.heap_alloc _ _ w.heap.size (by simp; omega)).trans ((Below.heap_alloc _ _ w.heap.size (by simp)).trans (heap_alloc_new w _))
  · have h := heap_alloc_new (w.alloc (.cells #[.int .i64 a, .int .i64 b, .int .i64 c] 23)) (.cells #[.int .i64 d, .int .i64 e, .int .i64 f] 23)
    rw [World.size_alloc] at h
    exact (Below.heap_alloc _ _ (w.heap.size + 1) (by simp)).trans h
  · have h := heap_alloc_new ((w.alloc (.cells #[.int .i64 a, .int .i64 b, .int .i64 c] 23)).alloc (.cells #[.int .i64 d, .int .i64 e, .int .i64 f] 23)) (.cells #[.int .i64 0, .int .i64 0, .int .i64 0] 23)
    rw [World.size_alloc, World.size_alloc] at h
    exact h
end Go.Proofs.YtkmknogejhhajaaDoor
