/-
  Blocks of faults and spans; how many indexes a span has, and which.
-/
import Derived.Test.YtlcbppflpadhaaaDoorYNum
import Derived.Maps.RangeWalk
import Derived.Deep.QuietTactic
import Derived.BigQuiet
import Derived.Deep.DeepCutAuto
namespace Go.Proofs.YtlcbppflpadhaaaDoor
open Go.RowKit

theorem block_set {w : World} {b : Nat} {cs : Array Value} {t : TypeId} (i : Nat) (u : Value) (h : w.heap[b]? = some (.cells cs t (0, 0))) : (w.setCell ⟨b, i, none⟩ u).heap[b]? = some (.cells (cs.setIfInBounds i u) t (0, 0)) := by
  have hlt := lt_of_block h
  have h' : w.heap[b] = .cells cs t (0, 0) := by simpa [Array.getElem?_eq_getElem hlt] using h
  show (w.heap.modify b _)[b]? = _
  rw [Array.getElem?_eq_getElem (by simpa using hlt), Array.getElem_modify_self, h']
  rfl
theorem block_other {w : World} {b c : Nat} {o : Option Obj} (i : Nat) (u : Value) (h : w.heap[b]? = o) (hne : b ≠ c) : (w.setCell ⟨c, i, none⟩ u).heap[b]? = o := (Below.heap_setCell _ _ _ _ hne).trans h
theorem new_at (w : World) (o : Obj) (b : Nat) (hb : b = w.heap.size) : (w.alloc o).heap[b]? = some o := by subst hb; exact heap_alloc_new w o
theorem old_at (w : World) (o : Obj) (b : Nat) {x : Option Obj} (h : w.heap[b]? = x) (hb : b < w.heap.size) : (w.alloc o).heap[b]? = x := (Below.heap_alloc _ _ _ hb).trans h
abbrev TFa : TypeId := 41
abbrev TSp : TypeId := 70
/-- A fault's block. -/
def FB (w : World) (b : Nat) (e f : Int) : Prop := w.heap[b]? = some (.cells #[.int .i64 e, .int .i64 f] TFa (0, 0))
theorem FB.facts {w : World} {b : Nat} {e f : Int} (h : FB w b e f) : w.cell? ⟨b, 0, none⟩ = some (.int .i64 e) ∧ w.cell? ⟨b, 1, none⟩ = some (.int .i64 f) ∧ w.frozen? ⟨b, 0, none⟩ = false ∧ w.frozen? ⟨b, 1, none⟩ = false ∧ b < w.heap.size := by
  unfold FB at h
  exact ⟨by simp [World.cell?, h], by simp [World.cell?, h], by simp [World.frozen?, h], by simp [World.frozen?, h], lt_of_block h⟩
theorem FB.below {w w' : World} {B b : Nat} {e f : Int} (h : FB w b e f) (hb : Below B w w') (hB : b < B) : FB w' b e f := (hb.block b hB).trans h
/-- A span's block. -/
def SB (w : World) (b : Nat) (x y st : Int) : Prop := w.heap[b]? = some (.cells #[.int .i64 x, .int .i64 y, .int .i64 st] TSp (0, 0))
theorem SB.facts {w : World} {b : Nat} {x y st : Int} (h : SB w b x y st) : w.cell? ⟨b, 0, none⟩ = some (.int .i64 x) ∧ w.cell? ⟨b, 1, none⟩ = some (.int .i64 y) ∧ w.cell? ⟨b, 2, none⟩ = some (.int .i64 st) ∧ w.frozen? ⟨b, 0, none⟩ = false ∧ w.frozen? ⟨b, 1, none⟩ = false ∧ w.frozen? ⟨b, 2, none⟩ = false ∧ b < w.heap.size := by
  unfold SB at h
  exact ⟨by simp [World.cell?, h], by simp [World.cell?, h], by simp [World.cell?, h], by simp [World.frozen?, h], by simp [World.frozen?, h], by simp [World.frozen?, h], lt_of_block h⟩
theorem SB.below {w w' : World} {B b : Nat} {x y st : Int} (h : SB w b x y st) (hb : Below B w w') (hB : b < B) : SB w' b x y st := (hb.block b hB).trans h
/-- A span as Go's text has it: rising, with a step. -/
def SpOk (x : Sp) : Prop := 0 ≤ x.1 ∧ x.1 ≤ x.2.1 ∧ x.2.1 ≤ 999999 ∧ 1 ≤ x.2.2 ∧ x.2.2 ≤ 999999
theorem sp_lt {x y st : Int} (h : SpOk (x, y, st)) (j : Nat) : j < spN (x, y, st) ↔ x + (j : Int) * st ≤ y := by
  obtain ⟨h0, h1, h2, h3, h4⟩ := h
  simp only at h0 h1 h2 h3 h4
  have hd : 0 ≤ (y - x) / st := Int.ediv_nonneg (by omega) (by omega)
  have key : (j : Int) ≤ (y - x) / st ↔ (j : Int) * st ≤ y - x := Int.le_ediv_iff_mul_le (by omega)
  unfold spN
  show j < ((y - x) / st + 1).toNat ↔ _
  omega
theorem sp_many {x y st : Int} (h : SpOk (x, y, st)) : (spN (x, y, st) : Int) = (y - x) / st + 1 ∧ spN (x, y, st) ≤ 1000000 := by
  obtain ⟨h0, h1, h2, h3, h4⟩ := h
  simp only at h0 h1 h2 h3 h4
  have hd : 0 ≤ (y - x) / st := Int.ediv_nonneg (by omega) (by omega)
  have hm : (y - x) / st ≤ y - x := Int.ediv_le_self _ (by omega)
  unfold spN
  show (((y - x) / st + 1).toNat : Int) = _ ∧ ((y - x) / st + 1).toNat ≤ _
  omega
theorem spL_succ (x : Sp) (j : Nat) (h : j < spN x) : (spL x).take (j + 1) = (spL x).take j ++ [x.1 + (j : Int) * x.2.2] := by
  rw [List.take_succ_eq_append_getElem (by rw [spL_len]; exact h)]
  simp [spL]
set_option maxRecDepth 100000 in
set_option maxHeartbeats 1000000 in
theorem count_any (x y st : Int) (h : SpOk (x, y, st)) (w : World) : Calls Tryd.prog 39 #[.agg #[.int .i64 x, .int .i64 y, .int .i64 st]] w fun e w' => e = .returned (.int .i64 (spN (x, y, st))) ∧ Below w.heap.size w w' := by
  have hE := fhid (sp_many h).1
  obtain ⟨h0, h1, h2, h3, h4⟩ := h
  simp only at h0 h1 h2 h3 h4
  have i1 : (0 : Int) ≤ y - x := by omega
  have i2 : y - x ≤ 999999 := by omega
  have hd : 0 ≤ (y - x) / st := Int.ediv_nonneg (by omega) (by omega)
  have hm : (y - x) / st ≤ y - x := Int.ediv_le_self _ (by omega)
  have hst : ¬ st = 0 := by omega
  generalize spN (x, y, st) = N at *
  go_enter Tryd.func39, Tryd.ntmps39
  go_wp2_with fail
  go_ret
  exact ⟨fret1 hE.out.symm, (Below.refl _ _).alloc (Nat.le_refl _) _⟩
def lenOf : Value → Nat | .slice _ n _ => n | _ => 0
/-- Numbers of the call's own. -/
def IntsPost (w : World) (l : List Int) (e : Ending) (w' : World) : Prop := ∃ v, e = .returned v ∧ OwnI w' w.heap.size v l ∧ Below w.heap.size w w'
set_option maxRecDepth 100000 in
set_option maxHeartbeats 2000000 in
theorem indexes_any (x y st : Int) (h : SpOk (x, y, st)) (w : World) : Calls Tryd.prog 40 #[.agg #[.int .i64 x, .int .i64 y, .int .i64 st]] w (IntsPost w (spL (x, y, st))) := by
  have hlt := fhid (sp_lt h)
  have hmany := (sp_many h).2
  have hsn := fhid (spL_succ (x, y, st))
  have hll := fhid (spL_len (x, y, st))
  obtain ⟨h0, h1, h2, h3, h4⟩ := h
  simp only at h0 h1 h2 h3 h4
  generalize spL (x, y, st) = L at *
  generalize spN (x, y, st) = N at *
  have p0 : SB (w.alloc (.cells #[.int .i64 x, .int .i64 y, .int .i64 st] TSp)) w.heap.size x y st := heap_alloc_new w _
  have b0 : Below w.heap.size w (w.alloc (.cells #[.int .i64 x, .int .i64 y, .int .i64 st] TSp)) := (Below.refl _ _).alloc (Nat.le_refl _) _
  have z0 := World.size_alloc w (.cells #[.int .i64 x, .int .i64 y, .int .i64 st] TSp)
  go_enter Tryd.func40, Tryd.ntmps40
  go_upto_region 1 with fail
  generalize w.alloc _ = w1 at *
  obtain ⟨c0, c1, c2, _, _, _, _⟩ := p0.facts
  replace p0 := fhid p0
  replace z0 := fhid z0
  go_wp2_with fail
  go_loopw [3, 4] (fun v i wr => ∃ (j : Nat), j ≤ N ∧ i = .int .i64 (x + (j : Int) * st) ∧ OwnI wr (w.heap.size + 1) v (L.take j) ∧ SB wr w.heap.size x y st ∧ Below w.heap.size w wr ∧ w.heap.size + 1 ≤ wr.heap.size) (fun _ i _ => (y + 1 - intOf i).toNat)
  case atStart => exact ⟨0, Nat.zero_le _, by simp, by rw [List.take_zero]; exact OwnI.nil _ _, p0.out, b0, by have := z0.out; omega⟩
  case round =>
    clear c0 c1 c2
    obtain ⟨j, hjN, rfl, hO, hS, hB, hz⟩ := hrel
    obtain ⟨c0, c1, c2, _, _, _, _⟩ := hS.facts
    have hlj : (L.take j).length = j := by rw [List.length_take, hll.out]; omega
    have hj := hlt.out j
    have hP : x + ((j + 1 : Nat) : Int) * st = x + (j : Int) * st + st := by rw [Int.natCast_add, Int.add_mul]; simp; omega
    have hP0 : 0 ≤ (j : Int) * st := Int.mul_nonneg (by omega) (by omega)
    replace hS := fhid hS
    by_cases hlt' : j < N
    · have i1 := hj.1 hlt'
      have hs := fhid (hsn.out j hlt')
      replace hP := fhid hP
      generalize hq : x + (j : Int) * st = q at *
      have i0 : 0 ≤ q := by omega
      have i2 : q ≤ 999999 := by omega
      clear hj hP0
      replace hq := fhid hq
      replace hO := fhid hO
      replace hB := fhid hB
      go_wp2_with (at_builtin; (refine app_int rfl _ _ rfl (w.heap.size + 1) _ (L.take j) q wr rfl hO.out rfl wr.heap.size rfl rfl (by omega) hz ?_; intro v3 w3 o3 _ b3); clear c0 c1 c2; obtain ⟨c0, c1, c2, _, _, _, _⟩ := (SB.below hS.out b3 (by omega)).facts)
      go_roundw
      case rel => exact ⟨j + 1, by omega, by rw [hP.out], by rw [hs.out]; exact o3, hS.out.below b3 (by omega), hB.out.trans (b3.mono (by omega)), by have := b3.size; omega⟩
      case measure => simp [intOf]; omega
    · have i1 : ¬ x + (j : Int) * st ≤ y := fun h => hlt' (hj.2 h)
      obtain rfl : j = N := by omega
      have hLL : L.take j = L := List.take_of_length_le (by rw [hll.out]; omega)
      rw [hLL] at hO
      generalize x + (j : Int) * st = q at *
      replace hO := fhid hO
      clear hj hP hP0 hLL hlj
      go_wp2_with fail
      go_ret
      exact ⟨_, rfl, hO.out.base (by omega), hB⟩
end Go.Proofs.YtlcbppflpadhaaaDoor
