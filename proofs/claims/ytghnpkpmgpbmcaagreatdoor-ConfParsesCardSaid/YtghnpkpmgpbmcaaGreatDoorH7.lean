/-
  Parts: HNumber HRun HJoin HCompress HAlive.
-/
import Derived.Test.YtghnpkpmgpbmcaaGreatDoorH2
import Derived.Lib.ConvBytes
import Derived.Laws.IdiomStrings
import Derived.BigQuiet
import Derived.Deep.QuietTactic
import Derived.Laws.StructEq
import Derived.ChangeKeysEq
set_option linter.unusedSimpArgs false
set_option linter.unusedVariables false
/-
  A name's prefix and number.
-/
namespace Go.Proofs.YtghnpkpmgpbmcaaGreatDoor.Hs
open Go.RowKit

/-- Draws, and blocks behind all that was there. -/
def Grew (w w' : World) : Prop := ∃ q os, w' = Go.Sort.grow (w.drewN q) os
theorem Grew.below {w w' : World} (h : Grew w w') : Below w.heap.size w w' := by
  obtain ⟨q, os, rfl⟩ := h
  exact below_grow w q os
theorem Grew.refl (w : World) : Grew w w := ⟨0, #[], by unfold Go.Sort.grow; rw [Array.append_empty]; rfl⟩
theorem Grew.trans {a b c : World} (h : Grew a b) (k : Grew b c) : Grew a c := by
  obtain ⟨q, os, rfl⟩ := h
  obtain ⟨q', os', rfl⟩ := k
  refine ⟨q + q', os ++ os', ?_⟩
  show World.mk (a.heap ++ os ++ os') _ _ _ _ = World.mk (a.heap ++ (os ++ os')) _ _ _ _
  rw [Array.append_assoc]
  congr 1
  show a.drawn + q + q' = a.drawn + (q + q')
  omega
theorem Grew.drew {a b : World} (h : Grew a b) : Grew a b.drew := h.trans ⟨1, #[], by unfold Go.Sort.grow; rw [Array.append_empty]; rfl⟩
theorem Grew.drewN {a b : World} (h : Grew a b) (n : Nat) : Grew a (b.drewN n) := h.trans ⟨n, #[], by unfold Go.Sort.grow; rw [Array.append_empty]⟩
theorem Grew.alloc {a b : World} (h : Grew a b) (o : Obj) : Grew a (b.alloc o) := h.trans ⟨0, #[o], rfl⟩
theorem bytes_grew (w : World) (s : ByteArray) : Grew w (Lib.bytesWorld w 5 s) := by
  have h1 := run_bytes_of_string (P := Tryz.prog) w 9 125 5 s Tryz.underlying9 Tryz.underlying125 Tryz.underlying5
  have h2 := Lib.run_convert_string_bytes (P := Tryz.prog) w 9 125 5 s Tryz.underlying9 Tryz.underlying125 Tryz.underlying5
  rw [h1] at h2
  injection h2 with _ h2
  rw [← h2]
  exact ((Grew.refl w).drew).alloc _
end Go.Proofs.YtghnpkpmgpbmcaaGreatDoor.Hs
/-
  Which names make one part.
-/
namespace Go.Proofs.YtghnpkpmgpbmcaaGreatDoor.Hs
open Go.RowKit

end Go.Proofs.YtghnpkpmgpbmcaaGreatDoor.Hs
/-
  The part that a run's names make.
-/
namespace Go.Proofs.YtghnpkpmgpbmcaaGreatDoor.Hs
open Go.RowKit

theorem Strs.below {w w' : World} {B : Nat} {A : Option Addr} {ns : List (List UInt8)} (h : Strs w B A ns) (hb : Below B w w') : Strs w' B A ns := SegC.below h hb
theorem Strs.more {w : World} {B B' : Nat} {A : Option Addr} {ns : List (List UInt8)} (h : Strs w B A ns) (hb : B ≤ B') : Strs w B' A ns := SegC.more h hb
theorem Strs.take {w : World} {B : Nat} {A : Option Addr} {ns : List (List UInt8)} (h : Strs w B A ns) (k : Nat) : Strs w B A (ns.take k) := by
  have := SegC.take h k
  unfold SV at this
  rwa [← List.map_take] at this
theorem Strs.drop {w : World} {B : Nat} {A : Option Addr} {ns : List (List UInt8)} (h : Strs w B A ns) {k cap : Nat} (hk : k ≤ ns.length) (hc : ns.length ≤ cap) : Strs w B (if cap = k then A else A.map (·.add k)) (ns.drop k) := by
  have := SegC.drop h (k := k) (cap := cap) (by rw [SV_len]; exact hk) (by rw [SV_len]; exact hc)
  unfold SV at this
  rwa [← List.map_drop] at this
end Go.Proofs.YtghnpkpmgpbmcaaGreatDoor.Hs
/-
  Compress, walked.
-/
namespace Go.Proofs.YtghnpkpmgpbmcaaGreatDoor.Hs
open Go.RowKit

def lenOf : Value → Nat | .slice _ n _ => n | _ => 0
end Go.Proofs.YtghnpkpmgpbmcaaGreatDoor.Hs
/-
  Two lists of names are the same; the probe that stands in each statement.
-/
namespace Go.Proofs.YtghnpkpmgpbmcaaGreatDoor.Hs
open Go.RowKit

theorem eql_fault (e f e' f' : Int) (w : World) : (binOp .eql 31 (.agg #[.int .i64 e, .int .i64 f]) (.agg #[.int .i64 e', .int .i64 f'])).run Tryz.prog w = .ok (.bool (e == e' && f == f')) w := by
  have hS : Tryz.prog.underlying 31 = some (.struct (Tryz.prog.fieldsOf 31)) := by kernel_rfl
  have hp : Tryz.prog.stoodInHeld 31 = false := by kernel_rfl
  rw [run_eql_struct, show (10000 : Nat) = 9999 + 1 from rfl, run_equalIn_agg w 9999 31 _ _ hS hp]
  simp only [Program.fieldsOf, Tryz.underlying31]
  go_simp
  by_cases h1 : e = e' <;> by_cases h2 : f = f' <;> simp [h1, h2]
theorem neq_fault (e f e' f' : Int) (w : World) : (binOp .neq 31 (.agg #[.int .i64 e, .int .i64 f]) (.agg #[.int .i64 e', .int .i64 f'])).run Tryz.prog w = .ok (.bool !(e == e' && f == f')) w := by
  have hS : Tryz.prog.underlying 31 = some (.struct (Tryz.prog.fieldsOf 31)) := by kernel_rfl
  have hp : Tryz.prog.stoodInHeld 31 = false := by kernel_rfl
  rw [run_neq_struct, show (10000 : Nat) = 9999 + 1 from rfl, run_equalIn_agg w 9999 31 _ _ hS hp]
  simp only [Program.fieldsOf, Tryz.underlying31]
  go_simp
  by_cases h1 : e = e' <;> by_cases h2 : f = f' <;> simp [h1, h2]
set_option maxRecDepth 100000 in
set_option maxHeartbeats 1000000 in
theorem Same_other (A Bo : Option Addr) (n m ca cb : Nat) (w : World) (h : n ≠ m) :
    Calls Tryz.prog 37 #[.slice A n ca, .slice Bo m cb] w fun e w' => e = .returned (.bool false) ∧ w = w' := by
  have h2 : ¬ (n : Int) = m := by omega
  go_enter Tryz.func37, Tryz.ntmps37
  go_wp2
  go_ret
  exact ⟨rfl, rfl⟩
theorem take_same {ps qs : List (List UInt8)} {k : Nat} (h : ps.length = qs.length) (hk : k < ps.length) (hp : ps.take k = qs.take k) (he : ps[k] = qs[k]'(h ▸ hk)) : ps.take (k + 1) = qs.take (k + 1) := by
  rw [List.take_succ_eq_append_getElem hk, List.take_succ_eq_append_getElem (h ▸ hk), hp, he]
set_option maxRecDepth 100000 in
set_option maxHeartbeats 1000000 in
theorem Same_len (A Bo : Option Addr) (ps qs : List (List UInt8)) (ca cb B B' : Nat) (w : World) (ha : Strs w B A ps) (hb : Strs w B' Bo qs) (hl : ps.length = qs.length) (hm : ps.length ≤ 1000000) :
    Calls Tryz.prog 37 #[.slice A ps.length ca, .slice Bo qs.length cb] w fun e w' => e = .returned (.bool (decide (ps = qs))) ∧ ∃ n, w' = w.drewN n := by
  rw [← hl]
  replace ha := fhid ha
  replace hb := fhid hb
  replace hl := fhid hl
  have hmI : (ps.length : Int) ≤ 1000000 := by omega
  replace hm := fhid hm
  go_enter Tryz.func37, Tryz.ntmps37
  go_wp2
  go_loopw [5] (fun i wr => ∃ k : Nat, k ≤ ps.length ∧ i = .int .i64 k ∧ ps.take k = qs.take k ∧ ∃ n, wr = w.drewN n) (fun i _ => ps.length - (intOf i).toNat)
  case atStart => exact ⟨0, by omega, rfl, rfl, 0, rfl⟩
  case round =>
    obtain ⟨k, hk, rfl, hp, q, hq⟩ := hrel
    have hcw : ∀ p, wr.cell? p = w.cell? p := fun p => by rw [hq]; rfl
    replace hq := fhid hq
    replace hp := fhid hp
    by_cases hlt : k < ps.length
    · have hlt2 : k < qs.length := by rw [← hl.out]; exact hlt
      obtain ⟨b, o, rfl, _, c1⟩ := ha.out.at_ hlt
      obtain ⟨b', o', rfl, _, c2⟩ := hb.out.at_ hlt2
      replace c1 := (hcw _).trans c1
      replace c2 := (hcw _).trans c2
      have hse := str_eq (str ps[k]) (str qs[k])
      rw [bl_str, bl_str] at hse
      have i1 : (0 : Int) ≤ k := by omega
      have i2 : (k : Int) < ps.length := by omega
      have i3 : (k : Int) ≤ 1000000 := by omega
      have hnx := fun h => fhid (take_same hl.out hlt hp.out h)
      have hne := fun (h : ps[k] ≠ qs[k]) => fhid (show decide (ps = qs) = false from decide_eq_false (fun e => h (by subst e; rfl)))
      clear hcw
      generalize ps[k] = p at *
      generalize qs[k] = q1 at *
      generalize str p = P at *
      generalize str q1 = Q at *
      by_cases he : p = q1
      · rw [decide_eq_true he] at hse
        have hny := hnx he
        clear hnx hne he
        go_wp2_with fail
        go_quiet (fail)
        go_wp2_with fail
        go_roundw
        case rel => exact ⟨k + 1, by omega, by go_num, hny.out, _, by rw [hq.out, World.drewN_drewN]⟩
        case measure => simp [intOf]; omega
      · rw [decide_eq_false he] at hse
        have E := hne he
        clear hnx hne he
        go_wp2_with fail
        go_quiet (fail)
        go_wp2_with fail
        go_ret
        exact ⟨fretb E.out.symm, _, by rw [hq.out, World.drewN_drewN]⟩
    · have hk2 : k = ps.length := by omega
      have h2 : ¬ (k : Int) < ps.length := by omega
      have E := fhid (show decide (ps = qs) = true by
        rw [hk2, List.take_length] at hp
        have := hp.out
        rw [hl.out, List.take_length] at this
        exact decide_eq_true this)
      clear hk2
      go_wp2
      go_ret
      exact ⟨fretb E.out.symm, ⟨_, hq.out⟩⟩
theorem Same_any (A Bo : Option Addr) (ps qs : List (List UInt8)) (ca cb B B' : Nat) (w : World) (ha : Strs w B A ps) (hb : Strs w B' Bo qs) (hm : ps.length ≤ 1000000) :
    Calls Tryz.prog 37 #[.slice A ps.length ca, .slice Bo qs.length cb] w fun e w' => e = .returned (.bool (decide (ps = qs))) ∧ ∃ n, w' = w.drewN n := by
  by_cases hl : ps.length = qs.length
  · exact Same_len A Bo ps qs ca cb B B' w ha hb hl hm
  · refine (Same_other A Bo ps.length qs.length ca cb w hl).mono ?_
    rintro e w' ⟨rfl, rfl⟩
    exact ⟨fretb (decide_eq_false (fun h => hl (by rw [h]))).symm, 0, rfl⟩
end Go.Proofs.YtghnpkpmgpbmcaaGreatDoor.Hs
