/-
  Two lists of names are the same; the probe that stands in each statement.
-/
import Derived.Test.YtkmknogejhhajabDoorHCompress
import Derived.Laws.StructEq
import Derived.ChangeKeysEq
namespace Go.Proofs.YtkmknogejhhajabDoor
open Go.RowKit

theorem eql_fault (e f e' f' : Int) (w : World) : (binOp .eql 40 (.agg #[.int .i64 e, .int .i64 f]) (.agg #[.int .i64 e', .int .i64 f'])).run Tryd.prog w = .ok (.bool (e == e' && f == f')) w := by
  have hS : Tryd.prog.underlying 40 = some (.struct (Tryd.prog.fieldsOf 40)) := by kernel_rfl
  have hp : Tryd.prog.stoodInHeld 40 = false := by kernel_rfl
  rw [run_eql_struct, show (10000 : Nat) = 9999 + 1 from rfl, run_equalIn_agg w 9999 40 _ _ hS hp]
  simp only [Program.fieldsOf, Tryd.underlying40]
  go_simp
  by_cases h1 : e = e' <;> by_cases h2 : f = f' <;> simp [h1, h2]
theorem neq_fault (e f e' f' : Int) (w : World) : (binOp .neq 40 (.agg #[.int .i64 e, .int .i64 f]) (.agg #[.int .i64 e', .int .i64 f'])).run Tryd.prog w = .ok (.bool !(e == e' && f == f')) w := by
  have hS : Tryd.prog.underlying 40 = some (.struct (Tryd.prog.fieldsOf 40)) := by kernel_rfl
  have hp : Tryd.prog.stoodInHeld 40 = false := by kernel_rfl
  rw [run_neq_struct, show (10000 : Nat) = 9999 + 1 from rfl, run_equalIn_agg w 9999 40 _ _ hS hp]
  simp only [Program.fieldsOf, Tryd.underlying40]
  go_simp
  by_cases h1 : e = e' <;> by_cases h2 : f = f' <;> simp [h1, h2]
set_option maxRecDepth 100000 in
set_option maxHeartbeats 1000000 in
theorem Same_other (A Bo : Option Addr) (n m ca cb : Nat) (w : World) (h : n ≠ m) :
    Calls Tryd.prog 8 #[.slice A n ca, .slice Bo m cb] w fun e w' => e = .returned (.bool false) ∧ w = w' := by
  have h2 : ¬ (n : Int) = m := by omega
  go_enter Tryd.func8, Tryd.ntmps8
  go_wp2
  go_ret
  exact ⟨rfl, rfl⟩
theorem take_same {ps qs : List (List UInt8)} {k : Nat} (h : ps.length = qs.length) (hk : k < ps.length) (hp : ps.take k = qs.take k) (he : ps[k] = qs[k]'(h ▸ hk)) : ps.take (k + 1) = qs.take (k + 1) := by
  rw [List.take_succ_eq_append_getElem hk, List.take_succ_eq_append_getElem (h ▸ hk), hp, he]
set_option maxRecDepth 100000 in
set_option maxHeartbeats 1000000 in
theorem Same_len (A Bo : Option Addr) (ps qs : List (List UInt8)) (ca cb B B' : Nat) (w : World) (ha : Strs w B A ps) (hb : Strs w B' Bo qs) (hl : ps.length = qs.length) (hm : ps.length ≤ 1000000) :
    Calls Tryd.prog 8 #[.slice A ps.length ca, .slice Bo qs.length cb] w fun e w' => e = .returned (.bool (decide (ps = qs))) ∧ ∃ n, w' = w.drewN n := by
  rw [← hl]
  replace ha := fhid ha
  replace hb := fhid hb
  replace hl := fhid hl
  have hmI : (ps.length : Int) ≤ 1000000 := by omega
  replace hm := fhid hm
  go_enter Tryd.func8, Tryd.ntmps8
  go_wp2
  go_loopw [5] (fun i wr => ∃ k : Nat, k ≤ ps.length ∧ i = .int .i64 k ∧ ps.take k = qs.take k ∧ ∃ n, wr = w.drewN n) (fun i _ => ps.length - (intOf i).toNat)
  case atStart => exact ⟨0, by omega, rfl, rfl, 0, rfl⟩
  case round =>
    obtain ⟨k, hk, rfl, hp, q, hq⟩ := hrel
    have hcw : ∀ p, wr.cell? p = w.cell? p := fun p => by rw [hq]; rfl
    replace hq := fhid hq
    replace hp := fhid hp
    by_cases hlt : k < ps.length
    · have hlt2 : k < qs.length := by rw [← hl.out]; exact hlt
      obtain ⟨b, o, rfl, _, c1⟩ := ha.out.at_ hlt
      obtain ⟨b', o', rfl, _, c2⟩ := hb.out.at_ hlt2
      replace c1 := (hcw _).trans c1
      replace c2 := (hcw _).trans c2
      have hse := str_eq (str ps[k]) (str qs[k])
      rw [bl_str, bl_str] at hse
      have i1 : (0 : Int) ≤ k := by omega
      have i2 : (k : Int) < ps.length := by omega
      have i3 : (k : Int) ≤ 1000000 := by omega
      have hnx := fun h => fhid (take_same hl.out hlt hp.out h)
      have hne := fun (h : ps[k] ≠ qs[k]) => fhid (show decide (ps = qs) = false from decide_eq_false (fun e => h (by subst e; rfl)))
      clear hcw
      generalize ps[k] = p at *
      generalize qs[k] = q1 at *
      generalize str p = P at *
      generalize str q1 = Q at *
      by_cases he : p = q1
      · rw [decide_eq_true he] at hse
        have hny := hnx he
        clear hnx hne he
        go_wp2_with fail
        go_quiet (fail)
        go_wp2_with fail
        go_roundw
        case rel => exact ⟨k + 1, by omega, by go_num, hny.out, _, by rw [hq.out, World.drewN_drewN]⟩
        case measure => simp [intOf]; omega
      · rw [decide_eq_false he] at hse
        have E := hne he
        clear hnx hne he
        go_wp2_with fail
        go_quiet (fail)
        go_wp2_with fail
        go_ret
        exact ⟨fretb E.out.symm, _, by rw [hq.out, World.drewN_drewN]⟩
    · have hk2 : k = ps.length := by omega
      have h2 : ¬ (k : Int) < ps.length := by omega
      have E := fhid (show decide (ps = qs) = true by
        rw [hk2, List.take_length] at hp
        have := hp.out
        rw [hl.out, List.take_length] at this
        exact decide_eq_true this)
      clear hk2
      go_wp2
      go_ret
      exact ⟨fretb E.out.symm, ⟨_, hq.out⟩⟩
theorem Same_any (A Bo : Option Addr) (ps qs : List (List UInt8)) (ca cb B B' : Nat) (w : World) (ha : Strs w B A ps) (hb : Strs w B' Bo qs) (hm : ps.length ≤ 1000000) :
    Calls Tryd.prog 8 #[.slice A ps.length ca, .slice Bo qs.length cb] w fun e w' => e = .returned (.bool (decide (ps = qs))) ∧ ∃ n, w' = w.drewN n := by
  by_cases hl : ps.length = qs.length
  · exact Same_len A Bo ps qs ca cb B B' w ha hb hl hm
  · refine (Same_other A Bo ps.length qs.length ca cb w hl).mono ?_
    rintro e w' ⟨rfl, rfl⟩
    exact ⟨fretb (decide_eq_false (fun h => hl (by rw [h]))).symm, 0, rfl⟩
/-- What the probe's names look like in memory. -/
theorem alive_lit (w : World) : Strs (w.alloc (.cells #[.string ⟨#[110, 49]⟩, .string ⟨#[110, 50]⟩, .string ⟨#[110, 51]⟩, .string ⟨#[110, 48, 55]⟩, .string ⟨#[110, 48, 56]⟩, .string ⟨#[109]⟩] 9)) (w.heap.size + 1) (some ⟨w.heap.size, 0, none⟩) aliveNames :=
  one_cells w [.string ⟨#[110, 49]⟩, .string ⟨#[110, 50]⟩, .string ⟨#[110, 51]⟩, .string ⟨#[110, 48, 55]⟩, .string ⟨#[110, 48, 56]⟩, .string ⟨#[109]⟩] 9
set_option maxRecDepth 100000 in
set_option maxHeartbeats 1000000 in
theorem alive_any (w : World) (hT : Tab w) : Calls Tryd.prog 11 #[] w (BoolPost w true) := by
  have hexp := Expand_any ⟨#[110, 91, 49, 45, 51, 44, 48, 55, 45, 48, 56, 93, 44, 109]⟩ w hT (by show 14 ≤ _; omega)
  rw [show bl ⟨#[110, 91, 49, 45, 51, 44, 48, 55, 45, 48, 56, 93, 44, 109]⟩ = aliveText from rfl, alive_expand] at hexp
  replace hT := fhid hT
  have hq := eql_fault 0 0 0 0
  have hse := str_eq (str aliveBack) ⟨#[110, 91, 49, 45, 51, 93, 44, 110, 91, 48, 55, 45, 48, 56, 93, 44, 109]⟩
  rw [bl_str, decide_eq_true (show aliveBack = bl ⟨#[110, 91, 49, 45, 51, 93, 44, 110, 91, 48, 55, 45, 48, 56, 93, 44, 109]⟩ from rfl)] at hse
  have hlb : (⟨#[110, 91, 49, 45, 51, 93, 44, 110, 91, 48, 55, 45, 48, 56, 93, 44, 109]⟩ : ByteArray).toList = [110, 91, 49, 45, 51, 93, 44, 110, 91, 48, 55, 45, 48, 56, 93, 44, 109] := by rw [ByteArray.toList_eq]
  rw [hlb] at hse
  clear hlb
  generalize hSB : str aliveBack = SB at *
  replace hse := fhid hse
  replace hSB := fhid hSB
  go_enter Tryd.func11, Tryd.ntmps11
  go_wp2_with fail
  refine hexp.mono ?_
  rintro e w1 ⟨v1, rfl, o1, b1⟩
  obtain ⟨A1, c1, rfl, hc1, _, s1⟩ := o1.shape
  clear hexp o1
  replace s1 := fhid s1
  replace hc1 := fhid hc1
  go_wp2_with fail
  have y2 : Below w1.heap.size w1 ((w1.alloc (.cells #[.int .i64 0, .int .i64 0] 40)).alloc (.cells #[.string ⟨#[110, 49]⟩, .string ⟨#[110, 50]⟩, .string ⟨#[110, 51]⟩, .string ⟨#[110, 48, 55]⟩, .string ⟨#[110, 48, 56]⟩, .string ⟨#[109]⟩] 9)) := ((Below.refl _ _).alloc (Nat.le_refl _) _).alloc (by simp) _
  have lit := alive_lit (w1.alloc (.cells #[.int .i64 0, .int .i64 0] 40))
  rw [World.size_alloc] at lit
  refine (Same_any A1 (some ⟨w1.heap.size + 1, 0, none⟩) aliveNames aliveNames c1 6 _ _ _ (s1.out.below y2) lit (by decide)).mono ?_
  rintro e w2 ⟨rfl, nq, rfl⟩
  rw [decide_eq_true (show aliveNames = aliveNames from rfl)]
  have y3 := below_drewN (b1.trans (y2.mono b1.size)) nq
  generalize hW : (World.drewN _ nq) = W at *
  have s2 : Strs W w1.heap.size A1 aliveNames := by rw [← hW]; exact s1.out.below (below_drewN y2 nq)
  replace hW := fhid hW
  have z1 : w1.heap.size ≤ W.heap.size := by rw [← hW.out]; exact (below_drewN y2 nq).size
  have hcmp := Compress_any A1 c1 aliveNames W (tab_below hT.out y3) (s2.more z1) hc1.out (by decide) (by decide)
  rw [alive_compress] at hcmp
  unfold StrPost at hcmp
  rw [hSB.out] at hcmp
  clear s1 s2 lit y2
  go_wp2_with fail
  refine hcmp.mono ?_
  rintro e w3 ⟨rfl, b3⟩
  go_wp2_with fail
  go_ret
  exact ⟨fretb hse.out, y3.trans (b3.mono y3.size)⟩
end Go.Proofs.YtkmknogejhhajabDoor
