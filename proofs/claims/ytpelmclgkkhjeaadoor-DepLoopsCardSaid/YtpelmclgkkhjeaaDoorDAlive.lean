/-
  What each statement asks beside: two items, read, told, and asked.
-/
import Derived.Test.YtpelmclgkkhjeaaDoorDStates
import Derived.Test.YtpelmclgkkhjeaaDoorDParse
import Derived.Test.YtpelmclgkkhjeaaDoorDFmt
import Derived.ChangeKeysEq
namespace Go.Proofs.YtpelmclgkkhjeaaDoor
open Go.RowKit

theorem eql_fault (e f e' f' : Int) (w : World) : (binOp .eql 43 (.agg #[.int .i64 e, .int .i64 f]) (.agg #[.int .i64 e', .int .i64 f'])).run Tryd.prog w = .ok (.bool (e == e' && f == f')) w := by
  have hS : Tryd.prog.underlying 43 = some (.struct (Tryd.prog.fieldsOf 43)) := by kernel_rfl
  have hp : Tryd.prog.stoodInHeld 43 = false := by kernel_rfl
  rw [run_eql_struct, show (10000 : Nat) = 9999 + 1 from rfl, run_equalIn_agg w 9999 43 _ _ hS hp]
  simp only [Program.fieldsOf, Tryd.underlying43]
  go_simp
  by_cases h1 : e = e' <;> by_cases h2 : f = f' <;> simp [h1, h2]
theorem neq_fault (e f e' f' : Int) (w : World) : (binOp .neq 43 (.agg #[.int .i64 e, .int .i64 f]) (.agg #[.int .i64 e', .int .i64 f'])).run Tryd.prog w = .ok (.bool !(e == e' && f == f')) w := by
  have hS : Tryd.prog.underlying 43 = some (.struct (Tryd.prog.fieldsOf 43)) := by kernel_rfl
  have hp : Tryd.prog.stoodInHeld 43 = false := by kernel_rfl
  rw [run_neq_struct, show (10000 : Nat) = 9999 + 1 from rfl, run_equalIn_agg w 9999 43 _ _ hS hp]
  simp only [Program.fieldsOf, Tryd.underlying43]
  go_simp
  by_cases h1 : e = e' <;> by_cases h2 : f = f' <;> simp [h1, h2]
def probeT : List UInt8 := [97, 102, 116, 101, 114, 111, 107, 58, 51, 58, 52, 44, 115, 105, 110, 103, 108, 101, 116, 111, 110]
def probeL : List Itm := [(2, [3, 4]), (5, [])]
theorem probe_parse : pDep probeT = some (false, probeL) := by decide +kernel
theorem probe_text : depT false probeL = probeT := (pDep_text probe_parse).1
theorem probe_ask : askP false probeL (stOf [(3, 3), (4, 4)]) true = 2 := by decide +kernel
theorem probe_one : oneP 4 4 = 1 := by decide +kernel
/-- A call that answers a truth, and makes memory. -/
def BoolPost (w : World) (r : Bool) (e : Ending) (w' : World) : Prop := e = .returned (.bool r) ∧ Below w.heap.size w w'
set_option maxRecDepth 100000 in
set_option maxHeartbeats 4000000 in
theorem alive_any (w : World) (hT : Tab w) : Calls Tryd.prog 5 #[] w (BoolPost w true) := by
  have hpa := Parse_any ⟨#[97, 102, 116, 101, 114, 111, 107, 58, 51, 58, 52, 44, 115, 105, 110, 103, 108, 101, 116, 111, 110]⟩ w (by show 21 ≤ _; omega)
  unfold DepPost at hpa
  rw [show bl ⟨#[97, 102, 116, 101, 114, 111, 107, 58, 51, 58, 52, 44, 115, 105, 110, 103, 108, 101, 116, 111, 110]⟩ = probeT from rfl, probe_parse] at hpa
  simp only at hpa
  have hq := eql_fault 0 0 0 0
  have hse := str_eq (str probeT) ⟨#[97, 102, 116, 101, 114, 111, 107, 58, 51, 58, 52, 44, 115, 105, 110, 103, 108, 101, 116, 111, 110]⟩
  rw [bl_str, decide_eq_true (show probeT = bl ⟨#[97, 102, 116, 101, 114, 111, 107, 58, 51, 58, 52, 44, 115, 105, 110, 103, 108, 101, 116, 111, 110]⟩ from rfl)] at hse
  have hlb : (⟨#[97, 102, 116, 101, 114, 111, 107, 58, 51, 58, 52, 44, 115, 105, 110, 103, 108, 101, 116, 111, 110]⟩ : ByteArray).toList = [97, 102, 116, 101, 114, 111, 107, 58, 51, 58, 52, 44, 115, 105, 110, 103, 108, 101, 116, 111, 110] := by rw [ByteArray.toList_eq]
  rw [hlb] at hse
  clear hlb
  generalize hSB : str probeT = SB at *
  replace hSB := fhid hSB
  have hmm := @run_makeMap Tryd.prog
  have hon := fun W => One_any 4 4 W
  rw [probe_one] at hon
  replace hT := fhid hT
  go_enter Tryd.func5, Tryd.ntmps5
  go_upto_region 2 with (go_at_call 9; (with_reducible refine hpa.mono ?_); rintro e w1 ⟨b1, A, cap, h1, h2, hs, rfl⟩)
  have h2l : probeL.length = 2 := rfl
  clear hpa
  rw [h2l] at h1 ⊢
  have bA : Below w1.heap.size w1 ((w1.alloc (.cells #[.bool false, .slice A 2 cap] TDep)).alloc (.cells #[.int .i64 0, .int .i64 0] TFa)) := ((Below.refl _ _).alloc (Nat.le_refl _) _).alloc (by simp) _
  have q0 : DB ((w1.alloc (.cells #[.bool false, .slice A 2 cap] TDep)).alloc (.cells #[.int .i64 0, .int .i64 0] TFa)) w1.heap.size TDep false (.slice A 2 cap) := old_at _ _ _ (heap_alloc_new w1 _) (by simp)
  have q1 : FB ((w1.alloc (.cells #[.bool false, .slice A 2 cap] TDep)).alloc (.cells #[.int .i64 0, .int .i64 0] TFa)) (w1.heap.size + 1) 0 0 := new_at _ _ _ (by simp)
  generalize (w1.alloc (.cells #[.bool false, .slice A 2 cap] TDep)).alloc (.cells #[.int .i64 0, .int .i64 0] TFa) = w2 at *
  have hs2 := (hs.below bA).more bA.size
  have gB := b1.trans (bA.mono b1.size)
  obtain ⟨c0, c1, _, _, z0⟩ := q0.facts
  obtain ⟨c2, c3, _, _, z1⟩ := q1.facts
  have hfm := Format_any false probeL A cap w2 (tab_below hT.out gB) hs2 (by decide) (by decide)
  rw [probe_text, h2l] at hfm
  unfold TP at hfm
  rw [hSB.out] at hfm
  clear hs
  replace hs2 := fhid hs2
  replace q0 := fhid q0
  go_wp2_with (first
    | (go_at_call 10; (with_reducible refine hfm.mono ?_); rintro e w3 ⟨rfl, b3⟩
       obtain ⟨w4, w5, r1, r2, m5, b5⟩ := lit_map w3
       have gC := gB.trans (b3.mono gB.size)
       have b35 := b3.trans (b5.mono b3.size)
       have gD := gC.trans (b5.mono gC.size)
       clear c0 c1
       obtain ⟨c0, c1, _, _, _⟩ := (q0.out.below b3 z0).facts
       have hak := Ask_any false probeL A cap w3.heap.size [(3, 3), (4, 4)] true w5 ((hs2.out.below b35).more b35.size) (by decide) (by decide) m5
       rw [probe_ask, h2l] at hak)
    | (go_at_call 11; (with_reducible refine hak.mono ?_); rintro e w6 ⟨rfl, b6⟩)
    | (go_at_call 12; (with_reducible refine (hon _).mono ?_); rintro e w7 ⟨rfl, rfl⟩))
  go_ret
  exact ⟨rfl, gD.trans (b6.mono gD.size)⟩
end Go.Proofs.YtpelmclgkkhjeaaDoor
