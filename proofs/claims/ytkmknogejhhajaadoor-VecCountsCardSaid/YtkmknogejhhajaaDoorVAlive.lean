/-
  What each statement asks beside: a text's vector, back and forth.
-/
import Derived.Test.YtkmknogejhhajaaDoorVParse
import Derived.Test.YtkmknogejhhajaaDoorVInto3
namespace Go.Proofs.YtkmknogejhhajaaDoor
open Go.RowKit

def aliveT : List UInt8 := [99, 112, 117, 61, 52, 44, 103, 112, 117, 61, 50]
theorem num_digit (n : Nat) (h : n < 10) : num (n : Int) = [UInt8.ofNat (48 + n)] := by
  rw [num_pos (by omega), show ((n : Int)).toNat = n by omega]
  exact dec_small h
theorem alive_fmt : fmt (4, 0, 2) = aliveT := by
  have h4 := num_digit 4 (by decide)
  have h2 := num_digit 2 (by decide)
  unfold fmt allPcs pcs
  simp only
  rw [if_neg (by decide), if_neg (by decide), if_pos trivial, if_neg (by decide), List.append_nil]
  show Go.Lib.join [pc kCpu 4, pc kGpu 2] [44] = _
  rw [join_two]
  unfold pc
  rw [show num (4 : Int) = [UInt8.ofNat (48 + 4)] from h4, show num (2 : Int) = [UInt8.ofNat (48 + 2)] from h2]
  rfl
theorem alive_parse : parseP aliveT = ((4, 0, 2), 0) := parse_iff aliveT (4, 0, 2) (by decide) alive_fmt
theorem alive_into : in3 4 0 2 9 0 5 = 2 := by decide
def TP (w : World) (b : Bool) (e : Ending) (w' : World) : Prop := e = .returned (.bool b) ∧ Below w.heap.size w w'
set_option maxRecDepth 100000 in
set_option maxHeartbeats 2000000 in
theorem alive_any (w : World) (hw : Env w) : Calls Tryd.prog 18 #[] w (TP w true) := by
  have hp := fun W (hW : Env W) => Parse_any (str aliveT) (by decide) W hW
  rw [bl_str, alive_parse] at hp
  unfold VP at hp
  simp only [vv] at hp
  have hpt : str aliveT = ⟨#[99, 112, 117, 61, 52, 44, 103, 112, 117, 61, 50]⟩ := rfl
  have hf := fun W (hW : Env W) => Format_any 4 0 2 W hW ⟨by decide, by decide⟩ ⟨by decide, by decide⟩ ⟨by decide, by decide⟩
  rw [alive_fmt, hpt] at hf
  rw [hpt] at hp
  have hz := fun W (hW : Env W) => Format_any 0 0 0 W hW ⟨by decide, by decide⟩ ⟨by decide, by decide⟩ ⟨by decide, by decide⟩
  rw [show fmt (0, 0, 0) = noneT from rfl, show str noneT = ⟨#[110, 111, 110, 101]⟩ from rfl] at hz
  have hin := fun W => Into_any 4 0 2 9 0 5 W
  rw [alive_into] at hin
  have hq := fun W => eql_vec 4 0 2 4 0 2 W
  rw [decide_eq_true (show (4 : Int) = 4 ∧ (0 : Int) = 0 ∧ (2 : Int) = 2 from ⟨rfl, rfl, rfl⟩)] at hq
  clear hpt
  replace hw := fhid hw
  go_enter Tryd.func18, Tryd.ntmps18
  go_wp2_with (first
    | (go_at_call 25; (with_reducible refine (hp _ hw.out).mono ?_); rintro r w1 ⟨rfl, b1⟩
       have v1 := fhid (VB.new w1 4 0 2 _ rfl)
       have z1 := fhid (b1.alloc b1.size (.cells #[.int .i64 4, .int .i64 0, .int .i64 2] 23)))
    | (go_at_call 27; (with_reducible refine (hf _ (hw.out.below z1.out)).mono ?_); rintro r w2 ⟨rfl, b2⟩
       have v2 := fhid (v1.out.on b2)
       have z2 := fhid (z1.out.trans (b2.mono z1.out.size))
       obtain ⟨e0, e1, e2, _⟩ := v2.out.facts)
    | (go_at_call 14; (with_reducible refine (hin _).mono ?_); rintro r w3 ⟨rfl, g3⟩
       have z3 := fhid (z2.out.trans (g3.below.mono z2.out.size)))
    | (go_at_call 27; (with_reducible refine (hz _ (hw.out.below z3.out)).mono ?_); rintro r w4 ⟨rfl, b4⟩))
  go_ret
  exact ⟨rfl, z3.out.trans (b4.mono z3.out.size)⟩
end Go.Proofs.YtkmknogejhhajaaDoor
