/-
  Two slices of bytes are the same where their bytes are.
-/
import Derived.Test.YtbclmgakifmgfaaFApp
import Derived.Lib.SlBytesRow
import Derived.Laws.Strings
namespace Go.Proofs.Ytbclmgakifmgfaa
open Go.RowKit

/-- Bytes, as a string. -/
def str (l : List UInt8) : ByteArray := ⟨l.toArray⟩
theorem str_inj {l m : List UInt8} : str l = str m ↔ l = m := by
  constructor
  · intro h
    have := congrArg (fun s : ByteArray => s.data.toList) h
    simpa [str] using this
  · rintro rfl; rfl
theorem conv_seg (w : World) (B : Nat) (A : Option Addr) (l : List UInt8) (cap : Nat) (h : Seg w B A l) :
    (convert 27 9 (.slice A l.length cap)).run Try.prog w = .ok (.string (str l)) w := by
  cases A with
  | none =>
    have hl : l = [] := by
      cases l with
      | nil => rfl
      | cons c r => obtain ⟨b, o, e, _⟩ := h (by simp); cases e
    subst hl
    exact run_convert_bytes_nil w 27 5 Try.underlying27 Try.underlying5 _ _ 9 Try.underlying9
  | some ad =>
    refine run_convert_bytes_back w 27 9 5 ad cap l Try.underlying27 Try.underlying5 Try.underlying9 (fun j hj => ?_)
    obtain ⟨b, o, e, _, hc⟩ := h (by omega)
    cases e
    have := hc j hj
    unfold Addr.add
    by_cases hz : j = 0
    · subst hz; simpa using this
    · rw [if_neg hz]; exact this
theorem str_eq (l m : List UInt8) : ((str l).toList == (str m).toList) = decide (l = m) := by
  rw [ByteArray.toList_eq, ByteArray.toList_eq, Bool.eq_iff_iff]
  simp [str]
theorem fretb {a b : Bool} (h : a = b) : Ending.returned (.bool a) = .returned (.bool b) := by rw [h]
set_option maxHeartbeats 400000 in
theorem Same_any (A Bo : Option Addr) (l m : List UInt8) (ca cb BA BB : Nat) (w : World) (hl : Seg w BA A l) (hm : Seg w BB Bo m) :
    Calls Try.prog 13 #[.slice A l.length ca, .slice Bo m.length cb] w fun e w' => e = .returned (.bool (decide (l = m))) ∧ w = w' := by
  have k1 := conv_seg w BA A l ca hl
  have k2 := conv_seg w BB Bo m cb hm
  have he := fhid (str_eq l m)
  clear hl hm
  generalize str l = s at *
  generalize str m = t at *
  go_enter Try.func13, Try.ntmps13
  go_wp2
  go_ret
  exact ⟨fretb he.out, rfl⟩
end Go.Proofs.Ytbclmgakifmgfaa
