/-
  Plain facts: frames laid one behind the other are got again.
-/
import Derived.Test.YtpblpkmlioojiaaFAllM
import Derived.Test.YtpblpkmlioojiaaFLe
namespace Go.Proofs.Ytpblpkmlioojiaa

/-- Frames, one behind the other. -/
def laid : List (List UInt8) → List UInt8
  | [] => []
  | p :: r => frame p ++ laid r
theorem laid_append (a b : List (List UInt8)) : laid (a ++ b) = laid a ++ laid b := by
  induction a with
  | nil => rfl
  | cons p r ih => simp only [List.cons_append, laid, ih, List.append_assoc]
theorem laid_take (ps : List (List UInt8)) (k : Nat) (h : k < ps.length) : laid (ps.take (k + 1)) = laid (ps.take k) ++ frame ps[k] := by
  rw [List.take_succ_eq_append_getElem h, laid_append]
  simp [laid]
theorem laid_take_le (ps : List (List UInt8)) (k : Nat) : (laid (ps.take k)).length ≤ (laid ps).length := by
  have : laid ps = laid (ps.take k) ++ laid (ps.drop k) := by rw [← laid_append, List.take_append_drop]
  rw [this, List.length_append]
  omega
theorem frame_head (p rest : List UInt8) : (frame p ++ rest).take 4 = le 4 p.length := by
  unfold frame
  rw [List.append_assoc, List.append_assoc, List.take_append_of_le_length (by rw [le_length]; omega), List.take_of_length_le (by rw [le_length]; omega)]
theorem frame_num (p rest : List UInt8) (h : p.length ≤ 65536) : num ((frame p ++ rest).take 4) = p.length := by
  rw [frame_head, num_le 4 p.length (by omega)]
theorem frame_inner (p rest : List UInt8) : ((frame p ++ rest).drop 4).take p.length = p := by
  unfold frame
  rw [List.append_assoc, List.append_assoc, List.drop_append_of_le_length (by rw [le_length]; omega), List.drop_of_length_le (by rw [le_length]; omega), List.nil_append, List.take_append_of_le_length (Nat.le_refl _), List.take_of_length_le (Nat.le_refl _)]
theorem frame_tail (p rest : List UInt8) : ((frame p ++ rest).drop (4 + p.length)).take 8 = le 8 (sumOf p) := by
  unfold frame
  rw [List.append_assoc, List.append_assoc, ← List.append_assoc (le 4 p.length)]
  have h : (le 4 p.length ++ p).length = 4 + p.length := by rw [List.length_append, le_length]
  rw [List.drop_append_of_le_length (by omega), List.drop_of_length_le (by omega), List.nil_append, List.take_append_of_le_length (by rw [le_length]; omega), List.take_of_length_le (by rw [le_length]; omega)]
theorem frame_get (p rest : List UInt8) (h : p.length ≤ 65536) : getErr (frame p ++ rest) = 0 ∧ getBytes (frame p ++ rest) = p ∧ getLen (frame p ++ rest) = p.length + 12 ∧ (frame p ++ rest).drop (p.length + 12) = rest := by
  have hl : (frame p ++ rest).length = p.length + 12 + rest.length := by rw [List.length_append, frame_length]
  have hn := frame_num p rest h
  have he : getErr (frame p ++ rest) = 0 := by
    unfold getErr
    rw [hn, if_neg (by omega), if_neg (by omega), if_neg (by omega), frame_inner, frame_tail, num_le 8 _ (by have := sumOf_lt p; omega), if_pos rfl]
  refine ⟨he, ?_, ?_, ?_⟩
  · unfold getBytes; rw [if_pos he, hn, frame_inner]
  · unfold getLen; rw [if_pos he, hn]
  · have hfl := frame_length p
    rw [List.drop_append_of_le_length (by omega), List.drop_of_length_le (by omega), List.nil_append]
/-- All frames of frames that were laid, with what comes behind them. -/
theorem allOf_laid (ps : List (List UInt8)) (rest : List UInt8) (h : ∀ p ∈ ps, p.length ≤ 65536) : allOf (laid ps ++ rest) = (ps ++ (allOf rest).1, (laid ps).length + (allOf rest).2) := by
  induction ps with
  | nil => simp [laid]
  | cons p r ih =>
    rw [laid, List.append_assoc]
    obtain ⟨a, b, c, d⟩ := frame_get p (laid r ++ rest) (h p (by simp))
    rw [allOf_step _ a, b, c, d, ih (fun q hq => h q (by simp [hq]))]
    rw [List.length_append, frame_length]
    simp only [List.cons_append, Nat.add_assoc]
theorem allOf_back (ps : List (List UInt8)) (h : ∀ p ∈ ps, p.length ≤ 65536) : allOf (laid ps) = (ps, (laid ps).length) := by
  have := allOf_laid ps [] h
  rw [List.append_nil, show allOf [] = ([], 0) from rfl, List.append_nil] at this
  exact this
end Go.Proofs.Ytpblpkmlioojiaa
