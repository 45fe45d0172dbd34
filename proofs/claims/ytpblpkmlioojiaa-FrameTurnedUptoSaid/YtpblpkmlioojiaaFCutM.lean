/-
  Plain facts: frames cut off anywhere are those that are whole.
-/
import Derived.Test.YtpblpkmlioojiaaFLayM
namespace Go.Proofs.Ytpblpkmlioojiaa

theorem cut_err (p rest : List UInt8) (r : Nat) (h : p.length ≤ 65536) (hr : r < p.length + 12) : getErr ((frame p ++ rest).take r) = 4 := by
  have hl : ((frame p ++ rest).take r).length = r := by
    rw [List.length_take, List.length_append, frame_length]; omega
  unfold getErr
  by_cases h4 : ((frame p ++ rest).take r).length < 4
  · rw [if_pos h4]
  · have hn : num (((frame p ++ rest).take r).take 4) = p.length := by
      rw [List.take_take, Nat.min_eq_left (by omega), frame_num p rest h]
    rw [if_neg h4, hn, if_neg (by omega), if_pos (by omega)]
theorem cut_all (ps : List (List UInt8)) (h : ∀ p ∈ ps, p.length ≤ 65536) (k at_ : Nat) (he : (laid (ps.take k)).length ≤ at_)
    (hs : ps.length ≤ k ∨ ∃ hk : k < ps.length, at_ < (laid (ps.take k)).length + ps[k].length + 12) : allOf ((laid ps).take at_) = (ps.take k, (laid (ps.take k)).length) := by
  have hsp : laid ps = laid (ps.take k) ++ laid (ps.drop k) := by rw [← laid_append, List.take_append_drop]
  have ht : (laid ps).take at_ = laid (ps.take k) ++ (laid (ps.drop k)).take (at_ - (laid (ps.take k)).length) := by
    rw [hsp, List.take_append, List.take_of_length_le he]
  have hst : allOf ((laid (ps.drop k)).take (at_ - (laid (ps.take k)).length)) = ([], 0) := by
    rcases hs with hk | ⟨hk, hlt⟩
    · rw [List.drop_of_length_le hk]
      show allOf (List.take _ []) = _
      rw [List.take_nil]; rfl
    · rw [List.drop_eq_getElem_cons hk, laid]
      exact allOf_stop _ (by rw [cut_err ps[k] _ _ (h _ (List.getElem_mem hk)) (by omega)]; decide)
  rw [ht, allOf_laid _ _ (fun p hp => h p (List.mem_of_mem_take hp)), hst]
  simp
end Go.Proofs.Ytpblpkmlioojiaa
