/-
  Plain facts: of frames of which one byte was turned those ahead of the one that has it are got, and that one not as it was.
-/
import Derived.Test.YtpblpkmlioojiaaFCutM
import Derived.Test.YtpblpkmlioojiaaFRGet
namespace Go.Proofs.Ytpblpkmlioojiaa

/-- What is got is a frame. -/
theorem get_frame (l : List UInt8) (h : getErr l = 0) : l.take (getLen l) = frame (getBytes l) := by
  have hb : getBytes l = (l.drop 4).take (num (l.take 4)) := by unfold getBytes; rw [if_pos h]
  have hn : getLen l = num (l.take 4) + 12 := by unfold getLen; rw [if_pos h]
  unfold getErr at h
  by_cases h4 : l.length < 4
  · rw [if_pos h4] at h; cases h
  · rw [if_neg h4] at h
    by_cases h5 : 65536 < num (l.take 4)
    · rw [if_pos h5] at h; cases h
    · rw [if_neg h5] at h
      by_cases h7 : l.length < num (l.take 4) + 12
      · rw [if_pos h7] at h; cases h
      · rw [if_neg h7] at h
        by_cases hs : sumOf ((l.drop 4).take (num (l.take 4))) = num ((l.drop (4 + num (l.take 4))).take 8)
        · have ht : ((l.drop (4 + num (l.take 4))).take 8).length = 8 := by rw [List.length_take, List.length_drop]; omega
          have hf := (tail_fits _ _ ht (sumOf_lt _)).1 hs
          have h44 : (l.take 4).length = 4 := by rw [List.length_take]; omega
          have hle := le_num (l.take 4)
          rw [h44] at hle
          have hli : ((l.drop 4).take (num (l.take 4))).length = num (l.take 4) := by rw [List.length_take, List.length_drop]; omega
          rw [hb, hn]
          unfold frame
          rw [hli, hle, ← hf]
          rw [show num (l.take 4) + 12 = 4 + (num (l.take 4) + 8) by omega, List.take_add, List.take_add, List.drop_drop, List.append_assoc]
        · rw [if_neg hs] at h; cases h
theorem turned_one (p rest : List UInt8) (i : Nat) (x : UInt8) (hi : i < p.length + 12) (hx : (frame p ++ rest)[i]? ≠ some x) (he : getErr ((frame p ++ rest).set i x) = 0) : getBytes ((frame p ++ rest).set i x) ≠ p := by
  intro hp
  have hf := get_frame _ he
  have hgl := (get_facts _ he).1
  rw [hp] at hf hgl
  rw [← hgl] at hf
  apply hx
  have e1 : ((frame p ++ rest).set i x)[i]? = some x := by
    rw [List.getElem?_set_self (by rw [List.length_append, frame_length]; omega)]
  have e2 : (((frame p ++ rest).set i x).take (p.length + 12))[i]? = some x := by
    rw [List.getElem?_take, if_pos hi]; exact e1
  rw [hf] at e2
  rw [List.getElem?_append_left (by rw [frame_length]; omega)]
  exact e2
/-- Frames of which one byte was turned. -/
theorem turned_all (ps : List (List UInt8)) (h : ∀ p ∈ ps, p.length ≤ 65536) (k at_ : Nat) (x : UInt8) (hk : k < ps.length) (he : (laid (ps.take k)).length ≤ at_) (hlt : at_ < (laid (ps.take k)).length + ps[k].length + 12)
    (hx : (laid ps)[at_]? ≠ some x) : ∃ L : List (List UInt8), (allOf ((laid ps).set at_ x)).1 = ps.take k ++ L ∧ (L = [] ∨ ∃ q r, L = q :: r ∧ q ≠ ps[k]) := by
  have hsp : laid ps = laid (ps.take k) ++ (frame ps[k] ++ laid (ps.drop (k + 1))) := by
    rw [← laid, ← List.drop_eq_getElem_cons hk, ← laid_append, List.take_append_drop]
  have hset : (laid ps).set at_ x = laid (ps.take k) ++ (frame ps[k] ++ laid (ps.drop (k + 1))).set (at_ - (laid (ps.take k)).length) x := by
    rw [hsp, List.set_append_right _ _ he]
  have hx2 : (frame ps[k] ++ laid (ps.drop (k + 1)))[at_ - (laid (ps.take k)).length]? ≠ some x := by
    rw [hsp, List.getElem?_append_right he] at hx
    exact hx
  rw [hset, allOf_laid _ _ (fun p hp => h p (List.mem_of_mem_take hp))]
  refine ⟨_, rfl, ?_⟩
  by_cases hg : getErr ((frame ps[k] ++ laid (ps.drop (k + 1))).set (at_ - (laid (ps.take k)).length) x) = 0
  · right
    rw [allOf_step _ hg]
    exact ⟨_, _, rfl, turned_one _ _ _ _ (by omega) hx2 hg⟩
  · left
    rw [allOf_stop _ hg]
end Go.Proofs.Ytpblpkmlioojiaa
