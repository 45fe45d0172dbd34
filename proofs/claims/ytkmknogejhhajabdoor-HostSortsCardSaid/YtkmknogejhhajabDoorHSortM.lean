/-
  Plain mathematics: lists of names in order; one put in its place.
-/
import Derived.Test.YtkmknogejhhajabDoorHOrd
namespace Go.Proofs.YtkmknogejhhajabDoor
open Go.Sort

/-- In order: none stands behind one that it is ahead of. -/
def Srt (ks : List (List UInt8)) : Prop := ks.Pairwise fun a b => ltOf cmpN b a = false
theorem srt_uniq {a b : List (List UInt8)} (ha : Srt a) (hb : Srt b) (hp : a.Perm b) : a = b :=
  List.Perm.eq_of_pairwise (fun x y _ _ h k => names_total x y k h) ha hb hp
theorem lt_asym {x y : List UInt8} (h : ltOf cmpN x y = true) : ltOf cmpN y x = false := by
  cases e : ltOf cmpN y x with
  | false => rfl
  | true =>
    have h1 := names_order.trans _ _ _ h e
    rw [names_order.irrefl] at h1
    cases h1
theorem srt_ins {out : List (List UInt8)} {x : List UInt8} {k : Nat} (h : Srt out) (hk : k ≤ out.length) (hhi : ∀ i (h : i < out.length), k ≤ i → ltOf cmpN x out[i] = true) (hlo : ∀ h : 0 < k, ltOf cmpN x (out[k - 1]'(by omega)) = false) :
    Srt (out.take k ++ ([x] ++ out.drop k)) ∧ (out.take k ++ ([x] ++ out.drop k)).Perm (out ++ [x]) := by
  have hcross := (List.pairwise_append.1 (show (out.take k ++ out.drop k).Pairwise _ by rw [List.take_append_drop]; exact h)).2.2
  refine ⟨List.pairwise_append.2 ⟨List.Pairwise.sublist (List.take_sublist k out) h, List.pairwise_append.2 ⟨List.pairwise_singleton _ _, List.Pairwise.sublist (List.drop_sublist k out) h, fun a ha b hb => ?_⟩, fun a ha b hb => ?_⟩, ?_⟩
  · rw [List.mem_singleton.1 ha]
    obtain ⟨i, hi, rfl⟩ := List.getElem_of_mem hb
    rw [List.getElem_drop]
    exact lt_asym (hhi _ (by rw [List.length_drop] at hi; omega) (by omega))
  · rcases List.mem_append.1 hb with hb | hb
    · rw [List.mem_singleton.1 hb]
      obtain ⟨i, hi, rfl⟩ := List.getElem_of_mem ha
      rw [List.length_take] at hi
      rw [List.getElem_take]
      have h0 := hlo (by omega)
      by_cases e : i = k - 1
      · subst e; exact h0
      · exact names_order.ntrans _ _ _ h0 (List.pairwise_iff_getElem.1 h i (k - 1) (by omega) (by omega) (by omega))
    · exact hcross a ha b hb
  · refine (List.perm_middle (l₁ := out.take k) (a := x) (l₂ := out.drop k)).trans ?_
    rw [List.take_append_drop]
    exact (List.perm_append_singleton x out).symm
end Go.Proofs.YtkmknogejhhajabDoor
