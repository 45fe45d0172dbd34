/-
  A region that draws its order, by an invariant over what has come up: one goal an operation, none an order.
-/
import Derived.Test.YtffmcfhanmonkaaDoorHeld
import Derived.OrdersHeld
namespace Go.Proofs.YtffmcfhanmonkaaDoor
open Go.RowKit

section
variable {P : Program} {ops : Array Oper} {Q : Exit → Act → World → Prop} {md : Region.Mode}

theorem count_set (l : List Bool) (i : Nat) (h : l[i]? = some false) : (l.set i true).count false + 1 = l.count false := by
  induction l generalizing i with
  | nil => simp at h
  | cons x xs ih =>
    cases i with
    | zero =>
      have : x = false := by simpa using h
      subst this
      simp
    | succ i =>
      have := ih i (by simpa using h)
      simp only [List.set_cons_succ, List.count_cons]
      omega
theorem ready_none {listed : Array Bool} (hs : listed.size = ops.size) (h : listed.toList.count false = 0) : Region.ready md ops listed = [] := by
  refine List.eq_nil_iff_forall_not_mem.2 fun i hi => ?_
  have hu := (mem_ready.1 hi).1
  have hlt : i < listed.size := by
    have : i < ops.size := by
      have := (List.mem_filter.1 hi).1
      simpa using this
    omega
  have he : listed[i] = false := by
    rw [Array.getD_eq_getD_getElem?, Array.getElem?_eq_getElem hlt] at hu
    simpa using hu
  have hm : false ∈ listed.toList := by rw [← he]; simp
  exact absurd h (Nat.ne_of_gt (List.count_pos_iff.2 hm))
/-- I holds behind whatever has come up: each operation that may come next keeps it. -/
theorem wpAny_inv (I : Array Bool → Act → World → Prop)
    (step : ∀ listed a w i, listed.size = ops.size → I listed a w → i ∈ Region.ready md ops listed → wpOp P ops Q i (fun a' w' => I (listed.setIfInBounds i true) a' w') a w)
    (fin : ∀ listed a w, listed.size = ops.size → I listed a w → Region.ready md ops listed = [] → Q .normal a w) :
    ∀ (fuel : Nat) (listed : Array Bool) (a : Act) (w : World), listed.size = ops.size → I listed a w → listed.toList.count false ≤ fuel → wpAny P md ops Q fuel listed a w
  | 0, listed, a, w, hs, hI, hf => by
    have hr : Region.ready md ops listed = [] := ready_none hs (by omega)
    exact ⟨hr, fin listed a w hs hI hr⟩
  | fuel + 1, listed, a, w, hs, hI, hf => by
    refine ⟨fun hr => fin listed a w hs hI hr, fun i hi => ?_⟩
    have hu := (mem_ready.1 hi).1
    have hlt : i < listed.size := by
      have : i < ops.size := by
        have := (List.mem_filter.1 hi).1
        simpa using this
      omega
    have he : listed.toList[i]? = some false := by
      rw [Array.getD_eq_getD_getElem?, Array.getElem?_eq_getElem hlt] at hu
      rw [Array.getElem?_toList, Array.getElem?_eq_getElem hlt]
      simpa using hu
    refine wpOp_mono (fun a' w' hI' => wpAny_inv I step fin fuel _ a' w' (by simpa using hs) hI' ?_) (step listed a w i hs hI hi)
    have := count_set _ i he
    rw [Array.toList_setIfInBounds]
    omega
theorem region_inv {id : Nat} {a : Act} {w : World} (hm : P.follows .mixedOrders = true) (I : Array Bool → Act → World → Prop)
    (h0 : I (Array.replicate ops.size false) a w.drew)
    (step : ∀ listed a w i, listed.size = ops.size → I listed a w → i ∈ Region.ready .any ops listed → wpOp P ops Q i (fun a' w' => I (listed.setIfInBounds i true) a' w') a w)
    (fin : ∀ listed a w, listed.size = ops.size → I listed a w → Region.ready .any ops listed = [] → Q .normal a w) : (Code.region id ops true).wp P Q a w :=
  wp_region_any hm (wpAny_inv I step fin _ _ _ _ (by simp) h0 (by simp [List.count_replicate]))
theorem getD_same {listed : Array Bool} {i : Nat} (h : i < listed.size) : listed.getD i true = listed.getD i false := by
  rw [Array.getD_eq_getD_getElem?, Array.getD_eq_getD_getElem?, Array.getElem?_eq_getElem h]
  rfl
theorem getD_upd {listed : Array Bool} {i : Nat} (h : i < listed.size) : (fun k => (listed.setIfInBounds i true).getD k false) = fun k => (k == i || listed.getD k false) := by
  funext k
  rw [Array.getD_eq_getD_getElem?, Array.getD_eq_getD_getElem?, Array.getElem?_setIfInBounds]
  by_cases e : i = k
  · subst e
    simp [h]
  · have : (k == i) = false := by simpa using fun e2 : k = i => e e2.symm
    simp [e, this]
/-- The same, told by what has come up as a predicate on the operations' numbers. -/
theorem region_upto {id : Nat} {a : Act} {w : World} (hm : P.follows .mixedOrders = true) (I : (Nat → Bool) → Act → World → Prop)
    (h0 : I (fun _ => false) a w.drew)
    (step : ∀ f a w i o, I f a w → f i = false → ops[i]? = some o → (∀ e ∈ o.after, Region.binds .any e = true → f e.on = true) → wpOp P ops Q i (fun a' w' => I (fun k => (k == i || f k)) a' w') a w)
    (fin : ∀ f a w, I f a w → (∀ i o, ops[i]? = some o → (∀ e ∈ o.after, Region.binds .any e = true → f e.on = true) → f i = true) → Q .normal a w) : (Code.region id ops true).wp P Q a w := by
  refine region_inv hm (fun listed a w => I (fun k => listed.getD k false) a w) ?_ ?_ ?_
  · have e : (fun k => (Array.replicate ops.size false).getD k false) = fun _ => false := by
      funext k
      rw [Array.getD_eq_getD_getElem?, Array.getElem?_replicate]
      split <;> rfl
    rw [e]
    exact h0
  · intro listed a w i hs hI hi
    obtain ⟨hu, o, ho, hall⟩ := mem_ready.1 hi
    have hlt : i < ops.size := (Array.getElem?_eq_some_iff.1 ho).1
    rw [getD_same (by omega)] at hu
    have := step _ a w i o hI hu ho hall
    rw [← getD_upd (by omega)] at this
    exact this
  · intro listed a w hs hI hr
    refine fin _ a w hI fun i o ho hall => ?_
    have hlt : i < ops.size := (Array.getElem?_eq_some_iff.1 ho).1
    cases hu : listed.getD i false
    · have : i ∈ Region.ready .any ops listed := mem_ready.2 ⟨by rw [getD_same (by omega)]; exact hu, o, ho, hall⟩
      rw [hr] at this
      cases this
    · rfl
theorem wpOp_of {i : Nat} {o : Oper} {K : Act → World → Prop} {a : Act} {w : World} (e : ops[i]? = some o) (g : o.guard = none)
    (h : o.wp P a w K Q) : wpOp P ops Q i K a w := by
  unfold wpOp
  rw [e]
  have hw : Region.wanted o (yielded ops a.tmps) = true := by simp [Region.wanted, g]
  show if Region.wanted o (yielded ops a.tmps) = true then _ else _
  rw [if_pos hw]
  exact .inl h
theorem wp_hide {o : Oper} {a : Act} {w : World} {K : Act → World → Prop} (h : ∀ K' : Act → World → Prop, Hid (Hid (∀ a w, K a w → K' a w)) → o.wp P a w K' Q) : o.wp P a w K Q :=
  h K (fun _ _ h => h)
end
end Go.Proofs.YtffmcfhanmonkaaDoor
