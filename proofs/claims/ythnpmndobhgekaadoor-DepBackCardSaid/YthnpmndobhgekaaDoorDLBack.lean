/-
  DepBack, walked.
-/
import Derived.Test.YthnpmndobhgekaaDoorDAlive
namespace Go.Proofs.YthnpmndobhgekaaDoor
open Go.RowKit

theorem neq_fault1 (e f : Int) (he : e ≠ 0) (w : World) : (binOp .neq 55 (.agg #[.int .i64 e, .int .i64 f]) (.agg #[.int .i64 0, .int .i64 0])).run Tryd.prog w = .ok (.bool true) w := by
  have := neq_fault e f 0 0 w
  rw [this]
  have : (e == 0) = false := by simpa using he
  rw [this]
  rfl
/-- Jobs of items that were read are not above 10^6, and no item has more than 32. -/
theorem pItem_jobs {t r : List UInt8} {x : Itm} (h : pItem t = some (x, r)) : ∀ n ∈ x.2, jobOk n := by
  unfold pItem at h
  simp only at h
  split at h
  · injection h with h
    injection h with hx _
    subst hx
    intro n hn
    cases hn
  · split at h
    · cases h
    · split at h
      · cases h
      · split at h
        · cases h
        · rename_i js r' hj
          injection h with h
          injection h with hx _
          subst hx
          exact (pJobs_text _ _ _ _ _ hj (fun n hn => by cases hn)).2.1
theorem pItems_each : ∀ (f : Nat) (any : Bool) (l : List Itm) (t : List UInt8) (any' : Bool) (l' : List Itm), pItems f any l t = some (any', l') → (∀ x ∈ l, x.2.length ≤ 32 ∧ ∀ n ∈ x.2, jobOk n) → ∀ x ∈ l', x.2.length ≤ 32 ∧ ∀ n ∈ x.2, jobOk n
  | 0, _, _, _, _, _, h, _ => by cases h
  | f + 1, any, l, t, any', l', h, hl => by
    unfold pItems at h
    split at h
    · cases h
    · split at h
      · cases h
      · rename_i x r hp
        have hx := pItem_jobs hp
        have h32 := (pItem_text hp).2.2
        have hl2 : ∀ y ∈ l ++ [x], y.2.length ≤ 32 ∧ ∀ n ∈ y.2, jobOk n := fun y hy => by
          rcases List.mem_append.1 hy with hy | hy
          · exact hl y hy
          · rw [List.mem_singleton.1 hy]; exact ⟨h32, hx⟩
        split at h
        · injection h with h
          injection h with h1 h2
          subst h1 h2
          exact hl2
        · split at h
          · cases h
          · exact pItems_each f _ _ _ any' l' h hl2
theorem pDep_each {s : List UInt8} {any : Bool} {l : List Itm} (h : pDep s = some (any, l)) : ∀ x ∈ l, x.2.length ≤ 32 ∧ ∀ n ∈ x.2, jobOk n := by
  unfold pDep at h
  split at h
  · injection h with h
    injection h with h1 h2
    subst h2
    intro x hx
    cases hx
  · exact pItems_each _ _ _ _ _ _ h (fun x hx => by cases hx)
set_option maxRecDepth 100000 in
set_option maxHeartbeats 4000000 in
theorem back_walk (s : ByteArray) (w : World) (hT : Tab w) : Calls Tryd.prog 6 #[.string s] w (BoolPost w true) := by
  have hal := fun W (hW : Below w.heap.size w W) => alive_any W (tab_below hT hW)
  by_cases hbig : 5000 < s.size
  · have i1 : (5000 : Int) < s.size := by omega
    replace hT := fhid hT
    go_enter Tryd.func6, Tryd.ntmps6
    go_wp2_with (go_at_call 11; (with_reducible refine (hal _ (Below.refl _ _)).mono ?_); rintro e w3 ⟨rfl, b3⟩)
    go_ret
    exact ⟨rfl, b3⟩
  · have i1 : ¬ (5000 : Int) < s.size := by omega
    have hpa := Parse_any s w (by omega)
    unfold DepPost at hpa
    cases hpd : pDep (bl s) with
    | none =>
      rw [hpd] at hpa
      simp only at hpa
      clear hpd
      replace hT := fhid hT
      go_enter Tryd.func6, Tryd.ntmps6
      go_upto_region 4 with (go_at_call 27; (with_reducible refine hpa.mono ?_); rintro e w1 ⟨b1, y, i, hy, rfl⟩)
      have hq := neq_fault1 y i hy
      have bA : Below w1.heap.size w1 ((w1.alloc (.cells #[.bool false, .slice none 0 0] TDep)).alloc (.cells #[.int .i64 y, .int .i64 i] TFa)) := ((Below.refl _ _).alloc (Nat.le_refl _) _).alloc (by simp) _
      have q0 : DB ((w1.alloc (.cells #[.bool false, .slice none 0 0] TDep)).alloc (.cells #[.int .i64 y, .int .i64 i] TFa)) w1.heap.size TDep false (.slice none 0 0) := old_at _ _ _ (heap_alloc_new w1 _) (by simp)
      have q1 : FB ((w1.alloc (.cells #[.bool false, .slice none 0 0] TDep)).alloc (.cells #[.int .i64 y, .int .i64 i] TFa)) (w1.heap.size + 1) y i := new_at _ _ _ (by simp)
      generalize (w1.alloc (.cells #[.bool false, .slice none 0 0] TDep)).alloc (.cells #[.int .i64 y, .int .i64 i] TFa) = w2 at *
      have gB := b1.trans (bA.mono b1.size)
      obtain ⟨c0, c1, _, _, z0⟩ := q0.facts
      obtain ⟨c2, c3, _, _, z1⟩ := q1.facts
      clear hy
      go_wp2_with (go_at_call 11; (with_reducible refine (hal _ gB).mono ?_); rintro e w3 ⟨rfl, b3⟩)
      go_ret
      exact ⟨rfl, gB.trans (b3.mono gB.size)⟩
    | some x =>
      obtain ⟨any, l⟩ := x
      obtain ⟨htx, hl32⟩ := pDep_text hpd
      have hea := pDep_each hpd
      rw [hpd] at hpa
      simp only at hpa
      clear hpd
      have hse := str_eq (str (bl s)) s
      rw [bl_str, decide_eq_true rfl] at hse
      replace hT := fhid hT
      have hq := neq_fault 0 0 0 0
      go_enter Tryd.func6, Tryd.ntmps6
      go_upto_region 4 with (go_at_call 27; (with_reducible refine hpa.mono ?_); rintro e w1 ⟨b1, A, cap, h1, h2, hs, rfl⟩)
      have bA : Below w1.heap.size w1 ((w1.alloc (.cells #[.bool any, .slice A l.length cap] TDep)).alloc (.cells #[.int .i64 0, .int .i64 0] TFa)) := ((Below.refl _ _).alloc (Nat.le_refl _) _).alloc (by simp) _
      have q0 : DB ((w1.alloc (.cells #[.bool any, .slice A l.length cap] TDep)).alloc (.cells #[.int .i64 0, .int .i64 0] TFa)) w1.heap.size TDep any (.slice A l.length cap) := old_at _ _ _ (heap_alloc_new w1 _) (by simp)
      have q1 : FB ((w1.alloc (.cells #[.bool any, .slice A l.length cap] TDep)).alloc (.cells #[.int .i64 0, .int .i64 0] TFa)) (w1.heap.size + 1) 0 0 := new_at _ _ _ (by simp)
      generalize (w1.alloc (.cells #[.bool any, .slice A l.length cap] TDep)).alloc (.cells #[.int .i64 0, .int .i64 0] TFa) = w2 at *
      have gB := b1.trans (bA.mono b1.size)
      obtain ⟨c0, c1, _, _, z0⟩ := q0.facts
      obtain ⟨c2, c3, _, _, z1⟩ := q1.facts
      have hfm := Format_any any l A cap w2 (tab_below hT.out gB) ((hs.below bA).more bA.size) (by omega) (fun x hx => by
        obtain ⟨a, b⟩ := hea x hx
        exact ⟨by omega, fun n hn => by have := (b n hn).2; omega⟩)
      rw [htx] at hfm
      unfold TP at hfm
      generalize str (bl s) = SS at *
      clear hea hs htx
      go_wp2_with (first
        | (go_at_call 12; (with_reducible refine hfm.mono ?_); rintro e w3 ⟨rfl, b3⟩
           have gC := gB.trans (b3.mono gB.size))
        | (go_at_call 11; (with_reducible refine (hal _ gC).mono ?_); rintro e w4 ⟨rfl, b4⟩))
      go_ret
      exact ⟨rfl, gC.trans (b4.mono gC.size)⟩
end Go.Proofs.YthnpmndobhgekaaDoor
