/-
  Late, of both.
-/
import Derived.Test.YtmdebbkmhcfpfaaDoorERef
namespace Go.Proofs.YtmdebbkmhcfpfaaDoor
open Go.RowKit

theorem late_wraps {now si boot : Int} (h1 : -9223372036854775808 ≤ now ∧ now ≤ 9223372036854775807) (h2 : -9223372036854775808 ≤ si ∧ si ≤ 9223372036854775807) (h3 : 0 ≤ boot ∧ boot ≤ 9223372036854775807) (hle : si ≤ now) :
    IntKind.u64.wrap (IntKind.u64.wrap now - IntKind.u64.wrap si) = now - si ∧ IntKind.u64.wrap boot = boot ∧ IntKind.u64.wrap (2 * boot) = 2 * boot := by
  rw [IntKind.wrap_u64, IntKind.wrap_u64, IntKind.wrap_u64, IntKind.wrap_u64, IntKind.wrap_u64]
  omega
set_option maxRecDepth 100000 in
set_option maxHeartbeats 4000000 in
theorem late_any (n : N3) (now boot : Int) (w : World) (h1 : -9223372036854775808 ≤ now ∧ now ≤ 9223372036854775807) (h2 : -9223372036854775808 ≤ n.2.1 ∧ n.2.1 ≤ 9223372036854775807) (h3 : -9223372036854775808 ≤ boot ∧ boot ≤ 9223372036854775807) :
    Calls Tryd.prog 15 #[nv n, .int .i64 now, .int .i64 boot] w (BoolPost w (lateB n now boot)) := by
  obtain ⟨s, si, t⟩ := n
  unfold nv lateB
  simp only at h2 ⊢
  have t0 := NB.new w TNd (s, si, t)
  have t2 : Below w.heap.size w (w.alloc (.cells #[.int .i64 s, .int .i64 si, .int .i64 t] TNd)) := (Below.refl _ _).alloc (Nat.le_refl _) _
  simp only at t0
  obtain ⟨R, hR⟩ : ∃ R, decide (s = 1 ∧ si ≤ now ∧ 0 ≤ boot ∧ 2 * boot < now - si) = R := ⟨_, rfl⟩
  rw [hR]
  by_cases hs : s = 1
  · by_cases hle : si ≤ now
    · by_cases hb : 0 ≤ boot
      · obtain ⟨e1, e2, e3⟩ := late_wraps h1 h2 ⟨hb, h3.2⟩ hle
        have hR2 : R = decide (now - si > 2 * boot) := by rw [← hR]; congr 1; simp [hs, hle, hb]
        subst hR2
        subst hs
        have i1 : ¬ now < si := by omega
        have i2 : ¬ boot < 0 := by omega
        clear hR h1 h2 h3
        replace t2 := fhid t2
        go_enter Tryd.func15, Tryd.ntmps15
        go_upto_region 1 with fail
        generalize w.alloc _ = W at *
        obtain ⟨c0, c1, c2, f0, f1, f2, hlt⟩ := t0.facts
        replace t0 := fhid t0
        go_wp2_with fail
        go_ret
        exact ⟨rfl, t2.out⟩
      · have hR2 : R = false := by rw [← hR]; exact decide_eq_false fun h => hb h.2.2.1
        subst hR2
        subst hs
        have i1 : ¬ now < si := by omega
        have i2 : boot < 0 := by omega
        clear hR h1 h2 h3
        replace t2 := fhid t2
        go_enter Tryd.func15, Tryd.ntmps15
        go_upto_region 1 with fail
        generalize w.alloc _ = W at *
        obtain ⟨c0, c1, c2, f0, f1, f2, hlt⟩ := t0.facts
        replace t0 := fhid t0
        go_wp2_with fail
        go_ret
        exact ⟨rfl, t2.out⟩
    · have hR2 : R = false := by rw [← hR]; exact decide_eq_false fun h => hle h.2.1
      subst hR2
      subst hs
      have i1 : now < si := by omega
      clear hR h1 h2 h3
      replace t2 := fhid t2
      go_enter Tryd.func15, Tryd.ntmps15
      go_upto_region 1 with fail
      generalize w.alloc _ = W at *
      obtain ⟨c0, c1, c2, f0, f1, f2, hlt⟩ := t0.facts
      replace t0 := fhid t0
      go_wp2_with fail
      go_ret
      exact ⟨rfl, t2.out⟩
  · have hR2 : R = false := by rw [← hR]; exact decide_eq_false fun h => hs h.1
    subst hR2
    have b1 : (s != 1) = true := by simpa using hs
    clear hR h1 h2 h3
    replace t2 := fhid t2
    go_enter Tryd.func15, Tryd.ntmps15
    go_upto_region 1 with fail
    generalize w.alloc _ = W at *
    obtain ⟨c0, c1, c2, f0, f1, f2, hlt⟩ := t0.facts
    replace t0 := fhid t0
    go_wp2_with fail
    go_ret
    exact ⟨rfl, t2.out⟩
set_option maxRecDepth 100000 in
set_option maxHeartbeats 4000000 in
theorem rLate_any (n : N3) (now boot : Int) (w : World) (h1 : -9223372036854775808 ≤ now ∧ now ≤ 9223372036854775807) (h2 : -9223372036854775808 ≤ n.2.1 ∧ n.2.1 ≤ 9223372036854775807) (h3 : -9223372036854775808 ≤ boot ∧ boot ≤ 9223372036854775807) :
    Calls Tryd.prog 17 #[nv n, .int .i64 now, .int .i64 boot] w (BoolPost w (lateB n now boot)) := by
  obtain ⟨s, si, t⟩ := n
  unfold nv lateB
  simp only at h2 ⊢
  have t0 := NB.new w TRNd (s, si, t)
  have t2 : Below w.heap.size w (w.alloc (.cells #[.int .i64 s, .int .i64 si, .int .i64 t] TRNd)) := (Below.refl _ _).alloc (Nat.le_refl _) _
  simp only at t0
  obtain ⟨R, hR⟩ : ∃ R, decide (s = 1 ∧ si ≤ now ∧ 0 ≤ boot ∧ 2 * boot < now - si) = R := ⟨_, rfl⟩
  rw [hR]
  by_cases hs : s = 1
  · by_cases hle : si ≤ now
    · by_cases hb : 0 ≤ boot
      · obtain ⟨e1, e2, e3⟩ := late_wraps h1 h2 ⟨hb, h3.2⟩ hle
        have hR2 : R = decide (now - si > 2 * boot) := by rw [← hR]; congr 1; simp [hs, hle, hb]
        subst hR2
        subst hs
        have i1 : ¬ now < si := by omega
        have i2 : ¬ boot < 0 := by omega
        clear hR h1 h2 h3
        replace t2 := fhid t2
        go_enter Tryd.func17, Tryd.ntmps17
        go_upto_region 1 with fail
        generalize w.alloc _ = W at *
        obtain ⟨c0, c1, c2, f0, f1, f2, hlt⟩ := t0.facts
        replace t0 := fhid t0
        go_wp2_with fail
        go_ret
        exact ⟨rfl, t2.out⟩
      · have hR2 : R = false := by rw [← hR]; exact decide_eq_false fun h => hb h.2.2.1
        subst hR2
        subst hs
        have i1 : ¬ now < si := by omega
        have i2 : boot < 0 := by omega
        clear hR h1 h2 h3
        replace t2 := fhid t2
        go_enter Tryd.func17, Tryd.ntmps17
        go_upto_region 1 with fail
        generalize w.alloc _ = W at *
        obtain ⟨c0, c1, c2, f0, f1, f2, hlt⟩ := t0.facts
        replace t0 := fhid t0
        go_wp2_with fail
        go_ret
        exact ⟨rfl, t2.out⟩
    · have hR2 : R = false := by rw [← hR]; exact decide_eq_false fun h => hle h.2.1
      subst hR2
      subst hs
      have i1 : now < si := by omega
      clear hR h1 h2 h3
      replace t2 := fhid t2
      go_enter Tryd.func17, Tryd.ntmps17
      go_upto_region 1 with fail
      generalize w.alloc _ = W at *
      obtain ⟨c0, c1, c2, f0, f1, f2, hlt⟩ := t0.facts
      replace t0 := fhid t0
      go_wp2_with fail
      go_ret
      exact ⟨rfl, t2.out⟩
  · have hR2 : R = false := by rw [← hR]; exact decide_eq_false fun h => hs h.1
    subst hR2
    have b1 : (s != 1) = true := by simpa using hs
    clear hR h1 h2 h3
    replace t2 := fhid t2
    go_enter Tryd.func17, Tryd.ntmps17
    go_upto_region 1 with fail
    generalize w.alloc _ = W at *
    obtain ⟨c0, c1, c2, f0, f1, f2, hlt⟩ := t0.facts
    replace t0 := fhid t0
    go_wp2_with fail
    go_ret
    exact ⟨rfl, t2.out⟩
end Go.Proofs.YtmdebbkmhcfpfaaDoor
