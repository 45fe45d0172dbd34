/-
  ArrayAgain, walked.
-/
import Derived.Test.YtlcbppflpadhaaaDoorYLBack
namespace Go.Proofs.YtlcbppflpadhaaaDoor
open Go.RowKit

theorem neq_fault1 (e f : Int) (he : e ≠ 0) (w : World) : (binOp .neq 41 (.agg #[.int .i64 e, .int .i64 f]) (.agg #[.int .i64 0, .int .i64 0])).run Tryd.prog w = .ok (.bool true) w := by
  have := neq_fault e f 0 0 w
  rw [this]
  have : (e == 0) = false := by simpa using he
  rw [this]
  rfl
/-- The blocks of an array, and a fault, just made. -/
theorem arr_new (w : World) (v : Value) (n y i : Int) : Below w.heap.size w ((w.alloc (.cells #[v, .int .i64 n] TAr)).alloc (.cells #[.int .i64 y, .int .i64 i] TFa)) ∧ AB ((w.alloc (.cells #[v, .int .i64 n] TAr)).alloc (.cells #[.int .i64 y, .int .i64 i] TFa)) w.heap.size TAr v n ∧
    FB ((w.alloc (.cells #[v, .int .i64 n] TAr)).alloc (.cells #[.int .i64 y, .int .i64 i] TFa)) (w.heap.size + 1) y i :=
  ⟨((Below.refl _ _).alloc (Nat.le_refl _) _).alloc (by simp) _, old_at _ _ _ (heap_alloc_new w _) (by simp), new_at _ _ _ (by simp)⟩
set_option maxRecDepth 100000 in
set_option maxHeartbeats 4000000 in
theorem again_walk (s : ByteArray) (w : World) (hT : Tab w) : Calls Tryd.prog 6 #[.string s] w (BoolPost w true) := by
  have hal := fun W (hW : Below w.heap.size w W) => alive_any W (tab_below hT hW)
  by_cases hbig : 5000 < s.size
  · have i1 : (5000 : Int) < s.size := by omega
    replace hT := fhid hT
    go_enter Tryd.func6, Tryd.ntmps6
    go_wp2_with (go_at_call 13; (with_reducible refine (hal _ (Below.refl _ _)).mono ?_); rintro e w3 ⟨rfl, b3⟩)
    go_ret
    exact ⟨rfl, b3⟩
  · have i1 : ¬ (5000 : Int) < s.size := by omega
    have hpa := Parse_any s w (by omega)
    unfold ParsePost at hpa
    cases hpd : pArr (bl s) with
    | none =>
      rw [hpd] at hpa
      simp only at hpa
      clear hpd
      replace hT := fhid hT
      go_enter Tryd.func6, Tryd.ntmps6
      go_upto_region 4 with (go_at_call 17; (with_reducible refine hpa.mono ?_); rintro e w1 ⟨b1, y, i, hy, rfl⟩)
      have hq := neq_fault1 y i hy
      obtain ⟨bA, q0, q1⟩ := arr_new w1 (.slice none 0 0) 0 y i
      generalize World.alloc _ _ = w2 at *
      have gB := b1.trans (bA.mono b1.size)
      obtain ⟨c0, c1, _, _, z0⟩ := q0.facts
      obtain ⟨c2, c3, _, _, z1⟩ := q1.facts
      clear hy
      go_wp2_with (go_at_call 13; (with_reducible refine (hal _ gB).mono ?_); rintro e w3 ⟨rfl, b3⟩)
      go_ret
      exact ⟨rfl, gB.trans (b3.mono gB.size)⟩
    | some x =>
      obtain ⟨l, lim⟩ := x
      have hR := pArr_right hpd
      rw [hpd] at hpa
      simp only at hpa
      clear hpd
      have hr : right l lim = true := decide_eq_true hR
      have hq := neq_fault 0 0 0 0
      have hq2 := eql_fault 0 0 0 0
      have hpa2 := fun W => Parse_any (str (fmtT l lim)) W (by rw [str_size]; have := fmt_len hR; omega)
      unfold ParsePost at hpa2
      rw [bl_str, pArr_fmt hR] at hpa2
      simp only at hpa2
      have hl2 := hR.1.2
      have e1 : (lim == lim) = true := by simp
      have hfm0 := fun A cap W (hT : Tab W) (hs : Ints W W.heap.size A l) (hc : l.length ≤ cap) => Format_any l A cap lim W hT hs hc
      unfold FmtPost at hfm0
      rw [hr] at hfm0
      simp only [if_true] at hfm0
      have hri0 := fun A cap W (hs : Ints W W.heap.size A l) => Right_any l A cap lim W hs
      rw [hr] at hri0
      generalize str (fmtT l lim) = S at *
      clear hr
      replace hT := fhid hT
      replace hR := fhid hR
      replace hfm0 := fhid hfm0
      replace hri0 := fhid hri0
      go_enter Tryd.func6, Tryd.ntmps6
      go_upto_region 4 with (go_at_call 17; (with_reducible refine hpa.mono ?_); rintro e w1 ⟨b1, A, cap, h1, h2, hs, rfl⟩)
      clear hpa
      obtain ⟨bA, q0, q1⟩ := arr_new w1 (.slice A l.length cap) lim 0 0
      generalize World.alloc _ _ = w2 at *
      have gB := b1.trans (bA.mono b1.size)
      have hs2 := (hs.below bA).more bA.size
      clear hs bA b1
      obtain ⟨c0, c1, _, _, z0⟩ := q0.facts
      obtain ⟨c2, c3, _, _, z1⟩ := q1.facts
      have hfm := hfm0.out A cap w2 (tab_below hT.out gB) hs2 h1
      replace q0 := fhid q0
      replace hs2 := fhid hs2
      go_upto_region 8 with (first
        | (go_at_call 8; (with_reducible refine hfm.mono ?_); rintro e w3 ⟨rfl, b3⟩)
        | (go_at_call 17; (with_reducible refine (hpa2 _).mono ?_); rintro e w4 ⟨b4, A2, cap2, k1, k2, ks, rfl⟩))
      clear hfm hpa2 c0 c1 c2 c3
      have k24 := b3.trans (b4.mono b3.size)
      obtain ⟨bC, r0, r1⟩ := arr_new w4 (.slice A2 l.length cap2) lim 0 0
      generalize World.alloc _ _ = w5 at *
      have k25 := k24.trans (bC.mono k24.size)
      have g5 := gB.trans (k25.mono gB.size)
      have ks3 := (ks.below bC).more bC.size
      have q5 := q0.out.below k25 z0
      obtain ⟨c0, c1, _, _, z2⟩ := q5.facts
      obtain ⟨c4, c5, _, _, z4⟩ := r0.facts
      obtain ⟨c6, c7, _, _, z5⟩ := r1.facts
      have hs5 := (hs2.out.below k25).more k25.size
      have hri := hri0.out A cap w5 hs5
      have his := fun W (b : Below w5.heap.size w5 W) => ints_same l A A2 cap cap2 W ((hs5.below b).more b.size) ((ks3.below b).more b.size) (by omega)
      clear ks bC k24 b3 b4
      replace q5 := fhid q5
      replace r0 := fhid r0
      replace r1 := fhid r1
      replace his := fhid his
      replace hs5 := fhid hs5
      replace ks3 := fhid ks3
      go_wp2_with (first
        | (go_at_call 11; (with_reducible refine hri.mono ?_); rintro e w6 ⟨rfl, b6⟩
           clear c0 c1 c4 c5 c6 c7
           obtain ⟨c0, c1, _, _, _⟩ := (q5.out.below b6 z2).facts
           obtain ⟨c4, c5, _, _, _⟩ := (r0.out.below b6 z4).facts
           obtain ⟨c6, c7, _, _, _⟩ := (r1.out.below b6 z5).facts)
        | (go_at_call 14; (with_reducible refine (his.out _ b6).mono ?_); rintro e w7 ⟨rfl, b7⟩
           have b67 := b6.trans (b7.mono b6.size)
           have g7 := g5.trans (b67.mono g5.size)
           obtain ⟨_, d1, _, _, _⟩ := (q5.out.below b67 z2).facts
           obtain ⟨_, d2, _, _, _⟩ := (r0.out.below b67 z4).facts)
        | (go_at_call 13; (with_reducible refine (hal _ g7).mono ?_); rintro e w8 ⟨rfl, b8⟩))
      go_ret
      exact ⟨rfl, g7.trans (b8.mono g7.size)⟩
end Go.Proofs.YtlcbppflpadhaaaDoor
