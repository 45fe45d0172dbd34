/-
  ArrayBack, walked.
-/
import Derived.Test.YtlcbppflpadhaaaDoorYAlive
namespace Go.Proofs.YtlcbppflpadhaaaDoor
open Go.RowKit

abbrev TRAr : TypeId := 24
def ArrV (w : World) (v : Value) (n : Int) (e : Ending) (w' : World) : Prop := e = .returned (.agg #[v, .int .i64 n]) ∧ Below w.heap.size w w'
set_option maxHeartbeats 1000000 in
theorem theirs_any (A : Option Addr) (n cap : Nat) (lim : Int) (w : World) : Calls Tryd.prog 9 #[.agg #[.slice A n cap, .int .i64 lim]] w (ArrV w (.slice A n cap) lim) := by
  go_enter Tryd.func9, Tryd.ntmps9
  go_wp2_with fail
  exact bodyPost_ret (v := .agg #[.slice A n cap, .int .i64 lim]) (by simp [results, Tryd.results9, go_sem]) rfl ⟨rfl, ((Below.refl _ _).alloc (Nat.le_refl _) _).alloc (by simp) _⟩
theorem pieces_many : ∀ (g : Nat) (l : List Int), l.length ≤ g → Rising l → (pieces g l).length ≤ l.length ∧ ∀ d ∈ pieces g l, d.length ≤ 64
  | 0, l, h, _ => ⟨Nat.zero_le _, fun d hd => (by cases hd)⟩
  | g + 1, l, h, hr => by
    by_cases hl : l = []
    · subst hl
      exact ⟨Nat.le_refl _, fun d hd => by rw [pieces_none] at hd; cases hd⟩
    · obtain ⟨c1, c2, c3⟩ := cutN_le hl
      obtain ⟨p1, p2⟩ := pieces_many g (l.drop (cutN l)) (by rw [List.length_drop]; omega) (hr.drop _)
      rw [pieces_some g hl]
      rw [List.length_drop] at p1
      have hat := hr.at_
      refine ⟨by rw [List.length_cons]; omega, fun d hd => ?_⟩
      rcases List.mem_cons.1 hd with rfl | hd
      · exact pieceT_len (hat 0 (by omega)) (hat _ (by omega)) fun h => hr.step (by omega)
      · exact p2 d hd
theorem fmt_len {l : List Int} {lim : Int} (h : RightP l lim) : (fmtT l lim).length ≤ 20000 := by
  obtain ⟨p1, p2⟩ := pieces_many l.length l (Nat.le_refl _) ⟨h.up, h.range⟩
  have hj := join_le 64 44 _ p2
  have h2 : (64 + 1) * (pieces l.length l).length ≤ (64 + 1) * 256 := Nat.mul_le_mul_left _ (by have := h.1.2; omega)
  have hn := (num_facts h.2.2.1 h.2.2.2).2.2.2
  unfold fmtT
  rw [List.length_append]
  split
  · rw [List.length_nil]; omega
  · rw [List.length_cons]; omega
set_option maxRecDepth 100000 in
set_option maxHeartbeats 4000000 in
theorem back_walk (l : List Int) (A : Option Addr) (cap : Nat) (lim : Int) (w : World) (hT : Tab w) (hs : Ints w w.heap.size A l) (hc : l.length ≤ cap) :
    Calls Tryd.prog 5 #[.agg #[.slice A l.length cap, .int .i64 lim]] w (BoolPost w true) := by
  have hal := fun W (hW : Below w.heap.size w W) => alive_any W (tab_below hT hW)
  have b0 : Below w.heap.size w (w.alloc (.cells #[.slice A l.length cap, .int .i64 lim] TRAr)) := (Below.refl _ _).alloc (Nat.le_refl _) _
  have p0 : AB (w.alloc (.cells #[.slice A l.length cap, .int .i64 lim] TRAr)) w.heap.size TRAr (.slice A l.length cap) lim := heap_alloc_new w _
  have hth := fun W => theirs_any A l.length cap lim W
  unfold ArrV at hth
  have hfm := fun W (hW : Below w.heap.size w W) => Format_any l A cap lim W (tab_below hT hW) ((hs.below hW).more hW.size) hc
  unfold FmtPost at hfm
  cases hr : right l lim with
  | false =>
    rw [hr] at hfm
    simp only [Bool.false_eq_true, if_false] at hfm
    replace hT := fhid hT
    clear hr
    go_enter Tryd.func5, Tryd.ntmps5
    go_upto_region 1 with fail
    generalize w.alloc _ = w1 at *
    obtain ⟨c0, c1, _, _, z1⟩ := p0.facts
    replace p0 := fhid p0
    go_wp2_with (first
      | (go_at_call 9; (with_reducible refine (hth _).mono ?_); rintro e w2 ⟨rfl, b2⟩
         have g2 := b0.trans (b2.mono b0.size))
      | (go_at_call 8; (with_reducible refine (hfm _ g2).mono ?_); rintro e w3 ⟨rfl, b3⟩
         have g3 := g2.trans (b3.mono g2.size))
      | (go_at_call 13; (with_reducible refine (hal _ g3).mono ?_); rintro e w4 ⟨rfl, b4⟩))
    go_ret
    exact ⟨rfl, g3.trans (b4.mono g3.size)⟩
  | true =>
    have hR : RightP l lim := of_decide_eq_true hr
    rw [hr] at hfm
    simp only [if_true] at hfm
    have hpa := fun W => Parse_any (str (fmtT l lim)) W (by rw [str_size]; have := fmt_len hR; omega)
    unfold ParsePost at hpa
    rw [bl_str, pArr_fmt hR] at hpa
    simp only at hpa
    have hl2 := hR.1.2
    have hq := eql_fault 0 0 0 0
    generalize str (fmtT l lim) = S at *
    have e1 : (lim == lim) = true := by simp
    have his := fun (A2 : Option Addr) (c2 : Nat) W (hW : Below w.heap.size w W) (h2 : Ints W W.heap.size A2 l) => ints_same l A2 A c2 cap W h2 ((hs.below hW).more hW.size) (by omega)
    replace hT := fhid hT
    replace hs := fhid hs
    replace hR := fhid hR
    clear hr
    go_enter Tryd.func5, Tryd.ntmps5
    go_upto_region 1 with fail
    generalize w.alloc _ = w1 at *
    obtain ⟨c0, c1, _, _, z1⟩ := p0.facts
    go_upto_region 5 with (first
      | (go_at_call 9; (with_reducible refine (hth _).mono ?_); rintro e w2 ⟨rfl, b2⟩
         have g2 := b0.trans (b2.mono b0.size))
      | (go_at_call 8; (with_reducible refine (hfm _ g2).mono ?_); rintro e w3 ⟨rfl, b3⟩
         have g3 := g2.trans (b3.mono g2.size))
      | (go_at_call 17; (with_reducible refine (hpa _).mono ?_); rintro e w4 ⟨b4, A2, cap2, h1, h2, hs2, rfl⟩
         have g4 := g3.trans (b4.mono g3.size)))
    have k2 : Below w1.heap.size w1 w4 := (b2.trans (b3.mono b2.size)).trans (b4.mono (b2.trans (b3.mono b2.size)).size)
    have bA : Below w4.heap.size w4 ((w4.alloc (.cells #[.slice A2 l.length cap2, .int .i64 lim] TAr)).alloc (.cells #[.int .i64 0, .int .i64 0] TFa)) := ((Below.refl _ _).alloc (Nat.le_refl _) _).alloc (by simp) _
    have q0 : AB ((w4.alloc (.cells #[.slice A2 l.length cap2, .int .i64 lim] TAr)).alloc (.cells #[.int .i64 0, .int .i64 0] TFa)) w4.heap.size TAr (.slice A2 l.length cap2) lim := old_at _ _ _ (heap_alloc_new w4 _) (by simp)
    have q1 : FB ((w4.alloc (.cells #[.slice A2 l.length cap2, .int .i64 lim] TAr)).alloc (.cells #[.int .i64 0, .int .i64 0] TFa)) (w4.heap.size + 1) 0 0 := new_at _ _ _ (by simp)
    generalize (w4.alloc (.cells #[.slice A2 l.length cap2, .int .i64 lim] TAr)).alloc (.cells #[.int .i64 0, .int .i64 0] TFa) = w5 at *
    have gB := g4.trans (bA.mono g4.size)
    have hs3 := (hs2.below bA).more bA.size
    have k3 := k2.trans (bA.mono k2.size)
    have r0 := p0.below k3 z1
    clear c0 c1
    obtain ⟨c0, c1, _, _, z0⟩ := q0.facts
    obtain ⟨c2, c3, _, _, z2⟩ := q1.facts
    obtain ⟨c4, c5, _, _, z3⟩ := r0.facts
    have hi := his A2 cap2 w5 gB hs3
    replace q0 := fhid q0
    replace r0 := fhid r0
    clear hs2 hs3 q1 p0 his
    go_wp2_with (first
      | (go_at_call 14; (with_reducible refine hi.mono ?_); rintro e w6 ⟨rfl, b6⟩
         have g6 := gB.trans (b6.mono gB.size)
         obtain ⟨_, d1, _, _, _⟩ := (q0.out.below b6 z0).facts
         obtain ⟨_, d2, _, _, _⟩ := (r0.out.below b6 z3).facts)
      | (go_at_call 13; (with_reducible refine (hal _ g6).mono ?_); rintro e w7 ⟨rfl, b7⟩))
    go_ret
    exact ⟨rfl, g6.trans (b7.mono g6.size)⟩
end Go.Proofs.YtlcbppflpadhaaaDoor
