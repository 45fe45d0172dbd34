/-
  The reference's frame that begins bytes.
-/
import Derived.Test.YtpblpkmlioojiaaFGet
import Derived.Test.YtpblpkmlioojiaaFRPut
import Derived.BigQuiet
import Derived.Deep.QuietTactic
namespace Go.Proofs.Ytpblpkmlioojiaa
open Go.RowKit

theorem num_four (l : List UInt8) (h : 4 ≤ l.length) : num (l.take 4) = l[0].toNat + l[1].toNat * 256 + l[2].toNat * 65536 + l[3].toNat * 16777216 := by
  match l, h with
  | a :: b :: c :: d :: r, _ =>
    simp only [List.take, num, List.getElem_cons_zero, List.getElem_cons_succ]
    omega
theorem tail_fits (tail : List UInt8) (s : Nat) (h : tail.length = 8) (hs : s < 18446744073709551616) : (s = num tail) ↔ tail = le 8 s := by
  constructor
  · rintro rfl
    rw [← h, le_num]
  · intro e
    rw [e, num_le 8 s (by omega)]

theorem w64 (x : Nat) (h : x < 9223372036854775808) : wrap64 (x : Int) = (x : Int) := by unfold wrap64; omega
theorem w64m1 (x : Nat) (h : x < 2 ^ 8) : wrap64 ((x : Int) * 256) = ((x * 256 : Nat) : Int) := by unfold wrap64; omega
theorem w64m2 (x : Nat) (h : x < 2 ^ 8) : wrap64 ((x : Int) * 65536) = ((x * 65536 : Nat) : Int) := by unfold wrap64; omega
theorem w64m3 (x : Nat) (h : x < 2 ^ 8) : wrap64 ((x : Int) * 16777216) = ((x * 16777216 : Nat) : Int) := by unfold wrap64; omega
theorem w64add (x y z : Nat) (h : x + y = z) (hz : z < 9223372036854775808) : wrap64 ((x : Int) + (y : Int)) = (z : Int) := by
  unfold wrap64; omega
theorem w64two (n : Nat) (h : n ≤ 65536) : wrap64 (4 + (n : Int)) = 4 + (n : Int) ∧ wrap64 (12 + (n : Int)) = 12 + (n : Int) := by unfold wrap64; omega
/-- The four bytes of a length, and each step that the reference takes to their number. -/
theorem four_word (l : List UInt8) (h : 4 ≤ l.length) : ∃ x0 x1 x2 x3 y1 y2 y3 z1 z2 : Nat,
    (l[0].toNat = x0 ∧ l[1].toNat = x1 ∧ l[2].toNat = x2 ∧ l[3].toNat = x3) ∧
    (wrap64 (x0 : Int) = x0 ∧ wrap64 (x1 : Int) = x1 ∧ wrap64 (x2 : Int) = x2 ∧ wrap64 (x3 : Int) = x3) ∧
    (wrap64 ((x1 : Int) * 256) = y1 ∧ wrap64 ((x2 : Int) * 65536) = y2 ∧ wrap64 ((x3 : Int) * 16777216) = y3) ∧
    (wrap64 ((x0 : Int) + y1) = z1 ∧ wrap64 ((z1 : Int) + y2) = z2 ∧ wrap64 ((z2 : Int) + y3) = ((num (l.take 4) : Nat) : Int)) := by
  have hn := num_four l h
  have t0 := l[0].toNat_lt
  have t1 := l[1].toNat_lt
  have t2 := l[2].toNat_lt
  have t3 := l[3].toNat_lt
  refine ⟨_, _, _, _, _, _, _, _, _, ⟨rfl, rfl, rfl, rfl⟩, ⟨w64 _ (by omega), w64 _ (by omega), w64 _ (by omega), w64 _ (by omega)⟩, ⟨w64m1 _ t1, w64m2 _ t2, w64m3 _ t3⟩, w64add _ _ _ rfl (by omega), w64add _ _ _ rfl (by omega), w64add _ _ _ ?_ ?_⟩
  · rw [hn]
  · omega
set_option maxRecDepth 100000 in
set_option maxHeartbeats 2000000 in
theorem rGet_any (A : Option Addr) (l : List UInt8) (cap : Nat) (w : World) (h : Seg w w.heap.size A l) (hc : l.length ≤ cap) (hl : l.length ≤ 140737488355328) :
    Calls Try.prog 17 #[.slice A l.length cap] w (GivesGet w w.heap.size l) := by
  by_cases h4 : l.length < 4
  · have E := fhid (show getErr l = 4 ∧ getBytes l = [] ∧ getLen l = 0 by
      have : getErr l = 4 := by unfold getErr; rw [if_pos h4]
      exact ⟨this, by unfold getBytes; rw [this]; rfl, by unfold getLen; rw [this]; rfl⟩)
    have h2 : (l.length : Int) < 4 := by omega
    clear h
    go_enter Try.func17, Try.ntmps17
    go_wp2
    go_ret3
    exact ⟨_, by rw [E.out.1, E.out.2.2]; rfl, by rw [E.out.2.1]; exact Own.none_ _ _, Below.refl _ _⟩
  · have h2 : ¬ (l.length : Int) < 4 := by omega
    obtain ⟨b, o, rfl, hb, hcell⟩ := h (by omega)
    have q0 := hcell 0 (by omega)
    rw [Nat.add_zero] at q0
    have i0 : (0 : Int) < l.length := by omega
    have i1 : (1 : Int) < l.length := by omega
    have i2 : (2 : Int) < l.length := by omega
    have i3 : (3 : Int) < l.length := by omega
    have j0 : 0 < l.length := by omega
    have j1 : 1 < l.length := by omega
    have j2 : 2 < l.length := by omega
    have j3 : 3 < l.length := by omega
    have q1 := hcell 1 (by omega)
    have q2 := hcell 2 (by omega)
    have q3 := hcell 3 (by omega)
    obtain ⟨x0, x1, x2, x3, y1, y2, y3, z1, z2, ⟨g0, g1, g2, g3⟩, ⟨a0, a1, a2, a3⟩, ⟨b1, b2, b3⟩, s1, s2, s3⟩ := four_word l (by omega)
    rw [g0] at q0
    rw [g1] at q1
    rw [g2] at q2
    rw [g3] at q3
    clear g0 g1 g2 g3
    have hnw := num_word (l.take 4) (by rw [List.length_take]; omega)
    replace hcell := fhid hcell
    by_cases h5 : 65536 < num (l.take 4)
    · have E := fhid (show getErr l = 5 ∧ getBytes l = [] ∧ getLen l = 0 by
        have : getErr l = 5 := by unfold getErr; rw [if_neg h4, if_pos h5]
        exact ⟨this, by unfold getBytes; rw [this]; rfl, by unfold getLen; rw [this]; rfl⟩)
      generalize num (l.take 4) = n at *
      have h6 : (n : Int) > 65536 := by omega
      clear h
      go_enter Try.func17, Try.ntmps17
      go_wp2_with fail
      go_quiet (fail)
      go_wp2_with fail
      go_ret3
      exact ⟨_, by rw [E.out.1, E.out.2.2]; rfl, by rw [E.out.2.1]; exact Own.none_ _ _, ⟨rfl, rfl, rfl, Nat.le_refl _, fun _ _ => rfl⟩⟩
    · by_cases h7 : l.length < num (l.take 4) + 12
      · have E := fhid (show getErr l = 4 ∧ getBytes l = [] ∧ getLen l = 0 by
          have : getErr l = 4 := by unfold getErr; rw [if_neg h4, if_neg h5, if_pos h7]
          exact ⟨this, by unfold getBytes; rw [this]; rfl, by unfold getLen; rw [this]; rfl⟩)
        generalize num (l.take 4) = n at *
        have h6 : ¬ (n : Int) > 65536 := by omega
        have h8 : (l.length : Int) < n + 12 := by omega
        clear h
        go_enter Try.func17, Try.ntmps17
        go_wp2_with fail
        go_quiet (fail)
        go_wp2_with fail
        go_ret3
        exact ⟨_, by rw [E.out.1, E.out.2.2]; rfl, by rw [E.out.2.1]; exact Own.none_ _ _, ⟨rfl, rfl, rfl, Nat.le_refl _, fun _ _ => rfl⟩⟩
      · have hsi := seg_window (o := o) hb hcell.out 4 (num (l.take 4))
        have hst := seg_window (o := o) hb hcell.out (4 + num (l.take 4)) 8
        have hli : ((l.drop 4).take (num (l.take 4))).length = num (l.take 4) := by rw [List.length_take, List.length_drop]; omega
        have hlt : ((l.drop (4 + num (l.take 4))).take 8).length = 8 := by rw [List.length_take, List.length_drop]; omega
        have E := fhid (show getErr l = (if sumOf ((l.drop 4).take (num (l.take 4))) = num ((l.drop (4 + num (l.take 4))).take 8) then 0 else 8) by
          unfold getErr; rw [if_neg h4, if_neg h5, if_neg h7])
        have Eb := fhid (show getErr l = 0 → getBytes l = (l.drop 4).take (num (l.take 4)) ∧ getLen l = num (l.take 4) + 12 by
          intro h; unfold getBytes getLen; rw [if_pos h, if_pos h]; exact ⟨rfl, rfl⟩)
        have Ez := fhid (show getErr l = 8 → getBytes l = [] ∧ getLen l = 0 by
          intro h; unfold getBytes getLen; rw [h]; exact ⟨rfl, rfl⟩)
        have hsum8 := sumOf_lt ((l.drop 4).take (num (l.take 4)))
        generalize (l.drop 4).take (num (l.take 4)) = inner at *
        generalize (l.drop (4 + num (l.take 4))).take 8 = tail at *
        generalize num (l.take 4) = n at *
        have hfit := tail_fits tail (sumOf inner) hlt hsum8
        have cS := fun w' (hw : Below w.heap.size w w') => rSum_any (some ⟨b, o + 4, none⟩) inner (cap - 4) w.heap.size w' (hsi.below hw) (by omega)
        have kc := fhid (fun w' (hw : Below w.heap.size w w') => conv_seg w' w.heap.size (some ⟨b, o + (4 + n), none⟩) tail (cap - (4 + n)) (hst.below hw))
        have cN := fun w' => rnumber_any (sumOf inner) 8 w' hsum8 (by omega)
        rw [show ((8 : Nat) : Int) = 8 from rfl] at cN
        have hl8 := fhid (le_length 8 (sumOf inner))
        rw [hli] at cS
        rw [hlt] at kc
        have hsrc := fhid (fun w' (hw : Below w.heap.size w w') => hsi.below hw)
        have h6 : ¬ (n : Int) > 65536 := by omega
        have h8 : ¬ (l.length : Int) < n + 12 := by omega
        have hne : ¬ cap = 4 := by omega
        have hne2 : ¬ cap = 4 + n := by omega
        have f1 : 4 + n - 4 = n := by omega
        have f2 : 12 + n - (4 + n) = 8 := by omega
        have hwd : ∀ q, Below w.heap.size w (w.drewN q) := fun q => ⟨rfl, rfl, rfl, Nat.le_refl _, fun _ _ => rfl⟩
        replace hwd := fhid hwd
        clear h hsi hst hsum8
        generalize sumOf inner = s at *
        by_cases hs : s = num tail
        · rw [if_pos hs] at E
          have hte := hfit.1 hs
          have e8 := fhid (Eb.out E.out)
          rw [hte] at kc
          clear hfit hs hte hlt Eb Ez
          go_enter Try.func17, Try.ntmps17
          go_wp2_with fail
          go_quiet (fail)
          go_wp2_with fail
          generalize hw2 : w.drewN _ = w2
          have d2 : Below w.heap.size w w2 := by rw [← hw2]; exact hwd.out _
          have d0 : Below w.heap.size w w2.drew := below_drewN d2 1
          have kc0 := kc.out _ d0
          rw [s3]
          clear hw2 h2 h4 h5 h7 hcell i0 i1 i2 i3 j0 j1 j2 j3 a0 a1 a2 a3 b1 b2 b3 s1 s2 s3 q0 q1 q2 q3
          have p3 : 0 ≤ 4 + (n : Int) := by omega
          have p4 : 4 + (n : Int) ≤ 12 + (n : Int) := by omega
          have p5 : 12 + (n : Int) ≤ (cap : Int) := by omega
          have p6 : 4 + (n : Int) ≤ (cap : Int) := by omega
          have p7 : (4 + (n : Int)).toNat = 4 + n := by omega
          have p8 : (12 + (n : Int)).toNat = 12 + n := by omega
          have p9 : 0 ≤ 12 + (n : Int) := by omega
          have p10 : 4 ≤ 4 + (n : Int) := by omega
          have p1' : IntKind.i64.wrap (4 + (n : Int)) = 4 + (n : Int) := IntWalk.i64_in _ (by omega)
          have p2' : IntKind.i64.wrap (12 + (n : Int)) = 12 + (n : Int) := IntWalk.i64_in _ (by omega)
          obtain ⟨p1, p2⟩ := w64two n (by omega)
          go_region_with (first
            | (go_at_call 11; (with_reducible refine (cS _ d0).mono ?_); rintro e w1 ⟨rfl, rfl⟩)
            | (go_at_call 25; (with_reducible refine (cN _).mono ?_); rintro e w1 ⟨v1, rfl, o1, b1⟩; obtain ⟨A1, c1, hv1, _, _, s1⟩ := o1.shape; rw [hl8.out] at hv1; subst hv1; have z := d0.trans (b1.mono d0.size); have kc1 := kc.out _ z; have k51 := conv_seg w1 _ A1 (le 8 s) c1 s1; rw [hl8.out] at k51; clear o1 b1 s1))
          all_goals
            clear cS cN kc0 kc1 k51 d0 d2 p1 p2 p1' p2' f2 hl8
            go_wp2_with (at_builtin; refine app_seg rfl _ (.tmp 56) rfl w.heap.size _ [] rfl (Own.none_ _ _) w.heap.size (some ⟨b, o + 4, none⟩) inner (cap - 4) (by rw [hli]; rfl) (hsrc.out _ z) (by rw [List.length_nil]; omega) z.size ?_; intro v3 w3 o3 b3)
            go_ret3
            refine ⟨v3, fret3 (by rw [e8.out.2]; omega) (by rw [E.out]; rfl), ?_, z.trans b3⟩
            rw [e8.out.1]
            exact o3
        · rw [if_neg hs] at E
          have hte : ¬ tail = le 8 s := fun h => hs (hfit.2 h)
          have e8 := fhid (Ez.out E.out)
          have hcmp : ((str tail).toList == (str (le 8 s)).toList) = false := by rw [str_eq, decide_eq_false hte]
          clear hfit hs hte hlt Eb Ez
          generalize str tail = S at *
          go_enter Try.func17, Try.ntmps17
          go_wp2_with fail
          go_quiet (fail)
          go_wp2_with fail
          generalize hw2 : w.drewN _ = w2
          have d2 : Below w.heap.size w w2 := by rw [← hw2]; exact hwd.out _
          have d0 : Below w.heap.size w w2.drew := below_drewN d2 1
          have kc0 := kc.out _ d0
          rw [s3]
          clear hw2 h2 h4 h5 h7 hcell i0 i1 i2 i3 j0 j1 j2 j3 a0 a1 a2 a3 b1 b2 b3 s1 s2 s3 q0 q1 q2 q3
          have p3 : 0 ≤ 4 + (n : Int) := by omega
          have p4 : 4 + (n : Int) ≤ 12 + (n : Int) := by omega
          have p5 : 12 + (n : Int) ≤ (cap : Int) := by omega
          have p6 : 4 + (n : Int) ≤ (cap : Int) := by omega
          have p7 : (4 + (n : Int)).toNat = 4 + n := by omega
          have p8 : (12 + (n : Int)).toNat = 12 + n := by omega
          have p9 : 0 ≤ 12 + (n : Int) := by omega
          have p10 : 4 ≤ 4 + (n : Int) := by omega
          have p1' : IntKind.i64.wrap (4 + (n : Int)) = 4 + (n : Int) := IntWalk.i64_in _ (by omega)
          have p2' : IntKind.i64.wrap (12 + (n : Int)) = 12 + (n : Int) := IntWalk.i64_in _ (by omega)
          obtain ⟨p1, p2⟩ := w64two n (by omega)
          go_region_with (first
            | (go_at_call 11; (with_reducible refine (cS _ d0).mono ?_); rintro e w1 ⟨rfl, rfl⟩)
            | (go_at_call 25; (with_reducible refine (cN _).mono ?_); rintro e w1 ⟨v1, rfl, o1, b1⟩; obtain ⟨A1, c1, hv1, _, _, s1⟩ := o1.shape; rw [hl8.out] at hv1; subst hv1; have z := d0.trans (b1.mono d0.size); have kc1 := kc.out _ z; have k51 := conv_seg w1 _ A1 (le 8 s) c1 s1; rw [hl8.out] at k51; clear o1 b1 s1))
          all_goals
            clear cS cN kc0 kc1 k51 d0 d2 p1 p2 p1' p2' f2 hl8
            go_wp2
            go_ret3
            exact ⟨_, by rw [E.out, e8.out.2]; rfl, by rw [e8.out.1]; exact Own.none_ _ _, z⟩
end Go.Proofs.Ytpblpkmlioojiaa
