/-
  FrameTurned's walk where a byte is turned.
-/
import Derived.Test.YtpblpkmlioojiaaFLTurned
import Derived.Deep.AppendLies
import Derived.StillTailTactics
namespace Go.Proofs.Ytpblpkmlioojiaa
open Go.RowKit

theorem Own.form {w : World} {base : Nat} {v : Value} {l : List UInt8} (h : Own w base v l) (hn : 0 < l.length) : ∃ g cap, v = .slice (some ⟨g, 0, none⟩) l.length cap ∧ base ≤ g ∧ l.length ≤ cap := by
  obtain ⟨g, cap, hv, hb, _⟩ := World.ownsRow.form h hn
  obtain ⟨A, c, hv2, hc, _⟩ := h.shape
  rw [hv2] at hv
  cases hv
  exact ⟨g, cap, hv2, hb, hc⟩
theorem still_skip {P : Program} {ops : Array Oper} {w : World} {Q : Act → Prop} {a : Act} {o : Oper} {rest : List Oper} (hw : Region.wanted o (yielded ops a.tmps) = false) (hp : a.put o.dst undef = a) (h : wpStill P ops w Q rest a) : wpStill P ops w Q (o :: rest) a :=
  wpStill_step fun K hK => by rw [if_neg (by rw [hw]; exact Bool.false_ne_true), hp]; exact hK _ h
theorem still_want {P : Program} {ops : Array Oper} {w : World} {Q : Act → Prop} {a : Act} {o : Oper} {rest : List Oper} (hw : Region.wanted o (yielded ops a.tmps) = true) (h : ∀ K : Act → Prop, (∀ a, wpStill P ops w Q rest a → K a) → o.still P a w K) : wpStill P ops w Q (o :: rest) a :=
  wpStill_step fun K hK => by rw [if_pos hw]; exact h K hK
set_option maxRecDepth 100000 in
set_option maxHeartbeats 1200000 in
theorem turned_some (A : Option Addr) (ps : List (List UInt8)) (cap : Nat) (x : Int) (y : UInt8) (w : World) (h : SegRows w w.heap.size A ps) (hl : (laid ps).length ≤ 12582912) (hm : ps.length ≤ 1048576) (hcp : ps.length ≤ cap) (hf : Fit ps) (h0 : 0 < (laid ps).length) (hy : y ≠ 0) :
    Calls Try.prog 7 #[.slice A ps.length cap, .int .i64 x, .int .u8 (y.toNat : Int)] w fun e w' => e = .returned (.bool true) ∧ Below w.heap.size w w' := by
  have c1 := (lay_some A ps cap w h hl hm).mono (R' := Gives w w.heap.size (fun v => .tuple #[v, .bool true]) (laid ps)) fun e w' hg => hg.1 hf
  obtain ⟨t, r, q1, q2, q3, q4, q5, q6, q7⟩ := brought x (laid ps).length h0 (by omega)
  have hyn : ¬ (y.toNat : Int) = 0 := by
    intro e
    apply hy
    apply UInt8.toNat_inj.1
    show y.toNat = 0
    omega
  have hyn2 : ((y.toNat : Int) == 0) = false := by simpa using hyn
  have hn : ¬ ((laid ps).length : Int) = 0 := by omega
  have hn2 : (((laid ps).length : Int) == 0) = false := by simpa using hn
  have h' := fhid h
  have hturn := fhid (fun k hk he hlt => turned_all ps hf k r ((laid ps)[r] ^^^ y) hk he hlt (by
    rw [List.getElem?_eq_getElem q6]
    intro e
    exact xor_ne _ y hy (Option.some.inj e).symm))
  have hall : (laid ps).take ps.length = (laid ps).take ps.length := rfl
  have hlast := fhid (show (laid (ps.take ps.length)).length = (laid ps).length by rw [List.take_length])
  clear h hy hall
  go_enter Try.func7, Try.ntmps7
  go_wp2_with (first
    | (go_at_call 21
       (with_reducible refine c1.mono ?_)
       rintro e w1 ⟨v1, rfl, o1, b1⟩
       obtain ⟨g, k1, hv1, hg, hle⟩ := o1.form h0
       subst hv1))
  clear q1 q2 q3 q4 q5 q7 c1
  go_loop [9, 10] (fun i e => ∃ k s : Nat, k ≤ ps.length ∧ i = .int .i64 k ∧ e = .int .i64 s ∧ s = (laid (ps.take k)).length ∧ s ≤ r) (fun i _ => ps.length - (intOf i).toNat)
  case atStart => exact ⟨0, 0, Nat.zero_le _, rfl, rfl, rfl, Nat.zero_le _⟩
  case round =>
    obtain ⟨k, s, hk, rfl, rfl, hs, hsr⟩ := hrel
    by_cases hlt : k < ps.length
    · obtain ⟨b, o, rfl, hb, hc⟩ := h'.out (by omega)
      obtain ⟨Aj, cj, x1, hcj, sj⟩ := hc k hlt
      have x1w := fhid x1
      replace x1 := (b1.cell (p := ⟨b, o + k, none⟩) hb).trans x1
      have i1 : (0 : Int) ≤ k := by omega
      have i2 : (k : Int) < ps.length := by omega
      have hnx := fhid (show (laid (ps.take (k + 1))).length = (laid (ps.take k)).length + (ps[k].length + 12) by rw [laid_take ps k hlt, List.length_append, frame_length])
      have hst := fhid (fun (hno : r < s + ps[k].length + 12) => hturn.out k hlt (by rw [← hs]; exact hsr) (by rw [← hs]; exact hno))
      have hpb : ps[k].length ≤ 65536 := hf _ (List.getElem_mem hlt)
      replace hs := fhid hs
      clear hc
      generalize hp : ps[k] = p at *
      replace hp := fhid hp
      by_cases hfit : s + p.length + 12 ≤ r
      · have hfi : (s : Int) + p.length + 12 ≤ r := by omega
        clear hst
        go_wp2
        go_round
        case rel => exact ⟨k + 1, s + (p.length + 12), by omega, by go_num, by go_num, by rw [hnx.out, ← hs.out], by omega⟩
        case measure => simp [intOf]; omega
      · have hfi : ¬ (s : Int) + p.length + 12 ≤ r := by omega
        obtain ⟨L, hL1, hL2⟩ := hst.out (by omega)
        obtain ⟨nk, hnk⟩ : ∃ nk, (ps.take k ++ L).length = nk := ⟨_, rfl⟩
        have hnk2 : nk = k + L.length := by rw [← hnk, List.length_append, List.length_take]; omega
        have hlk := fhid (show (ps.take k).length = k by rw [List.length_take]; omega)
        have htk := fhid (show (ps.take k ++ L).take k = ps.take k by rw [List.take_append, List.take_of_length_le (by rw [List.length_take]; omega), List.length_take, Nat.min_eq_left hk, Nat.sub_self]; simp)
        obtain ⟨e1, e2⟩ := o1.cell_at r q6
        have o2 := Own.stored o1 r ((laid ps)[r] ^^^ y)
        have e3 := xor_byte (laid ps)[r] y
        have b2 : Below w.heap.size w (w1.setCell ⟨g, r, none⟩ (.int .u8 (((laid ps)[r] ^^^ y).toNat : Int))) := b1.setCell (p := ⟨g, r, none⟩) hg _
        have s2 : Seg (w1.setCell ⟨g, r, none⟩ (.int .u8 (((laid ps)[r] ^^^ y).toNat : Int))) (w1.setCell ⟨g, r, none⟩ (.int .u8 (((laid ps)[r] ^^^ y).toNat : Int))).heap.size (some ⟨g, 0, none⟩) ((laid ps).set r ((laid ps)[r] ^^^ y)) := by
          obtain ⟨A2, c2, hv2, _, _, s2⟩ := o2.shape
          have hA : A2 = some ⟨g, 0, none⟩ := by injection hv2 with h _ _; exact h.symm
          rw [hA] at s2
          exact s2
        have cA := All_any (some ⟨g, 0, none⟩) ((laid ps).set r ((laid ps)[r] ^^^ y)) k1 _ s2 (by rw [List.length_set]; exact hle) (by rw [List.length_set]; exact hl)
        unfold GivesAll at cA
        rw [List.length_set, hL1] at cA
        have i4 : (k : Int) ≤ cap := by omega
        have i5 : (r : Int) < (laid ps).length := by omega
        have i7 : (0 : Int) ≤ r := by omega
        replace hnk := fhid hnk
        replace hnk2 := fhid hnk2
        replace hL2 := fhid hL2
        clear hst hturn hlast hnx o2 s2 hs o1 hL1
        generalize (allOf ((laid ps).set r ((laid ps)[r] ^^^ y))).2 = mm at *
        generalize (laid ps)[r] ^^^ y = z at *
        generalize (laid ps)[r] = c at *
        generalize z.toNat = zn at *
        generalize c.toNat = cn at *
        generalize y.toNat = yn at *
        go_wp2_with (first
          | (go_at_call 18
             (with_reducible refine cA.mono ?_)
             rintro e w3 ⟨v3, rfl, o3, b3⟩
             obtain ⟨A3, k3, hv3, hk3, s3⟩ := o3.shape
             rw [hnk.out] at hv3 hk3
             subst hv3
             have x3 := b2.trans (b3.mono b2.size)
             have t3 := ((h'.out.below x3).more x3.size).take k
             have s3k := s3.take k
             rw [htk.out] at s3k
             replace s3 := fhid s3
             have cLs := fun u (e : ∀ p, u.cell? p = w3.cell? p) => Lists_same A3 (some ⟨b, o, none⟩) (ps.take k) k3 cap _ u (s3k.keep fun p _ => e p) (t3.keep fun p _ => e p) (by rw [hlk.out]; omega)
             rw [hlk.out] at cLs
             clear o3 cA t3 s3k))
        have i8 : (k : Int) ≤ k3 := by have := hnk2.out; omega
        have d1 : decide ((nk : Int) < (k : Int)) = false := decide_eq_false (by have := hnk2.out; omega)
        have d2 : ¬ (nk : Int) < (k : Int) := by have := hnk2.out; omega
        go_quiet ((go_at_call 20; exact Calls.quiet_of (cLs _ (fun _ => rfl))))
        generalize hw4 : w3.drewN _ = w4
        have cw4 : ∀ p, w4.cell? p = w3.cell? p := fun p => by rw [← hw4]; rfl
        have x4 : Below w.heap.size w w4 := by rw [← hw4]; exact below_drewN x3 _
        replace cw4 := fhid cw4
        have z3 := fhid b3
        clear cLs hw4 b3 d1
        have x5 : Below w.heap.size w w4.drew := below_drewN x4 1
        rcases hL2.out with hL | ⟨q, qr, hL, hq⟩
        · have hnk3 : nk = k := by have := hnk2.out; rw [hL, List.length_nil] at this; omega
          clear hL hL2 hnk hnk2 htk s3
          subst hnk3
          go_wp2_with fail
          refine wp_region_still_tail 17 (by kernel_rfl) (by kernel_rfl) ?_
          simp only [List.take_succ_cons, List.take_zero, List.drop_succ_cons, List.drop_zero]
          iterate 5 still_step
          iterate 10 (with_reducible refine still_skip ?_ ?_ ?_; kernel_rfl; kernel_rfl)
          iterate 2 still_step
          refine wpStill_nil ?_
          change wpList _ _ _ _ _ w4.drew
          generalize w4.drew = w5 at *
          go_wp2_with (go_at_call 12; refine (alive_any _).mono ?_; rintro e w6 ⟨rfl, b6⟩)
          go_ret
          exact ⟨rfl, x5.trans (b6.mono x5.size)⟩
        · have hnk3 : ¬ (nk : Int) = (k : Int) := by have := hnk2.out; rw [hL, List.length_cons] at this; omega
          have hnk4 : ((nk : Int) == (k : Int)) = false := by simpa using hnk3
          have i9 : (k : Int) < nk := by have := hnk2.out; rw [hL, List.length_cons] at this; omega
          subst hL
          obtain ⟨b3, o3, rfl, hb3, hc3⟩ := s3.out (by rw [List.length_append, List.length_cons]; omega)
          obtain ⟨Aq, cq, y1, _, sq⟩ := hc3 k (by rw [List.length_append, List.length_cons, hlk.out]; omega)
          have hqe : (ps.take k ++ q :: qr)[k]'(by rw [List.length_append, List.length_cons, hlk.out]; omega) = q := by
            rw [List.getElem_append_right (by rw [hlk.out]; omega)]
            simp [hlk.out]
          rw [hqe] at y1 sq
          have y2 : w4.cell? ⟨b3, o3 + k, none⟩ = some (.slice Aq q.length cq) := (cw4.out _).trans y1
          have y3 : w4.cell? ⟨b, o + k, none⟩ = some (.slice Aj p.length cj) := (x4.cell (p := ⟨b, o + k, none⟩) hb).trans x1w.out
          have cSm := fun u (e : ∀ p, u.cell? p = w4.cell? p) => Same_any Aq Aj q p cq cj _ _ u (sq.keep fun p _ => (e p).trans (cw4.out p)) ((sj.below x4).keep fun p _ => e p)
          rw [decide_eq_false hq] at cSm
          clear hL2 hnk hnk2 htk s3 hqe hc3 y1 sq x1w sj hq
          go_wp2_with fail
          refine wp_region_still_tail 17 (by kernel_rfl) (by kernel_rfl) ?_
          simp only [List.take_succ_cons, List.take_zero, List.drop_succ_cons, List.drop_zero]
          iterate 5 still_step
          iterate 8 (with_reducible refine still_want ?_ (fun K hK => ?_); kernel_rfl; go_simp; refine hK _ ?_; clear hK K)
          with_reducible refine still_want ?_ (fun K hK => ?_)
          kernel_rfl
          go_simp
          refine ⟨.bool false, (cSm w4.drew (fun _ => rfl)).mono (fun _ _ h => ⟨h.1, h.2.symm⟩), hK _ ?_⟩
          clear hK K
          iterate 1 (with_reducible refine still_want ?_ (fun K hK => ?_); kernel_rfl; go_simp; refine hK _ ?_; clear hK K)
          iterate 2 still_step
          refine wpStill_nil ?_
          change wpList _ _ _ _ _ w4.drew
          generalize w4.drew = w5 at *
          go_wp2_with (go_at_call 12; refine (alive_any _).mono ?_; rintro e w6 ⟨rfl, b6⟩)
          go_ret
          exact ⟨rfl, x5.trans (b6.mono x5.size)⟩
    · have hke : k = ps.length := by omega
      have := hlast.out
      rw [← hke, ← hs] at this
      omega
end Go.Proofs.Ytpblpkmlioojiaa
