/-
  Whether a job is come to again from its own jobs, by the document.
-/
import Derived.Test.YtpelmclgkkhjeaaDoorDDeps
import Derived.Test.YtpelmclgkkhjeaaDoorDApart
import Derived.BigRegion
import Derived.Deep.DeepCutAuto
import Derived.Deep.CutBlock
import Derived.Deep.RegionLaw
namespace Go.Proofs.YtpelmclgkkhjeaaDoor
open Go.RowKit

theorem one_int (w : World) (base : Nat) (n : Int) (h : base ≤ w.heap.size) (g : Nat) (hg : g = w.heap.size) : OwnI (w.alloc (.cells #[.int .i64 n] 3)) base (.slice (some ⟨g, 0, none⟩) 1 1) [n] := by
  subst hg
  exact ⟨rfl, .inr ⟨w.heap.size, 1, #[.int .i64 n], rfl, h, heap_alloc_new w _, Nat.le_refl _, by unfold maxLen; omega, rfl, rfl⟩⟩
/-- Where the document's search is: a list gone through as far as n. -/
def LRel (w : World) (l : List Dp) (a : Int) (v i : Value) (wr : World) : Prop := ∃ (T : List Int) (n : Nat), n ≤ T.length ∧ i = .int .i64 (n : Int) ∧ OwnI wr w.heap.size v T ∧ T.Nodup ∧ Bfs (grp l) a T n [] ∧ Below w.heap.size w wr
/-- Where it is in the list of pairs. -/
def LRel2 (w : World) (l : List Dp) (a : Int) (n : Nat) (x : Int) (v j : Value) (wr : World) : Prop := ∃ (T D : List Int) (m : Nat), m ≤ l.length ∧ j = .int .i64 (m : Int) ∧ OwnI wr w.heap.size v T ∧ T.Nodup ∧ T[n]? = some x ∧ Bfs (grp l) a T n D ∧ (∀ k (hk : k < l.length), k < m → l[k].1 = x → ∀ z ∈ edges (grp l) x, z ∈ D) ∧ Below w.heap.size w wr
/-- What a search answers: whether a is come to again. -/
def LoopPost (w : World) (l : List Dp) (a : Int) (e : Ending) (w' : World) : Prop := ∃ b, e = .returned (.bool b) ∧ (b = true ↔ From (grp l) a a) ∧ Below w.heap.size w w'
/-- Where it is in one job's own jobs. -/
def LRel3 (w : World) (l : List Dp) (a : Int) (n : Nat) (x : Int) (D R : List Int) (A8 : Option Addr) (s0 s1 : Nat) (v j : Value) (wr : World) : Prop := ∃ (T : List Int) (m : Nat), m ≤ R.length ∧ j = .int .i64 (m : Int) ∧ OwnI wr w.heap.size v T ∧ T.Nodup ∧ T[n]? = some x ∧ Bfs (grp l) a T n (D ++ R.take m) ∧
  SegP wr (fun k => s0 ≤ k ∧ k < s1) A8 (IV R) ∧ (∀ k, (s0 ≤ k ∧ k < s1) → some k ≠ v.ownBlock) ∧ Below w.heap.size w wr ∧ s1 ≤ wr.heap.size
theorem OwnI.seg {w : World} {base : Nat} {v : Value} {ns : List Int} (h : OwnI w base v ns) : ∃ A cap, v = .slice A ns.length cap ∧ ns.length ≤ cap ∧ cap ≤ maxLen ∧ SegP w (fun k => base ≤ k ∧ k < w.heap.size) A (IV ns) := by
  obtain ⟨hl, ⟨rfl, h0⟩ | ⟨g, cap, cur, rfl, hge, hg, hle, hcm, hsz, ht⟩⟩ := h
  · have : ns = [] := List.eq_nil_of_length_eq_zero h0
    subst this
    exact ⟨none, 0, rfl, Nat.le_refl _, by unfold maxLen; omega, SegP.nil _ _ _⟩
  · refine ⟨some ⟨g, 0, none⟩, cap, rfl, hle, hcm, fun h0 => ⟨g, 0, rfl, ⟨hge, lt_of_block hg⟩, fun j hj => ?_⟩⟩
    have hj' : j < ns.length * 1 := by rw [← hl]; exact hj
    have e : (cur.toList.take (ns.length * 1))[j]? = some (IV ns)[j] := by rw [ht, List.getElem?_eq_getElem hj]
    rw [List.getElem?_take, if_pos hj', Array.getElem?_toList] at e
    simp only [World.cell?, hg, Nat.zero_add]
    simpa using e
set_option maxRecDepth 100000 in
set_option maxHeartbeats 2000000 in
theorem rLoop_any (l : List Dp) (A : Option Addr) (cap : Nat) (a : Int) (w : World) (hs : Deps w w.heap.size A l) (hn : (l.map fun d => d.1).Nodup) (hl : l.length ≤ 1000) (hx : ∀ d ∈ l, d.2.2.length ≤ 1000 ∧ ∀ x ∈ d.2.2, x.2.length ≤ 1000) (hG : ((grp l).flatMap fun e => e.2).length ≤ 1000000) :
    Calls Tryd.prog 8 #[.slice A l.length cap, .int .i64 a] w (LoopPost w l a) := by
  replace hs := fhid hs
  replace hx := fhid hx
  replace hn := fhid hn
  go_enter Tryd.func8, Tryd.ntmps8
  go_wp2_with fail
  go_loopw [5, 6] (fun v i wr => LRel w l a v i wr) (fun _ i _ => 1000002 - (intOf i).toNat)
  case atStart => exact ⟨[a], 0, Nat.zero_le _, rfl, one_int w _ a (Nat.le_refl _) _ rfl, by simp, Bfs.start, (Below.refl _ _).alloc (Nat.le_refl _) _⟩
  case round =>
    obtain ⟨T, n, hnT, rfl, hO, hd, hF, hB⟩ := hrel
    have hsz := hB.size
    have hsh := hF.short hd
    obtain ⟨Av, cv, rfl, hvc, hvm, hvi⟩ := hO.shape
    rename World => wo
    by_cases hlt : n < T.length
    · have i1 : (n : Int) < T.length := by omega
      have i0 : (0 : Int) ≤ n := by omega
      have hTn : T[n]? = some T[n] := List.getElem?_eq_getElem hlt
      generalize T[n] = x at *
      have hst : LRel2 w l a n x (.slice Av T.length cv) (.int .i64 (0 : Int)) wo := ⟨T, [], 0, Nat.zero_le _, rfl, hO, hd, hTn, hF, fun _ _ h => absurd h (Nat.not_lt_zero _), hB⟩
      replace hst := fhid hst
      clear hO hd hF hvi
      go_upto_region 6 with fail
      go_loopw [5, 7] (fun v j wr => LRel2 w l a n x v j wr) (fun _ j _ => l.length - (intOf j).toNat)
      case atStart => exact hst.out
      case round =>
        clear hst
        obtain ⟨T2, D, m, hml, rfl, hO2, hd2, hT2, hF2, hmt, hB2⟩ := hrel
        have hsz2 := hB2.size
        have hsh2 := hF2.short hd2
        obtain ⟨A2, c2, rfl, hvc2, hvm2, hvi2⟩ := hO2.shape
        obtain ⟨hn2, hTx⟩ := List.getElem?_eq_some_iff.1 hT2
        rename World => wq
        by_cases hmlt : m < l.length
        · obtain ⟨bb, o, rfl, hbb, q0, q1, Ai, ci, q2, hic, him, hits⟩ := ((hs.out.below hB2)).at_ hmlt
          obtain ⟨bt, ot, rfl, hbt, t0⟩ := Ints.at_ hvi2 hn2
          rw [hTx] at t0
          have i2 : (m : Int) < l.length := by omega
          have i3 : (0 : Int) ≤ m := by omega
          have i4 : (n : Int) < T2.length := by omega
          have hed := edges_at hn.out hmlt
          obtain ⟨x1, x2⟩ := hx.out l[m] (List.getElem_mem hmlt)
          have hstep : ∀ D' : List Int, (l[m].1 = x → ∀ z ∈ edges (grp l) x, z ∈ D') → (∀ z ∈ D, z ∈ D') → ∀ k (hk : k < l.length), k < m + 1 → l[k].1 = x → ∀ z ∈ edges (grp l) x, z ∈ D' := fun D' h1 h2 k hk hkm e z hz => by
            by_cases e2 : k = m
            · subst e2
              exact h1 e z hz
            · exact h2 z (hmt k hk (by omega) e z hz)
          clear hmt
          generalize l[m] = d at *
          obtain ⟨id, any, its⟩ := d
          simp only at q0 q1 q2 hic hits hed x1 x2 hstep
          replace hstep := fhid hstep
          replace hO2 := fhid hO2
          replace hF2 := fhid hF2
          replace hT2 := fhid hT2
          replace hits := fhid hits
          replace hvi2 := fhid hvi2
          replace hed := fhid hed
          by_cases hid : id = x
          · subst hid
            have e1 : (id != id) = false := by simp
            have hjb := fun W (hW : Below wq.heap.size wq W) => rJobs_any any its Ai ci W ((hits.out.below (hW.mono (by omega))).more (Nat.le_trans hsz2 hW.size)) x1 x2
            go_upto_region 8 with fail
            go_quiet (fail)
            have gq : Below wq.heap.size wq (wq.drewN nq) := below_drewN (Below.refl _ _) _
            go_upto_region 11 with (go_at_call 14; (with_reducible refine (hjb _ gq).mono ?_); rintro e w5 ⟨v5, rfl, o5, b5⟩)
            have b5' : Below wq.heap.size wq w5 := gq.trans (b5.mono gq.size)
            have hs5 := b5'.size
            obtain ⟨A8, c8, rfl, h81, h82, n8⟩ := OwnI.seg o5
            have hR : edges (grp l) id = insAll (its.flatMap fun x => x.2) := hed.out
            rw [← hR] at h81 n8 ⊢
            clear o5 b5 gq q0 q1 q2 t0 hjb
            have n8' : SegP w5 (fun k => wq.heap.size ≤ k ∧ k < w5.heap.size) A8 (IV (edges (grp l) id)) := n8
            have hRsub : ∀ z ∈ edges (grp l) id, z ∈ edges (grp l) T2[n] := fun z hz => by rw [hTx]; exact hz
            have hap5 : ∀ k, (wq.heap.size ≤ k ∧ k < w5.heap.size) → some k ≠ (Value.slice (some ⟨bt, ot, none⟩) T2.length c2).ownBlock := fun k hk e => by
              have := ownsRow_lt hO2.out k e.symm
              omega
            have hF20 : Bfs (grp l) a T2 n (D ++ (edges (grp l) id).take 0) := by rw [List.take_zero, List.append_nil]; exact hF2.out
            have hO5 := OwnI.below hO2.out b5'
            have gw5 := hB2.trans (b5'.mono hsz2)
            have hRbig : (edges (grp l) id).length ≤ 1000000 := by
              rw [hR]
              refine Nat.le_trans (insAll_len _) ?_
              have h1 := flat_len its x2
              have h2 : 1000 * its.length ≤ 1000 * 1000 := Nat.mul_le_mul_left _ x1
              omega
            obtain ⟨R, hRe⟩ : ∃ R, edges (grp l) id = R := ⟨_, rfl⟩
            have hstep2 := fhid (show ∀ k (hk : k < l.length), k < m + 1 → l[k].1 = id → ∀ z ∈ edges (grp l) id, z ∈ D ++ R from hstep.out (D ++ R) (fun _ z hz => by rw [hRe] at hz; simp [hz]) (fun z hz => by simp [hz]))
            rw [hRe] at hF20 hRbig hRsub h81 n8'
            clear hstep hed hR hits n8 hvi2 hO2 hF2
            rw [hRe]
            replace hRe := fhid hRe
            have hst3 : LRel3 w l a n id D R A8 wq.heap.size w5.heap.size (.slice (some ⟨bt, ot, none⟩) T2.length c2) (.int .i64 (0 : Int)) w5 := ⟨T2, 0, Nat.zero_le _, rfl, hO5, hd2, hT2.out, hF20, n8', hap5, gw5, Nat.le_refl _⟩
            replace hst3 := fhid hst3
            replace hRsub := fhid hRsub
            clear hO5 hap5 hF20 n8' gw5
            generalize w5.heap.size = s1 at *
            generalize wq.heap.size = s0 at *
            go_loopw [5, 9] (fun v j wr => LRel3 w l a n id D R A8 s0 s1 v j wr) (fun _ j _ => R.length - (intOf j).toNat)
            case atStart => exact hst3.out
            case round =>
              clear hst3
              obtain ⟨T3, j, hjR, rfl, hO3, hd3, hT3, hF3, hN3, hap3, hB3, hs13⟩ := hrel
              have hsz3 := hB3.size
              obtain ⟨A3, c3, rfl, hvc3, hvm3, hvi3⟩ := hO3.shape
              obtain ⟨hn3, hTx3⟩ := List.getElem?_eq_some_iff.1 hT3
              rename World => wj
              have hsh3 := hF3.short hd3
              by_cases hjlt : j < R.length
              · obtain ⟨bj, oj, rfl, hbj, hcj⟩ := Ints.at_ hN3 hjlt
                have hjm : R[j] ∈ edges (grp l) T3[n] := by
                  rw [hTx3]
                  rw [hRe.out]
                  exact List.getElem_mem hjlt
                have hjs : R.take (j + 1) = R.take j ++ [R[j]] := List.take_succ_eq_append_getElem hjlt
                have hfnd := fun (e : R[j] = a) => hF3.found hn3 (by rw [← e]; exact hjm)
                have hthr := fun (h1 : R[j] ∈ T3) (h2 : R[j] ≠ a) => hF3.there h1 h2
                have hput := fun (h2 : R[j] ≠ a) => hF3.put hn3 hjm h2
                rw [List.append_assoc, ← hjs] at hthr hput
                have j1 : (j : Int) < R.length := by omega
                have j0 : (0 : Int) ≤ j := by omega
                clear hjs hjm hF3 hTx3
                generalize R[j] = z at *
                replace hfnd := fhid hfnd
                replace hthr := fhid hthr
                replace hput := fhid hput
                replace hO3 := fhid hO3
                replace hN3 := fhid hN3
                replace hap3 := fhid hap3
                replace hT3 := fhid hT3
                by_cases hza : z = a
                · have e2 : (z == a) = true := beq_iff_eq.2 hza
                  have hF := fhid (hfnd.out hza)
                  clear hza hvi3
                  go_wp2_with fail
                  go_ret
                  exact ⟨true, rfl, ⟨fun _ => hF.out, fun _ => rfl⟩, hB3⟩
                · have e2 : (z == a) = false := beq_eq_false_iff_ne.2 hza
                  have hza' := fhid hza
                  clear hza hfnd
                  replace hvi3 := fhid hvi3
                  go_upto_region 17 with fail
                  go_loopw [10, 11] (fun s q wx => ∃ r : Nat, r ≤ T3.length ∧ q = .int .i64 (r : Int) ∧ s = .bool (decide (z ∈ T3.take r)) ∧ Below wj.heap.size wj wx) (fun _ q _ => T3.length - (intOf q).toNat)
                  case atStart => exact ⟨0, Nat.zero_le _, rfl, by simp, Below.refl _ _⟩
                  case round =>
                    obtain ⟨r, hr, rfl, rfl, hE⟩ := hrel
                    have hzE := hE.size
                    have hcz := (hE.cell (p := ⟨bj, oj + j, none⟩) (show bj < wj.heap.size by omega)).trans hcj
                    by_cases hrl : r < T3.length
                    · obtain ⟨bt3, ot3, rfl, hbt3, hct3⟩ := Ints.at_ hvi3.out hrl
                      have hct4 := (hE.cell (p := ⟨bt3, ot3 + r, none⟩) hbt3).trans hct3
                      have hsd := fhid (List.take_succ_eq_append_getElem hrl)
                      have k1 : (r : Int) < T3.length := by omega
                      have k0 : (0 : Int) ≤ r := by omega
                      clear hct3
                      generalize T3[r] = y at *
                      by_cases hin : z ∈ T3.take r
                      · rw [decide_eq_true hin]
                        have hX := fhid (show decide (z ∈ T3.take (r + 1)) = true from decide_eq_true (by rw [hsd.out]; simp [hin]))
                        clear hin
                        go_upto_region 19 with fail
                        go_quiet (fail)
                        go_wp2_with fail
                        go_roundw
                        case rel => exact ⟨r + 1, by omega, by go_num, by rw [hX.out], below_drewN hE _⟩
                        case measure => simp [intOf]; omega
                      · rw [decide_eq_false hin]
                        by_cases hyz : y = z
                        · have e3 : (y == z) = true := beq_iff_eq.2 hyz
                          have hX := fhid (show decide (z ∈ T3.take (r + 1)) = true from decide_eq_true (by rw [hsd.out, hyz]; simp))
                          clear hin hyz
                          go_upto_region 19 with fail
                          go_quiet (fail)
                          go_wp2_with fail
                          go_roundw
                          case rel => exact ⟨r + 1, by omega, by go_num, by rw [hX.out], below_drewN hE _⟩
                          case measure => simp [intOf]; omega
                        · have e3 : (y == z) = false := beq_eq_false_iff_ne.2 hyz
                          have hX := fhid (show decide (z ∈ T3.take (r + 1)) = false from decide_eq_false (by rw [hsd.out]; simp [hin, Ne.symm hyz]))
                          clear hin hyz
                          go_upto_region 19 with fail
                          go_quiet (fail)
                          go_wp2_with fail
                          go_roundw
                          case rel => exact ⟨r + 1, by omega, by go_num, by rw [hX.out], below_drewN hE _⟩
                          case measure => simp [intOf]; omega
                    · obtain rfl : r = T3.length := by omega
                      rw [List.take_length]
                      have k1 : ¬ (T3.length : Int) < T3.length := by omega
                      have hOE := fhid (OwnI.below hO3.out hE)
                      have gE := hB3.trans (hE.mono hsz3)
                      have hNE : SegP wr (fun k => s0 ≤ k ∧ k < s1) (some ⟨bj, oj, none⟩) (IV R) := hN3.out.keep fun k hk => hE.block k (by omega)
                      have hzw : w.heap.size ≤ wr.heap.size := by omega
                      have hTlen : T3.length ≤ 1048576 := by omega
                      replace hNE := fhid hNE
                      by_cases hin : z ∈ T3
                      · rw [decide_eq_true hin]
                        have hF := fhid (hthr.out hin hza'.out)
                        clear hin
                        go_wp2_with fail
                        go_roundw
                        case rel => exact ⟨T3, j + 1, by omega, by go_num, hOE.out, hd3, hT3.out, hF.out, hNE.out, hap3.out, gE, by omega⟩
                        case measure => simp [intOf]; omega
                      · rw [decide_eq_false hin]
                        have hF := fhid (hput.out hza'.out)
                        have hd4 := fhid (show (T3 ++ [z]).Nodup from List.nodup_append.2 ⟨hd3, by simp, fun x hx y hy e => by
                          have : y = z := by simpa using hy
                          exact hin (by rw [← this, ← e]; exact hx)⟩)
                        have hT4 := fhid (show (T3 ++ [z])[n]? = some id by rw [List.getElem?_append_left hn3]; exact hT3.out)
                        clear hin
                        go_wp2_with (at_builtin; (refine app_apart rfl _ _ rfl w.heap.size _ T3 z wr rfl hOE.out rfl wr.heap.size rfl rfl hTlen hzw (fun k => s0 ≤ k ∧ k < s1) (fun k hk => ⟨by omega, hap3.out k hk⟩) ?_; intro v7 w7 o7 k7 b7))
                        go_roundw
                        case rel => exact ⟨T3 ++ [z], j + 1, by omega, by go_num, o7, hd4.out, hT4.out, hF.out, hNE.out.keep (fun k hk => (k7 k hk).1), fun k hk => (k7 k hk).2, gE.trans b7, by have := b7.size; omega⟩
                        case measure => simp [intOf]; omega
              · obtain rfl : j = R.length := by omega
                rw [List.take_length] at hF3
                have j1 : ¬ (R.length : Int) < R.length := by omega
                clear hvi3 hN3 hap3
                replace hO3 := fhid hO3
                replace hF3 := fhid hF3
                go_wp2_with fail
                go_roundw
                case rel => exact ⟨T3, D ++ R, m + 1, by omega, by go_num, hO3.out, hd3, hT3, hF3.out, hstep2.out, hB3⟩
                case measure => simp [intOf]; omega
          · have hne : (id == x) = false := beq_eq_false_iff_ne.2 hid
            go_upto_region 8 with fail
            go_quiet (fail)
            go_wp2_with fail
            go_roundw
            case rel => exact ⟨T2, D, m + 1, by omega, by go_num, OwnI.below hO2.out (below_drewN (Below.refl _ _) _), hd2, hT2.out, hF2.out, hstep.out D (fun e => absurd e hid) (fun _ h => h), below_drewN hB2 _⟩
            case measure => simp [intOf]; omega
        · obtain rfl : m = l.length := by omega
          have i2 : ¬ (l.length : Int) < l.length := by omega
          have hmt' := fhid (edges_met (x := x) (D := D) fun k hk e z hz => hmt k hk hk e z hz)
          clear hmt hvi2
          replace hF2 := fhid hF2
          replace hO2 := fhid hO2
          go_wp2_with fail
          go_roundw
          case rel => exact ⟨T2, n + 1, hn2, by go_num, hO2.out, hd2, hF2.out.next hn2 (by rw [hTx]; exact hmt'.out), hB2⟩
          case measure => simp [intOf]; omega
    · obtain rfl : n = T.length := by omega
      have i1 : ¬ (T.length : Int) < T.length := by omega
      have hdn := fhid hF.done
      clear hO hd hF hvi
      go_wp2_with fail
      go_ret
      exact ⟨false, rfl, ⟨(by intro h; cases h), fun h => absurd h hdn.out⟩, hB⟩
end Go.Proofs.YtpelmclgkkhjeaaDoor
