/-
  DepLoops, walked.
-/
import Derived.Test.YtpelmclgkkhjeaaDoorDKept
import Derived.Test.YtpelmclgkkhjeaaDoorDAlive
import Derived.BigRegion
import Derived.Deep.DeepCutAuto
import Derived.Deep.CutBlock
import Derived.Deep.RegionLaw
namespace Go.Proofs.YtpelmclgkkhjeaaDoor
open Go.RowKit

/-- A block that holds a job with what it waits for. -/
def EB (w : World) (b : Nat) (id : Int) (any : Bool) (v : Value) : Prop := w.heap[b]? = some (.cells #[.int .i64 id, .bool any, v] TEd (0, 0))
theorem EB.facts {w : World} {b : Nat} {id : Int} {any : Bool} {v : Value} (h : EB w b id any v) : w.cell? ⟨b, 0, none⟩ = some (.int .i64 id) ∧ w.cell? ⟨b, 1, none⟩ = some (.bool any) ∧ w.cell? ⟨b, 2, none⟩ = some v ∧ b < w.heap.size := by
  have h' : w.heap[b]? = some (.cells #[.int .i64 id, .bool any, v] TEd (0, 0)) := h
  exact ⟨by simp [World.cell?, h'], by simp [World.cell?, h'], by simp [World.cell?, h'], lt_of_block h'⟩
theorem EB.below {w w' : World} {B b : Nat} {id : Int} {any : Bool} {v : Value} (h : EB w b id any v) (hb : Below B w w') (hB : b < B) : EB w' b id any v := (hb.block b hB).trans h
/-- Where the gathering is. -/
def GRel (w : World) (M : Nat) (v i : Value) (wr : World) : Prop := ∃ (j : Nat) (K : List Dp) (vs : List (Int × Value)), j ≤ M ∧ i = .int .i64 (j : Int) ∧ K.length ≤ j ∧ (K.map fun d => d.1).Nodup ∧ (∀ d ∈ K, muchB d.2.2 = false) ∧ OwnE wr (w.heap.size + 1) w.heap.size v K ∧ MapT wr w.heap.size vs K ∧ Below w.heap.size w wr ∧ w.heap.size + 1 ≤ wr.heap.size
set_option maxRecDepth 100000 in
set_option maxHeartbeats 8000000 in
theorem loops_any (l : List Dp) (A : Option Addr) (cap : Nat) (a : Int) (w : World) (hT : Tab w) (hs : Deps w w.heap.size A l) (hc : l.length ≤ cap) (hcm : cap ≤ maxLen) :
    Calls Tryd.prog 3 #[.slice A l.length cap, .int .i64 a] w (BoolPost w true) := by
  have hll : l.length ≤ 9223372036854775807 := by unfold maxLen at hcm; omega
  have i4 : (l.length : Int) ≤ cap := by omega
  have hal := fun W (hW : Below w.heap.size w W) => alive_any W (tab_below hT hW)
  have hmm := @run_makeMap Tryd.prog
  have m0 : IMap (w.alloc (.map #[] 0)) w.heap.size [] := IMap.new w
  have g0 : Below w.heap.size w (w.alloc (.map #[] 0)) := (Below.refl _ _).alloc (Nat.le_refl _) _
  have z0 := World.size_alloc w (.map #[] 0)
  have hMM : (∃ M : Nat, M = l.length ∧ (l.length : Int) ≤ 60 ∧ M ≤ 60 ∧ M ≤ l.length) ∨ (∃ M : Nat, M = 60 ∧ (60 : Int) < l.length ∧ M ≤ 60 ∧ M ≤ l.length) := by
    by_cases h : l.length ≤ 60
    · exact .inl ⟨_, rfl, by omega, h, Nat.le_refl _⟩
    · exact .inr ⟨_, rfl, by omega, Nat.le_refl _, by omega⟩
  replace hs := fhid hs
  clear hT
  rcases hMM with ⟨M, hMe, hMc, hM60, hMl⟩ | ⟨M, hMe, hMc, hM60, hMl⟩
  all_goals
    have hst : GRel w M (.slice none 0 0) (.int .i64 (0 : Int)) (w.alloc (.map #[] 0)) := ⟨0, [], [], Nat.zero_le _, rfl, Nat.le_refl _, List.nodup_nil, (fun d hd => by cases hd), OwnE.nil _ _ _, MapT.nil m0, g0, by omega⟩
    replace hst := fhid hst
    replace z0 := fhid z0
    replace m0 := fhid m0
    go_enter Tryd.func3, Tryd.ntmps3
    go_upto_region 2 with fail
    generalize w.alloc _ = w1 at *
    go_wp2_with fail
    go_loopw [6, 18] (fun v i wr => GRel w M v i wr) (fun _ i _ => M - (intOf i).toNat)
    case atStart => exact hst.out
    case round =>
      clear hst m0 z0 g0 hmm
      obtain ⟨j, K, vs, hjM, rfl, hKj, hKn, hKm, hO, hMp, hB, hzw⟩ := hrel
      have hzB := hB.size
      rename World => wo
      replace hKn := fhid hKn
      replace hKm := fhid hKm
      by_cases hlt : j < M
      · obtain ⟨bb, o, rfl, hbb, q0, q1, Ai, ci, q2, hic, him, hits⟩ := (hs.out.below hB).at_ (show j < l.length by omega)
        have i0 : (0 : Int) ≤ j := by omega
        have i6 : (j : Int) < l.length := by omega
        have i7 : (j : Int) < 60 := by omega
        generalize l[j] = d at *
        obtain ⟨id, any, its⟩ := d
        simp only at q0 q1 q2 hic him hits
        replace hO := fhid hO
        replace hMp := fhid hMp
        replace hits := fhid hits
        have hE : EB (wo.alloc (.cells #[.int .i64 id, .bool any, .slice Ai its.length ci] TEd)) wo.heap.size id any (.slice Ai its.length ci) := heap_alloc_new wo _
        have bA : Below wo.heap.size wo (wo.alloc (.cells #[.int .i64 id, .bool any, .slice Ai its.length ci] TEd)) := (Below.refl _ _).alloc (Nat.le_refl _) _
        have zA := World.size_alloc wo (.cells #[.int .i64 id, .bool any, .slice Ai its.length ci] TEd)
        replace hE := fhid hE
        replace zA := fhid zA
        have hmu := fun W (hW : Below wo.heap.size wo W) => much_any any its Ai ci W ((hits.out.below (hW.mono hzB)).more (Nat.le_trans hzB hW.size)) (by unfold maxLen at him; omega) hic
        go_upto_region 6 with fail
        generalize wo.alloc _ = w2 at *
        obtain ⟨c0, c1, c2, hlE⟩ := hE.out.facts
        rcases hR : muchB its with _ | _
        · have hRf := fhid hR
          rw [hR] at hmu
          clear hR
          go_upto_region 8 with (go_at_call 4
                                 (with_reducible refine (hmu _ bA).mono ?_)
                                 rintro e w3 ⟨rfl, b3⟩)
          have hE3 := hE.out.below b3 hlE
          have g3 : Below wo.heap.size wo w3 := bA.trans (b3.mono bA.size)
          have hMp3 := hMp.out.below g3
          obtain ⟨any9, A9, n9, c9, r, hlk, hr, hno⟩ := hMp3.look id
          clear c0 c1 c2
          obtain ⟨c0, c1, c2, hl3⟩ := hE3.facts
          replace hno := fhid hno
          replace hMp3 := fhid hMp3
          replace hE3 := fhid hE3
          have bL : Below w3.heap.size w3 (w3.alloc (.cells #[.bool any9, .slice A9 n9 c9] TDep)) := (Below.refl _ _).alloc (Nat.le_refl _) _
          have hD9 : DB (w3.alloc (.cells #[.bool any9, .slice A9 n9 c9] TDep)) w3.heap.size TDep any9 (.slice A9 n9 c9) := heap_alloc_new w3 _
          have zL := World.size_alloc w3 (.cells #[.bool any9, .slice A9 n9 c9] TDep)
          replace zL := fhid zL
          replace hD9 := fhid hD9
          have hrh := fhid hr
          cases r with
          | true =>
            go_wp2_with (at_lookup; refine imap_look_ok rfl _ _ 23 3 33 rfl Tryd.underlying23 Tryd.underlying3 zeroDep (zeroDep_run _) w.heap.size vs rfl hMp3.out.1 id rfl ?_; rw [hlk, hr])
            go_roundw
            case rel =>
              have gq := g3.trans (bL.mono g3.size)
              exact ⟨j + 1, K, vs, by omega, by go_num, by omega, hKn.out, hKm.out, hO.out.below hzB gq, hMp.out.below gq, hB.trans (gq.mono hzB), Nat.le_trans hzw gq.size⟩
            case measure => simp [intOf]; omega
          | false =>
            obtain ⟨hln, hnk⟩ := hno.out rfl
            replace hnk := fhid hnk
            go_upto_region 10 with (at_lookup; refine imap_look_ok rfl _ _ 23 3 33 rfl Tryd.underlying23 Tryd.underlying3 zeroDep (zeroDep_run _) w.heap.size vs rfl hMp3.out.1 id rfl ?_; rw [hlk, hr])
            have hE4 := hE3.out.below bL hl3
            have g4 : Below wo.heap.size wo (w3.alloc (.cells #[.bool any9, .slice A9 n9 c9] TDep)) := g3.trans (bL.mono g3.size)
            clear hD9 zL
            generalize w3.alloc _ = w4 at *
            have zz0 : Below w4.heap.size w4 w4.drew := (Below.refl _ _).drew
            have g5 : Below wo.heap.size wo w4.drew := g4.trans (zz0.mono g4.size)
            have z5 : w4.drew.heap.size = w4.heap.size := rfl
            have hl4 := hE4.facts.2.2.2
            have hE5 := hE4.below zz0 hl4
            have hth := theirs_below w.heap.size any its Ai ci w4.drew (hits.out.below (g5.mono hzB)) (Nat.le_trans hzB g5.size) (by have := (much_small hRf.out).1; omega)
            clear c0 c1 c2
            obtain ⟨c0, c1, c2, _⟩ := hE5.facts
            replace hE5 := fhid hE5
            replace hE4 := fhid hE4
            replace z5 := fhid z5
            go_region_law (go_simp; go_at_call 6
                           (with_reducible refine hth.mono ?_)
                           rintro e w5 ⟨v5, rfl, o5, b5⟩
                           obtain ⟨A5, c5, rfl, hI5⟩ := ItsT.own o5
                           have g6 := g5.trans (b5.mono g5.size)
                           have hE6 := hE5.out.below b5 (by have := z5.out; omega)
                           obtain ⟨d0, d1, d2, hl6⟩ := hE6.facts
                           replace hE6 := fhid hE6
                           have hM6 := fhid (hMp.out.below g6)
                           obtain ⟨w6, r6, m6, k6, z6⟩ := run_put hM6.out.1 id (.agg #[.bool any, .slice A5 its.length c5]) hln
                           replace z6 := fhid z6
                           replace m6 := fhid m6
                           replace hI5 := fhid hI5)
            all_goals
              clear c0 c1 c2 d0 d1 d2 r6 hth
              have hz5 : w.heap.size + 1 ≤ w5.heap.size := Nat.le_trans hzw g6.size
              have bM := below_map (B := w.heap.size) k6 (Nat.le_refl _) (by omega)
              have gx := ((hB.trans (g6.mono hzB)).trans bM)
              have hO7 := fhid ((hO.out.below hzB g6).keep bM (fun g h1 h2 => k6.block g h2 (by intro e; injection e with e; omega)))
              have hM7 := fhid (hM6.out.put m6.out k6 hI5.out)
              have hE7 : EB w6 wo.heap.size id any (.slice Ai its.length ci) := (k6.block wo.heap.size hl6 (by intro e; injection e with e; omega)).trans hE6.out
              obtain ⟨e0, e1, e2, hl7⟩ := hE7.facts
              replace hE7 := fhid hE7
              have hits7 := fhid (hits.out.below ((g6.mono hzB).trans bM))
              have hz6 : w.heap.size + 1 ≤ w6.heap.size := by have := z6.out; omega
              go_wp2_with (at_builtin; (refine app_ed rfl _ _ rfl (w.heap.size + 1) w.heap.size _ K id any its Ai ci hic him w6 rfl hO7.out (Nat.le_succ _) hits7.out rfl w6.heap.size rfl rfl (by omega) hz6 ?_; intro v8 w8 o8 k8 b8); replace o8 := fhid o8)
              go_roundw
              case rel =>
                refine ⟨j + 1, K ++ [(id, any, its)], _, by omega, by go_num, by rw [List.length_append, List.length_singleton]; omega, ?_, fun d hd => ?_, o8.out, hM7.out.keep (b8.block _ (Nat.lt_succ_self _)) k8, gx.trans (b8.mono (Nat.le_succ _)), Nat.le_trans hz6 b8.size⟩
                · rw [List.map_append, List.nodup_append]
                  refine ⟨hKn.out, by simp, fun x hx y hy e => ?_⟩
                  obtain ⟨d, hd, rfl⟩ := List.mem_map.1 hx
                  exact hnk.out d hd (e.trans (by simpa using hy))
                · rcases List.mem_append.1 hd with hd | hd
                  · exact hKm.out d hd
                  · rw [List.mem_singleton.1 hd]
                    exact hRf.out
              case measure => simp [intOf]; omega
        · rw [hR] at hmu
          clear hR
          have g2 : Below w.heap.size w _ := hB.trans (bA.mono hzB)
          go_wp2_with (first
            | (go_at_call 4
               (with_reducible refine (hmu _ bA).mono ?_)
               rintro e w3 ⟨rfl, b3⟩
               have g3 := g2.trans (b3.mono (Nat.le_trans hzB bA.size)))
            | (go_at_call 5
               (with_reducible refine (hal _ g3).mono ?_)
               rintro e w4 ⟨rfl, b4⟩))
          go_ret
          exact ⟨rfl, g3.trans (b4.mono g3.size)⟩
      · obtain rfl : j = M := by omega
        obtain ⟨Av, cv, rfl, hDp⟩ := hO.shape hzB
        have hx : ∀ d ∈ K, d.2.2.length ≤ 1000 ∧ ∀ x ∈ d.2.2, x.2.length ≤ 1000 := fun d hd => by
          obtain ⟨x1, x2⟩ := much_small (hKm.out d hd)
          exact ⟨by omega, fun x hx => by have := x2 x hx; omega⟩
        have hG := grp_small K hKm.out
        have hEs := edges_small K hKm.out
        have hP := pLoop_any K w.heap.size vs a wo hMp.dm (by omega) hKn.out hx (by omega) (fun x => by have := hEs x; omega)
        have hRl := fun W (hW : Below wo.heap.size wo W) => rLoop_any K Av cv a W ((hDp.below hW).more hW.size) hKn.out (by omega) hx (by omega)
        clear hG hEs hx hDp hMp hO
        first | (have i6 : ¬ (j : Int) < l.length := by omega) | (have i6 : ¬ (j : Int) < 60 := by omega)
        go_wp2_with (first
          | (go_at_call 7
             (with_reducible refine hP.mono ?_)
             rintro e w3 ⟨r3, rfl, hr3, b3⟩
             have g3 := hB.trans (b3.mono hzB))
          | (go_at_call 8
             (with_reducible refine (hRl _ b3).mono ?_)
             rintro e w4 ⟨r4, rfl, hr4, b4⟩
             have g4 := g3.trans (b4.mono g3.size)
             obtain rfl : r4 = r3 := by rw [Bool.eq_iff_iff, hr3, hr4]
             clear hr3 hr4)
          | (go_at_call 5
             (with_reducible refine (hal _ g4).mono ?_)
             rintro e w5 ⟨rfl, b5⟩))
        go_ret
        exact ⟨rfl, g4.trans (b5.mono g4.size)⟩
end Go.Proofs.YtpelmclgkkhjeaaDoor
