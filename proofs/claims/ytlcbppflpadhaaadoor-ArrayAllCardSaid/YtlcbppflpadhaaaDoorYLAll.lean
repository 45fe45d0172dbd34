/-
  ArrayAll, walked.
-/
import Derived.Test.YtlcbppflpadhaaaDoorYNums
import Derived.Deep.CutBlock
namespace Go.Proofs.YtlcbppflpadhaaaDoor
open Go.RowKit

theorem IMap.len {w : World} {b : Nat} {l : List (Int × Value)} (h : IMap w b l) (T : TypeId) : (Builtin.len_ #[35] T #[.map (some b)]).run Tryd.prog w = .ok (.int .i64 l.length) w := by
  obtain ⟨es, c, a, e⟩ := h
  have hl := congrArg List.length e
  rw [List.length_map, List.length_map, Array.length_toList] at hl
  have := run_len_map (P := Tryd.prog) w 35 T b es c (by kernel_rfl) a
  rw [hl] at this
  exact this
theorem IMap.bm {w : World} {b : Nat} {l : List Int} (h : IMap w b (BS l)) : BMap w b l := ⟨l, h, fun _ => Iff.rfl⟩
theorem BS_len (l : List Int) : (BS l).length = l.length := List.length_map _
theorem BS_snoc (l : List Int) (x : Int) : BS (l ++ [x]) = BS l ++ [(x, .bool true)] := by simp [BS]
/-- Of those that rise, the ones that are not among the first m are those behind them. -/
theorem filter_drop {l : List Int} (h : l.Pairwise (· < ·)) (m : Nat) : l.filter (open_ (l.take m)) = l.drop m := by
  have hn : ∀ x ∈ l.drop m, x ∉ l.take m := fun x hx hy => by
    rw [← List.take_append_drop m l] at h
    exact Int.lt_irrefl x ((List.pairwise_append.1 h).2.2 x hy x hx)
  have e : l.filter (open_ (l.take m)) = (l.take m ++ l.drop m).filter (open_ (l.take m)) := by rw [List.take_append_drop]
  rw [e, List.filter_append]
  have e1 : (l.take m).filter (open_ (l.take m)) = [] := List.filter_eq_nil_iff.2 fun x hx => by unfold open_; simp [hx]
  have e2 : (l.drop m).filter (open_ (l.take m)) = l.drop m := List.filter_eq_self.2 fun x hx => by unfold open_; simp [hn x hx]
  rw [e1, e2, List.nil_append]
/-- Which are started next. -/
theorem step_next {l : List Int} {lim : Int} {r m : Nat} (h : right l lim = true) : stepP l lim r (l.take m) = (l.drop m).take (roomP l lim r) := by
  rw [stepP_yes h (by omega), filter_drop (of_decide_eq_true h : RightP l lim).up]
theorem take_next {l L : List Int} {m j R : Nat} (hL : L = (l.drop m).take R) (hj : j ≤ L.length) : l.take m ++ L.take j = l.take (m + j) := by
  rw [List.take_add]
  congr 1
  rw [hL, List.take_take]
  rw [hL, List.length_take] at hj
  congr 1
  omega
theorem OwnI.other {w w' : World} {base : Nat} {v : Value} {ns : List Int} (h : OwnI w base v ns) (hk : ∀ g, base ≤ g → g < w.heap.size → w'.heap[g]? = w.heap[g]?) : OwnI w' base v ns := by
  refine ⟨h.1, ?_⟩
  rcases h.2 with ⟨rfl, hn⟩ | ⟨g, cap, cur, rfl, hg, hh, rest⟩
  · exact .inl ⟨rfl, hn⟩
  · exact .inr ⟨g, cap, cur, rfl, hg, (hk g hg (lt_of_block hh)).trans hh, rest⟩
/-- Bytes that came in. -/
def UV (l : List UInt8) : List Value := l.map fun c => .int .u8 (c.toNat : Int)
abbrev Byt (w : World) (B : Nat) (A : Option Addr) (l : List UInt8) : Prop := SegC w B A (UV l)
theorem Byt.at_ {w : World} {B : Nat} {A : Option Addr} {l : List UInt8} (h : Byt w B A l) {k : Nat} (hk : k < l.length) : ∃ b o, A = some ⟨b, o, none⟩ ∧ b < B ∧ w.cell? ⟨b, o + k, none⟩ = some (.int .u8 (l[k].toNat : Int)) := by
  have hl : (UV l).length = l.length := List.length_map _
  obtain ⟨b, o, e, hb, hc⟩ := h (by rw [hl]; omega)
  refine ⟨b, o, e, hb, ?_⟩
  rw [hc k (by rw [hl]; exact hk)]
  simp [UV]
/-- Where the law's loop is. -/
def AInv (w : World) (S : Nat) (l : List Int) (v : Value) (lim : Int) (s6 s7 : Value) (wr : World) : Prop := ∃ (Rn : List Int) (k : Nat), Rn.length + k ≤ l.length ∧ s7 = .int .i64 (k : Int) ∧ OwnI wr (S + 1) s6 Rn ∧ IMap wr S (BS (l.take (Rn.length + k))) ∧ (lim = 0 ∨ (Rn.length : Int) ≤ lim) ∧
  AB wr w.heap.size TRAr v lim ∧ Below w.heap.size w wr ∧ S + 1 ≤ wr.heap.size
set_option maxRecDepth 100000 in
set_option maxHeartbeats 16000000 in
theorem all_walk (l : List Int) (A : Option Addr) (cap : Nat) (lim : Int) (ends : List UInt8) (A2 : Option Addr) (cap2 : Nat) (w : World) (hT : Tab w) (hs : Ints w w.heap.size A l) (hd : Byt w w.heap.size A2 ends) (_hel : ends.length ≤ 9223372036854775807) :
    Calls Tryd.prog 7 #[.agg #[.slice A l.length cap, .int .i64 lim], .slice A2 ends.length cap2] w (BoolPost w true) := by
  have hal := fun W (hW : Below w.heap.size w W) => alive_any W (tab_below hT hW)
  have b0 : Below w.heap.size w (w.alloc (.cells #[.slice A l.length cap, .int .i64 lim] TRAr)) := (Below.refl _ _).alloc (Nat.le_refl _) _
  have p0 : AB (w.alloc (.cells #[.slice A l.length cap, .int .i64 lim] TRAr)) w.heap.size TRAr (.slice A l.length cap) lim := heap_alloc_new w _
  have zz := World.size_alloc w (.cells #[.slice A l.length cap, .int .i64 lim] TRAr)
  have hrr := rRight_any l A cap lim (w.alloc (.cells #[.slice A l.length cap, .int .i64 lim] TRAr)) ((hs.below b0).more b0.size)
  have hth := fun W => theirs_any A l.length cap lim W
  unfold ArrV at hth
  have hsB := fun W (hW : Below w.heap.size w W) => (hs.below hW).more hW.size
  replace hT := fhid hT
  cases hr : right l lim with
  | false =>
    rw [hr] at hrr
    have hst := fun W (hW : Below w.heap.size w W) => Step_no l A cap lim 0 none W (hsB W hW) (.inl hr)
    unfold IntsPost at hst
    clear hsB hs hd
    go_enter Tryd.func7, Tryd.ntmps7
    go_upto_region 1 with fail
    generalize w.alloc _ = w1 at *
    obtain ⟨c0, c1, _, _, z1⟩ := p0.facts
    replace p0 := fhid p0
    go_wp2_with (first
      | (go_at_call 12; (with_reducible refine hrr.mono ?_); rintro e w2 ⟨rfl, b2⟩
         have g2 := b0.trans (b2.mono b0.size)
         clear c0 c1
         obtain ⟨c0, c1, _, _, _⟩ := (p0.out.below b2 z1).facts)
      | (go_at_call 9; (with_reducible refine (hth _).mono ?_); rintro e w3 ⟨rfl, b3⟩
         have g3 := g2.trans (b3.mono g2.size))
      | (go_at_call 15; (with_reducible refine (hst _ g3).mono ?_); rintro e w4 ⟨v, rfl, o4, b4⟩
         obtain ⟨A3, q3, rfl, _, _, _⟩ := o4.shape
         rw [List.length_nil]
         have g4 := g3.trans (b4.mono g3.size))
      | (go_at_call 13; (with_reducible refine (hal _ g4).mono ?_); rintro e w5 ⟨rfl, b5⟩))
    go_ret
    exact ⟨rfl, g4.trans (b5.mono g4.size)⟩
  | true =>
    rw [hr] at hrr
    have hmm := @run_makeMap Tryd.prog
    have hR : RightP l lim := of_decide_eq_true hr
    obtain ⟨⟨l1, l2⟩, _, m0, m1⟩ := id hR
    have hup := fhid hR.up
    have hst := fun (r : Nat) b done W (hW : Below w.heap.size w W) (hm : BMap W b done) (hrl : r ≤ 256) => Step_any l A cap lim r b done W (hsB W hW) (by omega) hm
    unfold IntsPost at hst
    have hnx := fhid (fun r m => @step_next l lim r m hr)
    clear hsB hs hr hR
    replace hd := fhid hd
    replace hst := fhid hst
    go_enter Tryd.func7, Tryd.ntmps7
    go_upto_region 1 with fail
    generalize w.alloc _ = w1 at *
    obtain ⟨c0, c1, _, _, z1⟩ := p0.facts
    replace p0 := fhid p0
    go_upto_region 3 with (go_at_call 12; (with_reducible refine hrr.mono ?_); rintro e w2 ⟨rfl, b2⟩)
    have z2 := b2.size
    have q0 := p0.out.below b2 z1
    have g2 := b0.trans (b2.mono b0.size)
    have hn : IMap (w2.alloc (.map #[] 0)) w2.heap.size [] := IMap.new w2
    have bm : Below w2.heap.size w2 (w2.alloc (.map #[] 0)) := (Below.refl _ _).alloc (Nat.le_refl _) _
    have zm := World.size_alloc w2 (.map #[] 0)
    have qm := q0.below bm (by omega)
    have gm := g2.trans (bm.mono g2.size)
    have hS : w.heap.size < w2.heap.size := by omega
    clear q0 p0 b0 b2 c0 c1 hrr
    replace hn := fhid hn
    replace qm := fhid qm
    go_upto_region 4 with fail
    generalize w2.alloc _ = w3 at *
    generalize w2.heap.size = S at *
    clear hmm
    go_wp2_with fail
    go_loopw [6, 7] (fun s6 s7 wr => AInv w S l (.slice A l.length cap) lim s6 s7 wr) (fun _ s7 _ => 600 - (intOf s7).toNat)
    case atStart => exact ⟨[], 0, Nat.zero_le _, rfl, OwnI.nil _ _, hn.out, by rcases Int.lt_or_le 0 lim with h | h; exact .inr (by simp; omega); exact .inl (by omega), qm.out, gm, by omega⟩
    case round =>
      clear hn qm gm bm zm
      obtain ⟨Rn, k, hk, rfl, hO, hM, hlr, hAB, hB, hSz⟩ := hrel
      have hzB := hB.size
      have hzA := (AB.facts hAB).2.2.2.2
      have hml := hM.len
      have hlen : (BS (l.take (Rn.length + k))).length = Rn.length + k := by rw [BS_len, List.length_take]; omega
      rw [hlen] at hml
      obtain ⟨c0, c1, _, _, _⟩ := AB.facts hAB
      obtain ⟨Av, cv, rfl, hv1, hv2, _⟩ := hO.shape
      rename World => wo
      have k0 : (0 : Int) ≤ k := by omega
      have r0 : (0 : Int) ≤ Rn.length := by omega
      by_cases hcond : Rn.length + k < l.length ∨ 0 < Rn.length
      · replace hO := fhid hO
        replace hM := fhid hM
        replace hAB := fhid hAB
        go_upto_region 6 with fail
        go_cut [34] (fun c wx => c = .bool true ∧ wx = wo)
        case first =>
          by_cases h1 : Rn.length + k < l.length
          · have j1 : (Rn.length : Int) + (k : Int) < l.length := by omega
            replace h1 := fhid h1
            go_wp2_with fail
            go_meet
            exact ⟨rfl, rfl⟩
          · have j1 : ¬ (Rn.length : Int) + (k : Int) < l.length := by omega
            have j2 : (0 : Int) < Rn.length := by omega
            have j3 : 0 < Rn.length := by omega
            replace h1 := fhid h1
            go_wp2_with fail
            go_meet
            exact ⟨rfl, rfl⟩
        case rest =>
          obtain ⟨rfl, hw⟩ := hcut
          subst hw
          rename World => wo
          clear hml
          have hstw := fun W (hW : Below w.heap.size w W) (hm : BMap W S (l.take (Rn.length + k))) => hst.out Rn.length S (l.take (Rn.length + k)) W hW hm (by omega)
          have hLe := hnx.out Rn.length (Rn.length + k)
          have hLl : (stepP l lim Rn.length (l.take (Rn.length + k))).length = min (roomP l lim Rn.length) (l.length - (Rn.length + k)) := by rw [hLe, List.length_take, List.length_drop]
          have htn := fun j (hj : j ≤ (stepP l lim Rn.length (l.take (Rn.length + k))).length) => take_next hLe hj
          generalize stepP l lim Rn.length (l.take (Rn.length + k)) = L at *
          have hL256 : L.length ≤ 256 := by omega
          replace hstw := fhid hstw
          replace htn := fhid htn
          replace hLe := fhid hLe
          replace hLl := fhid hLl
          go_upto_region 9 with (first
            | (go_at_call 9; (with_reducible refine (hth _).mono ?_); rintro e w4 ⟨rfl, b4⟩
               have g4 := hB.trans (b4.mono hzB))
            | (go_at_call 15; (with_reducible refine (hstw.out _ g4 (BMap.below (IMap.bm hM.out) b4 (by omega))).mono ?_); rintro e w5 ⟨v5, rfl, o5, b5⟩))
          obtain ⟨A5, q5, rfl, h51, h52, n5⟩ := o5.seg
          have hz4 := b4.size
          have hz5 := b5.size
          have b45 := b4.trans (b5.mono hz4)
          have g5 := hB.trans (b45.mono hzB)
          have hO5 := OwnI.below hO.out b45
          have hM5 := hM.out.below b45 (by omega)
          have hAB5 := AB.below hAB.out b45 hzA
          have n5' : SegP w5 (fun x => w4.heap.size ≤ x ∧ x < w5.heap.size) A5 (IV L) := n5
          have hap : ∀ x, (w4.heap.size ≤ x ∧ x < w5.heap.size) → some x ≠ (Value.slice Av Rn.length cv).ownBlock := fun x hx e => by
            have := ownsRow_lt hO.out x e.symm
            omega
          clear o5 b4 b5 n5 hO hM hAB c0 c1
          replace hAB5 := fhid hAB5
          replace hO5 := fhid hO5
          replace hM5 := fhid hM5
          replace hap := fhid hap
          replace n5' := fhid n5'
          go_wp2_with fail
          go_loopw [6, 45] (fun s6 j wx => ∃ q : Nat, q ≤ L.length ∧ j = .int .i64 (q : Int) ∧ OwnI wx (S + 1) s6 (Rn ++ L.take q) ∧ IMap wx S (BS (l.take (Rn.length + k + q))) ∧ SegP wx (fun x => w4.heap.size ≤ x ∧ x < w5.heap.size) A5 (IV L) ∧ (∀ x, (w4.heap.size ≤ x ∧ x < w5.heap.size) → some x ≠ s6.ownBlock) ∧ Below S w5 wx) (fun _ j _ => L.length - (intOf j).toNat)
          case atStart => exact ⟨0, Nat.zero_le _, rfl, by rw [List.take_zero, List.append_nil]; exact hO5.out, hM5.out, n5'.out, hap.out, Below.refl _ _⟩
          case round =>
            clear hO5 hM5 n5' hap
            obtain ⟨q, hq, rfl, hO, hM, hN, hap, hC⟩ := hrel
            have hzC := hC.size
            have htq := htn.out q hq
            by_cases hql : q < L.length
            · obtain ⟨bb, o, rfl, ⟨hbb, hbs⟩, hc⟩ := Ints.at_ hN hql
              have hsn := List.take_succ_eq_append_getElem hql
              have htq1 := htn.out (q + 1) (by omega)
              have hnin : L[q] ∉ l.take (Rn.length + k + q) := fun hin => by
                have hp := hup.out
                rw [← List.take_append_drop (Rn.length + k + (q + 1)) l] at hp
                have hp1 := (List.pairwise_append.1 hp).1
                rw [← htq1, hsn, ← List.append_assoc, htq] at hp1
                exact Int.lt_irrefl _ ((List.pairwise_append.1 hp1).2.2 _ hin L[q] (by simp))
              have hnew : l.take (Rn.length + k + (q + 1)) = l.take (Rn.length + k + q) ++ [L[q]] := by rw [← htq1, hsn, ← List.append_assoc, htq]
              generalize L[q] = x at *
              have hop : open_ (l.take (Rn.length + k + q)) x = true := decide_eq_true hnin
              have hlk : look (BS (l.take (Rn.length + k + q))) x = none := by rw [look_BS, if_neg hnin]
              have j1 : (q : Int) < L.length := by omega
              have j0 : (0 : Int) ≤ q := by omega
              have hRq := fhid (show Rn ++ L.take (q + 1) = (Rn ++ L.take q) ++ [x] by rw [hsn, List.append_assoc])
              have hRl : (Rn ++ L.take q).length ≤ 1048576 := by rw [List.length_append, List.length_take]; omega
              clear hsn htq htq1 hnin
              replace hnew := fhid hnew
              generalize l.take (Rn.length + k + q) = TQ at *
              generalize Rn ++ L.take q = RQ at *
              have hbm := IMap.bm hM
              have hMk := fhid (fun (W : World) (h : W.heap[S]? = wr.heap[S]?) => hM.keep (w' := W) h)
              have hSw : S < wr.heap.size := by omega
              replace hop := fhid hop
              replace hlk := fhid hlk
              replace hO := fhid hO
              replace hM := fhid hM
              replace hN := fhid hN
              replace hap := fhid hap
              replace hbm := fhid hbm
              go_wp2_with (first
                | (at_lookup; refine bmap_look rfl _ _ rfl S TQ rfl hbm.out x rfl true hop.out ?_)
                | (at_mapUpdate; refine imap_put rfl _ _ _ 35 3 4 rfl Tryd.underlying35 Tryd.underlying3 S (BS TQ) rfl hM.out x rfl (.bool true) rfl hlk.out ?_; intro w6 m6 g6 z6; replace z6 := fhid z6)
                | (at_builtin; (refine app_apart rfl _ _ rfl (S + 1) _ RQ x w6 rfl (hO.out.other (w' := w6) fun g h1 h2 => g6.block g h2 (by intro e; injection e with e; omega)) rfl w6.heap.size rfl rfl hRl (by have := z6.out; omega) (fun x => w4.heap.size ≤ x ∧ x < w5.heap.size) (fun x hx => ⟨by have := z6.out; omega, hap.out x hx⟩) ?_; intro v7 w7 o7 k7 b7)))
              go_roundw
              case rel => exact ⟨q + 1, by omega, by go_num, by rw [hRq.out]; exact o7, by rw [hnew.out, BS_snoc]; exact m6.below b7 (by omega), hN.out.keep (fun x hx => ((k7 x hx).1).trans (g6.block x (by omega) (by intro e; injection e with e; omega))), fun x hx => (k7 x hx).2, (hC.trans (below_map g6 (Nat.le_refl _) (by omega))).trans (b7.mono (by omega))⟩
              case measure => simp [intOf]; omega
            · obtain rfl : q = L.length := by omega
              rw [List.take_length] at hO
              have j1 : ¬ (L.length : Int) < L.length := by omega
              have hABr : AB wr w.heap.size TRAr (.slice A l.length cap) lim := hAB5.out.below hC hS
              have gr : Below w.heap.size w wr := g5.trans (hC.mono (by omega))
              obtain ⟨c0, c1, _, _, _⟩ := AB.facts hABr
              obtain ⟨R', hR'⟩ : ∃ R', Rn ++ L = R' := ⟨_, rfl⟩
              have hR'l : R'.length = Rn.length + L.length := by rw [← hR', List.length_append]
              rw [hR'] at hO
              have hMr : IMap wr S (BS (l.take (R'.length + k))) := by rw [hR'l, show Rn.length + L.length + k = Rn.length + k + L.length by omega]; exact hM
              have hll := hLl.out
              have hroom : roomP l lim Rn.length = if lim = 0 then l.length else (lim - Rn.length).toNat := rfl
              have hpos : 0 < R'.length := by
                rw [hR'l, hll, hroom]
                split
                · omega
                · rename_i hz
                  rcases hlr with h | h
                  · exact absurd h hz
                  · omega
              have hlim : lim = 0 ∨ (R'.length : Int) ≤ lim := by
                rcases hlr with h | h
                · exact .inl h
                · by_cases hz : lim = 0
                  · exact .inl hz
                  · refine .inr ?_
                    rw [if_neg hz] at hroom
                    rw [hR'l, hll, hroom]
                    omega
              have hR'm : R'.length + k ≤ l.length := by rw [hR'l, hll]; omega
              have hR'k : R'.length ≤ 256 := by omega
              clear hll hroom hR'l hR' hM hC hAB5 hN hap
              obtain ⟨Ao, co, rfl, hoc, hocm, hoi⟩ := hO.shape
              rename World => wq
              have e0 : ((R'.length : Int) == 0) = false := beq_eq_false_iff_ne.2 (by omega)
              have e3 : ¬ (600 : Int) < k := by omega
              replace hO := fhid hO
              replace hoi := fhid hoi
              replace hMr := fhid hMr
              replace hABr := fhid hABr
              replace hlim := fhid hlim
              go_upto_region 17 with fail
              go_cut [77] (fun c wx => c = .bool false ∧ wx = wq)
              case first =>
                rcases hlim.out with h | h
                · subst h
                  go_wp2_with fail
                  go_meet
                  exact ⟨rfl, rfl⟩
                · by_cases f1 : (0 : Int) < lim
                  · have f2 : ¬ lim < (R'.length : Int) := by omega
                    go_wp2_with fail
                    go_meet
                    exact ⟨rfl, rfl⟩
                  · exact absurd hpos (by omega)
              case rest =>
                obtain ⟨rfl, hw⟩ := hcut
                subst hw
                rename World => wq
                clear c0 c1
                go_upto_if 81 with fail
                go_cut [11] (fun iv wx => (∃ i : Nat, i < R'.length ∧ iv = .int .i64 (i : Int)) ∧ wx = wq)
                case first =>
                  by_cases hke : k < ends.length
                  · obtain ⟨be, oe, rfl, hbe, hce⟩ := Byt.at_ (hd.out.below gr) hke
                    have h8 : ends[k].toNat < 256 := UInt8.toNat_lt _
                    have e4 : (k : Int) < ends.length := by omega
                    generalize ends[k].toNat = ev at *
                    have e5 : (0 : Int) ≤ ev := by omega
                    have e6 : (ev : Int) ≤ 255 := by omega
                    have e7 : (0 : Int) < R'.length := by omega
                    have e8 : ¬ (R'.length : Int) = 0 := by omega
                    have hmod := fhid (Nat.mod_lt ev hpos)
                    go_wp2_with fail
                    go_meet
                    exact ⟨⟨ev % R'.length, hmod.out, by push_cast; rfl⟩, rfl⟩
                  · have e4 : ¬ (k : Int) < ends.length := by omega
                    go_wp2_with fail
                    go_meet
                    exact ⟨⟨0, hpos, rfl⟩, rfl⟩
                case rest =>
                  obtain ⟨⟨i, hi, rfl⟩, hw⟩ := hcut
                  subst hw
                  rename World => wq
                  have zz0 : Below wq.heap.size wq wq.drew := (Below.refl _ _).drew
                  have i0 : (0 : Int) ≤ i := by omega
                  have i2 : (i : Int) ≤ R'.length := by omega
                  have i3 : (i : Int) ≤ co := by omega
                  have i4 : (R'.length : Int) ≤ co := by omega
                  have i5 : (0 : Int) ≤ (i : Int) + 1 := by omega
                  have i6 : (i : Int) + 1 ≤ R'.length := by omega
                  have i7 : (i : Int) + 1 ≤ co := by omega
                  have i8 : ((i : Int) + 1).toNat = i + 1 := by omega
                  have i9 : IntKind.i64.wrap ((i : Int) + 1) = (i : Int) + 1 := IntWalk.i64_in _ (by omega)
                  have ht : Ints wq wq.heap.size Ao (R'.take i) := by
                    have := SegC.take hoi.out i
                    rwa [IV_take] at this
                  have hd2 : Ints wq wq.heap.size (if co = i + 1 then Ao else Ao.map (·.add (i + 1))) (R'.drop (i + 1)) := by
                    have := SegC.drop hoi.out (k := i + 1) (cap := co) (by rw [IV_len]; exact hi) (by rw [IV_len]; exact hoc)
                    rwa [IV_drop] at this
                  have l1 : i = (R'.take i).length := by rw [List.length_take]; omega
                  have l2 : R'.length - (i + 1) = (R'.drop (i + 1)).length := List.length_drop.symm
                  have l3 : ([] : List Int).length + (R'.take i).length ≤ 10000000 := by rw [← l1, List.length_nil]; omega
                  have l5 : ([] ++ R'.take i).length + (R'.drop (i + 1)).length ≤ 10000000 := by rw [List.nil_append, ← l1, ← l2]; omega
                  have l6 : (([] ++ R'.take i) ++ R'.drop (i + 1)).length + 1 = R'.length := by rw [List.length_append, List.nil_append, ← l1, ← l2]; omega
                  replace ht := fhid ht
                  replace hd2 := fhid hd2
                  generalize R'.take i = o1 at *
                  generalize R'.drop (i + 1) = o2 at *
                  replace l1 := fhid l1
                  replace l2 := fhid l2
                  replace l3 := fhid l3
                  replace l5 := fhid l5
                  replace l6 := fhid l6
                  replace gr := fhid gr
                  go_upto_region 22 with fail
                  go_region_law (first
                    | (refine step_nums rfl (.tmp 93) (.tmp 97) rfl wq.heap.size v3 ([] ++ o1) o2 (R'.length - (i + 1)) l2.out (by simp [Act.eval]) o3.out wq.heap.size (if co = i + 1 then Ao else Ao.map (·.add (i + 1))) (co - (i + 1)) (by simp [Act.eval, Addr.add]) (hd2.out.below z3) l5.out z3.size ?_
                       intro v5 w5 o5 b5
                       have z5 : Below wq.heap.size wq w5 := z3.trans b5)
                    | (refine step_nums rfl (.const (.slice none 0 0)) (.tmp 92) rfl _ (.slice none 0 0) [] o1 i l1.out (by simp [Act.eval]) (OwnI.nil _ _) wq.heap.size Ao co (by simp [Act.eval, Act.put]) (ht.out.below zz0) l3.out (Nat.le_refl _) ?_
                       intro v3 w3 o3 b3
                       have z3 : Below wq.heap.size wq w3 := zz0.trans (b3.mono zz0.size)
                       replace o3 := fhid (show OwnI w3 wq.heap.size v3 ([] ++ o1) from OwnI.base o3 zz0.size)))
                  all_goals
                    clear i9
                    go_wp2_with fail
                    go_roundw
                    case rel => exact ⟨([] ++ o1) ++ o2, k + 1, by have := l6.out; omega, by go_num, OwnI.base o5 (by omega), (show (([] ++ o1) ++ o2).length + (k + 1) = R'.length + k by have := l6.out; omega) ▸ hMr.out.below z5 (by omega), by have := l6.out; rcases hlim.out with h | h; exact .inl h; exact .inr (by omega), hABr.out.below z5 (by omega), gr.out.trans (z5.mono (by omega)), by have := z5.size; omega⟩
                    case measure => simp [intOf]; omega
      · have hr0 : Rn.length = 0 := by omega
        have hkl : Rn.length + k = l.length := by omega
        rw [hkl] at hml
        have j1 : ¬ (l.length : Int) < l.length := by omega
        have j2 : ¬ (0 : Int) < Rn.length := by omega
        have e1 : ((l.length : Int) == l.length) = true := by simp
        replace hO := fhid hO
        replace hAB := fhid hAB
        replace hM := fhid hM
        replace hr0 := fhid hr0
        replace hkl := fhid hkl
        go_wp2_with (go_at_call 13; (with_reducible refine (hal _ hB).mono ?_); rintro e w5 ⟨rfl, b5⟩)
        go_ret
        exact ⟨rfl, hB.trans (b5.mono hzB)⟩
end Go.Proofs.YtlcbppflpadhaaaDoor
