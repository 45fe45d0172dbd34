/-
  A part's names.
-/
import Derived.Test.YtkmknogejhhajabDoorHPartAll
import Derived.Test.YtkmknogejhhajabDoorHDig
import Derived.Deep.RegionLaw
import Derived.BigRegion
namespace Go.Proofs.YtkmknogejhhajabDoor
open Go.RowKit

theorem keep_block {w w' : World} {base b n : Nat} {T : TypeId} {v : Value} {xs : List Value} {cs : Array Value} {fr : Nat × Nat} (h : w.heap[b]? = some (.cells cs T fr)) (g : w.grownBy w' v.ownBlock) (ho : w.ownsRow base 9 1 v n xs) (hT : T ≠ 9) : w'.heap[b]? = some (.cells cs T fr) :=
  (g.block b (lt_of_block h) (own_tag ho h hT)).trans h
def SB (w : World) (b : Nat) (x0 x1 x2 : Int) : Prop := w.heap[b]? = some (.cells #[.int .i64 x0, .int .i64 x1, .int .i64 x2] 77 (0, 0))
theorem SB.facts {w : World} {b : Nat} {x0 x1 x2 : Int} (h : SB w b x0 x1 x2) : w.cell? ⟨b, 0, none⟩ = some (.int .i64 x0) ∧ w.cell? ⟨b, 1, none⟩ = some (.int .i64 x1) ∧ w.cell? ⟨b, 2, none⟩ = some (.int .i64 x2) ∧ b < w.heap.size := by
  unfold SB at h
  exact ⟨by simp [World.cell?, h], by simp [World.cell?, h], by simp [World.cell?, h], lt_of_block h⟩
theorem SB.below {w w' : World} {B b : Nat} {x0 x1 x2 : Int} (h : SB w b x0 x1 x2) (hb : Below B w w') (hB : b < B) : SB w' b x0 x1 x2 := (hb.block b hB).trans h
/-- One name more, inside a region that draws its order. -/
theorem step_name {w : World} {ops : Array Oper} {o : Oper} {a : Act} {K : Act → World → Prop} {Q : Exit → Act → World → Prop} {E : Prop} (hgd : o.guard = none) (s x : Operand) (ho : o.op = .call { callee := .builtin .append, args := #[s, x], argTypes := #[22, 22] })
    (base : Nat) (v : Value) (ns : List (List UInt8)) (n : List UInt8) (S : ByteArray) (hS : S = str n) (w0 : World) (hs : a.eval s = v) (hown : OwnS w0 base v ns)
    (hw : w = w0.alloc (.cells #[.string S] 9)) (g : Nat) (hg : g = w0.heap.size) (hx : a.eval x = .slice (some ⟨g, 0, none⟩) 1 1) (hlen : ns.length ≤ 1048576) (hbase : base ≤ w0.heap.size)
    (h : ∀ v' w', OwnS w' base v' (ns ++ [n]) → w0.grownBy w' v.ownBlock → Below base w0 w' → K (a.put o.dst v') w') : if Region.wanted o (yielded ops a.tmps) = true then Oper.wp Tryd.prog o a w K Q else E := by
  have hwt : Region.wanted o (yielded ops a.tmps) = true := by simp [Region.wanted, hgd]
  rw [if_pos hwt]
  subst hS
  subst hw
  subst hg
  obtain ⟨i0, hi, hz0, hz1, hz2⟩ := info_parts infoString
  obtain ⟨v', w', hrun, h2, h3, _, _⟩ := run_append_own_at (P := Tryd.prog) (w0.alloc (.cells #[.string (str n)] 9)) base 22 o.type 9 i0 (.string ⟨#[]⟩) 1 16 Tryd.underlying22 hi hz0 hz1 hz2 rfl (by decide) v ns.length (SV ns) (World.ownsRow.alloc hown _) ⟨w0.heap.size, 0, none⟩ 1 1 [.string (str n)] rfl
    (fun j u hj => by
      cases j with
      | zero =>
        have : u = .string (str n) := by simpa using hj.symm
        subst this
        show (w0.alloc _).cell? ⟨w0.heap.size, 0, none⟩ = _
        simp
      | succ j => simp at hj)
    (fun u hu => by simp at hu; subst hu; rfl) (by unfold maxLen; omega) (by omega) (by rw [World.size_alloc]; omega)
  have hb : Below base w0 w' := ((Below.refl _ _).alloc hbase _).trans ((Below.refl _ _).grown h3 (by rw [World.size_alloc]; omega) (fun k hk => ownsRow_ge hown k hk))
  unfold Oper.wp
  simp [execOp, ho, resolve, invoke, builtin, hs, hx, hrun, Result.andThen]
  refine h v' w' ?_ ⟨h3.os, h3.tape, h3.output, Nat.le_trans (by rw [World.size_alloc]; omega) h3.size, fun k hk hne => (h3.block k (by rw [World.size_alloc]; omega) hne).trans (Below.heap_alloc _ _ _ hk)⟩ hb
  unfold OwnS
  rw [SV_app, List.length_append]
  exact h2
/-- A part's names, in memory of the call's own. -/
def NamesPost (w : World) (ns : List (List UInt8)) (e : Ending) (w' : World) : Prop := ∃ v, e = .returned v ∧ OwnS w' w.heap.size v ns ∧ Below w.heap.size w w'
theorem one_own (w : World) (base : Nat) (S : ByteArray) (p : List UInt8) (hS : S = str p) (h : base ≤ w.heap.size) (g : Nat) (hg : g = w.heap.size) : OwnS (w.alloc (.cells #[.string S] 9)) base (.slice (some ⟨g, 0, none⟩) 1 1) [p] := by
  subst hS
  subst hg
  exact ⟨rfl, .inr ⟨w.heap.size, 1, #[.string (str p)], rfl, h, heap_alloc_new w _, Nat.le_refl _, by unfold maxLen; omega, rfl, rfl⟩⟩
set_option maxRecDepth 100000 in
set_option maxHeartbeats 1000000 in
theorem names_one (p : List UInt8) (A : Option Addr) (cap : Nat) (cnt : Int) (w : World) :
    Calls Tryd.prog 28 #[.agg #[.string (str p), .slice A 0 cap, .int .i64 cnt]] w (NamesPost w [p]) := by
  obtain ⟨S, hS⟩ : ∃ S, str p = S := ⟨_, rfl⟩
  rw [hS]
  replace hS := fhid hS
  go_enter Tryd.func28, Tryd.ntmps28
  go_wp2
  go_ret
  exact ⟨_, rfl, one_own _ _ S p hS.out.symm (by simp) _ (by simp), ((Below.refl _ _).alloc (Nat.le_refl _) _).alloc (by simp) _⟩
theorem names_take (p : List UInt8) (rs : List (Nat × Nat × Nat)) (k : Nat) (h : k < rs.length) : (rs.take (k + 1)).flatMap (spanNames p) = (rs.take k).flatMap (spanNames p) ++ spanNames p rs[k] := by
  rw [List.take_succ_eq_append_getElem h, List.flatMap_append, List.flatMap_cons, List.flatMap_nil, List.append_nil]
theorem names_le (p : List UInt8) (rs : List (Nat × Nat × Nat)) (k : Nat) : ((rs.take k).flatMap (spanNames p)).length ≤ cntOf rs := by
  have h : (rs.flatMap (spanNames p)).length = cntOf rs := by
    unfold cntOf
    rw [List.length_flatMap]
    congr 1
    exact List.map_congr_left fun x _ => by unfold spanNames spanCount; simp
  rw [← h]
  conv => rhs; rw [← List.take_append_drop k rs]
  rw [List.flatMap_append, List.length_append]
  omega
theorem digits_at (n wd : Nat) (ni : Int) (w : World) (hT : Tab w) (hni : ni = n) (hn : n ≤ 1000000000) (hw : wd ≤ 1000) : Calls Tryd.prog 48 #[.int .i64 ni, .int .i64 wd] w fun e w' => e = .returned (.string (str (dig n wd))) ∧ Below w.heap.size w w' := by
  subst hni
  exact digits_any n wd w hT hn hw
set_option maxRecDepth 100000 in
set_option maxHeartbeats 4000000 in
theorem names_many (p : List UInt8) (A : Option Addr) (cap : Nat) (rs : List (Nat × Nat × Nat)) (cnt : Int) (w : World) (hT : Tab w) (hr : SegC w w.heap.size A (RV rs)) (h0 : rs ≠ []) (hb : ∀ x ∈ rs, x.1 ≤ x.2.1 ∧ x.2.1 < 1000000 ∧ x.2.2 ≤ 6)
    (hc : cntOf rs ≤ 256) (hp : p.length ≤ 1099511627776) (hn : rs.length ≤ 256) :
    Calls Tryd.prog 28 #[.agg #[.string (str p), .slice A rs.length cap, .int .i64 cnt]] w (NamesPost w (rs.flatMap (spanNames p))) := by
  obtain ⟨S, hS⟩ : ∃ S, str p = S := ⟨_, rfl⟩
  have hSz : S.size ≤ 1099511627776 := by rw [← hS, str_size]; exact hp
  rw [hS]
  have hl : ¬ (rs.length : Int) = 0 := by
    intro h
    exact h0 (List.eq_nil_of_length_eq_zero (by omega))
  have hl2 : ((rs.length : Int) == 0) = false := by simpa using hl
  replace hS := fhid hS
  replace hT := fhid hT
  replace hr := fhid hr
  replace hb := fhid hb
  replace hc := fhid hc
  clear h0
  go_enter Tryd.func28, Tryd.ntmps28
  go_wp2
  go_loopw [3, 17] (fun s3 i wr => ∃ k : Nat, k ≤ rs.length ∧ i = .int .i64 k ∧ OwnS wr (w.heap.size + 1) s3 ((rs.take k).flatMap (spanNames p)) ∧ PB wr w.heap.size S (.slice A rs.length cap) cnt ∧ Below w.heap.size w wr) (fun _ i _ => rs.length - (intOf i).toNat)
  case atStart => exact ⟨0, Nat.zero_le _, rfl, OwnS.nil _ _, heap_alloc_new w _, (Below.refl _ _).alloc (Nat.le_refl _) _⟩
  case round =>
    obtain ⟨k, hk, rfl, hown, hpb, hB⟩ := hrel
    have hsz := hB.size
    by_cases hlt : k < rs.length
    · have hsn := fhid (names_take p rs k hlt)
      have hle := names_le p rs (k + 1)
      rw [hsn.out, List.length_append] at hle
      have hbk := hb.out rs[k] (List.getElem_mem hlt)
      obtain ⟨b, o, rfl, hbb, hcell⟩ := hr.out (by rw [RV_len]; omega)
      obtain ⟨g0, g1, g2⟩ := RV_get rs k hlt
      have rv := RV_len rs
      obtain ⟨⟨x0, x1, x2⟩, hx⟩ : ∃ x, rs[k] = x := ⟨_, rfl⟩
      rw [hx] at hsn hle hbk g0 g1 g2
      simp only at hbk g0 g1 g2
      have cell : ∀ i v, (RV rs)[i]? = some v → wr.cell? ⟨b, o + i, none⟩ = some v := fun i v h => by
        obtain ⟨hi, rfl⟩ := List.getElem?_eq_some_iff.1 h
        exact (hB.cell (p := ⟨b, o + i, none⟩) hbb).trans (hcell i hi)
      have c0 := cell _ _ g0
      have c1 := cell _ _ g1
      have c2 := cell _ _ g2
      rw [show 3 * k = k * 3 by omega] at c0 c1 c2
      have c1' : wr.cell? ⟨b, o + k * 3 + 1, none⟩ = some (.int .i64 x1) := by rw [Nat.add_assoc]; exact c1
      have c2' : wr.cell? ⟨b, o + k * 3 + 2, none⟩ = some (.int .i64 x2) := by rw [Nat.add_assoc]; exact c2
      have q0 := hpb.facts
      have i1 : (k : Int) < rs.length := by omega
      have i0 : (0 : Int) ≤ k := by omega
      clear cell g0 g1 g2 rv hcell c1 c2 hx
      obtain ⟨pre, hpre⟩ : ∃ pre, (rs.take k).flatMap (spanNames p) = pre := ⟨_, rfl⟩
      rw [hpre] at hsn hown hle
      have hsl : (spanNames p (x0, x1, x2)).length = x1 + 1 - x0 := by simp [spanNames]
      have hlen : pre.length + (x1 + 1 - x0) ≤ 256 := by have := hc.out; omega
      obtain ⟨hx01, hx1, hx2⟩ := hbk
      have j0 : (0 : Int) ≤ x0 := by omega
      have j1 : (x0 : Int) ≤ x1 := by omega
      have j2 : (x1 : Int) < 1000000 := by omega
      replace hpre := fhid hpre
      replace hown := fhid hown
      replace hsl := fhid hsl
      obtain ⟨pc0, pc1, pc2, _, _, _, pz⟩ := q0
      replace hpb := fhid hpb
      obtain ⟨wo, rfl⟩ : ∃ wo : World, wo = wr := ⟨_, rfl⟩
      go_wp2_with fail
      go_loopw [3, 6] (fun s3 s6 wi => ∃ t : Nat, t ≤ x1 + 1 - x0 ∧ s6 = .int .i64 ((x0 : Int) + (t : Int)) ∧ OwnS wi (w.heap.size + 1) s3 (pre ++ (List.range t).map fun i => p ++ dig (x0 + i) x2) ∧ PB wi w.heap.size S (.slice (some ⟨b, o, none⟩) rs.length cap) cnt ∧ SB wi wo.heap.size x0 x1 x2 ∧ Below w.heap.size w wi) (fun _ s6 _ => x1 + 1 - (intOf s6).toNat)
      case atStart =>
        refine ⟨0, Nat.zero_le _, by simp, ?_, hpb.out.below ((Below.refl _ _).alloc (Nat.le_refl _) _) pz, heap_alloc_new wo _, hB.alloc hsz _⟩
        rw [List.range_zero, List.map_nil, List.append_nil]
        exact hown.out.below ((Below.refl _ _).alloc (Nat.le_refl _) _)
      case round =>
        obtain ⟨t, ht, rfl, ho, hpi, hsi, hBi⟩ := hrel
        have hszi := hBi.size
        obtain ⟨d0, d1, d2, dz⟩ := hsi.facts
        obtain ⟨e0, e1, e2, _, _, _, ez⟩ := hpi.facts
        have ht0 : (0 : Int) ≤ t := by omega
        have ht1 : (t : Int) ≤ 1000000 := by omega
        clear c0 c1' c2' pc0 pc1 pc2
        by_cases htl : t < x1 + 1 - x0
        · have hle2 : (x0 : Int) + t ≤ x1 := by omega
          have hdg := fun W (hW : Below w.heap.size w W) => digits_at (x0 + t) x2 ((x0 : Int) + (t : Int)) W (tab_below hT.out hW) (by omega) (by omega) (by omega)
          obtain ⟨D, hD⟩ : ∃ D, str (dig (x0 + t) x2) = D := ⟨_, rfl⟩
          rw [hD] at hdg
          have hDl : D.size ≤ 1000 := by
            rw [← hD, str_size, dig_len]
            have := dec_len_le 10 (x0 + t) (by omega) (by omega)
            omega
          have hN : ¬ 9223372036854775807 < S.size + D.size := by omega
          have hN0 := fhid hN
          have hSD : S ++ D = str (p ++ dig (x0 + t) x2) := by rw [← hS.out, ← hD, str_app]
          obtain ⟨Q, hQ⟩ : ∃ Q, str (p ++ dig (x0 + t) x2) = Q := ⟨_, rfl⟩
          rw [hQ] at hSD
          replace hQ := fhid hQ
          have hol : (pre ++ (List.range t).map fun i => p ++ dig (x0 + i) x2).length ≤ 1048576 := by simp; omega
          have hnx := fhid (show (pre ++ (List.range (t + 1)).map fun i => p ++ dig (x0 + i) x2) = (pre ++ (List.range t).map fun i => p ++ dig (x0 + i) x2) ++ [p ++ dig (x0 + t) x2] by rw [List.range_succ, List.map_append, List.append_assoc]; rfl)
          clear hD hDl
          generalize (pre ++ (List.range t).map fun i => p ++ dig (x0 + i) x2) = cur at *
          replace ho := fhid ho
          replace hpi := fhid hpi
          replace hsi := fhid hsi
          replace hol := fhid hol
          clear hN
          have hN : ¬ 9223372036854775807 < S.size + D.size := hN0.out
          replace hlen := fhid hlen
          replace hSz := fhid hSz
          replace htl := fhid htl
          replace ht := fhid ht
          replace hle := fhid hle
          have zz : Below wr.heap.size wr wr.drew := (Below.refl _ _).drew
          replace hx1 := fhid hx1
          replace hx2 := fhid hx2
          replace hn := fhid hn
          replace hp := fhid hp
          go_upto_region 10 with fail
          go_region_law (first
            | (refine step_name rfl _ _ rfl (w.heap.size + 1) _ cur _ _ hQ.out.symm _ rfl (ho.out.below zz) rfl _ (by first | rfl | simp) rfl hol.out (by have := zz.size; omega) ?_
               intro v3 w3 o3 g3 b3)
            | (go_simp
               go_at_call 48
               (with_reducible refine (hdg _ (hBi.trans (zz.mono hszi))).mono ?_)
               rintro e u1 ⟨rfl, b1⟩
               have zz := zz.trans (b1.mono zz.size)
               obtain ⟨d0, d1, d2, _⟩ := (hsi.out.below zz dz).facts
               obtain ⟨e0, e1, e2, _, _, _, _⟩ := (hpi.out.below zz ez).facts))
          all_goals
            go_wp2_with fail
            go_roundw
            case rel =>
              have k1 : PB w3 w.heap.size S (.slice (some ⟨b, o, none⟩) rs.length cap) cnt := keep_block (hpi.out.below zz ez) g3 (ho.out.below zz) (by decide)
              have k2 : SB w3 wo.heap.size x0 x1 x2 := keep_block (hsi.out.below zz dz) g3 (ho.out.below zz) (by decide)
              exact ⟨t + 1, by have := htl.out; omega, by rw [show (x0 : Int) + t + 1 = (x0 : Int) + ((t + 1 : Nat) : Int) by omega], by rw [hnx.out]; exact o3, k1, k2, (hBi.trans (zz.mono hszi)).trans (b3.mono (by omega))⟩
            case measure => have := htl.out; simp [intOf]; omega
        · have hle2 : ¬ (x0 : Int) + t ≤ x1 := by omega
          have hte : t = x1 + 1 - x0 := by omega
          have hfin := fhid (show (rs.take (k + 1)).flatMap (spanNames p) = pre ++ (List.range t).map fun i => p ++ dig (x0 + i) x2 by rw [hsn.out, hte]; rfl)
          clear hte
          replace ho := fhid ho
          replace hpi := fhid hpi
          go_wp2_with fail
          go_roundw
          case rel => exact ⟨k + 1, by omega, by go_num, by rw [hfin.out]; exact ho.out, hpi.out, hBi⟩
          case measure => simp [intOf]; omega
    · obtain rfl : k = rs.length := by omega
      have i1 : ¬ (rs.length : Int) < rs.length := by omega
      rw [List.take_length] at hown
      replace hown := fhid hown
      go_wp2_with fail
      go_ret
      exact ⟨_, rfl, hown.out.base (by omega), hB⟩
end Go.Proofs.YtkmknogejhhajabDoor
