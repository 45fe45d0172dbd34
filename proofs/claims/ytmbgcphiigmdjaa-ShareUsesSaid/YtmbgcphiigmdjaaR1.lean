/-
  Parts: URTot URFac URList URRow URAddB.
-/
import Derived.Test.YtmbgcphiigmdjaaR0
import Derived.Test.YtmbgcphiigmdjaaU2
import Derived.Maps.AppendAt
import Derived.Deep.RegionLaw
set_option linter.unusedSimpArgs false
set_option linter.unusedVariables false
/-
  What all have, by the document: in two parts.
-/
namespace Go.Proofs.Ytmbgcphiigmdjaa
open Go.RowKit Ss Ds

theorem two_parts {n : Int} (h : 0 ≤ n) : ∃ a b : Int, n.tdiv 1073741824 = a ∧ n.tmod 1073741824 = b ∧ n = a * 1073741824 + b ∧ 0 ≤ a ∧ 0 ≤ b ∧ b < 1073741824 := by
  refine ⟨_, _, rfl, rfl, ?_⟩
  rw [Int.tdiv_eq_ediv_of_nonneg h, Int.tmod_eq_emod_of_nonneg h]
  omega
/-- What total comes to. -/
def TotP (w : World) (S : Int) (e : Ending) (w' : World) : Prop := ∃ a b : Int, e = .returned (.tuple #[.int .i64 a, .int .i64 b]) ∧ S = a * 1073741824 + b ∧ 0 ≤ a ∧ a ≤ 2199023255552 ∧ 0 ≤ b ∧ b < 1073741824 ∧ Below w.heap.size w w'
set_option maxRecDepth 100000 in
set_option maxHeartbeats 8000000 in
theorem rtot_any {w : World} {r : Nat} {h : Int} {L : List Usr} (b : RB w r h L) (hh : halfB h) (hg : Good L) (now : Int) (t1 : now ≤ 1099511627776) :
    Calls Try.prog 37 #[.pointer (some ⟨r, 0, none⟩), .int .i64 now] w (TotP w (sumU h L now)) := by
  have hlen := hg.len
  have hpost := fhid (show ∀ a b W, sumU h L now = a * 1073741824 + b → 0 ≤ a → a ≤ 2199023255552 → 0 ≤ b → b < 1073741824 → Below w.heap.size w W → TotP w (sumU h L now) (.returned (.tuple #[.int .i64 a, .int .i64 b])) W from fun a b W h1 h2 h3 h4 h5 h6 => ⟨a, b, rfl, h1, h2, h3, h4, h5, h6⟩)
  generalize TotP w (sumU h L now) = Post at *
  have hS : sumU h L now = sumI ((L.take L.length).map (partU h now)) := by rw [List.take_length]; rfl
  rw [hS] at hpost
  replace b := fhid b
  go_enter Try.func37, Try.ntmps37
  go_upto_region 3 with fail
  go_loopw [6, 7, 8] (fun hv lv i wr => ∃ (j : Nat) (x y : Int), j ≤ L.length ∧ i = .int .i64 (j : Nat) ∧ hv = .int .i64 x ∧ lv = .int .i64 y ∧ sumI ((L.take j).map (partU h now)) = x * 1073741824 + y ∧ 0 ≤ x ∧ x ≤ 1073741824 * j ∧ 0 ≤ y ∧ y ≤ 1073741824 * j ∧ Below w.heap.size w wr) (fun _ _ i _ => L.length - (intOf i).toNat)
  case atStart => exact ⟨0, 0, 0, Nat.zero_le _, rfl, rfl, rfl, rfl, by omega, by omega, by omega, by omega, Below.refl _ _⟩
  case round =>
    obtain ⟨j, x, y, hj, rfl, rfl, rfl, hsum, x0, x1, y0, y1, hB⟩ := hrel
    have j0 : (0 : Int) ≤ j := by omega
    have rr := b.out.below hB
    have rb := rr
    obtain ⟨A, cap, X, R⟩ := rr
    have q1 := X.cell 1
    have ql := X.lt
    simp only [List.getElem?_cons_zero, List.getElem?_cons_succ] at q1
    by_cases hlt : j < L.length
    · have j1 : (j : Int) < L.length := by omega
      obtain ⟨bb, o, rfl, hb, c0, c1, c2⟩ := act_at R hlt
      have hx := hg.each _ (List.getElem_mem hlt)
      have hsn : sumI ((L.take (j + 1)).map (partU h now)) = x * 1073741824 + y + partU h now L[j] := by
        rw [List.take_succ_eq_append_getElem hlt, List.map_append, sumI_app, hsum]; simp [sumI]
      have hra := fun (hn : L[j].2.2 ≤ now) => rat_any rb hh L[j] now ⟨hx.2.2.1, hx.2.2.2.1, hx.2.2.2.2.1⟩ hn t1
      have hlf := fun (hn : L[j].2.2 ≤ now) => late_facts (h := h) (now := now) (u := L[j].2) hh.1 hx.2.2.1 hn
      have hpl := fun (hn : L[j].2.2 ≤ now) => late_eq (h := h) (x := L[j]) hn
      have hpn := fun (hn : ¬ L[j].2.2 ≤ now) => show partU h now L[j] = 0 from by unfold partU; rw [if_neg hn]
      generalize L[j] = z at *
      obtain ⟨s', a, tm⟩ := z
      unfold actV at hra
      simp only at hra hlf hpl hpn hx c0 c1 c2
      obtain ⟨_, _, a0, a1, _, _⟩ := hx
      replace X := fhid X
      replace R := fhid R
      replace rb := fhid rb
      replace hB := fhid hB
      clear hsum
      by_cases hn : tm ≤ now
      · have hr2 := hra hn
        obtain ⟨v0, v1, _, _⟩ := hlf hn
        rw [← hpl hn] at hsn
        clear hra hlf hpl hpn
        generalize (late h (a, tm) now).1 = v at *
        obtain ⟨va, vb, e1, e2, e3, va0, vb0, vb1⟩ := two_parts v0
        have u1 : IntKind.i64.wrap (y + vb) = y + vb := IntWalk.i64_in _ (by omega)
        have u2 : IntKind.i64.wrap (x + va) = x + va := IntWalk.i64_in _ (by omega)
        have u3 : IntKind.i64.wrap va = va := IntWalk.i64_in _ (by omega)
        replace hsn := fhid hsn
        replace e3 := fhid e3
        go_wp2_with (go_at_call 32; (with_reducible refine hr2.mono ?_); rintro e w3 ⟨rfl, b3⟩; have b3 := fhid b3)
        go_roundw
        case rel =>
          have hs := hsn.out
          have he := e3.out
          exact ⟨j + 1, x + va, y + vb, by omega, by go_num, rfl, rfl, by rw [hs, he]; omega, by omega, by omega, by omega, by omega, hB.out.trans (b3.out.mono hB.out.size)⟩
        case measure => simp [intOf]; omega
      · rw [hpn hn] at hsn
        clear hra hlf hpl hpn
        replace hsn := fhid hsn
        go_wp2_with fail
        go_roundw
        case rel =>
          have hs := hsn.out
          exact ⟨j + 1, x, y, by omega, by go_num, rfl, rfl, by rw [hs]; omega, by omega, by omega, by omega, by omega, hB.out⟩
        case measure => simp [intOf]; omega
    · obtain rfl : j = L.length := by omega
      have j1 : ¬ ((L.length : Int) < L.length) := by omega
      obtain ⟨ya, yb, e1, e2, e3, ya0, yb0, yb1⟩ := two_parts y0
      have u2 : IntKind.i64.wrap (x + ya) = x + ya := IntWalk.i64_in _ (by omega)
      have u3 : IntKind.i64.wrap ya = ya := IntWalk.i64_in _ (by omega)
      have hp := fhid (hpost.out (x + ya) yb wr (by rw [hsum, e3]; omega) (by omega) (by omega) yb0 yb1 hB)
      replace X := fhid X
      replace R := fhid R
      replace rb := fhid rb
      clear hsum hpost e3
      go_wp2_with fail
      exact hp.out
set_option maxRecDepth 100000 in
set_option maxHeartbeats 4000000 in
theorem rTotal_any {w : World} {r : Nat} {h : Int} {L : List Usr} (b : RB w r h L) (hh : halfB h) (hg : Good L) (now : Int) :
    Calls Try.prog 21 #[.pointer (some ⟨r, 0, none⟩), .int .i64 now] w (IntP w (totalP h L now)) := by
  have hti := fun W => rtime_any now W
  have hs0 := sumU_nonneg (now := now) hh.1 hg
  have hpost := fhid (show ∀ v e W, totalP h L now = (v, e) → Below w.heap.size w W → IntP w (totalP h L now) (.returned (.tuple #[.int .i64 v, .int .i64 e])) W from fun v e W h1 hb => by rw [h1]; exact ⟨rfl, hb⟩)
  generalize IntP w (totalP h L now) = Post at *
  by_cases ht : timeB now
  · have htot := rtot_any b hh hg now ht.2
    have hE : totalP h L now = (satI (sumU h L now), 0) := by unfold totalP; rw [if_pos ht]
    rw [hE] at hpost
    rw [decide_eq_true ht] at hti
    unfold TotP at htot
    generalize sumU h L now = S at *
    replace b := fhid b
    go_enter Try.func21, Try.ntmps21
    go_upto_region 4 with (first
      | (go_at_call 31; (with_reducible refine (hti _).mono ?_); rintro e w2 ⟨rfl, rfl⟩)
      | (go_at_call 37; (with_reducible refine htot.mono ?_); rintro e w3 ⟨x, y, rfl, hS, x0, x1, y0, y1, b3⟩))
    by_cases hbig : x ≥ 8589934592
    · have hv : satI S = 9223372036854775807 := by unfold satI; rw [if_neg (by omega)]
      have hp := fhid (hpost.out 9223372036854775807 0 _ (by rw [hv]) b3)
      clear hpost hS hv htot
      go_wp2_with fail
      exact hp.out
    · have hv : satI S = x * 1073741824 + y := by unfold satI; rw [if_pos (by omega), hS]
      have hp := fhid (hpost.out (x * 1073741824 + y) 0 _ (by rw [hv]) b3)
      have u1 : IntKind.i64.wrap (x * 1073741824) = x * 1073741824 := IntWalk.i64_in _ (by omega)
      have u2 : IntKind.i64.wrap (x * 1073741824 + y) = x * 1073741824 + y := IntWalk.i64_in _ (by omega)
      clear hpost hS hv htot
      go_wp2_with fail
      exact hp.out
  · have hE : totalP h L now = (0, 1) := by unfold totalP; rw [if_neg ht]
    rw [decide_eq_false ht] at hti
    have hp := fhid (hpost.out 0 1 w hE (Below.refl _ _))
    replace b := fhid b
    clear hpost hE
    go_enter Try.func21, Try.ntmps21
    go_wp2_with (go_at_call 31; (with_reducible refine (hti _).mono ?_); rintro e w2 ⟨rfl, rfl⟩)
    exact hp.out
end Go.Proofs.Ytmbgcphiigmdjaa
/-
  The part that is not a user's, by the document: sought.
-/
namespace Go.Proofs.Ytmbgcphiigmdjaa
open Go.RowKit Ss Ds

set_option maxRecDepth 100000 in
set_option maxHeartbeats 16000000 in
theorem rFactor_any {w : World} {r : Nat} {h : Int} {L : List Usr} (b : RB w r h L) (hh : halfB h) (hu : Up L) (hg : Good L) (s : Str) (now : Int) :
    Calls Try.prog 19 #[.pointer (some ⟨r, 0, none⟩), .string (str s), .int .i64 now] w (IntP w (factorP h L s now)) := by
  have hus := rUsed_any b hh hu hg s now
  have hto := fun W (hb : Below w.heap.size w W) => rTotal_any (b.below hb) hh hg now
  have hut := fun he => used_total (s := s) (now := now) hh.1 hg he
  unfold factorP
  unfold IntP at *
  generalize usedP h L s now = U at *
  generalize totalP h L now = T at *
  obtain ⟨u, ue⟩ := U
  obtain ⟨t, te⟩ := T
  simp only at *
  replace b := fhid b
  by_cases he : ue = 0
  · subst he
    rw [if_neg (by simp)]
    obtain ⟨u0, u1, _, u2, u3⟩ := hut rfl
    clear hut
    by_cases ht : t = 0
    · subst ht
      rw [if_pos rfl]
      go_enter Try.func19, Try.ntmps19
      go_wp2_with (first
        | (go_at_call 17; (with_reducible refine hus.mono ?_); rintro e w1 ⟨rfl, b1⟩)
        | (go_at_call 21; (with_reducible refine (hto _ b1).mono ?_); rintro e w2 ⟨rfl, b2⟩))
      go_ret2
      exact ⟨rfl, b1.trans (b2.mono b1.size)⟩
    · rw [if_neg ht]
      have ht0 : 0 < t := by omega
      have bt : (t == 0) = false := by simpa using ht
      obtain ⟨P0, P1⟩ := part_bounds u0 ht0
      obtain ⟨P2, P3⟩ := parts_facts u0 u2 ht
      obtain ⟨U1, U0, eu1, eu0, hU, a1, a0, a2⟩ := two_parts u0
      obtain ⟨T1, T0, et1, et0, hT, c1, c0, c2⟩ := two_parts (show 0 ≤ t by omega)
      have k0 : 0 ≤ U0 * 1000 := by omega
      obtain ⟨B1, B0, eb1, eb0, hB, d1, d0, d2⟩ := two_parts k0
      have hP : ∃ P, partsP u t = P := ⟨_, rfl⟩
      obtain ⟨P, hP⟩ := hP
      rw [hP] at P0 P1 P2 P3 ⊢
      clear hP
      have w1 : IntKind.i64.wrap U1 = U1 := IntWalk.i64_in _ (by omega)
      have w2 : IntKind.i64.wrap (U1 * 1000) = U1 * 1000 := IntWalk.i64_in _ (by omega)
      have w3 : IntKind.i64.wrap (U0 * 1000) = U0 * 1000 := IntWalk.i64_in _ (by omega)
      have w4 : IntKind.i64.wrap T1 = T1 := IntWalk.i64_in _ (by omega)
      have w5 : IntKind.i64.wrap B1 = B1 := IntWalk.i64_in _ (by omega)
      have w6 : IntKind.i64.wrap (U1 * 1000 + B1) = U1 * 1000 + B1 := IntWalk.i64_in _ (by omega)
      replace hU := fhid hU
      replace hT := fhid hT
      replace hB := fhid hB
      replace P0 := fhid P0
      replace P1 := fhid P1
      go_enter Try.func19, Try.ntmps19
      go_upto_region 8 with (first
        | (go_at_call 17; (with_reducible refine hus.mono ?_); rintro e w1 ⟨rfl, b1⟩)
        | (go_at_call 21; (with_reducible refine (hto _ b1).mono ?_); rintro e w2 ⟨rfl, b2⟩))
      have hend := fhid (b1.trans (b2.mono b1.size))
      rename World => W
      clear hus hto b1 b2
      go_loop [12] (fun i => ∃ f : Int, 0 ≤ f ∧ f ≤ P ∧ i = .int .i64 f) (fun i => 1000 - (intOf i).toNat)
      case atStart => exact ⟨0, Int.le_refl _, P2, rfl⟩
      case round =>
        obtain ⟨f, f0, f1, rfl⟩ := hrel
        by_cases hf : f < 1000
        · have hm1 : ∃ m, T1 * f = m := ⟨_, rfl⟩
          have hm2 : ∃ m, T0 * f = m := ⟨_, rfl⟩
          obtain ⟨m1, hm1⟩ := hm1
          obtain ⟨m2, hm2⟩ := hm2
          have b1 : 0 ≤ m1 := by rw [← hm1]; exact Int.mul_nonneg c1 f0
          have b2 : 0 ≤ m2 := by rw [← hm2]; exact Int.mul_nonneg c0 f0
          have b3 : m1 ≤ T1 * 1000 := by rw [← hm1]; exact Int.mul_le_mul_of_nonneg_left (by omega) c1
          have b4 : m2 ≤ T0 * 1000 := by rw [← hm2]; exact Int.mul_le_mul_of_nonneg_left (by omega) c0
          have hft : t * f = m1 * 1073741824 + m2 := by
            rw [hT.out, Int.add_mul, ← hm1, ← hm2, Int.mul_right_comm]
          obtain ⟨D1, D0, ed1, ed0, hD, g1, g0, g2⟩ := two_parts b2
          have tb : T1 ≤ 8589934591 := by have := hT.out; omega
          have v1 : IntKind.i64.wrap m1 = m1 := IntWalk.i64_in _ (by omega)
          have v2 : IntKind.i64.wrap m2 = m2 := IntWalk.i64_in _ (by omega)
          have v3 : IntKind.i64.wrap D1 = D1 := IntWalk.i64_in _ (by omega)
          have v4 : IntKind.i64.wrap (m1 + D1) = m1 + D1 := IntWalk.i64_in _ (by omega)
          have key1 : 1000 * u = (U1 * 1000 + B1) * 1073741824 + B0 := by have := hU.out; have := hB.out; omega
          have key2 : t * f = (m1 + D1) * 1073741824 + D0 := by rw [hft, hD]; omega
          have hcmp : (U1 * 1000 + B1 < m1 + D1 ∨ (U1 * 1000 + B1 = m1 + D1 ∧ B0 ≤ D0)) ↔ 1000 * u ≤ t * f := by rw [key1, key2]; omega
          clear hft hD key1 key2
          by_cases hc : 1000 * u ≤ t * f
          · have hPf : P = f := by
              have h1 : P ≤ f := by
                by_cases h : P ≤ f
                · exact h
                · have h2 : t * (f + 1) ≤ t * P := Int.mul_le_mul_of_nonneg_left (by omega) (by omega)
                  rw [Int.mul_add, Int.mul_one] at h2
                  have := P1.out
                  omega
              omega
            have hPf' := fhid hPf
            rcases hcmp.2 hc with hc1 | ⟨hc1, hc2⟩
            · clear hcmp hc hPf
              go_wp2_with fail
              go_ret2
              exact ⟨by rw [hPf'.out]; rfl, hend.out⟩
            · have hc3 : ¬ (U1 * 1000 + B1 < m1 + D1) := by omega
              have hc4 : (U1 * 1000 + B1 == m1 + D1) = true := by simpa using hc1
              clear hcmp hc hPf hc1
              go_wp2_with fail
              go_ret2
              exact ⟨by rw [hPf'.out]; rfl, hend.out⟩
          · have hfP : f + 1 ≤ P := by
              by_cases h : f + 1 ≤ P
              · exact h
              · have h2 : f = P := by omega
                have := P0.out
                rw [h2] at hc
                omega
            have hc1 : ¬ (U1 * 1000 + B1 < m1 + D1) := fun h => hc (hcmp.1 (.inl h))
            have hc2 : ¬ (U1 * 1000 + B1 = m1 + D1 ∧ B0 ≤ D0) := fun h => hc (hcmp.1 (.inr h))
            have hfP' := fhid hfP
            by_cases hc3 : U1 * 1000 + B1 = m1 + D1
            · have hc4 : ¬ B0 ≤ D0 := fun h => hc2 ⟨hc3, h⟩
              have hc5 : (U1 * 1000 + B1 == m1 + D1) = true := by simpa using hc3
              clear hcmp hc hc2 hc3 hfP
              go_wp2_with fail
              go_round
              case rel => exact ⟨f + 1, by omega, hfP'.out, by go_num⟩
              case measure => simp [intOf]; omega
            · have hc5 : (U1 * 1000 + B1 == m1 + D1) = false := by simpa using hc3
              clear hcmp hc hc2 hc3 hfP
              go_wp2_with fail
              go_round
              case rel => exact ⟨f + 1, by omega, hfP'.out, by go_num⟩
              case measure => simp [intOf]; omega
        · have hP1 := fhid (show P = 1000 by omega)
          go_wp2_with fail
          go_ret2
          exact ⟨by rw [hP1.out]; rfl, hend.out⟩
  · rw [if_pos he]
    have bt : (ue != 0) = true := by simpa using he
    clear hut hto
    go_enter Try.func19, Try.ntmps19
    go_wp2_with (go_at_call 17; (with_reducible refine hus.mono ?_); rintro e w1 ⟨rfl, b1⟩)
    go_ret2
    exact ⟨rfl, b1⟩
end Go.Proofs.Ytmbgcphiigmdjaa
/-
  All users, by the document; two lists of names that are one.
-/
namespace Go.Proofs.Ytmbgcphiigmdjaa
open Go.RowKit Ss Ds

theorem SV_app (a b : List Str) : SV (a ++ b) = SV a ++ SV b := List.map_append
theorem OwnS.nil (w : World) (base : Nat) : OwnS w base (.slice none 0 0) [] := ownsRow_nil _ _ _ _
theorem infoString : (Try.prog.info? 9).map (fun i => (i.zero, i.size, i.bytes)) = some (some (.string ⟨#[]⟩), 1, 16) := by kernel_rfl
section
variable {w : World} {ops : Array Oper} {rest : List Oper} {o : Oper} {a : Act} {Q : Exit → Act → World → Prop}
theorem app_name (hgd : o.guard = none) (s x : Operand) (ho : o.op = .call { callee := .builtin .append, args := #[s, x], argTypes := #[38, 38] })
    (base : Nat) (v : Value) (ns : List (List UInt8)) (n : List UInt8) (S : ByteArray) (hS : S = str n) (w0 : World) (hs : a.eval s = v) (hown : OwnS w0 base v ns)
    (hw : w = w0.alloc (.cells #[.string S] 9)) (g : Nat) (hg : g = w0.heap.size) (hx : a.eval x = .slice (some ⟨g, 0, none⟩) 1 1) (hlen : ns.length ≤ 1048576) (hbase : base ≤ w0.heap.size)
    (h : ∀ v' w', OwnS w' base v' (ns ++ [n]) → Below base w0 w' → wpList Try.prog ops Q rest (a.put o.dst v') w') : wpList Try.prog ops Q (o :: rest) a w := by
  subst hS
  subst hw
  subst hg
  refine app_own 38 9 (.string ⟨#[]⟩) 1 16 Try.underlying38 infoString rfl (by decide) hgd s x ho base v ns.length (SV ns) hs (World.ownsRow.alloc hown _) (w0.heap.size + 1) (some ⟨w0.heap.size, 0, none⟩) 1 1 [.string (str n)] hx (one_cells w0 _ _) rfl (fun u hu => by simp at hu; rcases hu with rfl; rfl) (fun h => by cases h) (by omega) (by omega) (by rw [World.size_alloc]; omega) ?_
  intro v' w' h1 _ h3 _
  refine h v' w' ?_ (((Below.refl _ _).alloc hbase _).trans h3)
  unfold OwnS
  rw [SV_app, List.length_append]
  exact h1
end
set_option maxRecDepth 100000 in
set_option maxHeartbeats 8000000 in
theorem rUsers_any {w : World} {r : Nat} {h : Int} {L : List Usr} (b : RB w r h L) (hl : L.length ≤ 1024) :
    Calls Try.prog 24 #[.pointer (some ⟨r, 0, none⟩)] w (NamesFrom w w.heap.size (L.map Prod.fst)) := by
  have hpost := fhid (show ∀ v W, OwnS W w.heap.size v (L.map Prod.fst) → Below w.heap.size w W → NamesFrom w w.heap.size (L.map Prod.fst) (.returned v) W from fun v W h1 h2 => ⟨v, rfl, h1, h2⟩)
  generalize NamesFrom w w.heap.size (L.map Prod.fst) = Post at *
  replace b := fhid b
  go_enter Try.func24, Try.ntmps24
  go_upto_region 3 with fail
  go_loopw [3, 4] (fun v i wr => ∃ j : Nat, j ≤ L.length ∧ i = .int .i64 (j : Nat) ∧ OwnS wr w.heap.size v ((L.map Prod.fst).take j) ∧ Below w.heap.size w wr) (fun _ i _ => L.length - (intOf i).toNat)
  case atStart => exact ⟨0, Nat.zero_le _, rfl, OwnS.nil _ _, Below.refl _ _⟩
  case round =>
    obtain ⟨j, hj, rfl, hO, hB⟩ := hrel
    have j0 : (0 : Int) ≤ j := by omega
    obtain ⟨A, cap, X, R⟩ := b.out.below hB
    have q1 := X.cell 1
    have ql := X.lt
    simp only [List.getElem?_cons_zero, List.getElem?_cons_succ] at q1
    by_cases hlt : j < L.length
    · have j1 : (j : Int) < L.length := by omega
      obtain ⟨bb, o, rfl, hb, c0, c1, c2⟩ := act_at R hlt
      have hsn := fhid (show (L.map Prod.fst).take (j + 1) = (L.map Prod.fst).take j ++ [L[j].1] by
        rw [List.take_succ_eq_append_getElem (by rw [List.length_map]; exact hlt), List.getElem_map])
      have htl : ((L.map Prod.fst).take j).length ≤ 1024 := by rw [List.length_take, List.length_map]; omega
      generalize L[j] = z at *
      obtain ⟨s', a, tm⟩ := z
      simp only at hsn c0 c1 c2
      generalize (L.map Prod.fst).take j = ns at *
      obtain ⟨Av, cv, hv, _⟩ := hO.shape
      replace X := fhid X
      replace R := fhid R
      replace hB := fhid hB
      subst hv
      go_wp2_with (at_builtin; (refine app_name rfl _ _ rfl w.heap.size _ ns s' _ rfl wr rfl hO rfl wr.heap.size rfl rfl (by omega) hB.out.size ?_; intro v8 w8 o8 b8); replace o8 := fhid o8; replace b8 := fhid b8)
      go_roundw
      case rel => exact ⟨j + 1, by omega, by go_num, by rw [hsn.out]; exact o8.out, hB.out.trans b8.out⟩
      case measure => simp [intOf]; omega
    · obtain rfl : j = L.length := by omega
      have j1 : ¬ ((L.length : Int) < L.length) := by omega
      rw [List.take_of_length_le (by rw [List.length_map]; exact Nat.le_refl _)] at hO
      obtain ⟨Av, cv, hv, _⟩ := hO.shape
      have hp := fhid (hpost.out _ _ hO hB)
      subst hv
      replace X := fhid X
      replace R := fhid R
      clear hpost hO
      go_wp2_with fail
      have hq := hp.out
      rw [List.length_map] at hq
      exact hq
set_option maxRecDepth 100000 in
set_option maxHeartbeats 4000000 in
/-- Two slices of the same names. -/
theorem same_names (w : World) (ns : List Str) (hl : ns.length ≤ 1024) (A A' : Option Addr) (c c' : Nat) (h1 : ∀ j (hj : j < ns.length), ∃ b o, A = some ⟨b, o, none⟩ ∧ b < w.heap.size ∧ w.cell? ⟨b, o + j, none⟩ = some (.string (str ns[j])))
    (h2 : ∀ j (hj : j < ns.length), ∃ b o, A' = some ⟨b, o, none⟩ ∧ b < w.heap.size ∧ w.cell? ⟨b, o + j, none⟩ = some (.string (str ns[j]))) :
    Calls Try.prog 22 #[.slice A ns.length c, .slice A' ns.length c'] w fun e w' => e = .returned (.bool true) ∧ Below w.heap.size w w' := by
  replace h1 := fhid h1
  replace h2 := fhid h2
  have hne : ((ns.length : Int) != ns.length) = false := by simp
  go_enter Try.func22, Try.ntmps22
  go_upto_region 4 with fail
  go_loopw [5] (fun i wr => ∃ j : Nat, j ≤ ns.length ∧ i = .int .i64 (j : Nat) ∧ Below w.heap.size w wr) (fun i _ => ns.length - (intOf i).toNat)
  case atStart => exact ⟨0, Nat.zero_le _, rfl, Below.refl _ _⟩
  case round =>
    obtain ⟨j, hj, rfl, hB⟩ := hrel
    have j0 : (0 : Int) ≤ j := by omega
    by_cases hlt : j < ns.length
    · have j1 : (j : Int) < ns.length := by omega
      obtain ⟨b, o, rfl, hb, c0⟩ := h1.out j hlt
      obtain ⟨b', o', rfl, hb', c0'⟩ := h2.out j hlt
      have d0 := (hB.cell (p := ⟨b, o + j, none⟩) hb).trans c0
      have d1 := (hB.cell (p := ⟨b', o' + j, none⟩) hb').trans c0'
      have hbr := Nat.lt_of_lt_of_le hb hB.size
      have hbr' := Nat.lt_of_lt_of_le hb' hB.size
      have hse : ((str ns[j]).toList == (str ns[j]).toList) = true := by simp
      generalize str ns[j] = S at *
      replace hB := fhid hB
      clear c0 c0'
      go_upto_region 6 with fail
      go_region
      all_goals
        go_wp2_with fail
        go_roundw
        case rel => exact ⟨j + 1, by omega, by go_num, hB.out.drew⟩
        case measure => simp [intOf]; omega
    · have j1 : ¬ (j : Int) < ns.length := by omega
      go_wp2_with fail
      go_ret
      exact ⟨rfl, hB⟩
end Go.Proofs.Ytmbgcphiigmdjaa
/-
  Rows of users, put one behind the other.
-/
namespace Go.Proofs.Ytmbgcphiigmdjaa
open Go.RowKit Ss Ds

theorem infoUser : (Try.prog.info? TRU).map (fun i => (i.zero, i.size, i.bytes)) = some (some (.agg #[.string ⟨#[]⟩, .int .i64 0, .int .i64 0]), 3, 32) := by kernel_rfl
abbrev TRUs : TypeId := 29
theorem undUs : Try.prog.underlying TRUs = some (.slice TRU) := by kernel_rfl
/-- A row of users that the call made. -/
def OwnU (w : World) (base : Nat) (v : Value) (l : List Usr) : Prop := w.ownsRow base TRU 3 v l.length (AVs l)
theorem AVs_app (a b : List Usr) : AVs (a ++ b) = AVs a ++ AVs b := List.flatMap_append
theorem AVs_take : ∀ (l : List Usr) (k : Nat), (AVs l).take (k * 3) = AVs (l.take k)
  | [], k => by simp [AVs]
  | x :: l, 0 => by simp [AVs]
  | x :: l, k + 1 => by
    show (actV x ++ AVs l).take ((k + 1) * 3) = actV x ++ AVs (l.take k)
    rw [List.take_append, actV_len, List.take_of_length_le (by rw [actV_len]; omega), show (k + 1) * 3 - 3 = k * 3 by omega, AVs_take l k]
theorem AVs_drop : ∀ (l : List Usr) (k : Nat), (AVs l).drop (k * 3) = AVs (l.drop k)
  | [], k => by simp [AVs]
  | x :: l, 0 => by simp [AVs]
  | x :: l, k + 1 => by
    show (actV x ++ AVs l).drop ((k + 1) * 3) = AVs (l.drop k)
    rw [List.drop_append, actV_len, List.drop_of_length_le (by rw [actV_len]; omega), show (k + 1) * 3 - 3 = k * 3 by omega, AVs_drop l k, List.nil_append]
theorem actV_one (x : Usr) : ∀ u ∈ actV x, u.oneCell' = true := by
  intro u hu
  simp only [actV, List.mem_cons, List.not_mem_nil, or_false] at hu
  rcases hu with rfl | rfl | rfl <;> rfl
theorem AVs_one (l : List Usr) : ∀ u ∈ AVs l, u.oneCell' = true := by
  intro u hu
  obtain ⟨x, _, hx⟩ := List.mem_flatMap.1 hu
  exact actV_one x u hx
theorem OwnU.nil (w : World) (base : Nat) : OwnU w base (.slice none 0 0) [] := ownsRow_nil _ _ _ _
theorem OwnU.base {w : World} {base base' : Nat} {v : Value} {l : List Usr} (h : OwnU w base v l) (hb : base' ≤ base) : OwnU w base' v l := ownsRow_base h hb
theorem OwnU.below {w w' : World} {base : Nat} {v : Value} {l : List Usr} (h : OwnU w base v l) (hb : Below w.heap.size w w') : OwnU w' base v l := ownsRow_below h hb
theorem OwnU.shape {w : World} {base : Nat} {v : Value} {l : List Usr} (h : OwnU w base v l) : ∃ A cap, v = .slice A l.length cap ∧ RdS w A l.length cap (AVs l) := by
  obtain ⟨A, cap, e, a, b, c⟩ := ownsRow_shape h
  exact ⟨A, cap, e, a, b, c⟩
theorem run_users {w : World} (rt : TypeId) (base : Nat) (v : Value) (ns js : List Usr) (hown : OwnU w base v ns) (B : Nat) (A : Option Addr) (c : Nat) (hj : SegC w B A (AVs js)) (hlen : ns.length + js.length ≤ 10000000) (hbase : base ≤ w.heap.size) :
    ∃ v' w', (Builtin.append_ #[TRUs, TRUs] rt #[v, .slice A js.length c]).run Try.prog w = .ok v' w' ∧ OwnU w' base v' (ns ++ js) ∧ Below base w w' := by
  obtain ⟨i0, hi, hz0, hz1, hz2⟩ := info_parts infoUser
  have hl : (AVs js).length = js.length * 3 := AVs_len js
  have hrun : ∃ v' w', (Builtin.append_ #[TRUs, TRUs] rt #[v, .slice A js.length c]).run Try.prog w = .ok v' w' ∧ w'.ownsRow base TRU 3 v' (ns.length + js.length) (AVs ns ++ AVs js) ∧ w.grownBy w' v.ownBlock := by
    by_cases h0 : 0 < js.length
    · obtain ⟨b, of, rfl, _, hc⟩ := hj (by rw [hl]; omega)
      obtain ⟨v', w', hrun, h2, h3, _, _⟩ := run_append_own_at (P := Try.prog) w base TRUs rt TRU i0 (.agg #[.string ⟨#[]⟩, .int .i64 0, .int .i64 0]) 3 32 undUs hi hz0 hz1 hz2 rfl (by decide) v ns.length (AVs ns) hown ⟨b, of, none⟩ js.length c (AVs js) hl (fun j u hu => by
          obtain ⟨hj, rfl⟩ := List.getElem?_eq_some_iff.1 hu
          have := hc j hj
          unfold Addr.add
          by_cases hz : j = 0
          · subst hz; rw [if_pos rfl]; exact this
          · rw [if_neg hz]; exact this) (AVs_one js) (by unfold maxLen; omega) (by omega) hbase
      exact ⟨v', w', hrun, h2, h3⟩
    · have hm : js.length = 0 := by omega
      obtain rfl : js = [] := List.eq_nil_of_length_eq_zero hm
      cases A with
      | none =>
        refine ⟨v, w, ?_, by simpa [AVs, OwnU] using hown, ⟨rfl, rfl, rfl, Nat.le_refl _, fun _ _ _ => rfl⟩⟩
        rcases hown.2 with ⟨rfl, hn⟩ | ⟨g, cap, cur, rfl, _, _, hnc, _⟩
        · simp [Builtin.append_, run_underlying undUs, sizeOf, typeInfo, hi, Builtin.lenOf, Builtin.firstCells]
        · simp [Builtin.append_, run_underlying undUs, sizeOf, typeInfo, hi, Builtin.lenOf, Builtin.firstCells, hnc, storeCells]
      | some ad =>
        obtain ⟨v', w', hrun, h2, h3, _, _⟩ := run_append_own_at (P := Try.prog) w base TRUs rt TRU i0 (.agg #[.string ⟨#[]⟩, .int .i64 0, .int .i64 0]) 3 32 undUs hi hz0 hz1 hz2 rfl (by decide) v ns.length (AVs ns) hown ad 0 c [] (by simp) (fun j u hu => by simp at hu) (fun u hu => by simp at hu) (by unfold maxLen; omega) (by simp only [List.length_nil, Nat.add_zero] at hlen; omega) hbase
        exact ⟨v', w', hrun, h2, h3⟩
  obtain ⟨v', w', hrun, h2, h3⟩ := hrun
  refine ⟨v', w', hrun, ?_, (Below.refl _ _).grown h3 hbase (fun k hk => ownsRow_ge hown k hk)⟩
  unfold OwnU
  rw [AVs_app, List.length_append]
  exact h2
/-- Users put behind users, inside a region that draws its order. -/
theorem step_users {w : World} {ops : Array Oper} {o : Oper} {a : Act} {K : Act → World → Prop} {Q : Exit → Act → World → Prop} {E : Prop} (hgd : o.guard = none) (s x : Operand) (ho : o.op = .call { callee := .builtin .append, args := #[s, x], argTypes := #[TRUs, TRUs] })
    (base : Nat) (v : Value) (ns js : List Usr) (m : Nat) (hm : m = js.length) (hs : a.eval s = v) (hown : OwnU w base v ns) (B : Nat) (A : Option Addr) (c : Nat) (hx : a.eval x = .slice A m c) (hj : SegC w B A (AVs js)) (hlen : ns.length + js.length ≤ 10000000) (hbase : base ≤ w.heap.size)
    (h : ∀ v' w', OwnU w' base v' (ns ++ js) → Below base w w' → K (a.put o.dst v') w') : if Region.wanted o (yielded ops a.tmps) = true then Oper.wp Try.prog o a w K Q else E := by
  have hwt : Region.wanted o (yielded ops a.tmps) = true := by simp [Region.wanted, hgd]
  rw [if_pos hwt]
  subst hm
  obtain ⟨v', w', hrun, h2, h3⟩ := run_users o.type base v ns js hown B A c hj hlen hbase
  unfold Oper.wp
  simp [execOp, ho, resolve, invoke, builtin, hs, hx, hrun, Result.andThen]
  exact h v' w' h2 h3
/-- A row that the call made, behind a store elsewhere. -/
theorem OwnU.stored {w : World} {base r j n c : Nat} {A : Option Addr} {l : List Usr} (h : OwnU w base (.slice A n c) l) (hr : r < base) (v : Value) : RdS (w.setCell ⟨r, j, none⟩ v) A l.length c (AVs l) := by
  have h2 : OwnU (w.setCell ⟨r, j, none⟩ v) base (.slice A n c) l := ⟨h.1, h.2.imp id fun ⟨g, cap, cur, hv, hb, hg, hr2⟩ => ⟨g, cap, cur, hv, hb, (Below.heap_setCell _ _ _ _ (by show g ≠ r; omega)).trans hg, hr2⟩⟩
  obtain ⟨A', c', e, hR⟩ := h2.shape
  injection e with e1 e2 e3
  subst e1
  subst e3
  exact hR
theorem grown_set {a b : World} {r : Nat} (h : Below a.heap.size a b) (j : Nat) (v : Value) : a.grownBy (b.setCell ⟨r, j, none⟩ v) (some r) :=
  ⟨h.os, h.tape, h.output, by simpa [World.setCell] using h.size, fun k hk hne => (Below.heap_setCell _ _ _ _ (fun e => hne (congrArg some e))).trans (h.block k hk)⟩
/-- The document's ledger, with another row. -/
theorem RB.stored {w : World} {r base n c : Nat} {h : Int} {x : Value} {A : Option Addr} {l : List Usr} (hX : Box w r TRL [.int .i64 h, x]) (hO : OwnU w base (.slice A l.length c) l) (hn : n = l.length) (hr : r < base) : RB (w.setCell ⟨r, 1, none⟩ (.slice A n c)) r h l := by
  subst hn
  exact ⟨A, c, hX.set 1 _, hO.stored hr _⟩
/-- What lies ahead of a place, and behind it. -/
theorem RdS.takeU {w : World} {A : Option Addr} {cap : Nat} {L : List Usr} (h : RdS w A L.length cap (AVs L)) (k : Nat) : SegC w w.heap.size A (AVs (L.take k)) := by
  have := SegC.take h.2.2 (k * 3)
  rwa [AVs_take] at this
theorem RdS.dropU {w : World} {A : Option Addr} {cap : Nat} {L : List Usr} (h : RdS w A L.length cap (AVs L)) {k : Nat} (hk : k ≤ L.length) : SegC w w.heap.size (if cap = k then A else A.map (·.add (k * 3))) (AVs (L.drop k)) := by
  have hc := h.1
  by_cases e : cap = k
  · rw [if_pos e, List.drop_of_length_le (by omega)]
    exact SegP.nil _ _ _
  · rw [if_neg e]
    have := SegC.drop h.2.2 (k := k * 3) (cap := cap * 3) (by rw [AVs_len]; omega) (by rw [AVs_len]; omega)
    rwa [AVs_drop, if_neg (by omega)] at this
end Go.Proofs.Ytmbgcphiigmdjaa
/-
  One's use added to, by the document: what is refused.
-/
namespace Go.Proofs.Ytmbgcphiigmdjaa
open Go.RowKit Ss Ds

/-- A refusal. -/
def RefP (w : World) (L : List Usr) (s : Str) (E : Int) (e : Ending) (w' : World) : Prop := ∃ k, At L s k ∧ e = .returned (.int .i64 E) ∧ Below w.heap.size w w'
set_option maxRecDepth 100000 in
set_option maxHeartbeats 8000000 in
theorem rAdd_bad {w : World} {r : Nat} {h : Int} {L : List Usr} (b : RB w r h L) (hl : L.length ≤ 1024) (s : Str) (am now : Int) (hsl : s.length ≤ 9223372036854775807) (hbad : ¬ timeB now ∨ ¬ nameB s am) :
    Calls Try.prog 15 #[.pointer (some ⟨r, 0, none⟩), .string (str s), .int .i64 am, .int .i64 now] w (RefP w L s 1) := by
  have hfi := find_any b hl s
  have hti := fun W => rtime_any now W
  have hz := str_size s
  unfold FindP at hfi
  have hpost := fhid (show ∀ k W, At L s k → Below w.heap.size w W → RefP w L s 1 (.returned (.int .i64 1)) W from fun k W h1 h2 => ⟨k, h1, rfl, h2⟩)
  generalize RefP w L s 1 = Post at *
  clear b
  by_cases ht : timeB now
  · have hn : ¬ nameB s am := by
      rcases hbad with h1 | h1
      · exact absurd ht h1
      · exact h1
    rw [decide_eq_true ht] at hti
    clear hbad ht
    by_cases h0 : s = []
    · subst h0
      have se : str [] = ⟨#[]⟩ := rfl
      rw [se] at hfi ⊢
      go_enter Try.func15, Try.ntmps15
      go_upto_region 2 with (go_at_call 30; (with_reducible refine hfi.mono ?_); rintro e w1 ⟨k, hat, rfl, b1⟩)
      have hp := fhid (hpost.out k w1 hat b1)
      clear hpost hat hfi
      generalize there L [] k = th at *
      go_wp2_with (go_at_call 31; (with_reducible refine (hti _).mono ?_); rintro e w2 ⟨rfl, rfl⟩)
      exact hp.out
    · have hemp : s.isEmpty = false := by simpa using h0
      have hne : (str s).toList = s := by rw [ByteArray.toList_eq]; rfl
      have hW : ((s.length : Int) > 16 ∨ (¬ (s.length : Int) > 16 ∧ am < 0) ∨ (¬ (s.length : Int) > 16 ∧ ¬ am < 0 ∧ am > 1099511627776)) := by
        unfold nameB at hn
        by_cases h1 : (s.length : Int) > 16
        · exact .inl h1
        · by_cases h2 : am < 0
          · exact .inr (.inl ⟨h1, h2⟩)
          · refine .inr (.inr ⟨h1, h2, ?_⟩)
            by_cases h3 : am > 1099511627776
            · exact h3
            · exact absurd ⟨h0, by omega, by omega, by omega⟩ hn
      clear hn h0
      obtain h1 | ⟨h1, h2⟩ | ⟨h1, h2, h3⟩ := hW
      all_goals
        go_enter Try.func15, Try.ntmps15
        go_upto_region 2 with (go_at_call 30; (with_reducible refine hfi.mono ?_); rintro e w1 ⟨k, hat, rfl, b1⟩)
        have hp := fhid (hpost.out k w1 hat b1)
        clear hpost hat hfi
        generalize there L s k = th at *
        go_wp2_with (go_at_call 31; (with_reducible refine (hti _).mono ?_); rintro e w2 ⟨rfl, rfl⟩)
        exact hp.out
  · rw [decide_eq_false ht] at hti
    clear hbad ht
    go_enter Try.func15, Try.ntmps15
    go_upto_region 2 with (go_at_call 30; (with_reducible refine hfi.mono ?_); rintro e w1 ⟨k, hat, rfl, b1⟩)
    have hp := fhid (hpost.out k w1 hat b1)
    clear hpost hat hfi
    generalize there L s k = th at *
    go_wp2_with (go_at_call 31; (with_reducible refine (hti _).mono ?_); rintro e w2 ⟨rfl, rfl⟩)
    exact hp.out
/-- A name and an amount that are taken. -/
structure Okn (s : Str) (am : Int) : Prop where
  emp : s.isEmpty = false
  lst : (str s).toList = s
  len : ¬ (s.length : Int) > 16
  low : ¬ am < 0
  top : ¬ am > 1099511627776
theorem okn {s : Str} {am : Int} (h : nameB s am) : Okn s am := by
  obtain ⟨h0, h1, h2, h3⟩ := h
  exact ⟨by simpa using h0, by rw [ByteArray.toList_eq]; rfl, by omega, by omega, by omega⟩
set_option maxRecDepth 100000 in
set_option maxHeartbeats 8000000 in
theorem rAdd_late {w : World} {r : Nat} {h : Int} {L : List Usr} (b : RB w r h L) (hl : L.length ≤ 1024) (hu : Up L) (s : Str) (am now : Int) (hn : nameB s am) (ht : timeB now) {u : Int × Int} (hs : lookG s L = some u) (hlt : now < u.2) :
    Calls Try.prog 15 #[.pointer (some ⟨r, 0, none⟩), .string (str s), .int .i64 am, .int .i64 now] w (RefP w L s 1) := by
  have hfi := find_any b hl s
  have hti := fun W => rtime_any now W
  have hz := str_size s
  obtain ⟨o1, o2, o3, o4, o5⟩ := okn hn
  rw [decide_eq_true ht] at hti
  clear hn ht
  unfold FindP at hfi
  have hpost := fhid (show ∀ k W, At L s k → Below w.heap.size w W → RefP w L s 1 (.returned (.int .i64 1)) W from fun k W h1 h2 => ⟨k, h1, rfl, h2⟩)
  generalize RefP w L s 1 = Post at *
  go_enter Try.func15, Try.ntmps15
  go_upto_region 2 with (go_at_call 30; (with_reducible refine hfi.mono ?_); rintro e w1 ⟨k, hat, rfl, b1⟩)
  have hp := fhid (hpost.out k w1 hat b1)
  have r1 := b.below b1
  cases hth : there L s k with
  | false =>
    rw [look_no hu hat hth] at hs
    cases hs
  | true =>
    obtain ⟨hk, hlk⟩ := look_yes hu hat hth
    rw [hs] at hlk
    injection hlk with hlk
    obtain ⟨A, cap, X, R⟩ := r1
    obtain ⟨bb, o, rfl, hb, c0, c1, c2⟩ := act_at R hk
    have x1 := X.cell 1
    have xl := X.lt
    have k0 : (0 : Int) ≤ k := by omega
    have k1 : (k : Int) < L.length := by omega
    simp only [List.getElem?_cons_zero, List.getElem?_cons_succ] at x1
    rw [← hlk] at c1 c2
    clear hpost hat hfi hs hth hlk b hu c0
    replace X := fhid X
    replace R := fhid R
    obtain ⟨ua, ut⟩ := u
    simp only at c1 c2 hlt
    go_wp2_with (go_at_call 31; (with_reducible refine (hti _).mono ?_); rintro e w2 ⟨rfl, rfl⟩)
    exact hp.out
set_option maxRecDepth 100000 in
set_option maxHeartbeats 8000000 in
theorem rAdd_full {w : World} {r : Nat} {h : Int} {L : List Usr} (b : RB w r h L) (hl : L.length ≤ 1024) (hu : Up L) (s : Str) (am now : Int) (hn : nameB s am) (ht : timeB now) (hs : lookG s L = none) (hm : 1024 ≤ L.length) :
    Calls Try.prog 15 #[.pointer (some ⟨r, 0, none⟩), .string (str s), .int .i64 am, .int .i64 now] w (RefP w L s 5) := by
  have hfi := find_any b hl s
  have hti := fun W => rtime_any now W
  have hz := str_size s
  obtain ⟨o1, o2, o3, o4, o5⟩ := okn hn
  rw [decide_eq_true ht] at hti
  clear hn ht
  unfold FindP at hfi
  have hpost := fhid (show ∀ k W, At L s k → Below w.heap.size w W → RefP w L s 5 (.returned (.int .i64 5)) W from fun k W h1 h2 => ⟨k, h1, rfl, h2⟩)
  generalize RefP w L s 5 = Post at *
  have hm' : ((L.length : Int) ≥ 1024) := by omega
  go_enter Try.func15, Try.ntmps15
  go_upto_region 2 with (go_at_call 30; (with_reducible refine hfi.mono ?_); rintro e w1 ⟨k, hat, rfl, b1⟩)
  have hp := fhid (hpost.out k w1 hat b1)
  have r1 := b.below b1
  cases hth : there L s k with
  | true =>
    obtain ⟨hk, hlk⟩ := look_yes hu hat hth
    rw [hs] at hlk
    cases hlk
  | false =>
    obtain ⟨A, cap, X, R⟩ := r1
    have x1 := X.cell 1
    have xl := X.lt
    simp only [List.getElem?_cons_zero, List.getElem?_cons_succ] at x1
    clear hpost hat hfi hs hth b hu
    replace X := fhid X
    replace R := fhid R
    go_wp2_with (go_at_call 31; (with_reducible refine (hti _).mono ?_); rintro e w2 ⟨rfl, rfl⟩)
    exact hp.out
end Go.Proofs.Ytmbgcphiigmdjaa
