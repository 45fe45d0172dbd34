/-
  What a dependency is at, by the document.
-/
import Derived.Test.YthnpmndobhgekaaDoorDAsk
namespace Go.Proofs.YthnpmndobhgekaaDoor
open Go.RowKit

theorem count_step (l : List Int) (x c : Int) : ((l ++ [x]).count c : Int) = (l.count c : Int) + if x = c then 1 else 0 := by
  rw [List.count_append, List.count_singleton]
  by_cases h : x = c
  · subst h; simp
  · rw [if_neg h]
    have : (x == c) = false := by simpa using h
    simp [this]
set_option maxRecDepth 100000 in
set_option maxHeartbeats 4000000 in
theorem rAsk_any (any : Bool) (l : List Itm) (A : Option Addr) (cap : Nat) (st : List (Int × Int)) (A2 : Option Addr) (cap2 : Nat) (alone : Bool) (w : World) (hs : Its w w.heap.size A l) (hl : l.length ≤ 1000) (hx : ∀ x ∈ l, x.2.length ≤ 1048576) (hm : Prs w w.heap.size A2 st) (hll : st.length ≤ 1000000) :
    Calls Tryd.prog 24 #[.agg #[.bool any, .slice A l.length cap], .slice A2 st.length cap2, .bool alone] w (NP w (askP any l (stOf st) alone)) := by
  have hE := fhid (ask_askC any l (stOf st) alone)
  have hrg := fhid (item_range (stOf st) alone)
  have hai := fun k js A' cp W h1 h2 h3 => rItem_any k js A' cp st A2 cap2 alone W h1 h2 h3 hll
  generalize askP any l (stOf st) alone = R at *
  generalize itemP (stOf st) alone = f at *
  replace hs := fhid hs
  replace hm := fhid hm
  replace hx := fhid hx
  go_enter Tryd.func24, Tryd.ntmps24
  go_upto_region 1 with fail
  have hi : DB (w.alloc (.cells #[.bool any, .slice A l.length cap] 24)) w.heap.size 24 any (.slice A l.length cap) := heap_alloc_new w _
  have g0 : Below w.heap.size w (w.alloc (.cells #[.bool any, .slice A l.length cap] 24)) := (Below.refl _ _).alloc (Nat.le_refl _) _
  generalize w.alloc _ = w1 at *
  obtain ⟨c0, c1, _, _, hz⟩ := hi.facts
  replace hi := fhid hi
  go_wp2_with fail
  go_loopw [7, 8, 9] (fun h v i wr => ∃ j : Nat, j ≤ l.length ∧ i = .int .i64 (j : Int) ∧ h = .int .i64 (((l.take j).map f).count 1 : Nat) ∧ v = .int .i64 (((l.take j).map f).count 2 : Nat) ∧ Below w1.heap.size w1 wr) (fun _ _ i _ => l.length - (intOf i).toNat)
  case atStart => exact ⟨0, Nat.zero_le _, rfl, rfl, rfl, Below.refl _ _⟩
  case round =>
    obtain ⟨j, hjl, rfl, rfl, rfl, hB⟩ := hrel
    have hsz := hB.size
    have gB := g0.trans (hB.mono g0.size)
    clear c0 c1
    obtain ⟨c0, c1, _, _, _⟩ := (hi.out.below hB hz).facts
    have k1 : ((l.take j).map f).count 1 ≤ j := Nat.le_trans List.count_le_length (by rw [List.length_map, List.length_take]; omega)
    have k2 : ((l.take j).map f).count 2 ≤ j := Nat.le_trans List.count_le_length (by rw [List.length_map, List.length_take]; omega)
    by_cases hlt : j < l.length
    · have hsW := hs.out.below gB
      obtain ⟨bb, o, rfl, hbb, hc1, A', cp, hc2, hjc, hcm, hjs⟩ := hsW.at_ hlt
      have x1 := hx.out l[j] (List.getElem_mem hlt)
      have hsn : (l.take (j + 1)).map f = (l.take j).map f ++ [f l[j]] := by rw [List.take_succ_eq_append_getElem hlt, List.map_append]; rfl
      have h1 := count_step ((l.take j).map f) (f l[j]) 1
      have h2 := count_step ((l.take j).map f) (f l[j]) 2
      rw [← hsn] at h1 h2
      have i1 : (j : Int) < l.length := by omega
      have i0 : (0 : Int) ≤ j := by omega
      have hr := hrg.out l[j]
      clear hsW hsn
      generalize l[j] = x at *
      obtain ⟨k, js⟩ := x
      simp only at hc1 hc2 hjc hjs x1
      have hfi := hai k js A' cp wr (hjs.more gB.size) x1 ((hm.out.below gB).more gB.size)
      clear hai
      replace hjs := fhid hjs
      generalize f (k, js) = FK at *
      generalize ((l.take j).map f).count 1 = H at *
      generalize ((l.take j).map f).count 2 = V at *
      generalize hH' : ((l.take (j + 1)).map f).count 1 = H' at *
      generalize hV' : ((l.take (j + 1)).map f).count 2 = V' at *
      replace hH' := fhid hH'
      replace hV' := fhid hV'
      have q1 : (H : Int) ≤ 1000 := by omega
      have q2 : (V : Int) ≤ 1000 := by omega
      have q3 : (0 : Int) ≤ H := by omega
      have q4 : (0 : Int) ≤ V := by omega
      rcases hr with rfl | rfl | rfl
      · have h1' := fhid (show (H' : Int) = H by simpa using h1)
        have h2' := fhid (show (V' : Int) = V by simpa using h2)
        clear h1 h2
        go_wp2_with (go_at_call 39; (with_reducible refine hfi.mono ?_); rintro e w3 ⟨rfl, b3⟩)
        go_roundw
        case rel => exact ⟨j + 1, by omega, by go_num, by rw [hH'.out, h1'.out], by rw [hV'.out, h2'.out], hB.trans (b3.mono hsz)⟩
        case measure => simp [intOf]; omega
      · have h1' := fhid (show (H' : Int) = H + 1 by simpa using h1)
        have h2' := fhid (show (V' : Int) = V by simpa using h2)
        clear h1 h2
        go_wp2_with (go_at_call 39; (with_reducible refine hfi.mono ?_); rintro e w3 ⟨rfl, b3⟩)
        go_roundw
        case rel => exact ⟨j + 1, by omega, by go_num, by rw [hH'.out, h1'.out], by rw [hV'.out, h2'.out], hB.trans (b3.mono hsz)⟩
        case measure => simp [intOf]; omega
      · have h1' := fhid (show (H' : Int) = H by simpa using h1)
        have h2' := fhid (show (V' : Int) = V + 1 by simpa using h2)
        clear h1 h2
        go_wp2_with (go_at_call 39; (with_reducible refine hfi.mono ?_); rintro e w3 ⟨rfl, b3⟩)
        go_roundw
        case rel => exact ⟨j + 1, by omega, by go_num, by rw [hH'.out, h1'.out], by rw [hV'.out, h2'.out], hB.trans (b3.mono hsz)⟩
        case measure => simp [intOf]; omega
    · obtain rfl : j = l.length := by omega
      rw [List.take_length] at *
      have i1 : ¬ (l.length : Int) < l.length := by omega
      clear hai
      generalize (l.map f).count 1 = H at *
      generalize (l.map f).count 2 = V at *
      generalize hL : l.length = L at *
      replace hL := fhid hL
      have q3 : (0 : Int) ≤ H := by omega
      have q4 : (0 : Int) ≤ V := by omega
      have hE2 := hE.out
      unfold askC at hE2
      cases any
      · by_cases v0 : V = 0
        · by_cases hn : H = L
          · have hR := fhid (hE2.symm.trans (if_pos (.inr ⟨rfl, v0, hn⟩)))
            subst v0 hn
            clear hE hE2
            go_wp2_with fail
            go_ret
            exact ⟨fret1 hR.out.symm, gB⟩
          · have hR := fhid (hE2.symm.trans ((if_neg (by simp; intro _; exact hn)).trans (if_neg (by simp [v0]))))
            have e1 : ((H : Int) == L) = false := by rw [beq_eq_false_iff_ne]; omega
            have e2 : ¬ (H : Int) = L := by omega
            subst v0
            clear hE hE2
            go_wp2_with fail
            go_ret
            exact ⟨fret1 hR.out.symm, gB⟩
        · have hR := fhid (hE2.symm.trans ((if_neg (by simp; intro h; exact absurd h v0)).trans (if_pos (.inr ⟨rfl, by omega⟩))))
          have e1 : ((V : Int) == 0) = false := by rw [beq_eq_false_iff_ne]; omega
          have e2 : ¬ (V : Int) = 0 := by omega
          have e3 : (0 : Int) < V := by omega
          clear hE hE2
          go_wp2_with fail
          go_ret
          exact ⟨fret1 hR.out.symm, gB⟩
      · by_cases h0 : 0 < H
        · have hR := fhid (hE2.symm.trans (if_pos (.inl ⟨rfl, h0⟩)))
          have e3 : (0 : Int) < H := by omega
          clear hE hE2
          go_wp2_with fail
          go_ret
          exact ⟨fret1 hR.out.symm, gB⟩
        · have e3 : ¬ (0 : Int) < H := by omega
          by_cases hn : V = L
          · have hR := fhid (hE2.symm.trans ((if_neg (by simp; omega)).trans (if_pos (.inl ⟨rfl, hn⟩))))
            subst hn
            clear hE hE2
            go_wp2_with fail
            go_ret
            exact ⟨fret1 hR.out.symm, gB⟩
          · have hR := fhid (hE2.symm.trans ((if_neg (by simp; omega)).trans (if_neg (by simp; exact hn))))
            have e1 : ((V : Int) == L) = false := by rw [beq_eq_false_iff_ne]; omega
            have e2 : ¬ (V : Int) = L := by omega
            clear hE hE2
            go_wp2_with fail
            go_ret
            exact ⟨fret1 hR.out.symm, gB⟩
end Go.Proofs.YthnpmndobhgekaaDoor
