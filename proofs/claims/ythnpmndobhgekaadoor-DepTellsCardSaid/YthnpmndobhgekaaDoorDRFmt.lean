/-
  A dependency's text, by the document.
-/
import Derived.Test.YthnpmndobhgekaaDoorDRDig
import Derived.Test.YthnpmndobhgekaaDoorDFmt
namespace Go.Proofs.YthnpmndobhgekaaDoor
open Go.RowKit

set_option maxRecDepth 100000 in
set_option maxHeartbeats 1000000 in
theorem words_any (w : World) : Calls Tryd.prog 31 #[] w fun e w' => ∃ g, e = .returned (.slice (some ⟨g, 0, none⟩) 6 6) ∧ (∀ k : Nat, 1 ≤ k → k ≤ 5 → w'.cell? ⟨g, k, none⟩ = some (.string (str (word k)))) ∧ Below w.heap.size w w' := by
  go_enter Tryd.func31, Tryd.ntmps31
  go_wp2_with fail
  go_ret
  refine ⟨w.heap.size, rfl, fun k h1 h5 => ?_, (Below.refl _ _).alloc (Nat.le_refl _) _⟩
  have hh := heap_alloc_new w (.cells #[.string ⟨#[]⟩, .string ⟨#[97, 102, 116, 101, 114]⟩, .string ⟨#[97, 102, 116, 101, 114, 111, 107]⟩, .string ⟨#[97, 102, 116, 101, 114, 110, 111, 116, 111, 107]⟩, .string ⟨#[97, 102, 116, 101, 114, 97, 110, 121]⟩, .string ⟨#[115, 105, 110, 103, 108, 101, 116, 111, 110]⟩] 9)
  rcases (show k = 1 ∨ k = 2 ∨ k = 3 ∨ k = 4 ∨ k = 5 by omega) with rfl | rfl | rfl | rfl | rfl
  all_goals
    unfold World.cell?
    simp only [hh]
    rfl
theorem dep_len (any : Bool) (l : List Itm) (hl : l.length ≤ 100) (hx : ∀ x ∈ l, x.2.length ≤ 1000 ∧ ∀ n ∈ x.2, n < 9223372036854775808) : (depT any l).length ≤ 4000000 := by
  obtain ⟨t1, t2, t3⟩ := dep_texts any l hl hx
  rw [← t3]
  have := join_le 30000 (sepT any) (l.map itemT) t2
  rw [List.length_map] at this
  have : (30000 + 1) * l.length ≤ 30001 * 100 := Nat.mul_le_mul_left _ hl
  omega
/-- What stands ahead of an item: what was before, and a sign between. -/
def ahead (any : Bool) (l : List Itm) : List UInt8 := if l = [] then [] else depT any l ++ [sepT any]
theorem ahead_item (any : Bool) (l : List Itm) (x : Itm) : ahead any l ++ itemT x = depT any (l ++ [x]) := by
  unfold ahead
  by_cases h : l = []
  · subst h
    rw [if_pos rfl, List.nil_append, List.nil_append, depT_one]
  · rw [if_neg h, depT_snoc any l x h, List.append_assoc]
    rfl
/-- Text put behind text, as strings. -/
theorem cat_fact (a b : List UInt8) (ha : a.length ≤ 5000000) (hb : b.length ≤ 5000000) : str a ++ str b = str (a ++ b) ∧ ¬ 9223372036854775807 < (str a).size + (str b).size := by
  refine ⟨str_app a b, ?_⟩
  rw [str_size, str_size]
  omega
theorem ahead_none (any : Bool) : ahead any [] = [] := if_pos rfl
theorem ahead_some (any : Bool) {l : List Itm} (h : l ≠ []) : ahead any l = depT any l ++ [sepT any] := if_neg h
theorem depT_nil (any : Bool) : depT any [] = [] := rfl
theorem itemT_odd {k : Int} {js : List Int} (h : ¬ (1 ≤ k ∧ k ≤ 5)) : itemT (k, js) = [63] := by
  unfold itemT
  rw [if_neg (by simp only; omega)]
  unfold word
  simp only
  rw [if_neg (by omega), if_neg (by omega), if_neg (by omega), if_neg (by omega), if_neg (by omega)]
theorem itemT_five {js : List Int} : itemT (5, js) = word 5 := rfl
theorem itemT_jobs {k : Int} {js : List Int} (h : 1 ≤ k ∧ k ≤ 4) : itemT (k, js) = word k ++ js.flatMap numT := if_pos h
set_option maxRecDepth 100000 in
set_option maxHeartbeats 16000000 in
theorem rFormat_any (any : Bool) (l : List Itm) (A : Option Addr) (cap : Nat) (w : World) (hs : Its w w.heap.size A l) (hl : l.length ≤ 100) (hx : ∀ x ∈ l, x.2.length ≤ 1000 ∧ ∀ n ∈ x.2, n < 9223372036854775808) :
    Calls Tryd.prog 14 #[.agg #[.bool any, .slice A l.length cap]] w (TP w (depT any l)) := by
  have hlen : ∀ j, (depT any (l.take j)).length ≤ 4000000 := fun j => dep_len any (l.take j) (by rw [List.length_take]; omega) (fun x h => hx x (List.mem_of_mem_take h))
  have hwd := words_any
  replace hs := fhid hs
  replace hx := fhid hx
  replace hlen := fhid hlen
  go_enter Tryd.func14, Tryd.ntmps14
  go_upto_region 1 with fail
  have hi : DB (w.alloc (.cells #[.bool any, .slice A l.length cap] 24)) w.heap.size 24 any (.slice A l.length cap) := heap_alloc_new w _
  have g0 : Below w.heap.size w (w.alloc (.cells #[.bool any, .slice A l.length cap] 24)) := (Below.refl _ _).alloc (Nat.le_refl _) _
  generalize w.alloc _ = w1 at *
  obtain ⟨c0, c1, _, _, hz⟩ := hi.facts
  replace hi := fhid hi
  go_wp2_with fail
  go_loopw [3, 4] (fun s i wr => ∃ j : Nat, j ≤ l.length ∧ i = .int .i64 (j : Int) ∧ s = .string (str (depT any (l.take j))) ∧ Below w1.heap.size w1 wr) (fun _ i _ => l.length - (intOf i).toNat)
  case atStart => exact ⟨0, Nat.zero_le _, rfl, rfl, Below.refl _ _⟩
  case round =>
    obtain ⟨j, hjl, rfl, rfl, hB⟩ := hrel
    have hsz := hB.size
    have gB := g0.trans (hB.mono g0.size)
    clear c0 c1
    obtain ⟨c0, c1, _, _, _⟩ := (hi.out.below hB hz).facts
    have hdl := hlen.out j
    by_cases hlt : j < l.length
    · obtain ⟨bb, o, rfl, hbb, hc1, A', cp, hc2, hjc, hcm, hjs⟩ := (hs.out.below gB).at_ hlt
      obtain ⟨x1, x2⟩ := hx.out l[j] (List.getElem_mem hlt)
      have hsn := ahead_item any (l.take j) l[j]
      rw [← List.take_succ_eq_append_getElem hlt] at hsn
      have hdl2 := hlen.out (j + 1)
      have hal := congrArg List.length hsn
      rw [List.length_append] at hal
      have i1 : (j : Int) < l.length := by omega
      have i0 : (0 : Int) ≤ j := by omega
      have hnil : l.take j = [] ↔ j = 0 := by
        rw [← List.length_eq_zero_iff, List.length_take]; omega
      generalize l[j] = x at *
      obtain ⟨k, js⟩ := x
      simp only at hc1 hc2 hjc hjs x1 x2
      rename World => wo
      have hjs' := hjs
      replace hjs := fhid hjs
      replace x2 := fhid x2
      have hz0 : j = 0 → str (depT any (l.take j)) = str (ahead any (l.take j)) := fun h => by
        rw [hnil.2 h]
        rfl
      have hzp : 0 < j → (str (depT any (l.take j)) ++ str [sepT any] = str (ahead any (l.take j)) ∧ ¬ 9223372036854775807 < (str (depT any (l.take j))).size + 1) := fun h => by
        have h1 : l.take j ≠ [] := fun e => by have := hnil.1 e; omega
        obtain ⟨q1, q2⟩ := cat_fact (depT any (l.take j)) [sepT any] (by omega) (by simp)
        rw [ahead_some any h1]
        exact ⟨q1, q2⟩
      generalize hP : ahead any (l.take j) = P at *
      generalize hnx : depT any (l.take (j + 1)) = NX at *
      replace hnx := fhid hnx
      clear hnil hdl hP
      generalize str (depT any (l.take j)) = S0 at *
      generalize hSP : str P = SP at *
      replace hSP := fhid hSP
      replace hz0 := fhid hz0
      replace hzp := fhid hzp
      go_upto_region 5 with fail
      go_cut [20] (fun sf wx => sf = .bool (decide (0 < j) && any) ∧ wx = wo)
      case first =>
        by_cases j0 : 0 < j
        · have i4 : (0 : Int) < j := by omega
          cases any
          · go_wp2_with fail
            go_meet
            exact ⟨by simp, rfl⟩
          · go_wp2_with fail
            go_meet
            exact ⟨by simp [j0], rfl⟩
        · obtain rfl : j = 0 := by omega
          go_wp2_with fail
          go_meet
          exact ⟨rfl, rfl⟩
      case rest =>
        obtain ⟨rfl, hw⟩ := hcut
        subst hw
        rename World => wo
        go_upto_if 20 with fail
        go_cut [3] (fun s wx => s = .string SP ∧ wx = wo)
        case first =>
          by_cases j0 : 0 < j
          · have i4 : (0 : Int) < j := by omega
            obtain ⟨q1, q2⟩ := hzp.out j0
            rw [decide_eq_true j0]
            cases any
            · have q1 : S0 ++ ⟨#[44]⟩ = SP := q1
              go_wp2_with fail
              go_meet
              exact ⟨rfl, rfl⟩
            · have q1 : S0 ++ ⟨#[63]⟩ = SP := q1
              go_wp2_with fail
              go_meet
              exact ⟨rfl, rfl⟩
          · obtain rfl : j = 0 := by omega
            have e0 := hz0.out rfl
            subst e0
            go_wp2_with fail
            go_meet
            exact ⟨rfl, rfl⟩
        case rest =>
          obtain ⟨rfl, hw⟩ := hcut
          subst hw
          rename World => wo
          go_upto_region 9 with fail
          have hPl : P.length ≤ 4000000 := by omega
          by_cases hodd : 1 ≤ k ∧ k ≤ 5
          · obtain ⟨kn, rfl⟩ : ∃ kn : Nat, k = kn := ⟨k.toNat, by omega⟩
            have k1 : 1 ≤ kn := by omega
            have k5 : kn ≤ 5 := by omega
            have i5 : ¬ (kn : Int) < 1 := by omega
            have i6 : ¬ (5 : Int) < kn := by omega
            have i7 : (0 : Int) ≤ kn := by omega
            have i8 : (kn : Int) < 6 := by omega
            have hwl := word_len (kn : Int)
            obtain ⟨y1, y2⟩ := cat_fact P (word (kn : Int)) (by omega) (by omega)
            rw [hSP.out] at y1 y2
            generalize hWS : str (word (kn : Int)) = WS at *
            generalize hS2 : str (P ++ word (kn : Int)) = S2 at *
            replace hS2 := fhid hS2
            go_upto_region 13 with (go_at_call 31
                                    (with_reducible refine (hwd _).mono ?_)
                                    rintro e w3 ⟨g, rfl, hwc, b3⟩
                                    have hwk := hwc kn k1 k5
                                    rw [hWS] at hwk
                                    clear hwc)
            have gC := gB.trans (b3.mono gB.size)
            have hi3 := fhid ((hi.out.below hB hz).below b3 (by omega))
            have hb3z := b3.size
            have hz3 : w.heap.size < w3.heap.size := by omega
            have hd1 := fhid ((b3.cell (p := ⟨bb, o + j * 2, none⟩) (show bb < wo.heap.size by omega)).trans hc1)
            have hd2 := fhid ((b3.cell (p := ⟨bb, o + j * 2 + 1, none⟩) (show bb < wo.heap.size by omega)).trans hc2)
            have hbo3 : bb < w3.heap.size := by have := b3.size; omega
            have hj3 := fhid (hjs.out.below (b3.mono gB.size))
            clear c0 c1 hc1 hc2 hwk y1 y2 hwd
            by_cases hk5 : kn = 5
            · subst hk5
              have hE := fhid (show NX = P ++ word 5 from by rw [← hsn]; rfl)
              clear hsn hal
              go_wp2_with fail
              go_loopw [3, 6] (fun s i wr => s = .string S2 ∧ i = .int .i64 0 ∧ Below w3.heap.size w3 wr) (fun _ _ _ => 0)
              case atStart => exact ⟨rfl, rfl, Below.refl _ _⟩
              case round =>
                obtain ⟨rfl, rfl, hB2⟩ := hrel
                obtain ⟨c0, c1, _, _, _⟩ := (hi3.out.below hB2 hz3).facts
                have hc1 := (hB2.cell (p := ⟨bb, o + j * 2, none⟩) hbo3).trans hd1.out
                have hc2 := (hB2.cell (p := ⟨bb, o + j * 2 + 1, none⟩) hbo3).trans hd2.out
                by_cases h0 : 0 < js.length
                · have e1 : (0 : Int) < js.length := by omega
                  go_wp2_with fail
                  go_roundw
                  case rel => exact ⟨j + 1, by omega, by go_num, by rw [hnx.out, hE.out]; exact congrArg Value.string hS2.out.symm, (hB.trans (b3.mono hsz)).trans (hB2.mono (by omega))⟩
                  case measure => simp [intOf]; omega
                · have e1 : ¬ (0 : Int) < js.length := by omega
                  go_wp2_with fail
                  go_roundw
                  case rel => exact ⟨j + 1, by omega, by go_num, by rw [hnx.out, hE.out]; exact congrArg Value.string hS2.out.symm, (hB.trans (b3.mono hsz)).trans (hB2.mono (by omega))⟩
                  case measure => simp [intOf]; omega
            · have e5 : ((kn : Int) != 5) = true := by rw [bne_iff_ne]; omega
              have hE := fhid (show NX = P ++ word (kn : Int) ++ js.flatMap numT by rw [← hsn, itemT_jobs (by omega), List.append_assoc])
              clear hsn hal
              generalize hPW : P ++ word (kn : Int) = PW at *
              have hpl : PW.length ≤ 4000010 := by rw [← hPW, List.length_append]; omega
              clear hPW hPl
              go_wp2_with fail
              go_loopw [3, 6] (fun s i wr => ∃ q : Nat, q ≤ js.length ∧ i = .int .i64 (q : Int) ∧ s = .string (str (PW ++ (js.take q).flatMap numT)) ∧ Below w3.heap.size w3 wr) (fun _ i _ => js.length - (intOf i).toNat)
              case atStart => exact ⟨0, Nat.zero_le _, rfl, by rw [List.take_zero, List.flatMap_nil, List.append_nil]; exact congrArg Value.string hS2.out.symm, Below.refl _ _⟩
              case round =>
                obtain ⟨q, hql, rfl, rfl, hB2⟩ := hrel
                have hB2s := hB2.size
                obtain ⟨c0, c1, _, _, _⟩ := (hi3.out.below hB2 hz3).facts
                have hc1 := (hB2.cell (p := ⟨bb, o + j * 2, none⟩) hbo3).trans hd1.out
                have hc2 := (hB2.cell (p := ⟨bb, o + j * 2 + 1, none⟩) hbo3).trans hd2.out
                by_cases hqlt : q < js.length
                · obtain ⟨b4, o4, rfl, hb4, hc3⟩ := Ints.at_ hj3.out hqlt
                  have k3 := (hB2.cell (p := ⟨b4, o4 + q, none⟩) (Nat.lt_of_lt_of_le hb4 gC.size)).trans hc3
                  have hn9 := x2.out js[q] (List.getElem_mem hqlt)
                  have hfl := nums_len (js.take q) (fun n hn => x2.out n (List.mem_of_mem_take hn))
                  rw [List.length_take] at hfl
                  have hrq := fhid (show PW ++ (js.take (q + 1)).flatMap numT = PW ++ (js.take q).flatMap numT ++ numT js[q] by rw [List.take_succ_eq_append_getElem hqlt, List.flatMap_append, List.append_assoc]; simp)
                  have e1 : (q : Int) < js.length := by omega
                  have e2 : (0 : Int) ≤ q := by omega
                  have hT0 : (PW ++ (js.take q).flatMap numT).length ≤ 4500000 := by rw [List.length_append]; omega
                  clear hc3 hfl
                  generalize js[q] = n at *
                  generalize PW ++ (js.take q).flatMap numT = T0 at *
                  obtain ⟨a1, a2⟩ := cat_fact T0 [58] (by omega) (by simp)
                  generalize hS4 : str T0 = S4 at *
                  have a1 : S4 ++ ⟨#[58]⟩ = str (T0 ++ [58]) := a1
                  have a2 : ¬ 9223372036854775807 < S4.size + 1 := a2
                  by_cases hneg : n < 0
                  · obtain ⟨a3, a4⟩ := cat_fact (T0 ++ [58]) [45] (by rw [List.length_append, List.length_singleton]; omega) (by simp)
                    obtain ⟨a5, a6⟩ := cat_fact (T0 ++ [58] ++ [45]) (dec 0) (by rw [List.length_append, List.length_append, List.length_singleton, List.length_singleton]; omega) (by have := dec_len 0 (by omega); omega)
                    have hT3 := fhid (show T0 ++ [58] ++ [45] ++ dec 0 = T0 ++ numT n by
                      unfold numT
                      rw [if_pos hneg, show (max n 0).toNat = 0 by omega]
                      simp)
                    generalize hS5 : str (T0 ++ [58]) = S5 at *
                    have a3 : S5 ++ ⟨#[45]⟩ = str (T0 ++ [58] ++ [45]) := a3
                    have a4 : ¬ 9223372036854775807 < S5.size + 1 := a4
                    generalize hS6 : str (T0 ++ [58] ++ [45]) = S6 at *
                    generalize hS7 : str (T0 ++ [58] ++ [45] ++ dec 0) = S7 at *
                    have hdg := fun W => Digits_any 0 0 W rfl (by omega)
                    generalize str (dec 0) = S8 at *
                    replace hS7 := fhid hS7
                    clear hS4 hS5 hS6 hT0
                    go_wp2_with (go_at_call 32; (with_reducible refine (hdg _).mono ?_); rintro e w5 ⟨rfl, b5⟩)
                    go_roundw
                    case rel => exact ⟨q + 1, by omega, by go_num, by rw [hrq.out, ← hT3.out]; exact congrArg Value.string hS7.out.symm, hB2.trans (b5.mono hB2s)⟩
                    case measure => simp [intOf]; omega
                  · obtain ⟨a5, a6⟩ := cat_fact (T0 ++ [58]) (dec n.toNat) (by rw [List.length_append, List.length_singleton]; omega) (by have := dec_len n.toNat (by omega); omega)
                    have hT3 := fhid (show T0 ++ [58] ++ dec n.toNat = T0 ++ numT n by
                      unfold numT
                      rw [if_neg hneg, show (max n 0).toNat = n.toNat by omega]
                      simp)
                    generalize hS5 : str (T0 ++ [58]) = S5 at *
                    generalize hS7 : str (T0 ++ [58] ++ dec n.toNat) = S7 at *
                    have hdg := fun W => Digits_any n.toNat n W (by omega) (by omega)
                    generalize str (dec n.toNat) = S8 at *
                    replace hS7 := fhid hS7
                    clear hS4 hS5 hT0
                    go_wp2_with (go_at_call 32; (with_reducible refine (hdg _).mono ?_); rintro e w5 ⟨rfl, b5⟩)
                    go_roundw
                    case rel => exact ⟨q + 1, by omega, by go_num, by rw [hrq.out, ← hT3.out]; exact congrArg Value.string hS7.out.symm, hB2.trans (b5.mono hB2s)⟩
                    case measure => simp [intOf]; omega
                · obtain rfl : q = js.length := by omega
                  have e1 : ¬ (js.length : Int) < js.length := by omega
                  rw [List.take_length, ← hE.out]
                  generalize hS9 : str NX = S9 at *
                  replace hS9 := fhid hS9
                  go_wp2_with fail
                  go_roundw
                  case rel => exact ⟨j + 1, by omega, by go_num, by rw [hnx.out]; exact congrArg Value.string hS9.out.symm, (hB.trans (b3.mono hsz)).trans (hB2.mono (by omega))⟩
                  case measure => simp [intOf]; omega
          · rw [itemT_odd hodd] at hsn
            obtain ⟨y1, y2⟩ := cat_fact P [63] (by omega) (by simp)
            rw [hSP.out, hsn] at y1
            rw [hSP.out] at y2
            have y1 : SP ++ ⟨#[63]⟩ = str NX := y1
            have y2 : ¬ 9223372036854775807 < SP.size + 1 := y2
            generalize hS2 : str NX = S2 at *
            replace hS2 := fhid hS2
            have i9 : k < 1 ∨ (¬ k < 1 ∧ 5 < k) := by omega
            clear hal hodd hwd
            rcases i9 with i9 | ⟨i9, i10⟩
            · go_wp2_with fail
              go_roundw
              case rel => exact ⟨j + 1, by omega, by go_num, by rw [hnx.out]; exact congrArg Value.string hS2.out.symm, hB⟩
              case measure => simp [intOf]; omega
            · go_wp2_with fail
              go_roundw
              case rel => exact ⟨j + 1, by omega, by go_num, by rw [hnx.out]; exact congrArg Value.string hS2.out.symm, hB⟩
              case measure => simp [intOf]; omega
    · obtain rfl : j = l.length := by omega
      have i1 : ¬ (l.length : Int) < l.length := by omega
      rw [List.take_length]
      generalize hST : str (depT any l) = ST at *
      replace hST := fhid hST
      go_wp2_with fail
      go_ret
      exact ⟨by rw [hST.out]; rfl, gB⟩
end Go.Proofs.YthnpmndobhgekaaDoor
