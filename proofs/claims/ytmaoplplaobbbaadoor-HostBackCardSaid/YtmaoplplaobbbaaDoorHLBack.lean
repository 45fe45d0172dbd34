/-
  HostBack, walked.
-/
import Derived.Test.YtmaoplplaobbbaaDoorHRExp
import Derived.Test.YtmaoplplaobbbaaDoorHLAgain
namespace Go.Proofs.YtmaoplplaobbbaaDoor
open Go.RowKit

def LongPost (w : World) (ls : List (List UInt8)) (e : Ending) (w' : World) : Prop := (∃ q : Bool, e = .returned (.bool q) ∧ (q = false → ls.length ≤ 300 ∧ ∀ x ∈ ls, x.length ≤ 300)) ∧ ∃ n, w' = w.drewN n
set_option maxRecDepth 100000 in
set_option maxHeartbeats 1000000 in
theorem long_any (A : Option Addr) (ls : List (List UInt8)) (cap : Nat) (w : World) (hr : Strs w w.heap.size A ls) (hl : ls.length ≤ 9223372036854775807) :
    Calls Tryd.prog 10 #[.slice A ls.length cap] w (LongPost w ls) := by
  have hlI : (ls.length : Int) ≤ 9223372036854775807 := by omega
  replace hr := fhid hr
  replace hl := fhid hl
  go_enter Tryd.func10, Tryd.ntmps10
  go_wp2_with fail
  go_loopw [7] (fun i wr => ∃ k : Nat, k ≤ ls.length ∧ i = .int .i64 k ∧ (∀ x ∈ ls.take k, x.length ≤ 300) ∧ ∃ n, wr = w.drewN n) (fun i _ => ls.length - (intOf i).toNat)
  case atStart => exact ⟨0, by omega, rfl, fun x hx => by simp at hx, 0, rfl⟩
  case round =>
    obtain ⟨k, hk, rfl, hp, q, hq⟩ := hrel
    have hcw : ∀ p, wr.cell? p = w.cell? p := fun p => by rw [hq]; rfl
    replace hq := fhid hq
    replace hp := fhid hp
    have k0 : (0 : Int) ≤ k := by omega
    have k1 : (k : Int) ≤ ls.length := by omega
    by_cases hlt : k < ls.length
    · obtain ⟨b, o, rfl, _, c1⟩ := hr.out.at_ hlt
      replace c1 := (hcw _).trans c1
      have hz := str_size ls[k]
      have k2 : (k : Int) < ls.length := by omega
      have hnx : ls[k].length ≤ 300 → Hid (∀ x ∈ ls.take (k + 1), x.length ≤ 300) := fun h => fhid (fun x hx => by
        rw [List.take_succ_eq_append_getElem hlt] at hx
        rcases List.mem_append.1 hx with h1 | h1
        · exact hp.out x h1
        · rw [List.mem_singleton] at h1; subst h1; exact h)
      clear hcw
      generalize ls[k] = x at *
      generalize str x = X at *
      by_cases hx : x.length ≤ 300
      · have x1 : ¬ (300 : Int) < x.length := by omega
        have hny := hnx hx
        clear hnx hx
        go_wp2_with fail
        go_roundw
        case rel => exact ⟨k + 1, by omega, by go_num, hny.out, _, hq.out⟩
        case measure => simp [intOf]; omega
      · have x1 : (300 : Int) < x.length := by omega
        clear hnx hx
        go_wp2_with fail
        go_ret
        exact ⟨⟨true, rfl, fun h => by cases h⟩, _, hq.out⟩
    · have k2 : ¬ (k : Int) < ls.length := by omega
      have hk3 : k = ls.length := by omega
      have hall := fhid (show ∀ x ∈ ls, x.length ≤ 300 by
        have := hp.out
        rw [hk3, List.take_length] at this
        exact this)
      clear hk3
      by_cases h300 : ls.length ≤ 300
      · have x1 : ¬ (300 : Int) < ls.length := by omega
        replace h300 := fhid h300
        go_wp2_with fail
        go_ret
        exact ⟨⟨false, rfl, fun _ => ⟨h300.out, hall.out⟩⟩, _, hq.out⟩
      · have x1 : (300 : Int) < ls.length := by omega
        clear h300
        go_wp2_with fail
        go_ret
        exact ⟨⟨true, rfl, fun h => by cases h⟩, _, hq.out⟩
set_option maxRecDepth 100000 in
set_option maxHeartbeats 4000000 in
theorem back_walk (A : Option Addr) (ls : List (List UInt8)) (cap : Nat) (w : World) (hr : Strs w w.heap.size A ls) (hc : ls.length ≤ cap) (hl : ls.length ≤ 9223372036854775807) (hT : Tab w) :
    Calls Tryd.prog 4 #[.slice A ls.length cap] w (BoolPost w true) := by
  have hal := fun W (b : Below w.heap.size w W) => alive_any W (tab_below hT b)
  have hlong := long_any A ls cap w hr hl
  have hlI : (ls.length : Int) ≤ 9223372036854775807 := by omega
  have hl0 : (0 : Int) ≤ ls.length := by omega
  replace hal := fhid hal
  replace hr := fhid hr
  replace hT := fhid hT
  replace hl := fhid hl
  replace hc := fhid hc
  go_enter Tryd.func4, Tryd.ntmps4
  go_wp2_with fail
  refine hlong.mono ?_
  rintro e w1 ⟨⟨q, rfl, hq⟩, n, rfl⟩
  have y1 : Below w.heap.size w (w.drewN n) := below_drewN (Below.refl _ _) n
  generalize w.drewN n = W1 at *
  clear hlong
  replace hq := fhid hq
  cases q with
  | true =>
    go_wp2_with (go_at_call 14; (with_reducible refine (hal.out _ y1).mono ?_); rintro e w2 ⟨rfl, b2⟩)
    go_ret
    exact ⟨rfl, y1.trans (b2.mono y1.size)⟩
  | false =>
    by_cases h256 : ls.length ≤ 256
    rotate_left
    · have x1 : (256 : Int) < ls.length := by omega
      clear h256
      go_wp2_with (go_at_call 14; (with_reducible refine (hal.out _ y1).mono ?_); rintro e w2 ⟨rfl, b2⟩)
      go_ret
      exact ⟨rfl, y1.trans (b2.mono y1.size)⟩
    · have x1 : ¬ (256 : Int) < ls.length := by omega
      obtain ⟨_, h300⟩ := hq.out rfl
      replace h300 := fhid h300
      replace h256 := fhid h256
      go_wp2_with fail
      go_loopw [19] (fun i wr => ∃ k : Nat, k ≤ ls.length ∧ i = .int .i64 k ∧ (∀ x ∈ ls.take k, Bare x) ∧ Below w.heap.size w wr) (fun i _ => ls.length - (intOf i).toNat)
      case atStart => exact ⟨0, by omega, rfl, fun x hx => by simp at hx, y1⟩
      case round =>
        obtain ⟨k, hk, rfl, hp, hB⟩ := hrel
        have k0 : (0 : Int) ≤ k := by omega
        have k1 : (k : Int) ≤ ls.length := by omega
        replace hp := fhid hp
        by_cases hlt : k < ls.length
        · obtain ⟨b, o, rfl, hbo, c1⟩ := hr.out.at_ hlt
          replace c1 := (hB.cell (p := ⟨b, o + k, none⟩) hbo).trans c1
          have k2 : (k : Int) < ls.length := by omega
          have hsz : (str ls[k]).size ≤ 1000000 := by
            rw [str_size]
            have := h300.out ls[k] (List.getElem_mem hlt)
            omega
          have hex := rexpand_any (str ls[k]) wr hsz
          have hnx : Bare ls[k] → Hid (∀ x ∈ ls.take (k + 1), Bare x) := fun h => fhid (fun x hx => by
            rw [List.take_succ_eq_append_getElem hlt] at hx
            rcases List.mem_append.1 hx with h1 | h1
            · exact hp.out x h1
            · rw [List.mem_singleton] at h1; subst h1; exact h)
          clear hsz
          generalize ls[k] = x at *
          generalize hX : str x = X at *
          replace hX := fhid hX
          go_wp2_with fail
          refine hex.mono ?_
          rintro e w2 ⟨v, ns, ev, av, rfl, o1, hb1, hl1, b1⟩
          obtain ⟨A1, cp1, rfl, _, _, s1⟩ := o1.shape
          have hq1 := neq_fault ev av 0 0
          have hB2 := hB.trans (b1.mono hB.size)
          clear hex o1
          replace hb1 := fhid hb1
          replace s1 := fhid s1
          by_cases hf : ev = 0 ∧ av = 0
          · obtain ⟨rfl, rfl⟩ := hf
            by_cases hn1 : ns.length = 1
            · obtain ⟨n0, rfl⟩ : ∃ n0, ns = [n0] := List.length_eq_one_iff.1 hn1
              obtain ⟨b', o', rfl, hb', c2⟩ := s1.out.at_ (k := 0) (by simp)
              rw [Nat.add_zero, List.getElem_singleton] at c2
              simp only [List.length_singleton]
              by_cases he : n0 = x
              · subst he
                rw [hX.out] at c2
                have hbx := hb1.out n0 (by simp)
                have hny := hnx hbx
                have hB3 := hB2.alloc hB2.size (.cells #[.int .i64 0, .int .i64 0] 33)
                clear hnx hbx
                go_wp2_with fail
                go_roundw
                case rel => exact ⟨k + 1, by omega, by go_num, hny.out, hB3⟩
                case measure => simp [intOf]; omega
              · have hse := str_eq (str n0) X
                rw [bl_str, ← hX.out, bl_str, decide_eq_false he, hX.out] at hse
                clear he hnx
                generalize str n0 = N0 at *
                go_wp2_with (go_at_call 14
                             (with_reducible refine (hal.out _ (hB2.alloc hB2.size _)).mono ?_)
                             rintro e w3 ⟨rfl, b3⟩)
                go_ret
                exact ⟨rfl, (hB2.alloc hB2.size _).trans (b3.mono (by rw [World.size_alloc]; have := hB2.size; omega))⟩
            · have n1 : ¬ (ns.length : Int) = 1 := by omega
              go_wp2_with (go_at_call 14
                           (with_reducible refine (hal.out _ (hB2.alloc hB2.size _)).mono ?_)
                           rintro e w3 ⟨rfl, b3⟩)
              go_ret
              exact ⟨rfl, (hB2.alloc hB2.size _).trans (b3.mono (by rw [World.size_alloc]; have := hB2.size; omega))⟩
          · have hne : (!(ev == 0 && av == 0)) = true := by
              by_cases h1 : ev = 0
              · by_cases h2 : av = 0
                · exact absurd ⟨h1, h2⟩ hf
                · simp [h1, h2]
              · simp [h1]
            rw [hne] at hq1
            clear hf hne
            go_wp2_with (go_at_call 14
                         (with_reducible refine (hal.out _ (hB2.alloc hB2.size _)).mono ?_)
                         rintro e w3 ⟨rfl, b3⟩)
            go_ret
            exact ⟨rfl, (hB2.alloc hB2.size _).trans (b3.mono (by rw [World.size_alloc]; have := hB2.size; omega))⟩
        · have k2 : ¬ (k : Int) < ls.length := by omega
          have hk3 : k = ls.length := by omega
          have hall := fhid (show ∀ x ∈ ls, Bare x by
            have := hp.out
            rw [hk3, List.take_length] at this
            exact this)
          clear hk3
          have hq2 := eql_fault 0 0 0 0
          have hr2 := fhid (hr.out.below hB)
          have hcmp := Compress_any A cap ls wr (tab_below hT.out hB) ((hr.out.below hB).more hB.size) hc.out (fun y hy => by have := h300.out y hy; omega) (by have := h256.out; omega)
          obtain ⟨SC, hSC⟩ : ∃ S, str (compress ls) = S := ⟨_, rfl⟩
          unfold StrPost at hcmp
          rw [hSC] at hcmp
          have hex2 := fun W (b : Below wr.heap.size wr W) => again_text ls W (tab_below hT.out (hB.trans (b.mono hB.size))) hall.out h256.out (fun x hx => by have := h300.out x hx; omega)
          rw [hSC] at hex2
          replace hex2 := fhid hex2
          go_wp2_with fail
          refine hcmp.mono ?_
          rintro e' w2 ⟨rfl, b2⟩
          go_wp2_with fail
          refine (hex2.out _ b2).mono ?_
          rintro e' w3 ⟨v3, rfl, o3, b3⟩
          obtain ⟨A3, c3, rfl, hc3, _, s3⟩ := o3.shape
          have y3 := b2.trans (b3.mono b2.size)
          clear b3 o3 b2 hcmp
          replace s3 := fhid s3
          go_wp2_with fail
          have y4 := y3.alloc y3.size (.cells #[.int .i64 0, .int .i64 0] 33)
          refine (Same_any A3 A ls ls c3 cap _ _ _ (s3.out.below ((Below.refl _ _).alloc (Nat.le_refl _) _)) (hr2.out.below (y4.mono hB.size)) (by have := h256.out; omega)).mono ?_
          rintro e' w4 ⟨rfl, nq, rfl⟩
          rw [decide_eq_true (show ls = ls from rfl)]
          have y5 := below_drewN y4 nq
          generalize (World.drewN _ nq) = W at *
          clear y4 s3
          go_wp2_with (go_at_call 14
                       (with_reducible refine (hal.out _ (hB.trans (y5.mono hB.size))).mono ?_)
                       rintro e'' w6 ⟨rfl, b6⟩)
          go_ret
          exact ⟨rfl, hB.trans ((y5.trans (b6.mono y5.size)).mono hB.size)⟩
end Go.Proofs.YtmaoplplaobbbaaDoor
