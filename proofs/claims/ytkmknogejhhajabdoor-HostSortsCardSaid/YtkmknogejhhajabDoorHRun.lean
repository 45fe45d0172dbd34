/-
  Which names make one part.
-/
import Derived.Test.YtkmknogejhhajabDoorHNumber
namespace Go.Proofs.YtkmknogejhhajabDoor
open Go.RowKit

theorem number_small (l : List UInt8) : (number l).2.1 < 1000000 ∧ (number l).2.2.1 ≤ 6 ∧ (number l).1.length ≤ l.length := by
  rcases hq : number l with ⟨p, n, k, ok⟩
  cases ok with
  | false =>
    obtain ⟨rfl, rfl, rfl⟩ := number_no hq
    exact ⟨by show 0 < 1000000; decide, by show 0 ≤ 6; decide, Nat.le_refl _⟩
  | true =>
    obtain ⟨d, rfl, hk, _, h6, ha, hv, _⟩ := number_yes hq
    have := dval_lt k d hk ha
    have : (10 : Nat) ^ k ≤ 10 ^ 6 := Nat.pow_le_pow_right (by decide) h6
    exact ⟨by show n < _; omega, h6, by show p.length ≤ _; rw [List.length_append]; omega⟩
def BoolPost (w : World) (b : Bool) (e : Ending) (w' : World) : Prop := e = .returned (.bool b) ∧ Below w.heap.size w w'
set_option maxRecDepth 100000 in
set_option maxHeartbeats 1000000 in
theorem fits_any (s p : ByteArray) (n wd : Nat) (ni : Int) (w : World) (hni : ni = n) (hT : Tab w) (hs : s.size ≤ 1125899906842624) (hn : n ≤ 1000000000) (hw : wd ≤ 1000) :
    Calls Tryd.prog 49 #[.string s, .string p, .int .i64 ni, .int .i64 wd] w (BoolPost w (fits (bl s) (bl p) n wd)) := by
  subst hni
  have hnum := Number_any s w hs
  obtain ⟨E, hE⟩ : ∃ E, fits (bl s) (bl p) n wd = E := ⟨_, rfl⟩
  have hE' := hE
  rw [hE]
  unfold fits at hE'
  unfold NumberPost numberV at hnum
  have hdg := fun W (b : Below w.heap.size w W) => digits_any n wd W (tab_below hT b) hn hw
  rcases hq : number (bl s) with ⟨p', m, c, ok⟩
  rw [hq] at hnum hE'
  simp only at hnum hE'
  have hdl := str_size (dig n wd)
  clear hs hn hw hq hE hT
  cases ok with
  | false =>
    have e : E = false := by rw [← hE']; rfl
    subst e
    clear hE' hdg hdl
    go_enter Tryd.func49, Tryd.ntmps49
    go_wp2_with (go_at_call 5; (with_reducible refine hnum.mono ?_); rintro e w1 ⟨rfl, b1⟩)
    go_ret
    exact ⟨rfl, b1.below⟩
  | true =>
    have hpe := str_eq (str p') p
    rw [bl_str] at hpe
    by_cases h1 : p' = bl p
    · rw [decide_eq_true h1] at hpe
      by_cases h2 : m = n
      · have t2 : ((m : Int) == n) = true := by rw [beq_iff_eq]; omega
        by_cases h3 : c = (dig n wd).length
        · have e : E = true := by rw [← hE', decide_eq_true h1, decide_eq_true h2, decide_eq_true h3]; rfl
          subst e
          have t3 : ((c : Int) == ((dig n wd).length : Nat)) = true := by rw [beq_iff_eq]; omega
          clear hE' h1 h2 h3
          generalize (dig n wd).length = dl at *
          generalize str (dig n wd) = D at *
          generalize str p' = P at *
          go_enter Tryd.func49, Tryd.ntmps49
          go_wp2_with (first
            | (go_at_call 5; (with_reducible refine hnum.mono ?_); rintro e w1 ⟨rfl, b1⟩; replace b1 := b1.below)
            | (go_at_call 48; (with_reducible refine (hdg _ b1).mono ?_); rintro e w2 ⟨rfl, b2⟩))
          go_ret
          exact ⟨rfl, b1.trans (b2.mono b1.size)⟩
        · have e : E = false := by rw [← hE', decide_eq_false h3, Bool.and_false]
          subst e
          have t3 : ((c : Int) == ((dig n wd).length : Nat)) = false := by rw [beq_eq_false_iff_ne]; omega
          clear hE' h1 h2 h3
          generalize (dig n wd).length = dl at *
          generalize str (dig n wd) = D at *
          generalize str p' = P at *
          go_enter Tryd.func49, Tryd.ntmps49
          go_wp2_with (first
            | (go_at_call 5; (with_reducible refine hnum.mono ?_); rintro e w1 ⟨rfl, b1⟩; replace b1 := b1.below)
            | (go_at_call 48; (with_reducible refine (hdg _ b1).mono ?_); rintro e w2 ⟨rfl, b2⟩))
          go_ret
          exact ⟨rfl, b1.trans (b2.mono b1.size)⟩
      · have e : E = false := by rw [← hE', decide_eq_false h2, Bool.and_false]; rfl
        subst e
        have t2 : ((m : Int) == n) = false := by rw [beq_eq_false_iff_ne]; omega
        clear hE' h1 h2 hdg hdl
        generalize str p' = P at *
        go_enter Tryd.func49, Tryd.ntmps49
        go_wp2_with (go_at_call 5; (with_reducible refine hnum.mono ?_); rintro e w1 ⟨rfl, b1⟩)
        go_ret
        exact ⟨rfl, b1.below⟩
    · have e : E = false := by rw [← hE', decide_eq_false h1, Bool.and_false]; rfl
      subst e
      rw [decide_eq_false h1] at hpe
      clear hE' h1 hdg hdl
      generalize str p' = P at *
      go_enter Tryd.func49, Tryd.ntmps49
      go_wp2_with (go_at_call 5; (with_reducible refine hnum.mono ?_); rintro e w1 ⟨rfl, b1⟩)
      go_ret
      exact ⟨rfl, b1.below⟩
theorem go_more {p : List UInt8} {wd n : Nat} {L : List (List UInt8)} {k : Nat} (hk : k < L.length) (h1 : 1 ≤ k) (h : goRun p wd (n + 1) (L.drop 1) = goRun p wd (n + k) (L.drop k) + (k - 1)) (hf : fits L[k] p (n + k) wd = true) : goRun p wd (n + 1) (L.drop 1) = goRun p wd (n + (k + 1)) (L.drop (k + 1)) + (k + 1 - 1) := by
  rw [h, List.drop_eq_getElem_cons hk]
  conv => lhs; unfold goRun
  rw [if_pos hf, show n + (k + 1) = n + k + 1 by omega]
  omega
theorem go_stop {p : List UInt8} {wd n : Nat} {L : List (List UInt8)} {k : Nat} (h1 : 1 ≤ k) (h : goRun p wd (n + 1) (L.drop 1) = goRun p wd (n + k) (L.drop k) + (k - 1)) (hf : ∀ hk : k < L.length, fits L[k] p (n + k) wd = false) : goRun p wd (n + 1) (L.drop 1) + 1 = k := by
  rw [h]
  by_cases hk : k < L.length
  · rw [List.drop_eq_getElem_cons hk]
    unfold goRun
    rw [if_neg (by rw [hf hk]; decide)]
    omega
  · rw [List.drop_of_length_le (by omega)]
    unfold goRun
    omega
def IntPost (w : World) (n : Nat) (e : Ending) (w' : World) : Prop := e = .returned (.int .i64 (n : Int)) ∧ Below w.heap.size w w'
set_option maxRecDepth 100000 in
set_option maxHeartbeats 2000000 in
theorem run_any (A : Option Addr) (cap : Nat) (L : List (List UInt8)) (h0 : 0 < L.length) (w : World) (hT : Tab w) (hs : Strs w w.heap.size A L) (hb : ∀ y ∈ L, y.length ≤ 1125899906842624) (hl : L.length ≤ 1000) :
    Calls Tryd.prog 29 #[.slice A L.length cap] w (IntPost w (runLen L[0] (L.drop 1))) := by
  obtain ⟨b, o, rfl, hbb, c0⟩ := hs.at_ h0
  rw [Nat.add_zero] at c0
  have hnum := Number_any (str L[0]) w (by rw [str_size]; exact hb _ (List.getElem_mem h0))
  unfold NumberPost numberV at hnum
  rw [bl_str] at hnum
  have hsm := number_small L[0]
  obtain ⟨E, hE⟩ : ∃ E, runLen L[0] (L.drop 1) = E := ⟨_, rfl⟩
  rw [hE]
  unfold runLen at hE
  rcases hq : number L[0] with ⟨p, n, wd, ok⟩
  rw [hq] at hnum hE hsm
  simp only at hnum hE hsm
  obtain ⟨hn, hwd, _⟩ := hsm
  have i0 : (0 : Int) < L.length := by omega
  generalize str L[0] = S0 at *
  clear hq
  cases ok with
  | false =>
    have e : E = 1 := by rw [← hE]; rfl
    subst e
    clear hE hn hwd hs hT hb
    go_enter Tryd.func29, Tryd.ntmps29
    go_wp2_with (go_at_call 5; (with_reducible refine hnum.mono ?_); rintro e w1 ⟨rfl, b1⟩)
    go_ret
    exact ⟨rfl, b1.below⟩
  | true =>
    rw [if_pos rfl] at hE
    replace hE := fhid hE
    replace hs := fhid hs
    replace hT := fhid hT
    replace hb := fhid hb
    replace hn := fhid hn
    replace hwd := fhid hwd
    have n0 : (0 : Int) ≤ n := by omega
    have n1 : (n : Int) < 1000000 := by have := hn.out; omega
    have l1 : (L.length : Int) ≤ 1000 := by omega
    obtain ⟨P, hP⟩ : ∃ P, str p = P := ⟨_, rfl⟩
    rw [hP] at hnum
    have hPb : bl P = p := by rw [← hP, bl_str]
    replace hP := fhid hP
    replace hPb := fhid hPb
    replace hl := fhid hl
    go_enter Tryd.func29, Tryd.ntmps29
    go_wp2_with (go_at_call 5; (with_reducible refine hnum.mono ?_); rintro e w1 ⟨rfl, b1⟩; replace b1 := b1.below)
    clear c0 hnum
    go_loopw [7] (fun s7 wr => ∃ k : Nat, 1 ≤ k ∧ k ≤ L.length ∧ s7 = .int .i64 (k : Int) ∧ goRun p wd (n + 1) (L.drop 1) = goRun p wd (n + k) (L.drop k) + (k - 1) ∧ Below w.heap.size w wr) (fun s7 _ => L.length - (intOf s7).toNat)
    case atStart => exact ⟨1, Nat.le_refl _, h0, rfl, rfl, b1⟩
    case round =>
      obtain ⟨k, hk1, hkl, rfl, hgo, hB⟩ := hrel
      replace hgo := fhid hgo
      have k0 : (0 : Int) ≤ k := by omega
      have k2 : (k : Int) ≤ 1000 := by have := hl.out; omega
      by_cases hlt : k < L.length
      · obtain ⟨b', o', he, _, ck⟩ := hs.out.at_ hlt
        injection he with he
        injection he with he1 he2 _
        subst he1
        subst he2
        replace ck := (hB.cell (p := ⟨b, o + k, none⟩) hbb).trans ck
        have hfit := fits_any (str L[k]) P (n + k) wd ((n : Int) + k) wr (by omega) (tab_below hT.out hB) (by rw [str_size]; exact hb.out _ (List.getElem_mem hlt)) (by have := hn.out; have := hl.out; omega) (by have := hwd.out; omega)
        rw [bl_str, hPb.out] at hfit
        have i1 : (k : Int) < L.length := by omega
        have hm := fun (h : fits L[k] p (n + k) wd = true) => go_more hlt hk1 hgo.out h
        have hst := fun (h : fits L[k] p (n + k) wd = false) => go_stop hk1 hgo.out (fun _ => h)
        generalize str L[k] = Sk at *
        generalize fits L[k] p (n + k) wd = f at *
        cases f with
        | true =>
          have hnx := fhid (hm rfl)
          clear hm hst
          go_wp2_with (go_at_call 49; (with_reducible refine hfit.mono ?_); rintro e w2 ⟨rfl, b2⟩)
          go_roundw
          case rel => exact ⟨k + 1, by omega, by omega, by go_num, hnx.out, hB.trans (b2.mono hB.size)⟩
          case measure => simp [intOf]; omega
        | false =>
          have hnx := fhid (hst rfl)
          clear hm hst
          go_wp2_with (go_at_call 49; (with_reducible refine hfit.mono ?_); rintro e w2 ⟨rfl, b2⟩)
          go_ret
          exact ⟨fret1 (by rw [← hE.out, hnx.out]), hB.trans (b2.mono hB.size)⟩
      · have hnx := fhid (go_stop hk1 hgo.out (fun h => absurd h hlt))
        have i1 : ¬ (k : Int) < L.length := by omega
        go_wp2_with fail
        go_ret
        exact ⟨fret1 (by rw [← hE.out, hnx.out]), hB⟩
end Go.Proofs.YtkmknogejhhajabDoor
