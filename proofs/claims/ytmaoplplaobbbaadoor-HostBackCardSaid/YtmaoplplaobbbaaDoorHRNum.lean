/-
  The document's reader reads digits.
-/
import Derived.Test.YtmaoplplaobbbaaDoorHRRead
namespace Go.Proofs.YtmaoplplaobbbaaDoor
open Go.RowKit

theorem all_take {r : List UInt8} {j : Nat} (h : AllTo r j) (hj : j ≤ r.length) : (r.take j).all isDig = true := by
  rw [List.all_eq_true]
  intro x hx
  obtain ⟨i, hi, rfl⟩ := List.getElem_of_mem hx
  rw [List.length_take] at hi
  rw [List.getElem_take]
  exact h i (by omega) (by omega)
theorem pk_dig {s : ByteArray} {a : Nat} {y : Int} (h : isDig (pk s a y) = true) : ∃ h : a < s.size, y = 0 ∧ pk s a y = s[a] := by
  unfold pk at h ⊢
  split at h
  · rename_i h1
    exact ⟨h1.1, h1.2, by rw [dif_pos h1]⟩
  · cases h
/-- Where the reader is, as the world tells it. -/
def atOf (w : World) (b : Nat) : Nat := match w.cell? ⟨b, 1, none⟩ with
  | some (.int _ x) => x.toNat
  | _ => 0
theorem RB.at_ {w : World} {b : Nat} {s : ByteArray} {a y f : Int} (h : RB w b s a y f) : atOf w b = a.toNat := by
  unfold atOf
  rw [h.facts.2.1]
/-- The reader has read on. -/
def RNum (w : World) (b : Nat) (s : ByteArray) (a : Nat) (e : Ending) (w' : World) : Prop := ∃ (t : List UInt8) (a' : Nat) (y' f' : Int), e = .returned (.string (str t)) ∧ t.all isDig = true ∧ t.length ≤ 6 ∧ a ≤ a' ∧ a' ≤ s.size ∧ RB w' b s a' y' f' ∧ Chg b w w'
set_option maxRecDepth 100000 in
set_option maxHeartbeats 4000000 in
theorem rnumber_any (b : Nat) (s : ByteArray) (a : Nat) (y f : Int) (w : World) (hs : s.size ≤ 140737488355328) (ha : a ≤ s.size) (h : RB w b s a y f) :
    Calls Tryd.prog 41 #[.pointer (some ⟨b, 0, none⟩)] w (RNum w b s a) := by
  obtain ⟨r, hr⟩ : ∃ r, (bl s).drop a = r := ⟨_, rfl⟩
  have hrl : r.length = s.size - a := by rw [← hr, List.length_drop, bl_len]
  have hget : ∀ j (h : a + j < s.size) (h' : j < r.length), r[j] = s[a + j] := fun j h h' => by subst hr; exact drop_get s a j h h'
  have hext : ∀ j, s.extract a (a + j) = str (r.take j) := fun j => by rw [ext_str, hr, Nat.add_sub_cancel_left]
  obtain ⟨c0, c1, c2, c3, z1, z2, z3, hz⟩ := h.facts
  have hai0 : (0 : Int) ≤ a := by omega
  have hai1 : (a : Int) ≤ s.size := by omega
  have hsi : (s.size : Int) ≤ 140737488355328 := by omega
  replace hr := fhid hr
  replace hrl := fhid hrl
  replace hget := fhid hget
  replace hext := fhid hext
  replace hs := fhid hs
  go_enter Tryd.func41, Tryd.ntmps41
  go_wp2_with fail
  clear c0 c1 c2 c3 z1 z2 z3 hz
  go_loopw [] (fun wr => ∃ j : Nat, j ≤ 6 ∧ a + j ≤ s.size ∧ AllTo r j ∧ RB wr b s ((a : Int) + (j : Int)) y f ∧ Chg b w wr) (fun wr => s.size - atOf wr b)
  case atStart => exact ⟨0, by omega, ha, AllTo.zero r, by simpa using h, Chg.refl _ _⟩
  case round =>
    obtain ⟨j, hj6, hjl, hall, hb, hch⟩ := hrel
    have hrj : j ≤ r.length := by rw [hrl.out]; omega
    have hpk := peek_chg b s (a + j) y f ((a : Int) + j) wr (by omega) hs.out hb
    have hdg := fun W => rdigit_any (pk s (a + j) y) W
    have j0 : (0 : Int) ≤ j := by omega
    have j1 : (a : Int) + j ≤ s.size := by omega
    have j2 : (a : Int) + j - a = j := by omega
    have hme := hb.at_
    replace hall := fhid hall
    by_cases hd : isDig (pk s (a + j) y) = true
    · obtain ⟨hlt, hy, hp⟩ := pk_dig hd
      rw [hd] at hdg
      have hall' := fhid (hall.out.succ (by have := hrl.out; omega) (by rw [hget.out j hlt (by have := hrl.out; omega), ← hp]; exact hd))
      clear hp hd
      generalize pk s (a + j) y = c at *
      replace hch := fhid hch
      go_wp2_with fail
      refine hpk.mono ?_
      rintro e w1 ⟨rfl, hb1, hc1⟩
      replace hc1 := hch.out.trans hc1
      go_wp2_with fail
      refine (hdg _).mono ?_
      rintro e w2 ⟨rfl, rfl⟩
      obtain ⟨c0, c1, c2, c3, z1, z2, z3, hz⟩ := hb1.facts
      clear hpk hdg
      by_cases h6 : j = 6
      · subst h6
        go_wp2_with fail
        refine (fault_set b s _ y f _ w1 hb1).mono ?_
        rintro e w2 ⟨rfl, y', f', hy', hb2, hc2⟩
        go_wp2_with fail
        go_ret
        exact ⟨[], a + 6, y', f', rfl, rfl, by simp, by omega, by omega, by simpa using hb2, hc1.trans hc2⟩
      · have e6 : ((j : Int) == 6) = false := by simp; omega
        have e7 : ¬ (j : Int) = 6 := by omega
        have hn := hb1.set1 ((a : Int) + j + 1)
        go_wp2_with fail
        go_roundw
        case rel => exact ⟨j + 1, by omega, by omega, hall'.out, by rw [show (a : Int) + ((j + 1 : Nat) : Int) = a + j + 1 by omega]; exact hn, hc1.set 1 _⟩
        case measure =>
          rw [hn.at_, hme]
          omega
    · have hd' : isDig (pk s (a + j) y) = false := by simpa using hd
      rw [hd'] at hdg
      clear hd hd'
      generalize pk s (a + j) y = c at *
      replace hch := fhid hch
      have hts := hext.out j
      have htl : (r.take j).length ≤ 6 := by rw [List.length_take]; omega
      have hta := fhid (all_take hall.out hrj)
      have htn : ((a : Int) + j).toNat = a + j := by omega
      have i3 : a + j ≤ s.size := hjl
      have i4 : (a : Int) ≤ a + j := by omega
      generalize hT : r.take j = T at *
      replace hT := fhid hT
      replace hts := fhid hts
      go_wp2_with fail
      refine hpk.mono ?_
      rintro e w1 ⟨rfl, hb1, hc1⟩
      replace hc1 := hch.out.trans hc1
      go_wp2_with fail
      refine (hdg _).mono ?_
      rintro e w2 ⟨rfl, rfl⟩
      obtain ⟨c0, c1, c2, c3, z1, z2, z3, hz⟩ := hb1.facts
      clear hpk hdg
      by_cases h0 : j = 0
      · subst h0
        go_wp2_with fail
        refine (fault_set b s _ y f _ w1 hb1).mono ?_
        rintro e w2 ⟨rfl, y', f', hy', hb2, hc2⟩
        clear c0 c1 c2 c3 z1 z2 z3 hz
        obtain ⟨c0, c1, c2, c3, z1, z2, z3, hz⟩ := hb2.facts
        go_wp2_with fail
        go_quiet (fail)
        go_wp2_with fail
        have hb3 : RB w2 b s a y' f' := by simpa using hb2
        go_ret
        exact ⟨[], a, y', f', rfl, rfl, by simp, Nat.le_refl _, ha, hb3.drew _, (hc1.trans hc2).drew _⟩
      · have e6 : ((a : Int) + j == a) = false := by simp; omega
        have e7 : ¬ (a : Int) + j = a := by omega
        have e8 : ¬ (j : Int) = 0 := by omega
        go_wp2_with fail
        go_quiet (fail)
        go_wp2_with fail
        have hb3 : RB w1 b s (a + j : Nat) y f := by
          rw [show ((a + j : Nat) : Int) = a + j by omega]
          exact hb1
        go_ret
        exact ⟨T, a + j, y, f, frets hts.out, hta.out, htl, by omega, i3, hb3.drew _, hc1.drew _⟩
end Go.Proofs.YtmaoplplaobbbaaDoor
