/-
  FrameCut's walk: frames cut off anywhere are those that are whole.
-/
import Derived.Test.YtpblpkmlioojiaaFLBack
import Derived.Test.YtpblpkmlioojiaaFCutM
namespace Go.Proofs.Ytpblpkmlioojiaa
open Go.RowKit

/-- A number, brought between 0 and another one. -/
theorem brought (a : Int) (n : Nat) (hn : 0 < n) (hs : n < 4611686018427387904) : ∃ (t : Int) (r : Nat), a.tmod n = t ∧ wrap64 (a.tmod n) = t ∧ wrap64 (t + n) = t + n ∧ (t + (n : Int)).tmod n = r ∧ wrap64 ((t + (n : Int)).tmod n) = r ∧ r < n ∧ 0 ≤ t + n := by
  have h1 := Int.tmod_lt_of_pos a (b := n) (by omega)
  have h2 : -(n : Int) < a.tmod n := by
    have := Int.tmod_lt_of_pos (-a) (b := n) (by omega)
    rw [Int.neg_tmod] at this
    omega
  have h3 : 0 ≤ a.tmod n + n := by omega
  have h4 := Int.tmod_lt_of_pos (a.tmod n + n) (b := n) (by omega)
  have h5 : 0 ≤ (a.tmod n + n).tmod n := Int.tmod_nonneg _ h3
  generalize ht : a.tmod n = t at *
  generalize hu : (t + n).tmod n = u at *
  obtain ⟨r, rfl⟩ := Int.eq_ofNat_of_zero_le h5
  exact ⟨t, r, rfl, by unfold wrap64; omega, by unfold wrap64; omega, hu, by rw [hu]; unfold wrap64; omega, by omega, h3⟩
set_option maxRecDepth 100000 in
set_option maxHeartbeats 2000000 in
theorem cut_walk (A : Option Addr) (ps : List (List UInt8)) (cap : Nat) (x : Int) (w : World) (h : SegRows w w.heap.size A ps) (hl : (laid ps).length ≤ 12582912) (hm : ps.length ≤ 1048576) (hcp : ps.length ≤ cap) :
    Calls Try.prog 8 #[.slice A ps.length cap, .int .i64 x] w fun e w' => e = .returned (.bool true) ∧ Below w.heap.size w w' := by
  have cL := lay_some A ps cap w h hl hm
  by_cases hf : Fit ps
  · have c1 := cL.mono (R' := Gives w w.heap.size (fun v => .tuple #[v, .bool true]) (laid ps)) fun e w' hg => hg.1 hf
    obtain ⟨t, r, q1, q2, q3, q4, q5, q6, q7⟩ := brought x ((laid ps).length + 1) (by omega) (by omega)
    have c2 := fun A1 cap1 w1 (hs : Seg w1 w1.heap.size A1 ((laid ps).take r)) (hc : ((laid ps).take r).length ≤ cap1) => All_any A1 ((laid ps).take r) cap1 w1 hs hc (by rw [List.length_take]; omega)
    unfold GivesAll at c2
    have hcut := fhid (fun k => cut_all ps hf k r)
    have h' := fhid h
    have hlr : ((laid ps).take r).length = r := by rw [List.length_take]; omega
    rw [hlr] at c2
    have n0 : ¬ (((laid ps).length : Int) + 1) = 0 := by omega
    rw [show ((((laid ps).length + 1 : Nat)) : Int) = ((laid ps).length : Int) + 1 from rfl] at q1 q2 q3 q4 q5
    clear cL h
    go_enter Try.func8, Try.ntmps8
    go_wp2_with (first
      | (go_at_call 21
         (with_reducible refine c1.mono ?_)
         rintro e w1 ⟨v1, rfl, o1, b1⟩
         obtain ⟨A1, k1, hv1, hle, _, s1⟩ := o1.shape
         subst hv1
         clear o1))
    clear q1 q2 q3 q4 q5 n0 q7 c1
    go_loop [8, 9] (fun i e => ∃ k s : Nat, k ≤ ps.length ∧ i = .int .i64 k ∧ e = .int .i64 s ∧ s = (laid (ps.take k)).length ∧ s ≤ r) (fun i _ => ps.length - (intOf i).toNat)
    case atStart => exact ⟨0, 0, Nat.zero_le _, rfl, rfl, rfl, Nat.zero_le _⟩
    case round =>
      obtain ⟨k, s, hk, rfl, rfl, hs, hsr⟩ := hrel
      replace hs := fhid hs
      by_cases hlt : k < ps.length
      · obtain ⟨b, o, rfl, hb, hc⟩ := h'.out (by omega)
        obtain ⟨Aj, cj, x1, _, _⟩ := hc k hlt
        replace x1 := (b1.cell (p := ⟨b, o + k, none⟩) hb).trans x1
        have i1 : (0 : Int) ≤ k := by omega
        have i2 : (k : Int) < ps.length := by omega
        have hnx := fhid (show (laid (ps.take (k + 1))).length = (laid (ps.take k)).length + (ps[k].length + 12) by rw [laid_take ps k hlt, List.length_append, frame_length])
        have hpl := fhid (show ∃ h : k < ps.length, ps[k].length = ps[k].length from ⟨hlt, rfl⟩)
        have hst := fhid (fun (hno : r < s + ps[k].length + 12) => (show ps.length ≤ k ∨ ∃ hk : k < ps.length, r < (laid (ps.take k)).length + ps[k].length + 12 from .inr ⟨hlt, by rw [← hs.out]; exact hno⟩))
        have hpb : ps[k].length ≤ 65536 := hf _ (List.getElem_mem hlt)
        clear hc hpl
        generalize ps[k].length = pl at *
        by_cases hfit : s + pl + 12 ≤ r
        · have hfi : (s : Int) + pl + 12 ≤ r := by omega
          go_wp2
          go_round
          case rel => exact ⟨k + 1, s + (pl + 12), by omega, by go_num, by go_num, by rw [hnx.out, ← hs.out], by omega⟩
          case measure => simp [intOf]; omega
        · have hfi : ¬ (s : Int) + pl + 12 ≤ r := by omega
          have hao := hcut.out k (by rw [← hs.out]; exact hsr) (hst.out (by omega))
          rw [← hs.out] at hao
          have hlk : (ps.take k).length = k := by rw [List.length_take]; omega
          have c3 := c2 A1 k1 w1 (s1.take r) (by omega)
          rw [hao] at c3
          have cLs := fun (A3 : Option Addr) (k3 : Nat) (w3 : World) (ha : SegRows w3 w3.heap.size A3 (ps.take k)) (hb : SegRows w3 w3.heap.size (some ⟨b, o, none⟩) (ps.take k)) => Lists_same A3 (some ⟨b, o, none⟩) (ps.take k) k3 cap _ w3 ha hb (by omega)
          rw [hlk] at cLs
          have hsl := fhid hlk
          have i4 : (k : Int) ≤ cap := by omega
          have i5 : (r : Int) ≤ k1 := by omega
          have i6 : (0 : Int) ≤ k := by omega
          have i7 : (0 : Int) ≤ r := by omega
          clear c2 hcut hao hlk hs
          generalize hpk : ps.take k = pk at *
          replace hpk := fhid hpk
          go_wp2_with (first
            | (go_at_call 18
               (with_reducible refine c3.mono ?_)
               rintro e w3 ⟨v3, rfl, o3, b3⟩
               obtain ⟨A3, k3, hv3, _, s3⟩ := o3.shape
               rw [hsl.out] at hv3
               subst hv3
               have x3 := b1.trans (b3.mono b1.size)
               have t3 := ((h'.out.below x3).more x3.size).take k
               rw [hpk.out] at t3
               clear o3)
            | (go_at_call 20; (with_reducible refine (cLs A3 k3 w3 s3 t3).mono ?_); rintro e w5 ⟨rfl, q, rfl⟩)
            | (go_at_call 12; refine (alive_any _).mono ?_; rintro e w6 ⟨rfl, b6⟩))
          go_ret
          exact ⟨rfl, (below_drewN x3 q).trans (b6.mono (below_drewN x3 q).size)⟩
      · have h2 : ¬ (k : Int) < ps.length := by omega
        have hao := hcut.out k (by rw [← hs.out]; exact hsr) (.inl (by omega))
        rw [← hs.out] at hao
        have hlk : (ps.take k).length = k := by rw [List.length_take]; omega
        have c3 := c2 A1 k1 w1 (s1.take r) (by omega)
        rw [hao] at c3
        have cLs := fun (A3 : Option Addr) (k3 : Nat) (w3 : World) (ha : SegRows w3 w3.heap.size A3 (ps.take k)) (hb : SegRows w3 w3.heap.size A (ps.take k)) => Lists_same A3 A (ps.take k) k3 cap _ w3 ha hb (by omega)
        rw [hlk] at cLs
        have hsl := fhid hlk
        have i4 : (k : Int) ≤ cap := by omega
        have i5 : (r : Int) ≤ k1 := by omega
        have i6 : (0 : Int) ≤ k := by omega
        have i7 : (0 : Int) ≤ r := by omega
        clear c2 hcut hao hlk hs
        generalize hpk : ps.take k = pk at *
        replace hpk := fhid hpk
        go_wp2_with (first
          | (go_at_call 18
             (with_reducible refine c3.mono ?_)
             rintro e w3 ⟨v3, rfl, o3, b3⟩
             obtain ⟨A3, k3, hv3, _, s3⟩ := o3.shape
             rw [hsl.out] at hv3
             subst hv3
             have x3 := b1.trans (b3.mono b1.size)
             have t3 := ((h'.out.below x3).more x3.size).take k
             rw [hpk.out] at t3
             clear o3)
          | (go_at_call 20; (with_reducible refine (cLs A3 k3 w3 s3 t3).mono ?_); rintro e w5 ⟨rfl, q, rfl⟩)
          | (go_at_call 12; refine (alive_any _).mono ?_; rintro e w6 ⟨rfl, b6⟩))
        go_ret
        exact ⟨rfl, (below_drewN x3 q).trans (b6.mono (below_drewN x3 q).size)⟩
  · have c1 := cL.mono (R' := fun e w' => e = .returned (.tuple #[.slice none 0 0, .bool false]) ∧ Below w.heap.size w w') fun e w' hg => hg.2 hf
    clear cL hf h
    go_enter Try.func8, Try.ntmps8
    go_wp2_with (first
      | (go_at_call 21; (with_reducible refine c1.mono ?_); rintro e w1 ⟨rfl, b1⟩)
      | (go_at_call 12; refine (alive_any _).mono ?_; rintro e w6 ⟨rfl, b6⟩))
    go_ret
    exact ⟨rfl, b1.trans (b6.mono b1.size)⟩
end Go.Proofs.Ytpblpkmlioojiaa
