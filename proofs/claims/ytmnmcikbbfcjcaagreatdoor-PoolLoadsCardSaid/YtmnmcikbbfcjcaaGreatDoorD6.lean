/-
  Parts: KRDSet.
-/
import Derived.Test.YtmnmcikbbfcjcaaGreatDoorD2
set_option linter.unusedSimpArgs false
set_option linter.unusedVariables false
/-
  The document's reader of a line that sets a value.
-/
namespace Go.Proofs.YtmnmcikbbfcjcaaGreatDoor
open Go.RowKit Go.Shelf Vs

theorem rightV_set {vals : List Int} (h : rightV valS vals = true) (hl : vals.length = 8) {i : Nat} (hi : i < 8) (n : Int) : rightV valS (vals.set i n) = rightK i n := by
  obtain ⟨a0, a1, a2, a3, a4, a5, a6, a7, rfl⟩ : ∃ a0 a1 a2 a3 a4 a5 a6 a7, vals = [a0, a1, a2, a3, a4, a5, a6, a7] := by
    match vals, hl with
    | [a0, a1, a2, a3, a4, a5, a6, a7], _ => exact ⟨_, _, _, _, _, _, _, _, rfl⟩
  simp only [rightV, valS, List.zip_cons_cons, List.zip_nil_right, List.all_cons, List.all_nil, Bool.and_eq_true, decide_eq_true_eq] at h
  obtain ⟨h0, h1, h2, h3, h4, h5, h6, h7, -⟩ := h
  rcases (show i = 0 ∨ i = 1 ∨ i = 2 ∨ i = 3 ∨ i = 4 ∨ i = 5 ∨ i = 6 ∨ i = 7 by omega) with rfl | rfl | rfl | rfl | rfl | rfl | rfl | rfl <;>
  · rw [Bool.eq_iff_iff]
    simp [rightV, valS, rightK, inB]
    omega
theorem keys_is : valS.map (·.key) = keysL := rfl
theorem setP_no {c : Cfg} {k v : Str} (h : place keysL k = none ∨ readNumP v = none) : setP c [k, v] = .error 3 := by
  apply setP_none
  unfold putP
  rw [keys_is]
  rcases h with h | h
  · rw [h]
  · rw [h]; cases place keysL k <;> rfl
theorem setP_at {c : Cfg} (hg : GD c) {k v : Str} {i n : Nat} (h : place keysL k = some i) (hn : readNumP v = some n) : setP c [k, v] = if rightK i n = true then .ok { c with vals := c.vals.set i (n : Int) } else .error 12 := by
  have hi : i < 8 := by have := (place_is9 h).1; exact this
  rw [setP_some (vs := c.vals.set i (n : Int)) (by unfold putP; rw [keys_is, h, hn]), rightV_set hg.vv hg.vlen hi]
set_option maxRecDepth 100000 in
set_option maxHeartbeats 8000000 in
theorem rset_any (B b : Nat) (c : Cfg) (vN vV vP vQ : Value) (A : Option Addr) (cap : Nat) (k0 : Str) (os : List Str) (w : World) (h : Doc B w b c vN vV vP vQ) (hg : GD c) (hA : Strs w w.heap.size A (k0 :: os)) (hL : ∀ x ∈ os, x.length ≤ 65536) :
    Calls Tryz.prog 93 #[.pointer (some ⟨b, 0, none⟩), .slice A (k0 :: os).length cap] w (LineD B b (setP c os) w) := by
  have hBw : B ≤ w.heap.size := Nat.le_trans h.bb (Nat.le_of_lt h.lt)
  have hbad := fhid (fun k (W : World) (hs : setP c os = .error k) (hb : Below B w W) => lined_bad (b := b) hs hb)
  have hokk := fhid (fun c' (W : World) (hs : setP c os = .ok c') (hb : Below B w W) vN' vV' vP' vQ' (hr : Doc B W b c' vN' vV' vP' vQ') => lined_ok (b := b) hs hb hr)
  by_cases h2 : os.length = 2
  · obtain ⟨k, v, rfl⟩ : ∃ k v, os = [k, v] := by
      match os, h2 with
      | [k, v], _ => exact ⟨k, v, rfl⟩
    obtain ⟨bb, oo, rfl, hbb, d1⟩ := Strs.at_ hA (k := 1) (by simp)
    obtain ⟨bb', oo', he, _, d2⟩ := Strs.at_ hA (k := 2) (by simp)
    injection he with he
    injection he with he1 he2
    subst he1
    subst he2
    simp only [List.getElem_cons_zero, List.getElem_cons_succ] at d1 d2
    have hvl := hL v (by simp)
    have hno := @setP_no c k v
    have hat0 := @setP_at c hg k v
    have hix := fun g (W : World) (hb : Box W g 9 (SV keysL)) => at_any (some ⟨g, 0, none⟩) 8 8 keysL k W ⟨by decide, by unfold maxLen; omega, fun _ => ⟨g, 0, rfl, Box.lt hb, fun j hj => by rw [Nat.zero_add, Box.cell hb]; exact List.getElem?_eq_getElem hj⟩⟩ (by decide)
    rw [show keysL.take 8 = keysL from rfl] at hix
    have hnm := fun W => rNumber_any9 (str v) W (by rw [str_size]; omega)
    rw [bl_str] at hnm
    have hks := fun W => keys_any W
    have hvr := fun i (hi : i < 8) (n : Int) W => valueRight_any i hi i n rfl W
    have hpl : ∀ i, place keysL k = some i → i < 8 := fun i hi => (place_is9 hi).1
    rw [show (k0 :: [k, v] : List Str).length = 3 from rfl] at *
    generalize setP c [k, v] = R at *
    generalize LineD B b R w = P at *
    generalize str k = KS at *
    generalize str v = VS at *
    generalize hPK : place keysL k = PK at *
    generalize hRN : readNumP v = RN at *
    have hbl := h.lt
    have hB := h.bb
    replace h := fhid h
    replace hA := fhid hA
    replace hL := fhid hL
    replace hg := fhid hg
    replace hPK := fhid hPK
    replace hRN := fhid hRN
    have hcl := hbb
    have hBel : ∀ {W1 : World}, Below w.drew.heap.size w.drew W1 → Below w.heap.size w W1 := fun b1 => ⟨b1.os, b1.tape, b1.output, b1.size, b1.block⟩
    cases PK with
    | none =>
      have hE := fhid (hno (.inl rfl))
      simp only [placeI] at hix
      clear hno hat0 hvr hpl hokk
      cases RN <;>
      · unfold numV at hnm
        simp only at hnm
        go_enter Tryz.func93, Tryz.ntmps93
        go_upto_region 3 with fail
        go_cut [5] (fun s5 wx => s5 = .int .i64 (-1) ∧ Below w.heap.size w wx)
        case first =>
          go_region_with (first
            | (go_at_call 122; (with_reducible refine (hks _).mono ?_); rintro e w1 ⟨g, rfl, hgs, hbx, b1⟩; have e1 := (b1.cell (p := ⟨bb, oo + 1, none⟩) hbb).trans d1; have hb1 := Nat.lt_of_lt_of_le hbb b1.size)
            | (go_at_call 96; (with_reducible refine (hix _ _ hbx).mono ?_); rintro e w2 ⟨rfl, rfl⟩))
          all_goals
            go_wp2_with fail
            go_meet
            first | exact ⟨rfl, b1⟩ | exact ⟨rfl, hBel b1⟩
        case rest =>
          obtain ⟨rfl, b1⟩ := hcut
          have e2 := (b1.cell (p := ⟨bb, oo + 2, none⟩) hbb).trans d2
          have hb1 := Nat.lt_of_lt_of_le hbb b1.size
          go_wp2_with (go_at_call 123; (with_reducible refine (hnm _).mono ?_); rintro e w3 ⟨rfl, rfl⟩)
          exact hbad.out 3 _ hE.out (b1.mono hBw)
    | some i =>
      have hi := hpl i rfl
      simp only [placeI] at hix
      have i0 : (0 : Int) ≤ i := by omega
      have i8 : (i : Int) < 8 := by omega
      have hin : ¬ (i : Int) < 0 := by omega
      cases RN with
      | none =>
        have hE := fhid (hno (.inr rfl))
        unfold numV at hnm
        simp only at hnm
        clear hno hat0 hvr hpl hokk
        go_enter Tryz.func93, Tryz.ntmps93
        go_upto_region 3 with fail
        go_cut [5] (fun s5 wx => s5 = .int .i64 (i : Int) ∧ Below w.heap.size w wx)
        case first =>
          go_region_with (first
            | (go_at_call 122; (with_reducible refine (hks _).mono ?_); rintro e w1 ⟨g, rfl, hgs, hbx, b1⟩; have e1 := (b1.cell (p := ⟨bb, oo + 1, none⟩) hbb).trans d1; have hb1 := Nat.lt_of_lt_of_le hbb b1.size)
            | (go_at_call 96; (with_reducible refine (hix _ _ hbx).mono ?_); rintro e w2 ⟨rfl, rfl⟩))
          all_goals
            go_wp2_with fail
            go_meet
            first | exact ⟨rfl, b1⟩ | exact ⟨rfl, hBel b1⟩
        case rest =>
          obtain ⟨rfl, b1⟩ := hcut
          have e2 := (b1.cell (p := ⟨bb, oo + 2, none⟩) hbb).trans d2
          have hb1 := Nat.lt_of_lt_of_le hbb b1.size
          go_wp2_with (go_at_call 123; (with_reducible refine (hnm _).mono ?_); rintro e w3 ⟨rfl, rfl⟩)
          exact hbad.out 3 _ hE.out (b1.mono hBw)
      | some n =>
        have hE := fhid (hat0 rfl rfl)
        have hvr2 := fun W => hvr i hi (n : Int) W
        unfold numV at hnm
        simp only at hnm
        generalize hRK : rightK i (n : Int) = RK at *
        replace hRK := fhid hRK
        clear hno hat0 hvr hpl
        go_enter Tryz.func93, Tryz.ntmps93
        go_upto_region 3 with fail
        go_cut [5] (fun s5 wx => s5 = .int .i64 (i : Int) ∧ Below w.heap.size w wx)
        case first =>
          go_region_with (first
            | (go_at_call 122; (with_reducible refine (hks _).mono ?_); rintro e w1 ⟨g, rfl, hgs, hbx, b1⟩; have e1 := (b1.cell (p := ⟨bb, oo + 1, none⟩) hbb).trans d1; have hb1 := Nat.lt_of_lt_of_le hbb b1.size)
            | (go_at_call 96; (with_reducible refine (hix _ _ hbx).mono ?_); rintro e w2 ⟨rfl, rfl⟩))
          all_goals
            go_wp2_with fail
            go_meet
            first | exact ⟨rfl, b1⟩ | exact ⟨rfl, hBel b1⟩
        case rest =>
          obtain ⟨rfl, b1⟩ := hcut
          obtain ⟨w1, rfl⟩ : ∃ w1 : World, w1 = wc := ⟨_, rfl⟩
          have e2 := (b1.cell (p := ⟨bb, oo + 2, none⟩) hbb).trans d2
          have hb1 := Nat.lt_of_lt_of_le hbb b1.size
          have D1 := fhid (h.out.below b1)
          have hbl1 := D1.out.lt
          cases RK with
          | false =>
            go_wp2_with (first
              | (go_at_call 123; (with_reducible refine (hnm _).mono ?_); rintro e w3 ⟨rfl, rfl⟩)
              | (go_at_call 105; (with_reducible refine (hvr2 _).mono ?_); rintro e w4 ⟨rfl, b4⟩))
            exact hbad.out 12 _ (by rw [hE.out]; exact if_neg (by decide)) ((b1.trans (b4.mono b1.size)).mono hBw)
          | true =>
            go_upto_region 9 with (first
              | (go_at_call 123; (with_reducible refine (hnm _).mono ?_); rintro e w3 ⟨rfl, rfl⟩)
              | (go_at_call 105; (with_reducible refine (hvr2 _).mono ?_); rintro e w4 ⟨rfl, b4⟩))
            have D4 := D1.out.below b4
            have z4 : w4.cell? ⟨b, 4 + i, none⟩ = some (.int .i64 (c.vals[i]'(by rw [D4.len]; exact hi))) := VBox.cell D4.box (by rw [D4.len]; exact hi) rfl
            have y4 := D4.fields.2.1 (4 + i)
            have hbl4 := D4.lt
            have D5 := fhid (D4.value i (4 + i) hi rfl (n : Int))
            replace D4 := fhid D4
            go_wp2_with fail
            exact hokk.out _ _ (hE.out.trans (if_pos trivial)) (((b1.trans (b4.mono b1.size)).mono hBw).setCell (p := ⟨b, 4 + i, none⟩) hB _) _ _ _ _ D5.out
  · have hE := fhid (setP_len (c := c) h2)
    have i2 : (((k0 :: os).length : Int) != 3) = true := by simp; omega
    have i3 : ¬ ((k0 :: os).length : Int) = 3 := by simp; omega
    generalize (k0 :: os).length = N at *
    generalize setP c os = R at *
    generalize LineD B b R w = P at *
    replace h := fhid h
    replace hg := fhid hg
    go_enter Tryz.func93, Tryz.ntmps93
    go_wp2_with fail
    exact hbad.out 3 _ hE.out (Below.refl _ _)
end Go.Proofs.YtmnmcikbbfcjcaaGreatDoor
