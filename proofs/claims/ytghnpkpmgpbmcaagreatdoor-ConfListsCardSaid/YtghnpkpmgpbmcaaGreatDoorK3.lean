/-
  Parts: KRSet KRQos.
-/
import Derived.Test.YtghnpkpmgpbmcaaGreatDoorK2
import Derived.Deep.RegionHeld3
import Derived.BigQuiet
import Derived.Lib.QuietBelow
set_option linter.unusedSimpArgs false
set_option linter.unusedVariables false
/-
  A line that sets a value.
-/
namespace Go.Proofs.YtghnpkpmgpbmcaaGreatDoor
open Go.RowKit Go.Shelf Vs

/-- What a call that reads a line comes to. -/
def LineP (B b : Nat) (X : Nat → Prop) (r : Line) (w : World) (e : Ending) (w' : World) : Prop := Below B w w' ∧ FX X w w' ∧ match r with
  | .error k => e = .returned (.int .i64 (k : Int))
  | .ok c' => e = .returned (.int .i64 0) ∧ ∃ vN vV vP vQ m0 m1 m2, Rdr B w' b c' vN vV vP vQ m0 m1 m2 ∧ ∀ k, Own b vN vV vP vQ m0 m1 m2 k → X k ∨ w.heap.size ≤ k
theorem line_bad {B b k : Nat} {X : Nat → Prop} {r : Line} {w w' : World} (h : r = .error k) (hb : Below B w w') (hx : FX X w w') : LineP B b X r w (.returned (.int .i64 (k : Int))) w' := by subst h; exact ⟨hb, hx, rfl⟩
theorem line_ok {B b : Nat} {X : Nat → Prop} {r : Line} {c : Cfg} {w w' : World} {vN vV vP vQ : Value} {m0 m1 m2 : Nat} (h : r = .ok c) (hb : Below B w w') (hx : FX X w w') (hr : Rdr B w' b c vN vV vP vQ m0 m1 m2) (ho : ∀ k, Own b vN vV vP vQ m0 m1 m2 k → X k ∨ w.heap.size ≤ k) : LineP B b X r w (.returned (.int .i64 0)) w' := by subst h; exact ⟨hb, hx, rfl, _, _, _, _, _, _, _, hr, ho⟩
theorem setP_len {c : Cfg} {ws : List Str} (h : ws.length ≠ 2) : setP c ws = .error 3 := by
  match ws, h with
  | [], _ => rfl
  | [_], _ => rfl
  | [_, _], h => exact absurd rfl h
  | _ :: _ :: _ :: _, _ => rfl
theorem setP_none {c : Cfg} {k v : Str} (h : putP valS c.vals k v = none) : setP c [k, v] = .error 3 := by unfold setP; simp only [h]
theorem setP_some {c : Cfg} {k v : Str} {vs : List Int} (h : putP valS c.vals k v = some vs) : setP c [k, v] = if rightV valS vs = true then .ok { c with vals := vs } else .error 12 := by unfold setP; simp only [h]
/-- The reader's block is kept apart from the words. -/
def Apart (A : Option Addr) (b : Nat) : Prop := ∀ bb oo, A = some ⟨bb, oo, none⟩ → bb ≠ b
set_option maxRecDepth 100000 in
set_option maxHeartbeats 2000000 in
theorem readSet_any (B b : Nat) (c : Cfg) (vN vV vP vQ : Value) (m0 m1 m2 : Nat) (A : Option Addr) (cap : Nat) (ws : List Str) (w : World) (h : Rdr B w b c vN vV vP vQ m0 m1 m2) (hw : EnvAt B w) (hA : Strs w w.heap.size A ws) (hL : ∀ x ∈ ws, x.length ≤ 65536) (hcap : ws.length ≤ cap) (hAb : Apart A b) :
    Calls Tryz.prog 118 #[.pointer (some ⟨b, 0, none⟩), .slice A ws.length cap] w (LineP B b (Own b vN vV vP vQ m0 m1 m2) (setP c ws) w) := by
  have hBw : B ≤ w.heap.size := Nat.le_trans h.bb (Nat.le_of_lt (Box.lt h.box))
  have hbad := fhid (fun k (W : World) (hs : setP c ws = .error k) (hb : Below B w W) (hx : FX (Own b vN vV vP vQ m0 m1 m2) w W) => line_bad (b := b) hs hb hx)
  have hokk := fhid (fun c' (W : World) (hs : setP c ws = .ok c') (hb : Below B w W) (hx : FX (Own b vN vV vP vQ m0 m1 m2) w W) (hr : Rdr B W b c' vN vV vP vQ m0 m1 m2) => line_ok (b := b) hs hb hx hr fun k hk => .inl hk)
  by_cases hlen : ws.length = 2
  · obtain ⟨k, v, rfl⟩ : ∃ k v, ws = [k, v] := by
      match ws, hlen with
      | [k, v], _ => exact ⟨k, v, rfl⟩
    obtain ⟨A', cap', hsl, rfl⟩ : ∃ A' cap', A = A' ∧ cap = cap' := ⟨_, _, rfl, rfl⟩
    obtain ⟨bb, oo, rfl, hbb, hc0⟩ := Strs.at_ hA (k := 0) (by simp)
    obtain ⟨bb', oo', he, _, hc1⟩ := Strs.at_ hA (k := 1) (by simp)
    injection he with he
    injection he with he1 he2
    subst he1
    subst he2
    simp only [List.getElem_cons_zero, List.getElem_cons_succ, Nat.add_zero] at hc0 hc1
    have hbne := hAb bb oo rfl
    clear hAb
    clear hsl
    have hva := fun b W => values_any b W
    unfold MadeN at hva
    have hput := fun g (W : World) (hW : Env W) hN (hV : VBox W b TReader [vN, vV, vP, vQ] c.vals [.map (some m0), .map (some m1), .map (some m2)]) => put_any g b valS 4 TReader [vN, vV, vP, vQ] c.vals [.map (some m0), .map (some m1), .map (some m2)] k (str v) W hW hN hV rfl h.len (by decide) (by rw [str_size]; have := hL v (by simp); omega)
    unfold PutP at hput
    rw [bl_str] at hput
    have hrn := fun g vs (W : World) hN (hV : VBox W b TReader [vN, vV, vP, vQ] vs [.map (some m0), .map (some m1), .map (some m2)]) (hl : vs.length = 8) => rightNumbers_any g b valS 4 TReader [vN, vV, vP, vQ] vs [.map (some m0), .map (some m1), .map (some m2)] W hN hV rfl hl (by decide)
    unfold BoolP at hrn
    rw [show valS.length = 8 from rfl] at hva hput hrn
    have hsn := @setP_none c k v
    have hss := @setP_some c k v
    have hpl := @putP_len valS c.vals
    have hbox := fhid h.box
    have hbl := Box.lt h.box
    replace h := fhid h
    replace hw := fhid hw
    replace hA := fhid hA
    replace hL := fhid hL
    have hbb2 : bb < w.heap.size := hbb
    have hbB : B ≤ b := h.out.bb
    rw [show ([k, v] : List Str).length = 2 from rfl] at *
    generalize setP c [k, v] = R at *
    generalize LineP B b (Own b vN vV vP vQ m0 m1 m2) R w = P at *
    generalize str k = KS at *
    generalize str v = VS at *
    cases hp : putP valS c.vals k v with
    | none =>
      have hE := fhid (hsn hp)
      simp only [hp, Option.isSome, Option.getD] at hput
      clear hsn hss hrn hpl
      replace hp := fhid hp
      go_enter Tryz.func118, Tryz.ntmps118
      go_upto_region 1 with fail
      have z : w.drew.cell? ⟨bb, oo, none⟩ = some (.string KS) ∧ w.drew.cell? ⟨bb, oo + 1, none⟩ = some (.string VS) := ⟨hc0, hc1⟩
      have bd : Below w.heap.size w w.drew := (Below.refl _ _).drew
      go_region_held3 (fun w' => w'.cell? ⟨bb, oo, none⟩ = some (.string KS) ∧ w'.cell? ⟨bb, oo + 1, none⟩ = some (.string VS)) (first | exact z | fail)
        (first
          | (go_at_call 53
             (with_reducible refine (hva _ _).mono ?_)
             rintro e w1 ⟨g, rfl, hgs, hN, b1'⟩
             have b1 := bd.trans b1'
             have z : w1.cell? ⟨bb, oo, none⟩ = some (.string KS) ∧ w1.cell? ⟨bb, oo + 1, none⟩ = some (.string VS) := ⟨(b1.cell (p := ⟨bb, oo, none⟩) hbb).trans hc0, (b1.cell (p := ⟨bb, oo + 1, none⟩) hbb).trans hc1⟩
             clear b1')
          | (go_at_call 150
             (with_reducible refine (hput _ _ (hw.out.below (b1.mono hBw)).env hN (VBox.below hbox.out b1 hbl)).mono ?_)
             rintro e w2 ⟨rfl, hV2, a2⟩
             have z : w2.cell? ⟨bb, oo, none⟩ = some (.string KS) ∧ w2.cell? ⟨bb, oo + 1, none⟩ = some (.string VS) := ⟨(a2.cell (p := ⟨bb, oo, none⟩) (Nat.lt_of_lt_of_le hbb b1.size) hbne).trans z.1, (a2.cell (p := ⟨bb, oo + 1, none⟩) (Nat.lt_of_lt_of_le hbb b1.size) hbne).trans z.2⟩))
      go_wp2_with fail
      exact hbad.out 3 _ hE.out ((b1.mono hBw).trans (a2.below hbB (Nat.le_trans hBw b1.size))) ((FX.of b1).aft a2 (.inl (.inl rfl)))
    | some vs =>
      have hE := fhid (hss hp)
      have hpl2 := (hpl hp).trans h.out.len
      simp only [hp, Option.isSome, Option.getD] at hput
      clear hsn hss hpl
      replace hp := fhid hp
      have hrn2 := fun g W hN hV => hrn g vs W hN hV hpl2
      clear hrn
      generalize hRV : rightV valS vs = RV at *
      replace hRV := fhid hRV
      go_enter Tryz.func118, Tryz.ntmps118
      go_upto_region 1 with fail
      have z : w.drew.cell? ⟨bb, oo, none⟩ = some (.string KS) ∧ w.drew.cell? ⟨bb, oo + 1, none⟩ = some (.string VS) := ⟨hc0, hc1⟩
      have bd : Below w.heap.size w w.drew := (Below.refl _ _).drew
      go_region_held3 (fun w' => w'.cell? ⟨bb, oo, none⟩ = some (.string KS) ∧ w'.cell? ⟨bb, oo + 1, none⟩ = some (.string VS)) (first | exact z | fail)
        (first
          | (go_at_call 53
             (with_reducible refine (hva _ _).mono ?_)
             rintro e w1 ⟨g, rfl, hgs, hN, b1'⟩
             have b1 := bd.trans b1'
             have z : w1.cell? ⟨bb, oo, none⟩ = some (.string KS) ∧ w1.cell? ⟨bb, oo + 1, none⟩ = some (.string VS) := ⟨(b1.cell (p := ⟨bb, oo, none⟩) hbb).trans hc0, (b1.cell (p := ⟨bb, oo + 1, none⟩) hbb).trans hc1⟩
             clear b1')
          | (go_at_call 150
             (with_reducible refine (hput _ _ (hw.out.below (b1.mono hBw)).env hN (VBox.below hbox.out b1 hbl)).mono ?_)
             rintro e w2 ⟨rfl, hV2, a2⟩
             have z : w2.cell? ⟨bb, oo, none⟩ = some (.string KS) ∧ w2.cell? ⟨bb, oo + 1, none⟩ = some (.string VS) := ⟨(a2.cell (p := ⟨bb, oo, none⟩) (Nat.lt_of_lt_of_le hbb b1.size) hbne).trans z.1, (a2.cell (p := ⟨bb, oo + 1, none⟩) (Nat.lt_of_lt_of_le hbb b1.size) hbne).trans z.2⟩))
      have q2 := (b1.mono hBw).trans (a2.below hbB (Nat.le_trans hBw b1.size))
      have hV2' := hV2
      have hl2 := Box.lt hV2
      cases RV with
      | false =>
        go_wp2_with (first
          | (go_at_call 53; (with_reducible refine (hva _ _).mono ?_); rintro e w3 ⟨g3, rfl, hgs3, hN3, b3⟩)
          | (go_at_call 58; (with_reducible refine (hrn2 _ _ hN3 (VBox.below hV2 b3 hl2)).mono ?_); rintro e w4 ⟨rfl, b4⟩))
        have q4 := (b3.trans (b4.mono b3.size)).mono (Nat.le_trans hBw (Nat.le_trans b1.size a2.size))
        exact hbad.out 12 _ (by rw [hE.out]; exact if_neg (by simp)) (q2.trans q4) (((FX.of b1).aft a2 (.inl (.inl rfl))).on (b3.trans (b4.mono b3.size)))
      | true =>
        go_wp2_with (first
          | (go_at_call 53; (with_reducible refine (hva _ _).mono ?_); rintro e w3 ⟨g3, rfl, hgs3, hN3, b3⟩)
          | (go_at_call 58; (with_reducible refine (hrn2 _ _ hN3 (VBox.below hV2 b3 hl2)).mono ?_); rintro e w4 ⟨rfl, b4⟩))
        have q4 := (b3.trans (b4.mono b3.size)).mono (Nat.le_trans hBw (Nat.le_trans b1.size a2.size))
        have hr1 := h.out.below b1
        exact hokk.out _ _ (by rw [hE.out]; exact if_pos (by simp)) (q2.trans q4) (((FX.of b1).aft a2 (.inl (.inl rfl))).on (b3.trans (b4.mono b3.size))) ((hr1.values a2 hV2' hpl2).below (b3.trans (b4.mono b3.size)))
  · have hE := fhid (setP_len (c := c) hlen)
    have i2 : ((ws.length : Int) != 2) = true := by simp; omega
    have i3 : ¬ (ws.length : Int) = 2 := by omega
    generalize setP c ws = R at *
    generalize LineP B b (Own b vN vV vP vQ m0 m1 m2) R w = P at *
    replace h := fhid h
    go_enter Tryz.func118, Tryz.ntmps118
    go_wp2_with fail
    go_quiet (fail)
    go_wp2
    exact hbad.out 3 _ hE.out (Vs.below_drewN (Below.refl _ _) _) (FX.of (Vs.below_drewN (Below.refl _ _) _))
end Go.Proofs.YtghnpkpmgpbmcaaGreatDoor
/-
  A line that tells a quality.
-/
namespace Go.Proofs.YtghnpkpmgpbmcaaGreatDoor
open Go.RowKit Go.Shelf Vs

theorem qosP_nil {c : Cfg} : qosP c [] = .error 3 := rfl
theorem qosP_name {c : Cfg} {n : Str} {os : List Str} (h : isNameP n = false) : qosP c (n :: os) = .error 3 := by unfold qosP; simp only [h]
theorem qosP_opts {c : Cfg} {n : Str} {os : List Str} (h : optsP qosS os [] (untold qosS) = none) : qosP c (n :: os) = .error 3 := by
  unfold qosP
  dsimp only
  rw [h]
  cases isNameP n <;> rfl
theorem qosP_ok {c : Cfg} {n : Str} {os : List Str} {r : List Int} (h1 : isNameP n = true) (h : optsP qosS os [] (untold qosS) = some r) : qosP c (n :: os) = if n ∈ c.qos.map (·.name) then .error 7 else if 16 < c.qos.length + 1 then .error 5 else if qosWrong (qosOf n r) = true then .error 12 else .ok { c with qos := c.qos ++ [qosOf n r] } := by
  unfold qosP
  simp only [h1, h]
/-- What is left of words behind the first one. -/
theorem strs_rest {w : World} {B bb oo cap : Nat} {n : Str} {os : List Str} (h : Strs w B (some ⟨bb, oo, none⟩) (n :: os)) (hc : (n :: os).length ≤ cap) : ∃ oq, Strs w B (some ⟨bb, oq, none⟩) os ∧ ((cap = 1 ∧ oq = oo) ∨ (¬ cap = 1 ∧ oq = oo + 1)) := by
  have := SegC.drop (k := 1) (cap := cap) h (by rw [SV_len]; simp) (by rw [SV_len]; exact hc)
  by_cases e : cap = 1
  · rw [if_pos e] at this
    exact ⟨oo, this, .inl ⟨e, rfl⟩⟩
  · rw [if_neg e] at this
    have ha : (⟨bb, oo, none⟩ : Addr).add 1 = ⟨bb, oo + 1, none⟩ := rfl
    exact ⟨oo + 1, by rw [Option.map_some, ha] at this; exact this, .inr ⟨e, rfl⟩⟩
theorem apart_of {bb oo b : Nat} (h : bb ≠ b) : Apart (some ⟨bb, oo, none⟩) b := by
  intro b2 o2 e
  injection e with e
  injection e with e1 e2
  exact e1 ▸ h
/-- What is left of words behind the first so many. -/
def dropA (cap k : Nat) (bb oo : Nat) : Option Addr := if cap = k then some ⟨bb, oo, none⟩ else some ⟨bb, oo + k, none⟩
theorem strs_drop {w : World} {B bb oo k cap : Nat} {ws : List Str} (h : Strs w B (some ⟨bb, oo, none⟩) ws) (hk : k ≤ ws.length) (hc : ws.length ≤ cap) : Strs w B (dropA cap k bb oo) (ws.drop k) := by
  have := SegC.drop (k := k) (cap := cap) h (by rw [SV_len]; exact hk) (by rw [SV_len]; exact hc)
  unfold Strs
  rw [show SV (ws.drop k) = (SV ws).drop k by simp [SV, List.map_drop]]
  unfold dropA
  by_cases e : cap = k
  · rw [if_pos e] at this ⊢; exact this
  · rw [if_neg e] at this ⊢
    have ha : (⟨bb, oo, none⟩ : Addr).add k = ⟨bb, oo + k, none⟩ := by unfold Addr.add; split <;> simp_all
    simpa [ha] using this
theorem strs_below {w w' : World} {B B' : Nat} {A : Option Addr} {ws : List Str} (h : Strs w B A ws) (hb : Below B w w') (hB : B ≤ B') : Strs w' B' A ws := (SegC.below h hb).more hB
abbrev TQoss : TypeId := 26
theorem qos_one (q : QosC) : ∀ u ∈ qosV q, u.oneCell' = true := by
  intro u hu
  simp [qosV] at hu
  rcases hu with rfl | rfl | rfl <;> rfl
theorem QVs_app (l : List QosC) (q : QosC) : QVs (l ++ [q]) = QVs l ++ qosV q := by simp [QVs, List.flatMap_append]
/-- A quality put behind a row of qualities. -/
theorem app_qos {W : World} {B : Nat} {vQ : Value} {l : List QosC} {q : QosC} (h : OwnQ W B vQ l) (hl : l.length ≤ 1000) (hB : B ≤ W.heap.size) (g : Nat) (hg : Box W g TQos (qosV q)) (ty : TypeId) :
    ∃ A' c' w', (Builtin.append_ #[TQoss, TQoss] ty #[vQ, .slice (some ⟨g, 0, none⟩) 1 1]).run Tryz.prog W = .ok (.slice A' (l.length + 1) c') w' ∧ OwnQ w' B (.slice A' (l.length + 1) c') (l ++ [q]) ∧ W.grownBy w' vQ.ownBlock ∧ ((Value.slice A' (l.length + 1) c').ownBlock = vQ.ownBlock ∨ (Value.slice A' (l.length + 1) c').ownBlock = some W.heap.size) := by
  obtain ⟨v', w', h1, h2, h3, h4⟩ := app_run (w := W) TQoss TQos _ 3 32 Tryz.underlying26 infoQos rfl (by decide) ty B vQ l.length (QVs l) h W.heap.size (some ⟨g, 0, none⟩) 1 1 (qosV q) (fun _ => ⟨g, 0, rfl, Box.lt hg, fun j hj => by rw [Nat.zero_add, Box.cell hg]; exact List.getElem?_eq_getElem hj⟩) rfl (qos_one q) (by omega) (by omega) hB
  obtain ⟨A', c', rfl, -, -, -⟩ := ownsRow_shape h2
  exact ⟨A', c', w', h1, by unfold OwnQ; rw [QVs_app, List.length_append, List.length_singleton]; exact h2, h3, h4⟩
set_option maxRecDepth 100000 in
set_option maxHeartbeats 4000000 in
theorem readQos_any (B b : Nat) (c : Cfg) (vN vV vP vQ : Value) (m0 m1 m2 : Nat) (A : Option Addr) (cap : Nat) (ws : List Str) (w : World) (h : Rdr B w b c vN vV vP vQ m0 m1 m2) (hw : EnvAt B w) (hA : Strs w w.heap.size A ws) (hL : ∀ x ∈ ws, x.length ≤ 65536) (hws : ws.length ≤ 65536) (hcap : ws.length ≤ cap) (hcm : cap ≤ 9223372036854775807) (hq : c.qos.length ≤ 16) :
    Calls Tryz.prog 117 #[.pointer (some ⟨b, 0, none⟩), .slice A ws.length cap] w (LineP B b (Own b vN vV vP vQ m0 m1 m2) (qosP c ws) w) := by
  have hBw : B ≤ w.heap.size := Nat.le_trans h.bb (Nat.le_of_lt (Box.lt h.box))
  have hbad := fhid (fun k (W : World) (hs : qosP c ws = .error k) (hb : Below B w W) (hx : FX (Own b vN vV vP vQ m0 m1 m2) w W) => line_bad (b := b) hs hb hx)
  have hokk := fhid (fun c' (W : World) (hs : qosP c ws = .ok c') (hb : Below B w W) (hx : FX (Own b vN vV vP vQ m0 m1 m2) w W) vN' vV' vP' vQ' m0' m1' m2' (hr : Rdr B W b c' vN' vV' vP' vQ' m0' m1' m2') (ho : ∀ k, Own b vN' vV' vP' vQ' m0' m1' m2' k → Own b vN vV vP vQ m0 m1 m2 k ∨ w.heap.size ≤ k) => line_ok (b := b) hs hb hx hr ho)
  cases ws with
  | nil =>
    have hE := fhid (qosP_nil (c := c))
    generalize qosP c [] = R at *
    generalize LineP B b (Own b vN vV vP vQ m0 m1 m2) R w = P at *
    replace h := fhid h
    rw [show ([] : List Str).length = 0 from rfl] at *
    go_enter Tryz.func117, Tryz.ntmps117
    go_wp2_with fail
    exact hbad.out 3 _ hE.out (Below.refl _ _) (FX.of (Below.refl _ _))
  | cons n os =>
    obtain ⟨bb, oo, rfl, hbb, hc0⟩ := Strs.at_ hA (k := 0) (by simp)
    simp only [List.getElem_cons_zero, Nat.add_zero] at hc0
    have hnl := hL n (by simp)
    have hos : ∀ x ∈ os, x.length ≤ 65536 := fun x hx => hL x (by simp [hx])
    obtain ⟨oq, hdr, hcase⟩ := strs_rest hA hcap
    have hnew := fun W => newQos_any n W
    have hna := fun W => isName_any (str n) W (wsz n hnl)
    simp only [bl_str] at hna
    unfold BoolP at hna
    have hop := fun b W => qosOptions_any b W
    unfold MadeN at hop
    have hro := fun g bq (W : World) (hE : EnvAt bq W) hN (hV : VBox W bq TQos [.string (str n)] (untold qosS) []) (hgb : g ≠ bq) A' cap' (hA : Strs W W.heap.size A' os) (hAb : Apart A' bq) => readOptions_any g bq qosS 1 TQos [.string (str n)] (untold qosS) [] A' cap' os W hE hN hV rfl rfl hgb (by decide) hA hAb hos (by simp only [List.length_cons] at hws; omega)
    unfold OptsP at hro
    rw [show qosS.length = 2 from rfl] at hop hro
    have hqn := @qosP_name c n os
    have hqo := @qosP_opts c n os
    have hqk := fun r => @qosP_ok c n os r
    have hlen1 : (n :: os).length = os.length + 1 := rfl
    rw [hlen1] at hcap hws ⊢
    generalize qosP c (n :: os) = R at *
    generalize LineP B b (Own b vN vV vP vQ m0 m1 m2) R w = P at *
    have hqv : qosV (qosOf n (untold qosS)) = [.string (str n), .int .i64 0, .int .i64 1024] := rfl
    rw [hqv] at hnew
    have hadd := fun (m : Nat) (l : List Str) (W : World) (h : SMap W m l) => add_any m l n W h
    unfold AddP at hadd
    have hwr := fun x y W => qosWrong_any ⟨n, x, y⟩ W hnl
    unfold BoolP at hwr
    simp only [qosV] at hwr
    have i0 : ¬ ((os.length : Int) + 1 < 1) := by omega
    have i00 : (0 : Int) < (os.length : Int) + 1 := by omega
    have i1 : (1 : Int) ≤ (os.length : Int) + 1 := by omega
    have i2 : ((os.length : Int) + 1) ≤ cap := by omega
    have i3 : (cap : Int) ≤ 9223372036854775807 := by omega
    generalize hNS : str n = NS at *
    replace h := fhid h
    replace hw := fhid hw
    replace hA := fhid hA
    replace hL := fhid hL
    replace hdr := fhid hdr
    replace hNS := fhid hNS
    replace hlen1 := fhid hlen1
    generalize hm : os.length = m at *
    replace hm := fhid hm
    have hm0 : (cap = 1 ∧ oq = oo ∧ m = 0) ∨ (¬ cap = 1 ∧ oq = oo + 1) := by
      rcases hcase with ⟨e1, e2⟩ | ⟨e1, e2⟩
      · exact .inl ⟨e1, e2, by omega⟩
      · exact .inr ⟨e1, e2⟩
    clear hcase
    rcases hm0 with ⟨rfl, rfl, rfl⟩ | ⟨hc1, rfl⟩
    all_goals
      go_enter Tryz.func117, Tryz.ntmps117
      go_upto_region 4 with (go_at_call 43; (with_reducible refine (hnew _).mono ?_); rintro e w1 ⟨rfl, b1⟩)
      have V2 := fhid (show VBox (w1.alloc (.cells #[.string NS, .int .i64 0, .int .i64 1024] TQos)) w1.heap.size TQos [.string NS] (untold qosS) [] from Box.new w1 TQos [.string NS, .int .i64 0, .int .i64 1024])
      have B2 := b1.trans (((Below.refl w1.heap.size w1).alloc (Nat.le_refl _) (.cells #[.string NS, .int .i64 0, .int .i64 1024] TQos)).mono b1.size)
      have hz2 : w1.heap.size < (w1.alloc (.cells #[.string NS, .int .i64 0, .int .i64 1024] TQos)).heap.size := by simp
      have hbq : w.heap.size ≤ w1.heap.size := b1.size
      generalize w1.heap.size = bq at *
      generalize w1.alloc _ = w2 at *
      clear b1
      have z0 : w2.drew.cell? ⟨bq, 0, none⟩ = some (.string NS) := Box.cell V2.out 0
      have d2 : Below w2.heap.size w2 w2.drew := (Below.refl _ _).drew
      have V2l := Box.lt V2.out
      have hbbq : bb ≠ bq := by omega
      cases hn : isNameP n with
      | false =>
        have hE := fhid (hqn hn)
        rw [hn] at hna
        clear hqn hqo hqk hop hro hwr hadd hnew
        replace hn := fhid hn
        have cz := fun d os => cell_regrown (show w2.cell? ⟨bq, 0, none⟩ = some (.string NS) from Box.cell V2.out 0) d os
        have cm := fun d os => Calls.regrown_of (hna (Sort.grow (redrawn w2 d) os))
        clear hna z0 d2 hc0
        refine wp_region_quiet_below (by kernel_rfl) (by kernel_rfl) ?_
        repeat (first | go_big_quiet_step ((exact cm _ _)) | quiet_step ((exact cm _ _)))
        refine wpQuiet_nil ?_
        rintro w9 ⟨pq, rfl⟩
        have b9 := below_regrown w2 pq.d pq.os
        go_wp2_with fail
        exact hbad.out 3 _ hE.out ((B2.trans (b9.mono B2.size)).mono hBw) (FX.of (B2.trans (b9.mono B2.size)))
      | true =>
        rw [hn] at hna
        have hqk2 := fun r => hqk r hn
        clear hqn hqk hnew
        replace hn := fhid hn
        generalize hop2 : optsP qosS os [] (untold qosS) = O at *
        cases O with
        | none =>
          have hE := fhid (hqo rfl)
          simp only [Option.isSome] at hro
          clear hqo hqk2 hwr hadd
          replace hop2 := fhid hop2
          have z := z0
          go_region_held3 (fun w' => w'.cell? ⟨bq, 0, none⟩ = some (.string NS)) (first | exact z | fail)
            (first
              | (go_at_call 135
                 (with_reducible refine (hna _).mono ?_)
                 rintro e w3 ⟨rfl, b3'⟩
                 have b3 := d2.trans b3'
                 have z := (b3.cell (p := ⟨bq, 0, none⟩) V2l).trans z0)
              | (go_at_call 84
                 (with_reducible refine (hop _ _).mono ?_)
                 rintro e w4 ⟨g, rfl, hgs, hN, b4'⟩
                 have b4 := b3.trans (b4'.mono b3.size)
                 have hgq : g ≠ bq := by have := b3.size; omega
                 have z := (b4.cell (p := ⟨bq, 0, none⟩) V2l).trans z0
                 have B4 := B2.trans (b4.mono B2.size)
                 have V4 := VBox.below V2.out b4 V2l
                 have E4 := (hw.out.below (B4.mono hBw)).mono (Nat.le_trans hBw hbq)
                 have A4 := strs_below hdr.out B4 B4.size)
              | (go_at_call 149
                 (with_reducible refine (hro _ bq _ E4 hN V4 hgq _ _ A4 (apart_of hbbq)).mono ?_)
                 rintro e w5 ⟨rfl, a5, vs5, V5, l5, p5⟩
                 have z : w5.cell? ⟨bq, 0, none⟩ = some (.string NS) := Box.cell V5 0))
          go_wp2_with fail
          exact hbad.out 3 _ hE.out ((B4.mono hBw).trans (a5.below (Nat.le_trans hBw hbq) (Nat.le_trans hBw B4.size))) ((FX.of B4).aft a5 (.inr hbq))
        | some r =>
          simp only [Option.isSome] at hro
          clear hqo
          have hR1 := fhid (hqk2 r rfl)
          clear hqk2
          replace hop2 := fhid hop2
          have z := z0
          go_region_held3 (fun w' => w'.cell? ⟨bq, 0, none⟩ = some (.string NS)) (first | exact z | fail)
            (first
              | (go_at_call 135
                 (with_reducible refine (hna _).mono ?_)
                 rintro e w3 ⟨rfl, b3'⟩
                 have b3 := d2.trans b3'
                 have z := (b3.cell (p := ⟨bq, 0, none⟩) V2l).trans z0)
              | (go_at_call 84
                 (with_reducible refine (hop _ _).mono ?_)
                 rintro e w4 ⟨g, rfl, hgs, hN, b4'⟩
                 have b4 := b3.trans (b4'.mono b3.size)
                 have hgq : g ≠ bq := by have := b3.size; omega
                 have z := (b4.cell (p := ⟨bq, 0, none⟩) V2l).trans z0
                 have B4 := B2.trans (b4.mono B2.size)
                 have V4 := VBox.below V2.out b4 V2l
                 have E4 := (hw.out.below (B4.mono hBw)).mono (Nat.le_trans hBw hbq)
                 have A4 := strs_below hdr.out B4 B4.size)
              | (go_at_call 149
                 (with_reducible refine (hro _ bq _ E4 hN V4 hgq _ _ A4 (apart_of hbbq)).mono ?_)
                 rintro e w5 ⟨rfl, a5, vs5, V5, l5, p5⟩
                 have z : w5.cell? ⟨bq, 0, none⟩ = some (.string NS) := Box.cell V5 0))
          have hvr : vs5 = r := p5 r rfl
          subst hvr
          obtain ⟨x, y, rfl⟩ : ∃ x y, vs5 = [x, y] := by
            match vs5, l5 with
            | [x, y], _ => exact ⟨x, y, rfl⟩
          have B5 : Below w.heap.size w w5 := B4.trans (a5.below hbq B4.size)
          have R5 := h.out.below B5
          have hqx : qosOf n [x, y] = ⟨n, x, y⟩ := rfl
          rw [hqx] at hR1
          have hx5 : Box w5 bq TQos [.string NS, .int .i64 x, .int .i64 y] := V5
          have hl5 := Box.lt hx5
          have f5 := R5.fields
          have had := hadd m2 (c.qos.map (·.name)) w5.drew (show SMap w5.drew m2 (c.qos.map (·.name)) from R5.s2)
          have hbl5 := f5.2.2.2
          have hm5 := R5.s2.lt
          have hqm : bq ≠ m2 := box_map hx5 R5.s2
          clear hna hop hro p5 l5 V5 hadd z
          by_cases hin : n ∈ c.qos.map (·.name)
          · rw [decide_eq_false (by simpa using hin), if_pos hin] at had
            have hE := fhid (show R = .error 7 from by rw [hR1.out]; exact if_pos hin)
            clear hwr
            replace hin := fhid hin
            have z : w5.drew.cell? ⟨b, 14, none⟩ = some (.map (some m2)) ∧ w5.drew.cell? ⟨bq, 0, none⟩ = some (.string NS) := ⟨f5.2.1.2.2, Box.cell hx5 0⟩
            go_upto_region 6 with fail
            go_region_held3 (fun w' => w'.cell? ⟨b, 14, none⟩ = some (.map (some m2)) ∧ w'.cell? ⟨bq, 0, none⟩ = some (.string NS)) (first | exact z | fail)
              (first
                | (go_at_call 131
                   (with_reducible refine had.mono ?_)
                   rintro e w6 ⟨rfl, s6, a6'⟩
                   have a6 : Aft m2 w5 w6 := ⟨a6'.os, a6'.tape, a6'.output, a6'.size, a6'.block⟩
                   have z : w6.cell? ⟨b, 14, none⟩ = some (.map (some m2)) ∧ w6.cell? ⟨bq, 0, none⟩ = some (.string NS) := ⟨(RG.fields (R5.map2 a6 s6)).2.1.2.2, Box.cell (Box.grown hx5 a6 (by intro e; injection e with e; exact hqm e)) 0⟩))
            go_wp2_with fail
            exact hbad.out 7 _ hE.out ((B5.mono hBw).trans (a6.below R5.b2 (Nat.le_trans hBw B5.size))) ((FX.of B5).aft a6 (.inl (.inr (.inr (.inr (.inl rfl))))))
          · rw [decide_eq_true (by simpa using hin), if_neg hin] at had
            have hR2 := fhid (hR1.out.trans (if_neg hin))
            replace hin := fhid hin
            have z : w5.drew.cell? ⟨b, 14, none⟩ = some (.map (some m2)) ∧ w5.drew.cell? ⟨bq, 0, none⟩ = some (.string NS) := ⟨f5.2.1.2.2, Box.cell hx5 0⟩
            go_upto_region 6 with fail
            go_region_held3 (fun w' => w'.cell? ⟨b, 14, none⟩ = some (.map (some m2)) ∧ w'.cell? ⟨bq, 0, none⟩ = some (.string NS)) (first | exact z | fail)
              (first
                | (go_at_call 131
                   (with_reducible refine had.mono ?_)
                   rintro e w6 ⟨rfl, s6, a6'⟩
                   have a6 : Aft m2 w5 w6 := ⟨a6'.os, a6'.tape, a6'.output, a6'.size, a6'.block⟩
                   have z : w6.cell? ⟨b, 14, none⟩ = some (.map (some m2)) ∧ w6.cell? ⟨bq, 0, none⟩ = some (.string NS) := ⟨(RG.fields (R5.map2 a6 s6)).2.1.2.2, Box.cell (Box.grown hx5 a6 (by intro e; injection e with e; exact hqm e)) 0⟩))
            have R6 := R5.map2 a6 s6
            have x6 := Box.grown hx5 a6 (by intro e; injection e with e; exact hqm e)
            have B6 : Below B w w6 := (B5.mono hBw).trans (a6.below R5.b2 (Nat.le_trans hBw B5.size))
            have X6 : FX (Own b vN vV vP vQ m0 m1 m2) w w6 := (FX.of B5).aft a6 (.inl (.inr (.inr (.inr (.inl rfl)))))
            replace X6 := fhid X6
            have hl6 := fun T => SMap.len s6 T
            have f6 := R6.fields
            obtain ⟨k0, k1, k2⟩ : w6.cell? ⟨bq, 0, none⟩ = some (.string NS) ∧ w6.cell? ⟨bq, 1, none⟩ = some (.int .i64 x) ∧ w6.cell? ⟨bq, 2, none⟩ = some (.int .i64 y) := ⟨Box.cell x6 0, Box.cell x6 1, Box.cell x6 2⟩
            have hbl6 := f6.2.2.2
            have hql6 := Box.lt x6
            have z14 := f6.2.1.2.2
            have hln : (c.qos.map (·.name) ++ [n]).length = c.qos.length + 1 := by simp
            rw [hln] at hl6
            have hw6 := hwr x y
            clear hwr had z f5 hl5 hbl5 hm5 f6
            replace R6 := fhid R6
            replace R5 := fhid R5
            replace x6 := fhid x6
            replace hx5 := fhid hx5
            replace s6 := fhid s6
            replace hln := fhid hln
            by_cases h16 : 16 < c.qos.length + 1
            · have hE := fhid (hR2.out.trans (if_pos h16))
              have j1 : ((c.qos.length : Int) + 1) > 16 := by omega
              have j2 : (((c.qos.length + 1 : Nat) : Int)) > 16 := by omega
              clear hw6
              go_wp2_with fail
              exact hbad.out 5 _ hE.out B6 X6.out
            · have hR3 := fhid (hR2.out.trans (if_neg h16))
              have j1 : ¬ ((c.qos.length : Int) + 1) > 16 := by omega
              have j2 : ¬ (((c.qos.length + 1 : Nat) : Int)) > 16 := by omega
              generalize hqw : qosWrong ⟨n, x, y⟩ = QW at *
              replace hqw := fhid hqw
              cases QW with
              | true =>
                have hE := fhid (hR3.out.trans (if_pos rfl))
                go_wp2_with (go_at_call 101; (with_reducible refine (hw6 _).mono ?_); rintro e w7 ⟨rfl, b7⟩)
                exact hbad.out 12 _ hE.out (B6.trans (b7.mono (Nat.le_trans hBw B6.size))) (X6.out.on b7)
              | false =>
                have hE := fhid (hR3.out.trans (if_neg (by simp)))
                go_upto_region 12 with (go_at_call 101; (with_reducible refine (hw6 _).mono ?_); rintro e w7 ⟨rfl, b7⟩)
                have B7 := B6.trans (b7.mono (Nat.le_trans hBw B6.size))
                have R7 := R6.out.below b7
                have x7 := Box.below x6.out b7 hql6
                obtain ⟨k0, k1, k2⟩ : w7.cell? ⟨bq, 0, none⟩ = some (.string NS) ∧ w7.cell? ⟨bq, 1, none⟩ = some (.int .i64 x) ∧ w7.cell? ⟨bq, 2, none⟩ = some (.int .i64 y) := ⟨Box.cell x7 0, Box.cell x7 1, Box.cell x7 2⟩
                have f7 := R7.fields
                have z3 := f7.1.2.2.2
                have hbl7 := f7.2.2.2
                have hql7 := Box.lt x7
                obtain ⟨AQ', cQ', w8, hap, hO8, hg8, ho8⟩ := app_qos (W := (w7.alloc (.cells #[.string NS, .int .i64 x, .int .i64 y] TQos)).drew) (q := ⟨n, x, y⟩) (R7.qs.alloc _) (by omega) (Nat.le_trans (Nat.le_trans hBw B7.size) (by simp)) w7.heap.size (by
                  unfold qosV
                  rw [hNS.out]
                  exact Box.new w7 TQos [.string NS, .int .i64 x, .int .i64 y]) 26
                have R8 : RG B ((w7.alloc (.cells #[.string NS, .int .i64 x, .int .i64 y] TQos)).drew) b c.names c.vecs c.parts c.qos c.vals c.names (c.parts.map (·.name)) (c.qos.map (·.name) ++ [n]) vN vV vP vQ m0 m1 m2 := R7.below ((Below.refl _ _).alloc (Nat.le_refl _) _).drew
                have x8 := Box.grown R8.box hg8 (own_tag R8.qs R8.box (by decide))
                have z8 : w8.cell? ⟨b, 3, none⟩ = some vQ := Box.cell x8 3
                have y8 : w8.frozen? ⟨b, 3, none⟩ = false := Box.free x8 3
                have hbl8 := Box.lt x8
                have R9 := fhid (R8.rowQ hg8 hO8)
                have hs8 : B ≤ ((w7.alloc (.cells #[.string NS, .int .i64 x, .int .i64 y] TQos)).drew).heap.size := Nat.le_trans (Nat.le_trans hBw B7.size) (by simp)
                have B8 : Below B w w8 := (B7.trans ((Below.refl B w7).alloc (Nat.le_trans hBw B7.size) (.cells #[.string NS, .int .i64 x, .int .i64 y] TQos)).drew).grown hg8 hs8 (fun k hk => ownsRow_ge R8.qs k hk)
                have X8 : FX (Own b vN vV vP vQ m0 m1 m2) w w8 := ((X6.out.on b7).on ((Below.refl _ _).alloc (Nat.le_refl _) _).drew).step hg8 (fun k e => .inl (.inr (.inr (.inr (.inr (.inr (.inr (.inr e))))))))
                have O8 : ∀ k, Own b vN vV vP (.slice AQ' (c.qos.length + 1) cQ') m0 m1 m2 k → Own b vN vV vP vQ m0 m1 m2 k ∨ w.heap.size ≤ k := by
                  have hsz : w.heap.size ≤ ((w7.alloc (.cells #[.string NS, .int .i64 x, .int .i64 y] TQos)).drew).heap.size := Nat.le_trans B7.size (by simp)
                  rintro k (h | h | h | h | h | h | h | h)
                  · exact .inl (.inl h)
                  · exact .inl (.inr (.inl h))
                  · exact .inl (.inr (.inr (.inl h)))
                  · exact .inl (.inr (.inr (.inr (.inl h))))
                  · exact .inl (.inr (.inr (.inr (.inr (.inl h)))))
                  · exact .inl (.inr (.inr (.inr (.inr (.inr (.inl h))))))
                  · exact .inl (.inr (.inr (.inr (.inr (.inr (.inr (.inl h)))))))
                  · rcases ho8 with e | e
                    · exact .inl (.inr (.inr (.inr (.inr (.inr (.inr (.inr (e ▸ h))))))))
                    · rw [e] at h
                      injection h with h
                      exact .inr (h ▸ hsz)
                replace X8 := fhid X8
                replace O8 := fhid O8
                clear ho8
                replace B8 := fhid B8
                replace R8 := fhid R8
                replace x8 := fhid x8
                replace R7 := fhid R7
                replace x7 := fhid x7
                replace hap := fhid hap
                go_region_law (refine step_app 26 rfl (.tmp 48) (.tmp 50) rfl vQ (.slice (some ⟨w7.heap.size, 0, none⟩) 1 1) (by simp [Act.eval]) (by simp [Act.eval]) (.slice AQ' (c.qos.length + 1) cQ') w8 hap.out ?_)
                all_goals
                  go_wp2_with fail
                  exact hokk.out _ _ hE.out (B8.out.setCell (p := ⟨b, 3, none⟩) R9.out.bb _) (X8.out.set (.inl rfl) _ _) _ _ _ _ _ _ _ (by
                    have := R9.out
                    unfold Rdr
                    simp only [List.map_append, List.map_cons, List.map_nil]
                    exact this) O8.out
end Go.Proofs.YtghnpkpmgpbmcaaGreatDoor
