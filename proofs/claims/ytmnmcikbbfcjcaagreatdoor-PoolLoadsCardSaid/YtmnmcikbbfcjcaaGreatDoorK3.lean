/-
  Parts: KRSet KRQos.
-/
import Derived.Test.YtmnmcikbbfcjcaaGreatDoorK2
import Derived.Deep.RegionHeld3
import Derived.BigQuiet
import Derived.Lib.QuietBelow
set_option linter.unusedSimpArgs false
set_option linter.unusedVariables false
/-
  A line that sets a value.
-/
namespace Go.Proofs.YtmnmcikbbfcjcaaGreatDoor
open Go.RowKit Go.Shelf Vs

theorem setP_len {c : Cfg} {ws : List Str} (h : ws.length ≠ 2) : setP c ws = .error 3 := by
  match ws, h with
  | [], _ => rfl
  | [_], _ => rfl
  | [_, _], h => exact absurd rfl h
  | _ :: _ :: _ :: _, _ => rfl
theorem setP_none {c : Cfg} {k v : Str} (h : putP valS c.vals k v = none) : setP c [k, v] = .error 3 := by unfold setP; simp only [h]
theorem setP_some {c : Cfg} {k v : Str} {vs : List Int} (h : putP valS c.vals k v = some vs) : setP c [k, v] = if rightV valS vs = true then .ok { c with vals := vs } else .error 12 := by unfold setP; simp only [h]
/-- The reader's block is kept apart from the words. -/
def Apart (A : Option Addr) (b : Nat) : Prop := ∀ bb oo, A = some ⟨bb, oo, none⟩ → bb ≠ b
end Go.Proofs.YtmnmcikbbfcjcaaGreatDoor
/-
  A line that tells a quality.
-/
namespace Go.Proofs.YtmnmcikbbfcjcaaGreatDoor
open Go.RowKit Go.Shelf Vs

theorem qosP_nil {c : Cfg} : qosP c [] = .error 3 := rfl
theorem qosP_name {c : Cfg} {n : Str} {os : List Str} (h : isNameP n = false) : qosP c (n :: os) = .error 3 := by unfold qosP; simp only [h]
theorem qosP_opts {c : Cfg} {n : Str} {os : List Str} (h : optsP qosS os [] (untold qosS) = none) : qosP c (n :: os) = .error 3 := by
  unfold qosP
  dsimp only
  rw [h]
  cases isNameP n <;> rfl
theorem qosP_ok {c : Cfg} {n : Str} {os : List Str} {r : List Int} (h1 : isNameP n = true) (h : optsP qosS os [] (untold qosS) = some r) : qosP c (n :: os) = if n ∈ c.qos.map (·.name) then .error 7 else if 16 < c.qos.length + 1 then .error 5 else if qosWrong (qosOf n r) = true then .error 12 else .ok { c with qos := c.qos ++ [qosOf n r] } := by
  unfold qosP
  simp only [h1, h]
/-- What is left of words behind the first so many. -/
def dropA (cap k : Nat) (bb oo : Nat) : Option Addr := if cap = k then some ⟨bb, oo, none⟩ else some ⟨bb, oo + k, none⟩
theorem strs_drop {w : World} {B bb oo k cap : Nat} {ws : List Str} (h : Strs w B (some ⟨bb, oo, none⟩) ws) (hk : k ≤ ws.length) (hc : ws.length ≤ cap) : Strs w B (dropA cap k bb oo) (ws.drop k) := by
  have := SegC.drop (k := k) (cap := cap) h (by rw [SV_len]; exact hk) (by rw [SV_len]; exact hc)
  unfold Strs
  rw [show SV (ws.drop k) = (SV ws).drop k by simp [SV, List.map_drop]]
  unfold dropA
  by_cases e : cap = k
  · rw [if_pos e] at this ⊢; exact this
  · rw [if_neg e] at this ⊢
    have ha : (⟨bb, oo, none⟩ : Addr).add k = ⟨bb, oo + k, none⟩ := by unfold Addr.add; split <;> simp_all
    simpa [ha] using this
theorem strs_below {w w' : World} {B B' : Nat} {A : Option Addr} {ws : List Str} (h : Strs w B A ws) (hb : Below B w w') (hB : B ≤ B') : Strs w' B' A ws := (SegC.below h hb).more hB
abbrev TQoss : TypeId := 38
theorem qos_one (q : QosC) : ∀ u ∈ qosV q, u.oneCell' = true := by
  intro u hu
  simp [qosV] at hu
  rcases hu with rfl | rfl | rfl <;> rfl
theorem QVs_app (l : List QosC) (q : QosC) : QVs (l ++ [q]) = QVs l ++ qosV q := by simp [QVs, List.flatMap_append]
end Go.Proofs.YtmnmcikbbfcjcaaGreatDoor
