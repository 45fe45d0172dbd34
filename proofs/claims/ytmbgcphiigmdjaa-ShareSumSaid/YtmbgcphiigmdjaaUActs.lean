/-
  Acts, and scripts of them, in memory.
-/
import Derived.Test.YtmbgcphiigmdjaaUBase
namespace Go.Proofs.Ytmbgcphiigmdjaa
open Go.RowKit Ss Ds

abbrev TAct : TypeId := 24
/-- An act: a name, an amount, a time. -/
abbrev Act3 := Str × Int × Int
def actV (a : Act3) : List Value := [.string (str a.1), .int .i64 a.2.1, .int .i64 a.2.2]
theorem actV_len (a : Act3) : (actV a).length = 3 := rfl
/-- Their cells, one behind the other. -/
def AVs (l : List Act3) : List Value := l.flatMap actV
theorem flat_len {α : Type} (f : α → List Value) (k : Nat) (hf : ∀ x, (f x).length = k) : ∀ l : List α, (l.flatMap f).length = l.length * k
  | [] => by simp
  | x :: l => by rw [List.flatMap_cons, List.length_append, hf, flat_len f k hf l, List.length_cons, Nat.succ_mul]; omega
theorem AVs_len (l : List Act3) : (AVs l).length = l.length * 3 := flat_len actV 3 actV_len l
theorem AVs_get : ∀ (l : List Act3) (j : Nat) (h : j < l.length) (i : Nat), i < 3 → (AVs l)[j * 3 + i]? = (actV l[j])[i]?
  | [], j, h, _, _ => absurd h (Nat.not_lt_zero j)
  | x :: l, 0, _, i, hi => by
    show (actV x ++ AVs l)[0 * 3 + i]? = _
    rw [Nat.zero_mul, Nat.zero_add, List.getElem?_append_left (by rw [actV_len]; exact hi)]
    rfl
  | x :: l, j + 1, h, i, hi => by
    show (actV x ++ AVs l)[(j + 1) * 3 + i]? = _
    rw [List.getElem?_append_right (by rw [actV_len]; omega), actV_len, show (j + 1) * 3 + i - 3 = j * 3 + i by omega, AVs_get l j (by simpa using h) i hi]
    rfl
/-- A row that reads so. -/
def RdS (w : World) (A : Option Addr) (n cap : Nat) (xs : List Value) : Prop := n ≤ cap ∧ cap ≤ maxLen ∧ SegC w w.heap.size A xs
theorem RdS.below {w w' : World} {A : Option Addr} {n cap : Nat} {xs : List Value} (h : RdS w A n cap xs) (hb : Below w.heap.size w w') : RdS w' A n cap xs := ⟨h.1, h.2.1, (h.2.2.below hb).more hb.size⟩
/-- One act of a script. -/
theorem act_at {w : World} {A : Option Addr} {cap : Nat} {l : List Act3} (h : RdS w A l.length cap (AVs l)) {j : Nat} (hj : j < l.length) :
    ∃ b o, A = some ⟨b, o, none⟩ ∧ b < w.heap.size ∧ w.cell? ⟨b, o + j * 3, none⟩ = some (.string (str l[j].1)) ∧ w.cell? ⟨b, o + j * 3 + 1, none⟩ = some (.int .i64 l[j].2.1) ∧ w.cell? ⟨b, o + j * 3 + 2, none⟩ = some (.int .i64 l[j].2.2) := by
  obtain ⟨b, o, e, hb, hc⟩ := h.2.2 (by rw [AVs_len]; omega)
  have hg : ∀ i, i < 3 → w.cell? ⟨b, o + (j * 3 + i), none⟩ = (actV l[j])[i]? := fun i hi => by
    have hlt : j * 3 + i < (AVs l).length := by rw [AVs_len]; omega
    rw [hc _ hlt, ← List.getElem?_eq_getElem hlt, AVs_get l j hj i hi]
  exact ⟨b, o, e, hb, hg 0 (by omega), hg 1 (by omega), hg 2 (by omega)⟩
/-- An act's name is not too long. -/
def okA (a : Act3) : Prop := a.1.length ≤ maxLen
end Go.Proofs.Ytmbgcphiigmdjaa
