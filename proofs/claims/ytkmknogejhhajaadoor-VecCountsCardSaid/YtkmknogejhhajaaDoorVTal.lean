/-
  Rows of counted vectors; one counted more, at its place.
-/
import Derived.Test.YtkmknogejhhajaaDoorVTally
import Derived.Test.YtkmknogejhhajaaDoorVApp
namespace Go.Proofs.YtkmknogejhhajaaDoor
open Go.RowKit

theorem ins_there {v : V3} {t : Tal} {k : Nat} (hk : k < t.length) (hlo : ∀ i (h : i < t.length), i < k → lt3 t[i].1 v = true) (he : t[k].1 = v) : ins v t = t.set k (v, t[k].2 + 1) := by
  induction t generalizing k with
  | nil => cases hk
  | cons x r ih =>
    cases k with
    | zero =>
      have he' : x.1 = v := he
      unfold ins
      rw [if_neg (by rw [he', lt_irr]; simp), if_pos he', List.set_cons_zero]
      rw [he']
      rfl
    | succ k =>
      have h0 : lt3 x.1 v = true := hlo 0 (by simp) (by omega)
      unfold ins
      rw [if_pos h0, List.set_cons_succ]
      exact congrArg (List.cons x) (ih (by simpa using hk) (fun i h hi => hlo (i + 1) (by simpa using h) (by omega)) he)
theorem ins_not {v : V3} {t : Tal} {k : Nat} (hk : k ≤ t.length) (hlo : ∀ i (h : i < t.length), i < k → lt3 t[i].1 v = true) (hn : ∀ h : k < t.length, lt3 t[k].1 v = false ∧ t[k].1 ≠ v) : ins v t = (([] ++ t.take k) ++ [(v, 1)]) ++ t.drop k := by
  rw [List.nil_append]
  induction t generalizing k with
  | nil =>
    obtain rfl : k = 0 := by simpa using hk
    rfl
  | cons x r ih =>
    cases k with
    | zero =>
      obtain ⟨h1, h2⟩ := hn (by simp)
      have h1' : lt3 x.1 v = false := h1
      have h2' : ¬ x.1 = v := h2
      unfold ins
      rw [if_neg (by rw [h1']; simp), if_neg h2']
      rfl
    | succ k =>
      have h0 : lt3 x.1 v = true := hlo 0 (by simp) (by omega)
      unfold ins
      rw [if_pos h0]
      have := ih (k := k) (by simpa using hk) (fun i h hi => hlo (i + 1) (by simpa using h) (by omega)) (fun h => hn (by simpa using h))
      rw [this]
      rfl
theorem ins_len (v : V3) (t : Tal) : (ins v t).length ≤ t.length + 1 := by
  induction t with
  | nil => simp [ins]
  | cons x r ih =>
    unfold ins
    split
    · simp only [List.length_cons]; omega
    · split <;> simp
theorem tally_len (l : List V3) : (tally l).length ≤ l.length := by
  suffices h : ∀ (l : List V3) (t : Tal), (l.foldl (fun t v => ins v t) t).length ≤ t.length + l.length by
    have := h l []
    simpa [tally] using this
  intro l
  induction l with
  | nil => intro t; simp
  | cons x r ih =>
    intro t
    have h1 := ih (ins x t)
    have h2 := ins_len x t
    rw [List.foldl_cons, List.length_cons]
    omega
/-- Counted vectors, as cells. -/
def TV (t : Tal) : List Value := t.flatMap fun x => [.int .i64 x.1.1, .int .i64 x.1.2.1, .int .i64 x.1.2.2, .int .i64 (x.2 : Nat)]
theorem TV_app (a b : Tal) : TV (a ++ b) = TV a ++ TV b := List.flatMap_append
theorem TV_cons (x : V3 × Nat) (r : Tal) : TV (x :: r) = .int .i64 x.1.1 :: .int .i64 x.1.2.1 :: .int .i64 x.1.2.2 :: .int .i64 (x.2 : Nat) :: TV r := rfl
theorem TV_len (t : Tal) : (TV t).length = t.length * 4 := by
  induction t with
  | nil => rfl
  | cons x r ih => rw [TV_cons, List.length_cons, List.length_cons, List.length_cons, List.length_cons, ih, List.length_cons]; omega
theorem TV_get : ∀ (t : Tal) (j : Nat) (h : j < t.length), (TV t)[j * 4]? = some (.int .i64 t[j].1.1) ∧ (TV t)[j * 4 + 1]? = some (.int .i64 t[j].1.2.1) ∧ (TV t)[j * 4 + 2]? = some (.int .i64 t[j].1.2.2) ∧ (TV t)[j * 4 + 3]? = some (.int .i64 (t[j].2 : Nat))
  | [], j, h => absurd h (Nat.not_lt_zero _)
  | x :: r, 0, _ => ⟨rfl, rfl, rfl, rfl⟩
  | x :: r, j + 1, h => by
    have := TV_get r j (by simpa using h)
    rw [TV_cons, List.getElem_cons_succ, show (j + 1) * 4 = j * 4 + 1 + 1 + 1 + 1 by omega, show j * 4 + 1 + 1 + 1 + 1 + 1 = (j * 4 + 1) + 1 + 1 + 1 + 1 by omega, show j * 4 + 1 + 1 + 1 + 1 + 2 = (j * 4 + 2) + 1 + 1 + 1 + 1 by omega, show j * 4 + 1 + 1 + 1 + 1 + 3 = (j * 4 + 3) + 1 + 1 + 1 + 1 by omega]
    simp only [List.getElem?_cons_succ]
    exact this
theorem TV_set (t : Tal) (k : Nat) (hk : k < t.length) (n : Nat) : (TV t).set (k * 4 + 3) (.int .i64 (n : Nat)) = TV (t.set k (t[k].1, n)) := by
  induction t generalizing k with
  | nil => cases hk
  | cons x r ih =>
    cases k with
    | zero => rfl
    | succ k =>
      have hk' : k < r.length := by simpa using hk
      rw [TV_cons, show (k + 1) * 4 + 3 = (k * 4 + 3) + 1 + 1 + 1 + 1 by omega]
      simp only [List.set_cons_succ, List.getElem_cons_succ]
      rw [ih k hk']
      rfl
theorem TV_take (t : Tal) (k : Nat) (hk : k ≤ t.length) : (TV t).take (k * 4) = TV (t.take k) := by
  conv => lhs; rw [← List.take_append_drop k t, TV_app]
  exact List.take_left' (by rw [TV_len, List.length_take]; omega)
theorem TV_drop (t : Tal) (k : Nat) (hk : k ≤ t.length) : (TV t).drop (k * 4) = TV (t.drop k) := by
  conv => lhs; rw [← List.take_append_drop k t, TV_app]
  exact List.drop_left' (by rw [TV_len, List.length_take]; omega)
theorem TV_one (t : Tal) : ∀ u ∈ TV t, u.oneCell' = true := by
  intro u hu
  obtain ⟨x, _, hx⟩ := List.mem_flatMap.1 hu
  simp at hx
  rcases hx with rfl | rfl | rfl | rfl <;> rfl
/-- A row of the call's own that holds counted vectors. -/
def OwnY (w : World) (e : TypeId) (base : Nat) (v : Value) (t : Tal) : Prop := w.ownsRow base e 4 v t.length (TV t)
section
variable {w w' : World} {e : TypeId} {base base' : Nat} {v : Value} {t : Tal}
theorem OwnY.nil (w : World) (e : TypeId) (base : Nat) : OwnY w e base (.slice none 0 0) [] := ownsRow_nil _ _ _ _
theorem OwnY.below (h : OwnY w e base v t) (hb : Below w.heap.size w w') : OwnY w' e base v t := ownsRow_below h hb
theorem OwnY.lower (h : OwnY w e base v t) (hb : base' ≤ base) : OwnY w e base' v t := ownsRow_base h hb
theorem OwnY.shape (h : OwnY w e base v t) : ∃ A cap, v = .slice A t.length cap ∧ t.length ≤ cap ∧ cap ≤ maxLen ∧ SegC w w.heap.size A (TV t) := ownsRow_shape h
theorem heap_set_same {b : Nat} {cs : Array Value} {T : TypeId} {fr : Nat × Nat} (i : Nat) (u : Value) (h : w.heap[b]? = some (.cells cs T fr)) : (w.setCell ⟨b, i, none⟩ u).heap[b]? = some (.cells (cs.setIfInBounds i u) T fr) := by
  have hlt := lt_of_block h
  have h' : w.heap[b] = .cells cs T fr := by simpa [Array.getElem?_eq_getElem hlt] using h
  show (w.heap.modify b _)[b]? = _
  rw [Array.getElem?_eq_getElem (by simpa using hlt), Array.getElem_modify_self, h']
  rfl
/-- One is counted more, in place. -/
theorem OwnY.more (h : OwnY w e base v t) {k : Nat} (hk : k < t.length) (n : Nat) : ∃ g, v.ownBlock = some g ∧ base ≤ g ∧ g < w.heap.size ∧ (∃ cap, v = .slice (some ⟨g, 0, none⟩) t.length cap) ∧ w.frozen? ⟨g, k * 4 + 3, none⟩ = false ∧ OwnY (w.setCell ⟨g, k * 4 + 3, none⟩ (.int .i64 (n : Nat))) e base v (t.set k (t[k].1, n)) := by
  obtain ⟨hl, ⟨rfl, hn⟩ | ⟨g, cap, cur, rfl, hg, hh, hle, hcm, hsz, ht⟩⟩ := h
  · omega
  · refine ⟨g, rfl, hg, lt_of_block hh, ⟨cap, rfl⟩, by simp [World.frozen?, hh], by rw [TV_len], .inr ⟨g, cap, _, by rw [List.length_set], hg, heap_set_same _ _ hh, by rw [List.length_set]; exact hle, hcm, by rw [Array.size_setIfInBounds]; exact hsz, ?_⟩⟩
    rw [Array.toList_setIfInBounds, List.length_set, List.take_set, ht, TV_set t k hk n]
end
end Go.Proofs.YtkmknogejhhajaaDoor
