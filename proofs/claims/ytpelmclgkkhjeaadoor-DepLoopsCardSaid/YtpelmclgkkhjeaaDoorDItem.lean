/-
  An item, read.
-/
import Derived.Test.YtpelmclgkkhjeaaDoorDJob
import Derived.Test.YtpelmclgkkhjeaaDoorDSettle
namespace Go.Proofs.YtpelmclgkkhjeaaDoor
open Go.RowKit

theorem block_set {w : World} {b : Nat} {cs : Array Value} {t : TypeId} (i : Nat) (u : Value) (h : w.heap[b]? = some (.cells cs t (0, 0))) : (w.setCell ⟨b, i, none⟩ u).heap[b]? = some (.cells (cs.setIfInBounds i u) t (0, 0)) := by
  have hlt := lt_of_block h
  have h' : w.heap[b] = .cells cs t (0, 0) := by simpa [Array.getElem?_eq_getElem hlt] using h
  show (w.heap.modify b _)[b]? = _
  rw [Array.getElem?_eq_getElem (by simpa using hlt), Array.getElem_modify_self, h']
  rfl
theorem block_other {w : World} {b c : Nat} {o : Option Obj} (i : Nat) (u : Value) (h : w.heap[b]? = o) (hne : b ≠ c) : (w.setCell ⟨c, i, none⟩ u).heap[b]? = o := (Below.heap_setCell _ _ _ _ hne).trans h
theorem new_at (w : World) (o : Obj) (b : Nat) (hb : b = w.heap.size) : (w.alloc o).heap[b]? = some o := by subst hb; exact heap_alloc_new w o
theorem old_at (w : World) (o : Obj) (b : Nat) {x : Option Obj} (h : w.heap[b]? = x) (hb : b < w.heap.size) : (w.alloc o).heap[b]? = x := (Below.heap_alloc _ _ _ hb).trans h
/-- A fault's block. -/
def FB (w : World) (b : Nat) (e f : Int) : Prop := w.heap[b]? = some (.cells #[.int .i64 e, .int .i64 f] 43 (0, 0))
theorem FB.facts {w : World} {b : Nat} {e f : Int} (h : FB w b e f) : w.cell? ⟨b, 0, none⟩ = some (.int .i64 e) ∧ w.cell? ⟨b, 1, none⟩ = some (.int .i64 f) ∧ w.frozen? ⟨b, 0, none⟩ = false ∧ w.frozen? ⟨b, 1, none⟩ = false ∧ b < w.heap.size := by
  unfold FB at h
  exact ⟨by simp [World.cell?, h], by simp [World.cell?, h], by simp [World.frozen?, h], by simp [World.frozen?, h], lt_of_block h⟩
theorem FB.below {w w' : World} {B b : Nat} {e f : Int} (h : FB w b e f) (hb : Below B w w') (hB : b < B) : FB w' b e f := (hb.block b hB).trans h
/-- A block of whole numbers. -/
def TagI (w : World) (b : Nat) : Prop := ∃ cs fr, w.heap[b]? = some (.cells cs 3 fr)
theorem TagI.lt {w : World} {b : Nat} (h : TagI w b) : b < w.heap.size := by
  obtain ⟨cs, fr, h⟩ := h
  exact lt_of_block h
theorem TagI.same {w w' : World} {b : Nat} (h : TagI w b) (hb : w'.heap[b]? = w.heap[b]?) : TagI w' b := by
  obtain ⟨cs, fr, h⟩ := h
  exact ⟨cs, fr, hb.trans h⟩
theorem TagI.ne {w : World} {b c : Nat} {cs : Array Value} {T : TypeId} {fr : Nat × Nat} (h : TagI w b) (hc : w.heap[c]? = some (.cells cs T fr)) (hT : T ≠ 3) : b ≠ c := by
  rintro rfl
  obtain ⟨cs', fr', h⟩ := h
  rw [h] at hc
  injection hc with hc
  injection hc with _ ht
  exact hT ht.symm
theorem OwnI.tag {w : World} {base : Nat} {v : Value} {ns : List Int} (h : OwnI w base v ns) : ∃ A cap, v = .slice A ns.length cap ∧ ns.length ≤ cap ∧ cap ≤ maxLen ∧ SegP w (TagI w) A (IV ns) := by
  obtain ⟨hl, ⟨rfl, h0⟩ | ⟨g, cap, cur, rfl, _, hg, hle, hcm, hsz, ht⟩⟩ := h
  · have : ns = [] := List.eq_nil_of_length_eq_zero h0
    subst this
    exact ⟨none, 0, rfl, Nat.le_refl _, by unfold maxLen; omega, SegP.nil _ _ _⟩
  · refine ⟨some ⟨g, 0, none⟩, cap, rfl, hle, hcm, fun h0 => ⟨g, 0, rfl, ⟨_, _, hg⟩, fun j hj => ?_⟩⟩
    have hj' : j < ns.length * 1 := by rw [← hl]; exact hj
    have e : (cur.toList.take (ns.length * 1))[j]? = some (IV ns)[j] := by rw [ht, List.getElem?_eq_getElem hj]
    rw [List.getElem?_take, if_pos hj', Array.getElem?_toList] at e
    simp only [World.cell?, hg, Nat.zero_add]
    simpa using e
theorem OwnI.setCell {w : World} {base : Nat} {v : Value} {ns : List Int} (h : OwnI w base v ns) {b : Nat} {cs : Array Value} {T : TypeId} {fr : Nat × Nat} (hb : w.heap[b]? = some (.cells cs T fr)) (hT : T ≠ 3) (i : Nat) (u : Value) : OwnI (w.setCell ⟨b, i, none⟩ u) base v ns := by
  have hne := own_tag h hb hT
  refine ⟨h.1, ?_⟩
  rcases h.2 with ⟨rfl, hn⟩ | ⟨g, cap, cur, rfl, hg, hh, rest⟩
  · exact .inl ⟨rfl, hn⟩
  · refine .inr ⟨g, cap, cur, rfl, hg, ?_, rest⟩
    exact block_other _ _ hh (fun e => hne (by rw [e]; rfl))

def AllSm (r : List UInt8) (j : Nat) : Prop := ∀ i (h : i < r.length), i < j → isSm r[i] = true
theorem AllSm.zero (r : List UInt8) : AllSm r 0 := fun _ _ h => absurd h (Nat.not_lt_zero _)
theorem AllSm.succ {r : List UInt8} {j : Nat} (h : AllSm r j) (hj : j < r.length) (hd : isSm r[j] = true) : AllSm r (j + 1) := fun i hi hlt => by
  by_cases he : i = j
  · subst he; exact hd
  · exact h i hi (by omega)
theorem sm_stop {r : List UInt8} {j : Nat} (h : AllSm r j) (hj : j ≤ r.length) (hs : ∀ h : j < r.length, isSm r[j] = false) : (r.takeWhile isSm).length = j ∧ r.takeWhile isSm = r.take j := by
  have hl := takeWhile_len (p := isSm) r j hj h hs
  refine ⟨hl, ?_⟩
  have := List.prefix_iff_eq_take.1 (List.takeWhile_prefix isSm (l := r))
  rw [this, hl]
theorem pJobs_stop {f : Nat} {js : List Int} {t : List UInt8} (h : t.head? ≠ some 58) : pJobs (f + 1) js t = some (js, t) := by
  rw [pJobs, if_neg h]
theorem pJobs_full {f : Nat} {js : List Int} {t : List UInt8} (h : t.head? = some 58) (hl : js.length = 32) : pJobs (f + 1) js t = none := by
  rw [pJobs, if_pos h, if_pos hl]
theorem pJobs_bad {f : Nat} {js : List Int} {t : List UInt8} (h : t.head? = some 58) (hl : js.length ≠ 32) (hj : pJob t.tail = none) : pJobs (f + 1) js t = none := by
  rw [pJobs, if_pos h, if_neg hl, hj]
theorem pJobs_go {f : Nat} {js : List Int} {t r : List UInt8} {n : Int} (h : t.head? = some 58) (hl : js.length ≠ 32) (hj : pJob t.tail = some (n, r)) : pJobs (f + 1) js t = pJobs f (js ++ [n]) r := by
  rw [pJobs, if_pos h, if_neg hl, hj]
/-- What a call that reads an item hands back. -/
def ItemPost (w : World) (s : ByteArray) (a : Nat) (e : Ending) (w' : World) : Prop := Below w.heap.size w w' ∧ match pItem ((bl s).drop a) with
  | none => ∃ y i : Int, y ≠ 0 ∧ e = .returned (.tuple #[.agg #[.int .i64 0, .slice none 0 0], .int .i64 0, .agg #[.int .i64 y, .int .i64 i]])
  | some (x, r) => ∃ (c : Nat) (A : Option Addr) (cap : Nat), c ≤ s.size ∧ r = (bl s).drop c ∧ x.2.length ≤ cap ∧ cap ≤ maxLen ∧ SegP w' (TagI w') A (IV x.2) ∧ e = .returned (.tuple #[.agg #[.int .i64 x.1, .slice A x.2.length cap], .int .i64 c, .agg #[.int .i64 0, .int .i64 0]])
theorem ItemPost.bad {w : World} {s : ByteArray} {a : Nat} {e : Ending} {w' : World} (h : pItem ((bl s).drop a) = none) (hb : Below w.heap.size w w') {y i : Int} (hy : y ≠ 0) (he : e = .returned (.tuple #[.agg #[.int .i64 0, .slice none 0 0], .int .i64 0, .agg #[.int .i64 y, .int .i64 i]])) : ItemPost w s a e w' := by
  refine ⟨hb, ?_⟩
  rw [h]
  exact ⟨y, i, hy, he⟩
theorem ItemPost.good {w : World} {s : ByteArray} {a : Nat} {e : Ending} {w' : World} {k : Int} {js : List Int} {c : Nat} (h : pItem ((bl s).drop a) = some ((k, js), (bl s).drop c)) (hb : Below w.heap.size w w') (hc : c ≤ s.size) {A : Option Addr} {cap : Nat} (h1 : js.length ≤ cap) (h2 : cap ≤ maxLen) (hs : SegP w' (TagI w') A (IV js))
    (he : e = .returned (.tuple #[.agg #[.int .i64 k, .slice A js.length cap], .int .i64 c, .agg #[.int .i64 0, .int .i64 0]])) : ItemPost w s a e w' := by
  refine ⟨hb, ?_⟩
  rw [h]
  exact ⟨c, A, cap, hc, rfl, h1, h2, hs, he⟩
abbrev TIt : TypeId := 50
abbrev TFa : TypeId := 43
theorem item_start (w : World) (K : Int) : 
    let W := ((w.alloc (.cells #[.int .i64 0, .slice none 0 0] TIt)).alloc (.cells #[.int .i64 0, .int .i64 0] TFa)).alloc (.cells #[.int .i64 K, .slice none 0 0] TIt)
    IB W w.heap.size TIt 0 (.slice none 0 0) ∧ FB W (w.heap.size + 1) 0 0 ∧ IB W (w.heap.size + 1 + 1) TIt K (.slice none 0 0) ∧ Below w.heap.size w W ∧ w.heap.size + 1 + 1 + 1 ≤ W.heap.size :=
  ⟨old_at _ _ _ (old_at _ _ _ (heap_alloc_new w _) (by simp)) (by simp; omega), old_at _ _ _ (new_at _ _ _ (by simp)) (by simp), new_at _ _ _ (by simp), (((Below.refl _ _).alloc (Nat.le_refl _) _).alloc (by simp) _).alloc (by simp; omega) _, by simp⟩
end Go.Proofs.YtpelmclgkkhjeaaDoor
