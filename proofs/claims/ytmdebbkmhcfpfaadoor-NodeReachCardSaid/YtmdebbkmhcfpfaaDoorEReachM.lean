/-
  From state to state: plain; maps of truths; rows that lie apart.
-/
import Derived.Test.YtmdebbkmhcfpfaaDoorEEvents
import Derived.Test.YtmdebbkmhcfpfaaDoorDApart
namespace Go.Proofs.YtmdebbkmhcfpfaaDoor
open Go.RowKit

def addP (p : List Int × List Int) (x : Int) : List Int × List Int := if x ∈ p.1 then p else (p.1 ++ [x], p.2 ++ [x])
def stepE (s : Int) (p : List Int × List Int) (ev : Int) : List Int × List Int := addP p (nextN (s, 0, 0) ev 0 3).1.1
def stepS (p : List Int × List Int) (s : Int) : List Int × List Int := (eventsP s).foldl (stepE s) p
def iterR : Nat → Nat → List Int × List Int
  | 0, a => ([(a : Int)], [(a : Int)])
  | k + 1, a => (iterR k a).2.foldl stepS ((iterR k a).1, [])
theorem iter_len : ∀ a < 8, ∀ k < 9, (iterR k a).2.length ≤ 100 := by decide +kernel
theorem iter_rng : ∀ a < 8, ∀ k < 9, ∀ s ∈ (iterR k a).2, 0 ≤ s ∧ s ≤ 7 := by decide +kernel
theorem iter_all : ∀ a < 8, ∀ b : Nat, b < 8 → (b : Int) ∈ (iterR 8 a).1 := by decide +kernel
theorem iter_succ (k a : Nat) : iterR (k + 1) a = (iterR k a).2.foldl stepS ((iterR k a).1, []) := rfl
theorem addP_in {p : List Int × List Int} {x : Int} (h : x ∈ p.1) : addP p x = p := if_pos h
theorem addP_out {p : List Int × List Int} {x : Int} (h : x ∉ p.1) : addP p x = (p.1 ++ [x], p.2 ++ [x]) := if_neg h
/-- An event that the table has, comes. -/
theorem event_comes {s ev : Int} (h0 : 0 ≤ s) (h1 : s ≤ 7) (hm : ev ∈ eventsP s) : ∃ x : N3, nextN (s, 0, 0) ev 0 3 = (x, 0) := by
  have hs : stOk s = true := decide_eq_true ⟨h0, h1⟩
  have he : evOk ev = true := by
    cases hq : evOk ev with
    | true => rfl
    | false => exact absurd hm (mem_events_no fun h => by rw [hq] at h; cases h.2)
  have h0 := (mem_events hs he).1 hm
  have ha : askOk (s, 0, 0) ev 0 = true := ask_iff.2 ⟨hs, he, Int.le_refl _, Int.le_refl _⟩
  rcases next_err (s, 0, 0) ev 0 3 with h | ⟨_, h⟩ | ⟨_, _, h⟩
  · exact h
  · rw [ha] at h; cases h
  · exact absurd h h0
/-- Truths by numbers. -/
def BS (l : List Int) : List (Int × Value) := l.map fun n => (n, .bool true)
theorem look_BS (l : List Int) (k : Int) : look (BS l) k = if k ∈ l then some (.bool true) else none := by
  induction l with
  | nil => rfl
  | cons x r ih =>
    show (if x = k then some (Value.bool true) else look (BS r) k) = _
    by_cases h : x = k
    · rw [if_pos h, if_pos (by simp [h])]
    · rw [if_neg h, ih]
      by_cases h2 : k ∈ r
      · rw [if_pos h2, if_pos (by simp [h2])]
      · rw [if_neg h2, if_neg (by simp [h2, Ne.symm h])]
theorem BS_app (l : List Int) (k : Int) : BS l ++ [(k, .bool true)] = BS (l ++ [k]) := by simp [BS]
theorem zeroBool (w : World) : (zeroValue 4).run Tryd.prog w = .ok (.bool false) w := by kernel_rfl
section
variable {w : World} {ops : Array Oper} {rest : List Oper} {o : Oper} {a : Act} {Q : Exit → Act → World → Prop}
theorem truth_look (hg : o.guard = none) (m x : Operand) (hop : o.op = Op.lookup 38 m x false) (b : Nat) (l : List Int) (hm : a.eval m = .map (some b)) (h : IMap w b (BS l)) (k : Int) (hx : a.eval x = .int .i64 k) (r : Bool) (hr : decide (k ∈ l) = r)
    (hq : wpList Tryd.prog ops Q rest (a.put o.dst (.bool r)) w) : wpList Tryd.prog ops Q (o :: rest) a w := by
  refine imap_look hg m x 38 3 4 hop Tryd.underlying38 Tryd.underlying3 (.bool false) (zeroBool w) b (BS l) hm h k hx ?_
  rw [look_BS]
  by_cases hk : k ∈ l
  · rw [decide_eq_true hk] at hr
    rw [if_pos hk]
    subst hr
    exact hq
  · rw [decide_eq_false hk] at hr
    rw [if_neg hk]
    subst hr
    exact hq
theorem truth_put (hg : o.guard = none) (m x v : Operand) (hop : o.op = Op.mapUpdate 38 m x v) (b : Nat) (l : List Int) (hm : a.eval m = .map (some b)) (h : IMap w b (BS l)) (k : Int) (hx : a.eval x = .int .i64 k) (hv : a.eval v = .bool true) (hl : k ∉ l)
    (hq : ∀ w', IMap w' b (BS (l ++ [k])) → w.grownBy w' (some b) → w'.heap.size = w.heap.size → wpList Tryd.prog ops Q rest (a.put o.dst undef) w') : wpList Tryd.prog ops Q (o :: rest) a w := by
  refine imap_put hg m x v 38 3 4 hop Tryd.underlying38 Tryd.underlying3 b (BS l) hm h k hx (.bool true) hv (by rw [look_BS, if_neg hl]) ?_
  intro w' h1
  rw [BS_app] at h1
  exact hq w' h1
end
theorem below_at {w w' : World} {b B : Nat} (h : w.grownBy w' (some b)) (hB : B ≤ b) (hb : b < w.heap.size) : Below B w w' :=
  ⟨h.os, h.tape, h.output, h.size, fun k hk => h.block k (by omega) (by intro e; injection e with e; omega)⟩
/-- A map literal of one truth. -/
theorem lit_truth (w : World) (k : Int) : ∃ w1, (Instr.mapUpdate 38 (.map (some w.heap.size)) (.int .i64 k) (.bool true)).run Tryd.prog (w.alloc (.map #[] 0)) = .ok () w1 ∧ IMap w1 w.heap.size (BS [k]) ∧ Below w.heap.size w w1 := by
  obtain ⟨es, clock, hb, he⟩ := IMap.new w
  obtain ⟨j, hj⟩ := findNow_look k es.toList [] 0 he
  rw [show look ([] : List (Int × Value)) k = none from rfl] at hj
  have hf := MapKept.run_findKey (w := w.alloc (.map #[] 0)) Tryd.underlying3 hj
  have hc := fun e => MapKept.run_checkKey (P := Tryd.prog) (w := w.alloc (.map #[] 0)) Tryd.underlying3 (isKey_int k) e 9999
  refine ⟨ChangeMaps.setBlock (w.alloc (.map #[] 0)) w.heap.size (.map (es.push ⟨.int .i64 k, .bool true, clock⟩) (clock + 1)), ?_, ⟨_, _, ChangeMaps.heap_setBlock_same hb _, ?_⟩, ((Below.refl _ _).alloc (Nat.le_refl _) _).trans (below_at ⟨rfl, rfl, rfl, by simp [ChangeMaps.setBlock], fun i _ hi => ChangeMaps.heap_setBlock_other hb _ (fun e => hi (by rw [e]))⟩ (Nat.le_refl _) (lt_of_block hb))⟩
  · simp [Instr.mapUpdate, run_underlying Tryd.underlying38, MapKept.run_getObj_map hb, hc, hf, MapKept.run_setObj_map _ hb, Result.andThen, ChangeMaps.setBlock]
  · rw [Array.toList_push, List.map_append, he]
    rfl
/-- Rows of the call's own, as slices whose block is known. -/
theorem OwnI.seg {w : World} {base : Nat} {v : Value} {ns : List Int} (h : OwnI w base v ns) : ∃ A cap, v = .slice A ns.length cap ∧ ns.length ≤ cap ∧ cap ≤ maxLen ∧ SegP w (fun k => base ≤ k ∧ v.ownBlock = some k) A (IV ns) := by
  obtain ⟨hl, ⟨rfl, hn⟩ | ⟨g, cap, cur, rfl, hgb, hg, hle, hcm, hsz, ht⟩⟩ := h
  · rw [hn]
    refine ⟨none, 0, rfl, Nat.le_refl _, by unfold maxLen; omega, ?_⟩
    rw [List.eq_nil_of_length_eq_zero hn]
    exact SegP.nil _ _ _
  · refine ⟨some ⟨g, 0, none⟩, cap, rfl, hle, hcm, fun h0 => ⟨g, 0, rfl, ⟨hgb, rfl⟩, fun j hj => ?_⟩⟩
    have e : (cur.toList.take (ns.length * 1))[j]? = some (IV ns)[j] := by rw [ht, List.getElem?_eq_getElem hj]
    rw [IV_len] at hj
    rw [List.getElem?_take, if_pos (by omega), Array.getElem?_toList] at e
    simp only [World.cell?, hg, Nat.zero_add]
    simpa using e
theorem OwnI.keep {w w' : World} {base : Nat} {v : Value} {ns : List Int} (h : OwnI w base v ns) (hk : ∀ k, v.ownBlock = some k → w'.heap[k]? = w.heap[k]?) : OwnI w' base v ns := by
  refine ⟨h.1, ?_⟩
  rcases h.2 with ⟨rfl, hn⟩ | ⟨g, cap, cur, rfl, hg, hh, rest⟩
  · exact .inl ⟨rfl, hn⟩
  · exact .inr ⟨g, cap, cur, rfl, hg, (hk g rfl).trans hh, rest⟩
/-- What lies neither in the map nor in the row that grows. -/
def Apart (w : World) (mb : Nat) (v : Value) (A : Option Addr) (ns : List Int) : Prop := SegP w (fun k => k ≠ mb ∧ some k ≠ v.ownBlock) A (IV ns)
theorem cell_lt {w : World} {b o : Nat} {v : Value} (h : w.cell? ⟨b, o, none⟩ = some v) : b < w.heap.size := by
  by_cases hl : b < w.heap.size
  · exact hl
  · simp only [World.cell?] at h
    rw [Array.getElem?_eq_none (by omega)] at h
    cases h
theorem Apart.turn {w w' : World} {mb : Nat} {v v' : Value} {A : Option Addr} {ns : List Int} (h : Apart w mb v A ns) (hk : ∀ k, k < w.heap.size → k ≠ mb → some k ≠ v.ownBlock → w'.heap[k]? = w.heap[k]? ∧ some k ≠ v'.ownBlock) : Apart w' mb v' A ns := fun h0 => by
  obtain ⟨b, o, e, ⟨hb1, hb2⟩, hc⟩ := h h0
  have hl := cell_lt (hc 0 h0)
  obtain ⟨k1, k2⟩ := hk b hl hb1 hb2
  refine ⟨b, o, e, ⟨hb1, k2⟩, fun j hj => ?_⟩
  rw [← hc j hj]
  unfold World.cell?
  rw [k1]
theorem Apart.below {w w' : World} {mb : Nat} {v : Value} {A : Option Addr} {ns : List Int} (h : Apart w mb v A ns) (hb : Below w.heap.size w w') : Apart w' mb v A ns := h.turn fun k hk _ h2 => ⟨hb.block k hk, h2⟩
end Go.Proofs.YtmdebbkmhcfpfaaDoor
