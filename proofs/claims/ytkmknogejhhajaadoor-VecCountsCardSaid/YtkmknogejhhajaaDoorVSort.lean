/-
  Counted vectors, sorted by the program.
-/
import Derived.Test.YtkmknogejhhajaaDoorVTal
import Derived.Test.YtkmknogejhhajaaDoorVCmp
import Derived.Test.YtkmknogejhhajaaDoorSSortT
import Derived.Lib.OwnBridge
import Derived.BigRegion
namespace Go.Proofs.YtkmknogejhhajaaDoor
open Go.RowKit

abbrev TTal : TypeId := 48
def encT (x : V3 × Nat) : List Value := [.int .i64 x.1.1, .int .i64 x.1.2.1, .int .i64 x.1.2.2, .int .i64 (x.2 : Nat)]
def cfT (x y : V3 × Nat) : Int := cmp3 x.1.1 x.1.2.1 x.1.2.2 y.1.1 y.1.2.1 y.1.2.2
theorem ltT (x y : V3 × Nat) : ltOf cfT x y = lt3 x.1 y.1 := less_cmp _ _ _ _ _ _
theorem orderT : Sort.SWO (ltOf cfT) where
  irrefl x := by rw [ltT, lt_irr]
  trans x y z h k := by rw [ltT] at *; exact lt_trans h k
  ntrans x y z h k := by
    rw [ltT] at *
    cases e : lt3 x.1 z.1 with
    | false => rfl
    | true =>
      rcases lt_tri x.1 y.1 with g | g | g
      · rw [g] at h; cases h
      · rw [g, k] at e; cases e
      · rw [lt_trans g e] at k; cases k
theorem box2T (a b c n d e f m : Int) (w : World) : let W := (w.alloc (.cells #[.int .i64 a, .int .i64 b, .int .i64 c, .int .i64 n] TTal)).alloc (.cells #[.int .i64 d, .int .i64 e, .int .i64 f, .int .i64 m] TTal)
    W.cell? ⟨w.heap.size, 0, none⟩ = some (.int .i64 a) ∧ W.cell? ⟨w.heap.size, 1, none⟩ = some (.int .i64 b) ∧ W.cell? ⟨w.heap.size, 2, none⟩ = some (.int .i64 c) ∧ W.cell? ⟨w.heap.size + 1, 0, none⟩ = some (.int .i64 d) ∧ W.cell? ⟨w.heap.size + 1, 1, none⟩ = some (.int .i64 e) ∧ W.cell? ⟨w.heap.size + 1, 2, none⟩ = some (.int .i64 f) := by
  intro W
  have h1 := heap_alloc_new (w.alloc (.cells #[.int .i64 a, .int .i64 b, .int .i64 c, .int .i64 n] TTal)) (.cells #[.int .i64 d, .int .i64 e, .int .i64 f, .int .i64 m] TTal)
  rw [World.size_alloc] at h1
  have h0 : W.heap[w.heap.size]? = _ := (Below.heap_alloc (w.alloc (.cells #[.int .i64 a, .int .i64 b, .int .i64 c, .int .i64 n] TTal)) (.cells #[.int .i64 d, .int .i64 e, .int .i64 f, .int .i64 m] TTal) w.heap.size (by rw [World.size_alloc]; omega)).trans (heap_alloc_new w _)
  replace h1 : W.heap[w.heap.size + 1]? = _ := h1
  simp [World.cell?, h0, h1]
set_option maxRecDepth 100000 in
theorem closure_go (a b c n d e f m : Int) (w : World) : Calls Tryd.prog 45 #[.agg #[.int .i64 a, .int .i64 b, .int .i64 c, .int .i64 n], .agg #[.int .i64 d, .int .i64 e, .int .i64 f, .int .i64 m]] w fun r w' => r = .returned (.int .i64 (cmp3 a b c d e f)) ∧ Grew w w' := by
  have hc := fun W => compare_any a b c d e f W
  generalize cmp3 a b c d e f = R at *
  go_enter Tryd.func45, Tryd.ntmps45
  go_upto_region 1 with fail
  obtain ⟨c0, c1, c2, c3, c4, c5⟩ := box2T a b c n d e f m w
  have g0 := ((Grew.refl w).alloc (.cells #[.int .i64 a, .int .i64 b, .int .i64 c, .int .i64 n] TTal)).alloc (.cells #[.int .i64 d, .int .i64 e, .int .i64 f, .int .i64 m] TTal)
  generalize ((w.alloc _).alloc _) = w2 at *
  go_wp2_with (go_at_call 34; (with_reducible refine (hc _).mono ?_); rintro r w1 ⟨rfl, g1⟩)
  go_ret
  exact ⟨rfl, g0.trans g1⟩
theorem closure_lays (blk off size : Nat) (w : World) : CmpLays Tryd.prog 45 #[] encT 4 cfT blk off size w := fun _ _ _ _ x y =>
  closure_go x.1.1 x.1.2.1 x.1.2.2 x.2 y.1.1 y.1.2.1 y.1.2.2 y.2 _
theorem closure_enters : Enters Tryd.prog 45 := enters_of Tryd.func45 (by kernel_rfl) rfl
instance : Inhabited (V3 × Nat) := ⟨((0, 0, 0), 0)⟩
theorem flat_TV (t : Tal) : Sort.flatK encT 4 t.toArray = (TV t).toArray := by
  refine Sort.ext_get! (by rw [Sort.size_flatK, List.size_toArray, List.size_toArray, TV_len]) fun i hi => ?_
  rw [Sort.size_flatK, List.size_toArray] at hi
  have hk : i / 4 < t.length := by omega
  rw [Sort.get_flatK _ _ _ _ (by rw [List.size_toArray]; exact hi)]
  obtain ⟨g0, g1, g2, g3⟩ := TV_get t (i / 4) hk
  have e : (t.toArray)[i / 4]! = t[i / 4] := by rw [getElem!_pos _ _ (by simpa using hk)]; simp
  rw [e]
  have hr : ∀ {v : Value}, (TV t)[i]? = some v → (TV t).toArray[i]! = v := fun {v} h => by
    obtain ⟨hj, h⟩ := List.getElem?_eq_some_iff.1 h
    rw [getElem!_pos _ _ (by simpa using hj)]
    simpa using h
  rcases (show i % 4 = 0 ∨ i % 4 = 1 ∨ i % 4 = 2 ∨ i % 4 = 3 by omega) with h | h | h | h <;> rw [h]
  · rw [show i / 4 * 4 = i by omega] at g0; exact (hr g0).symm
  · rw [show i / 4 * 4 + 1 = i by omega] at g1; exact (hr g1).symm
  · rw [show i / 4 * 4 + 2 = i by omega] at g2; exact (hr g2).symm
  · rw [show i / 4 * 4 + 3 = i by omega] at g3; exact (hr g3).symm
theorem heap_put {w : World} {g n : Nat} {os : Array Obj} {cur : Array Value} {e : TypeId} {fr : Nat × Nat} (d : Array Value) (hb : w.heap[g]? = some (.cells cur e fr)) : (Sort.grow (Sort.putRow id (Sort.ahead w n) g 0 d) os).heap[g]? = some (.cells (Sort.putCells id 0 d cur) e fr) := by
  have hg := lt_of_block hb
  rw [Sort.heap_grow_old _ _ (by simpa using hg)]
  simp [Sort.putRow, Sort.mapBlock, Sort.ahead, Array.getElem?_modify, hb, Sort.onCells]
theorem take_put (cur : Array Value) (ts : List Value) (h : ts.length ≤ cur.size) : (Sort.putCells id 0 ts.toArray cur).toList.take ts.length = ts := by
  apply List.ext_getElem?
  intro j
  by_cases hj : j < ts.length
  · rw [List.getElem?_take_of_lt hj, Array.getElem?_toList]
    simp [Sort.putCells, hj, show j < cur.size by omega]
  · rw [List.getElem?_take_eq_none (by omega), List.getElem?_eq_none (by omega)]
set_option maxRecDepth 100000 in
theorem sort_tals (base : Nat) (v : Value) (t : Tal) (w : World) (h : OwnY w TTal base v t) (hb : base ≤ w.heap.size) (hl : t.length ≤ 1000) :
    Calls Tryd.prog 44 #[v, .func (.func 45) #[] #[]] w fun e w' => e = .returned (.tuple #[]) ∧ ∃ s : Tal, OwnY w' TTal base v s ∧ s.Perm t ∧ s.Pairwise (fun a b => lt3 b.1 a.1 = false) ∧ Below base w w' := by
  by_cases h0 : t = []
  · subst h0
    obtain ⟨A, cap, rfl, _, _, _⟩ := OwnY.shape h
    refine (show Calls Tryd.prog 44 _ w _ from AnyF.slices_SortFunc_none Tryd.sortT A cap (.func (.func 45) #[] #[]) w).mono ?_
    rintro e w' ⟨rfl, rfl⟩
    exact ⟨rfl, [], h, List.Perm.refl _, List.Pairwise.nil, Below.refl _ _⟩
  · obtain ⟨hll, ⟨rfl, hn⟩ | ⟨g, cap, cur, rfl, hg, hh, hle, hcm, hsz, ht⟩⟩ := h
    · exact absurd (List.eq_nil_of_length_eq_zero hn) h0
    · have hlt := lt_of_block hh
      have hcl : (TV t).length ≤ cur.size := by rw [TV_len, hsz]; exact Nat.mul_le_mul_right 4 hle
      have hH : Sort.HoldsK encT 4 w g 0 t.toArray := by
        unfold Sort.HoldsK
        rw [flat_TV]
        intro j hj
        have hj' : j < (TV t).length := by simpa using hj
        refine ⟨?_, by simp [World.frozen?, hh]⟩
        have h1 : (cur.toList.take (t.length * 4))[j]? = (TV t)[j]? := by rw [ht]
        rw [List.getElem?_take_of_lt (by rw [TV_len] at hj'; exact hj'), List.getElem?_eq_getElem hj'] at h1
        rw [getElem!_pos _ _ (by simpa using hj')]
        simp only [World.cell?, hh, Nat.zero_add]
        rw [Array.getElem?_toList] at h1
        simpa using h1
      have hc := AnyQ.slices_SortFunc (α := V3 × Nat) Tryd.sortT 4 (fun w => by kernel_rfl) (fun w => by kernel_rfl) encT (fun _ => rfl) (fun x v hv => by
        simp [encT] at hv
        rcases hv with rfl | rfl | rfl | rfl <;> rfl) cfT orderT 45 #[] g 0 cap t.toArray w closure_enters (closure_lays g 0 _ w) hH hlt (by rw [List.size_toArray]; omega)
      rw [List.size_toArray] at hc
      refine (show Calls Tryd.prog 44 _ w _ from hc).mono ?_
      rintro e w' ⟨rfl, d', q, os, hp, hs, rfl⟩
      obtain ⟨p1, _, p3⟩ := hp
      have hds : d'.toList.length = t.length := by rw [Array.length_toList, p1, List.size_toArray]
      have hperm : d'.toList.Perm t := by
        have e1 : d'.extract 0 t.length = d' := by rw [← hds, Array.length_toList]; exact Array.extract_size
        have e2 : t.toArray.extract 0 t.length = t.toArray := by rw [← List.size_toArray]; exact Array.extract_size
        rw [e1, e2] at p3
        exact p3
      have hflat : Sort.flatK encT 4 d' = (TV d'.toList).toArray := flat_TV d'.toList
      have htl : (TV d'.toList).length = (TV t).length := by rw [TV_len, TV_len, hds]
      refine ⟨rfl, d'.toList, ?_, hperm, ?_, ?_⟩
      · show (Sort.grow (Sort.putRow id (Sort.ahead w q) g 0 (Sort.flatK encT 4 d')) os).ownsRow base TTal 4 _ _ _
        rw [hflat]
        refine ⟨by rw [TV_len], .inr ⟨g, cap, _, by rw [hds], hg, heap_put _ hh, by rw [hds]; exact hle, hcm, by simp [Sort.putCells, hsz], ?_⟩⟩
        rw [← TV_len]
        exact take_put cur (TV d'.toList) (by rw [htl]; exact hcl)
      · rw [List.pairwise_iff_getElem]
        intro i j hi hj hij
        rw [hds] at hi hj
        have := hs i j (Nat.zero_le _) hij hj
        rw [getElem!_pos d' j (by rw [p1, List.size_toArray]; exact hj), getElem!_pos d' i (by rw [p1, List.size_toArray]; exact hi), ltT] at this
        exact this
      · have b1 : Below base w (Sort.putRow id (Sort.ahead w q) g 0 (Sort.flatK encT 4 d')) := Lib.below_putRow (enc := (id : Value → Value)) (Below.refl base w) hg
        exact b1.trans ((below_grow _ 0 os).mono (by have := b1.size; omega))
end Go.Proofs.YtkmknogejhhajaaDoor
