/-
  Parts: KAliveM KEq.
-/
import Derived.Test.YtmnmcikbbfcjcaaGreatDoorK1
import Derived.Test.YtmnmcikbbfcjcaaGreatDoorB1
import Derived.Test.YtmnmcikbbfcjcaaGreatDoorH1
import Derived.Test.YtmnmcikbbfcjcaaGreatDoorK2
import Derived.Laws.StructEq
import Derived.ChangeKeysEq
set_option linter.unusedSimpArgs false
set_option linter.unusedVariables false
/-
  The probe's config, reckoned.
-/
namespace Go.Proofs.YtmnmcikbbfcjcaaGreatDoor

def prL1 : Str := [110, 111, 100, 101, 32, 110, 91, 48, 45, 51, 93, 32, 99, 112, 117, 61, 52]
def prList : Str := [110, 91, 48, 45, 51, 93]
def prNames : List Str := [[110, 48], [110, 49], [110, 50], [110, 51]]
def prVecs : List Vs.V3 := [(4, 0, 0), (4, 0, 0), (4, 0, 0), (4, 0, 0)]
def prC1 : Cfg := ⟨prNames, prVecs, [], [], untold valS⟩
theorem dec_0 : Hs.dec 0 = [48] := Hs.dec_small (by decide)
theorem pr_part : Hs.pPart prList = .ok ([110], [(0, 3, 1)]) 6 := by rfl
theorem pr_names : Hs.partNames [110] [(0, 3, 1)] = prNames := by
  simp [Hs.partNames, Hs.spanNames, List.range_succ, Hs.dig, dec_0, Hs.dec_1, Hs.dec_2, Hs.dec_3, prNames]
theorem pr_expand : Hs.expand prList = (prNames, 0, 0) := by
  unfold Hs.expand
  rw [if_neg (by decide)]
  unfold Hs.pExpand
  rw [pr_part]
  simp only [pr_names]
  rw [if_neg (by decide), if_pos (by decide)]
  rfl
theorem pr_vec : Vs.parseP [99, 112, 117, 61, 52] = ((4, 0, 0), 0) := by decide +kernel
theorem pr_words1 : words (Vs.upTo 35 prL1) = [kNode, prList, [99, 112, 117, 61, 52]] := by decide +kernel
theorem pr_words4 : words (Vs.upTo 35 []) = [] := by decide +kernel
theorem pr_line1 : lineP startC prL1 = .ok prC1 := by
  unfold lineP
  rw [pr_words1]
  show nodeP startC [prList, [99, 112, 117, 61, 52]] = _
  unfold nodeP
  simp only
  rw [pr_expand, pr_vec]
  simp only
  rw [if_neg (by decide), if_neg (by decide +kernel), if_neg (by decide +kernel), if_neg (by decide +kernel)]
  rfl
theorem pr_set : setOf prC1 prList = (memL [0, 1, 2, 3], 0) := by
  have h : setGo prC1 prNames [] = some [0, 1, 2, 3] := by decide +kernel
  unfold setOf
  rw [pr_expand]
  simp only
  rw [if_neg (by decide), h]
end Go.Proofs.YtmnmcikbbfcjcaaGreatDoor
/-
  Faults and sets of nodes compared.
-/
namespace Go.Proofs.YtmnmcikbbfcjcaaGreatDoor
open Go.RowKit Go.Shelf Vs

/-- Are four words the same? -/
def same4 (x0 x1 x2 x3 y0 y1 y2 y3 : Int) : Bool := x0 == y0 && (x1 == y1 && (x2 == y2 && x3 == y3))
set_option maxRecDepth 100000 in
theorem eq_words (x0 x1 x2 x3 y0 y1 y2 y3 : Int) (w : World) :
    (Op.equalIn 10000 TNodes (.agg #[.int .u64 x0, .int .u64 x1, .int .u64 x2, .int .u64 x3]) (.agg #[.int .u64 y0, .int .u64 y1, .int .u64 y2, .int .u64 y3])).run Tryz.prog w = .ok (same4 x0 x1 x2 x3 y0 y1 y2 y3) w := by
  obtain ⟨i, hi⟩ : ∃ i, Tryz.prog.info? 44 = some i := ⟨_, rfl⟩
  rw [run_equalIn_array w 9999 _ _ Tryz.underlying46 hi]
  have hc : Tryz.prog.cellsOf 44 = 1 := by kernel_rfl
  rw [hc, show List.range 4 = [0, 1, 2, 3] by rfl]
  have e := fun (a b : Int) (w : World) => run_equalIn_int (P := Tryz.prog) w 9998 44 .u64 .u64 a b Tryz.underlying44
  unfold same4
  by_cases h0 : x0 = y0
  · subst h0
    by_cases h1 : x1 = y1
    · subst h1
      by_cases h2 : x2 = y2
      · subst h2
        by_cases h3 : x3 = y3 <;> simp [Op.eqItems, go_sem, e, h3]
      · simp [Op.eqItems, go_sem, e, h2]
    · simp [Op.eqItems, go_sem, e, h1]
  · simp [Op.eqItems, go_sem, e, h0]
/-- The same four words. -/
theorem eq_same (x0 x1 x2 x3 : Int) (w : World) :
    (Op.equalIn 10000 TNodes (.agg #[.int .u64 x0, .int .u64 x1, .int .u64 x2, .int .u64 x3]) (.agg #[.int .u64 x0, .int .u64 x1, .int .u64 x2, .int .u64 x3])).run Tryz.prog w = .ok true w := by
  rw [eq_words]; simp [same4]
theorem two_boxes (w : World) (T1 T2 : TypeId) (c1 c2 : List Value) : Box ((w.alloc (.cells c1.toArray T1)).alloc (.cells c2.toArray T2)) w.heap.size T1 c1 ∧ Box ((w.alloc (.cells c1.toArray T1)).alloc (.cells c2.toArray T2)) (w.heap.size + 1) T2 c2 ∧
    Below w.heap.size w ((w.alloc (.cells c1.toArray T1)).alloc (.cells c2.toArray T2)) ∧ ((w.alloc (.cells c1.toArray T1)).alloc (.cells c2.toArray T2)).heap.size = w.heap.size + 2 := by
  refine ⟨(Below.heap_alloc _ _ _ (by simp)).trans (Box.new w T1 c1), ?_, ((Below.refl _ _).alloc (Nat.le_refl _) _).alloc (by simp) _, by simp⟩
  have := Box.new (w.alloc (.cells c1.toArray T1)) T2 c2
  rwa [World.size_alloc] at this
end Go.Proofs.YtmnmcikbbfcjcaaGreatDoor
