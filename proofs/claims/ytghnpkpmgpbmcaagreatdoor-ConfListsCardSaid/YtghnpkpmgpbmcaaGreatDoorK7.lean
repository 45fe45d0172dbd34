/-
  Parts: KAliveM KEq KAlive.
-/
import Derived.Test.YtghnpkpmgpbmcaaGreatDoorK1
import Derived.Test.YtghnpkpmgpbmcaaGreatDoorB1
import Derived.Test.YtghnpkpmgpbmcaaGreatDoorH1
import Derived.Test.YtghnpkpmgpbmcaaGreatDoorK2
import Derived.Laws.StructEq
import Derived.ChangeKeysEq
import Derived.Test.YtghnpkpmgpbmcaaGreatDoorK6
set_option linter.unusedSimpArgs false
set_option linter.unusedVariables false
/-
  The probe's config, reckoned.
-/
namespace Go.Proofs.YtghnpkpmgpbmcaaGreatDoor

def prL1 : Str := [110, 111, 100, 101, 32, 110, 91, 48, 45, 51, 93, 32, 99, 112, 117, 61, 52]
def prL2 : Str := [112, 97, 114, 116, 32, 112, 32, 110, 91, 48, 45, 51, 93, 32, 109, 97, 120, 61, 50, 32, 35, 32, 110, 111, 116, 101]
def prL3 : Str := [115, 101, 116, 32, 98, 111, 111, 116, 32, 55]
def prText : Str := prL1 ++ 10 :: (prL2 ++ 10 :: (prL3 ++ [10]))
def prList : Str := [110, 91, 48, 45, 51, 93]
def prNames : List Str := [[110, 48], [110, 49], [110, 50], [110, 51]]
def prVecs : List Vs.V3 := [(4, 0, 0), (4, 0, 0), (4, 0, 0), (4, 0, 0)]
def prPart : PartC := ⟨[112], memL [0, 1, 2, 3], 2, 1000000, 0⟩
def prC1 : Cfg := ⟨prNames, prVecs, [], [], untold valS⟩
def prC2 : Cfg := ⟨prNames, prVecs, [prPart], [], untold valS⟩
def prC : Cfg := ⟨prNames, prVecs, [prPart], [], [100, 7, 5, 1000, 0, 256, 16, 3]⟩
theorem dec_0 : Hs.dec 0 = [48] := Hs.dec_small (by decide)
theorem pr_part : Hs.pPart prList = .ok ([110], [(0, 3, 1)]) 6 := by rfl
theorem pr_names : Hs.partNames [110] [(0, 3, 1)] = prNames := by
  simp [Hs.partNames, Hs.spanNames, List.range_succ, Hs.dig, dec_0, Hs.dec_1, Hs.dec_2, Hs.dec_3, prNames]
theorem pr_expand : Hs.expand prList = (prNames, 0, 0) := by
  unfold Hs.expand
  rw [if_neg (by decide)]
  unfold Hs.pExpand
  rw [pr_part]
  simp only [pr_names]
  rw [if_neg (by decide), if_pos (by decide)]
  rfl
theorem pr_vec : Vs.parseP [99, 112, 117, 61, 52] = ((4, 0, 0), 0) := by decide +kernel
theorem pr_words1 : words (Vs.upTo 35 prL1) = [kNode, prList, [99, 112, 117, 61, 52]] := by decide +kernel
theorem pr_words2 : words (Vs.upTo 35 prL2) = [kPart, [112], prList, [109, 97, 120, 61, 50]] := by decide +kernel
theorem pr_words3 : words (Vs.upTo 35 prL3) = [kSet, kBoot, [55]] := by decide +kernel
theorem pr_words4 : words (Vs.upTo 35 []) = [] := by decide +kernel
theorem pr_line1 : lineP startC prL1 = .ok prC1 := by
  unfold lineP
  rw [pr_words1]
  show nodeP startC [prList, [99, 112, 117, 61, 52]] = _
  unfold nodeP
  simp only
  rw [pr_expand, pr_vec]
  simp only
  rw [if_neg (by decide), if_neg (by decide +kernel), if_neg (by decide +kernel), if_neg (by decide +kernel)]
  rfl
theorem pr_set : setOf prC1 prList = (memL [0, 1, 2, 3], 0) := by
  have h : setGo prC1 prNames [] = some [0, 1, 2, 3] := by decide +kernel
  unfold setOf
  rw [pr_expand]
  simp only
  rw [if_neg (by decide), h]
theorem pr_line2 : lineP prC1 prL2 = .ok prC2 := by
  have h1 : isNameP [112] = true := by decide +kernel
  have h2 : optsP partS [[109, 97, 120, 61, 50]] [] (untold partS) = some [2, 1000000, 0] := by decide +kernel
  have h3 : partWrong (partOf [112] (memL [0, 1, 2, 3]) [2, 1000000, 0]) = false := by decide +kernel
  unfold lineP
  rw [pr_words2]
  show partP prC1 [[112], prList, [109, 97, 120, 61, 50]] = _
  unfold partP
  simp only
  rw [h1, h2]
  simp only
  rw [pr_set]
  simp only
  rw [if_neg (by decide), if_neg (by decide), if_neg (by decide), h3, if_neg (by decide)]
  rfl
theorem pr_line3 : lineP prC2 prL3 = .ok prC := by
  have h1 : putP valS (untold valS) kBoot [55] = some [100, 7, 5, 1000, 0, 256, 16, 3] := by decide +kernel
  have h2 : rightV valS [100, 7, 5, 1000, 0, 256, 16, 3] = true := by decide +kernel
  unfold lineP
  rw [pr_words3]
  show setP prC2 [kBoot, [55]] = _
  unfold setP
  simp only
  rw [show prC2.vals = untold valS from rfl, h1]
  simp only
  rw [if_pos h2]
  rfl
theorem pr_line4 : lineP prC [] = .ok prC := by
  unfold lineP
  rw [pr_words4]
  rfl
theorem pr_right : rightC prC = true := by decide +kernel
theorem pr_lines : lines prText = [prL1, prL2, prL3, []] := by decide +kernel
theorem pr_parse : parseC prText = (prC, 0, 0) := by
  unfold parseC
  rw [if_neg (by decide), pr_lines]
  simp only [linesP, pr_line1, pr_line2, pr_line3, pr_line4]
  rw [if_pos pr_right]
theorem pr_set2 : setOf prC [110, 49, 44, 110, 51] = (memL [1, 3], 0) := by
  have h0 : Hs.expand [110, 49, 44, 110, 51] = ([[110, 49], [110, 51]], 0, 0) := by decide +kernel
  have h : setGo prC [[110, 49], [110, 51]] [] = some [1, 3] := by decide +kernel
  unfold setOf
  rw [h0]
  simp only
  rw [if_neg (by decide), h]
theorem pr_nodes2 : Bs.nodes (memL [1, 3]) = .agg #[.int .u64 10, .int .u64 0, .int .u64 0, .int .u64 0] := by
  have h0 : Bs.word (memL [1, 3]) 0 = 10 := by decide +kernel
  have h1 : Bs.word (memL [1, 3]) 1 = 0 := by decide +kernel
  have h2 : Bs.word (memL [1, 3]) 2 = 0 := by decide +kernel
  have h3 : Bs.word (memL [1, 3]) 3 = 0 := by decide +kernel
  unfold Bs.nodes
  rw [h0, h1, h2, h3]
  rfl
end Go.Proofs.YtghnpkpmgpbmcaaGreatDoor
/-
  Faults and sets of nodes compared.
-/
namespace Go.Proofs.YtghnpkpmgpbmcaaGreatDoor
open Go.RowKit Go.Shelf Vs

theorem eql_fault (e f e' f' : Int) (w : World) : (binOp .eql 31 (.agg #[.int .i64 e, .int .i64 f]) (.agg #[.int .i64 e', .int .i64 f'])).run Tryz.prog w = .ok (.bool (e == e' && f == f')) w := by
  have hS : Tryz.prog.underlying 31 = some (.struct (Tryz.prog.fieldsOf 31)) := by kernel_rfl
  have hp : Tryz.prog.stoodInHeld 31 = false := by kernel_rfl
  rw [run_eql_struct, show (10000 : Nat) = 9999 + 1 from rfl, run_equalIn_agg w 9999 31 _ _ hS hp]
  simp only [Program.fieldsOf, Tryz.underlying31]
  go_simp
  by_cases h1 : e = e' <;> by_cases h2 : f = f' <;> simp [h1, h2]
theorem neq_fault (e f e' f' : Int) (w : World) : (binOp .neq 31 (.agg #[.int .i64 e, .int .i64 f]) (.agg #[.int .i64 e', .int .i64 f'])).run Tryz.prog w = .ok (.bool !(e == e' && f == f')) w := by
  have hS : Tryz.prog.underlying 31 = some (.struct (Tryz.prog.fieldsOf 31)) := by kernel_rfl
  have hp : Tryz.prog.stoodInHeld 31 = false := by kernel_rfl
  rw [run_neq_struct, show (10000 : Nat) = 9999 + 1 from rfl, run_equalIn_agg w 9999 31 _ _ hS hp]
  simp only [Program.fieldsOf, Tryz.underlying31]
  go_simp
  by_cases h1 : e = e' <;> by_cases h2 : f = f' <;> simp [h1, h2]
/-- Are four words the same? -/
def same4 (x0 x1 x2 x3 y0 y1 y2 y3 : Int) : Bool := x0 == y0 && (x1 == y1 && (x2 == y2 && x3 == y3))
set_option maxRecDepth 100000 in
theorem eq_words (x0 x1 x2 x3 y0 y1 y2 y3 : Int) (w : World) :
    (Op.equalIn 10000 TNodes (.agg #[.int .u64 x0, .int .u64 x1, .int .u64 x2, .int .u64 x3]) (.agg #[.int .u64 y0, .int .u64 y1, .int .u64 y2, .int .u64 y3])).run Tryz.prog w = .ok (same4 x0 x1 x2 x3 y0 y1 y2 y3) w := by
  obtain ⟨i, hi⟩ : ∃ i, Tryz.prog.info? 56 = some i := ⟨_, rfl⟩
  rw [run_equalIn_array w 9999 _ _ Tryz.underlying58 hi]
  have hc : Tryz.prog.cellsOf 56 = 1 := by kernel_rfl
  rw [hc, show List.range 4 = [0, 1, 2, 3] by rfl]
  have e := fun (a b : Int) (w : World) => run_equalIn_int (P := Tryz.prog) w 9998 56 .u64 .u64 a b Tryz.underlying56
  unfold same4
  by_cases h0 : x0 = y0
  · subst h0
    by_cases h1 : x1 = y1
    · subst h1
      by_cases h2 : x2 = y2
      · subst h2
        by_cases h3 : x3 = y3 <;> simp [Op.eqItems, go_sem, e, h3]
      · simp [Op.eqItems, go_sem, e, h2]
    · simp [Op.eqItems, go_sem, e, h1]
  · simp [Op.eqItems, go_sem, e, h0]
/-- The same four words. -/
theorem eq_same (x0 x1 x2 x3 : Int) (w : World) :
    (Op.equalIn 10000 TNodes (.agg #[.int .u64 x0, .int .u64 x1, .int .u64 x2, .int .u64 x3]) (.agg #[.int .u64 x0, .int .u64 x1, .int .u64 x2, .int .u64 x3])).run Tryz.prog w = .ok true w := by
  rw [eq_words]; simp [same4]
theorem two_boxes (w : World) (T1 T2 : TypeId) (c1 c2 : List Value) : Box ((w.alloc (.cells c1.toArray T1)).alloc (.cells c2.toArray T2)) w.heap.size T1 c1 ∧ Box ((w.alloc (.cells c1.toArray T1)).alloc (.cells c2.toArray T2)) (w.heap.size + 1) T2 c2 ∧
    Below w.heap.size w ((w.alloc (.cells c1.toArray T1)).alloc (.cells c2.toArray T2)) ∧ ((w.alloc (.cells c1.toArray T1)).alloc (.cells c2.toArray T2)).heap.size = w.heap.size + 2 := by
  refine ⟨(Below.heap_alloc _ _ _ (by simp)).trans (Box.new w T1 c1), ?_, ((Below.refl _ _).alloc (Nat.le_refl _) _).alloc (by simp) _, by simp⟩
  have := Box.new (w.alloc (.cells c1.toArray T1)) T2 c2
  rwa [World.size_alloc] at this
end Go.Proofs.YtghnpkpmgpbmcaaGreatDoor
/-
  The probe that stands in each statement.
-/
namespace Go.Proofs.YtghnpkpmgpbmcaaGreatDoor
open Go.RowKit Go.Shelf Vs

theorem pr_rows : PVs [prPart] = [.string (str [112]), .int .u64 15, .int .u64 0, .int .u64 0, .int .u64 0, .int .i64 2, .int .i64 1000000, .int .i64 0] := by
  have h0 : Bs.word (memL [0, 1, 2, 3]) 0 = 15 := by decide +kernel
  have h1 : Bs.word (memL [0, 1, 2, 3]) 1 = 0 := by decide +kernel
  have h2 : Bs.word (memL [0, 1, 2, 3]) 2 = 0 := by decide +kernel
  have h3 : Bs.word (memL [0, 1, 2, 3]) 3 = 0 := by decide +kernel
  show [Value.string (str [112]), .int .u64 (Bs.word (memL [0, 1, 2, 3]) 0), .int .u64 (Bs.word (memL [0, 1, 2, 3]) 1), .int .u64 (Bs.word (memL [0, 1, 2, 3]) 2), .int .u64 (Bs.word (memL [0, 1, 2, 3]) 3), .int .i64 2, .int .i64 1000000, .int .i64 0] = _
  rw [h0, h1, h2, h3]
  rfl
theorem pr_short : Short prC := by
  refine ⟨fun p hp => ?_, fun p hp => by cases hp⟩
  have : p = prPart := by simpa [prC] using hp
  subst this
  decide
def prBytes : ByteArray := ⟨#[110, 111, 100, 101, 32, 110, 91, 48, 45, 51, 93, 32, 99, 112, 117, 61, 52, 10, 112, 97, 114, 116, 32, 112, 32, 110, 91, 48, 45, 51, 93, 32, 109, 97, 120, 61, 50, 32, 35, 32, 110, 111, 116, 101, 10, 115, 101, 116, 32, 98, 111, 111, 116, 32, 55, 10]⟩
theorem pr_bytes : bl prBytes = prText := by decide +kernel
set_option maxRecDepth 100000 in
set_option maxHeartbeats 8000000 in
theorem alive_any (w : World) (hw : Env w) : Calls Tryz.prog 8 #[] w (BoolP w true) := by
  have hpa := Parse_any9 prBytes w hw (by decide)
  rw [pr_bytes, pr_parse] at hpa
  unfold ParseP prBytes at hpa
  have hse := fun v W h1 h2 => Set_any v prC ⟨#[110, 49, 44, 110, 51]⟩ W h1 h2 (by decide)
  rw [show bl ⟨#[110, 49, 44, 110, 51]⟩ = [110, 49, 44, 110, 51] from rfl, pr_set2] at hse
  unfold setV at hse
  simp only [pr_nodes2] at hse
  have hri := fun v W h1 h2 => Right_any9 v prC W h1 h2 pr_short
  rw [pr_right] at hri
  unfold BoolP at hri
  have hq := eql_fault 0 0 0 0
  have he := fun w => eq_same 15 0 0 0 w
  have he2 := fun w => eq_same 10 0 0 0 w
  replace hw := fhid hw
  go_enter Tryz.func8, Tryz.ntmps8
  go_upto_region 2 with (go_at_call 9; (with_reducible refine hpa.mono ?_); rintro e w1 ⟨v, rfl, hcr, b1⟩
                         have hcr0 := fhid hcr
                         obtain ⟨AN, cN, AV, cV, AP, cP, AQ, cQ, a0, a1, a2, a3, a4, a5, a6, a7, rfl, ev, -, -, r3, -⟩ := hcr)
  rw [show prC.vals = [100, 7, 5, 1000, 0, 256, 16, 3] from rfl] at ev
  simp only [List.cons.injEq, and_true] at ev
  obtain ⟨rfl, rfl, rfl, rfl, rfl, rfl, rfl, rfl⟩ := ev
  rw [show prC.names.length = 4 from rfl, show prC.vecs.length = 4 from rfl, show prC.parts.length = 1 from rfl, show prC.qos.length = 0 from rfl] at hcr0 ⊢
  obtain ⟨q0, q1, bA, hz⟩ := two_boxes w1 TConf 31 [.slice AN 4 cN, .slice AV 4 cV, .slice AP 1 cP, .slice AQ 0 cQ, .int .i64 100, .int .i64 7, .int .i64 5, .int .i64 1000, .int .i64 0, .int .i64 256, .int .i64 16, .int .i64 3] [.int .i64 0, .int .i64 0]
  generalize (w1.alloc _).alloc _ = w2 at *
  have hcr2 := fhid (hcr0.out.below bA)
  have g2 := b1.trans (bA.mono b1.size)
  have zl := Box.lt q0
  have zl1 := Box.lt q1
  have hr3 := fhid r3
  obtain ⟨pb, po, rfl, hpb, -⟩ := RdS.part r3 (k := 0) (by decide)
  have hy := fhid (fun W (h : Below w2.heap.size w2 W) => Box.twelve (Box.below q0 h zl))
  have hf := fhid (fun W (h : Below w2.heap.size w2 W) => show W.cell? ⟨w1.heap.size + 1, 0, none⟩ = some (.int .i64 0) ∧ W.cell? ⟨w1.heap.size + 1, 1, none⟩ = some (.int .i64 0) from ⟨Box.cell (Box.below q1 h zl1) 0, Box.cell (Box.below q1 h zl1) 1⟩)
  have hp := fhid (fun W (h : Below w1.heap.size w1 W) => show W.cell? ⟨pb, po + 1, none⟩ = some (.int .u64 15) ∧ W.cell? ⟨pb, po + 2, none⟩ = some (.int .u64 0) ∧ W.cell? ⟨pb, po + 3, none⟩ = some (.int .u64 0) ∧ W.cell? ⟨pb, po + 4, none⟩ = some (.int .u64 0) ∧ W.cell? ⟨pb, po + 5, none⟩ = some (.int .i64 2) from by
    obtain ⟨b', o', e', hb', hc'⟩ := hr3.out.2.2 (by rw [PVs_len]; decide)
    injection e' with e'
    injection e' with e1 e2 _
    subst e1
    subst e2
    have hP : PVs prC.parts = [.string (str [112]), .int .u64 15, .int .u64 0, .int .u64 0, .int .u64 0, .int .i64 2, .int .i64 1000000, .int .i64 0] := pr_rows
    have hc2 : ∀ j v, [Value.string (str [112]), .int .u64 15, .int .u64 0, .int .u64 0, .int .u64 0, .int .i64 2, .int .i64 1000000, .int .i64 0][j]? = some v → W.cell? ⟨pb, po + j, none⟩ = some v := by
      intro j v hv
      rw [← hP] at hv
      obtain ⟨hj, hv⟩ := List.getElem?_eq_some_iff.1 hv
      rw [← hv, ← hc' j hj]
      exact h.cell (p := ⟨pb, po + j, none⟩) hpb
    exact ⟨hc2 1 _ rfl, hc2 2 _ rfl, hc2 3 _ rfl, hc2 4 _ rfl, hc2 5 _ rfl⟩)
  obtain ⟨c0, c1, c2, c3, c4, c5, c6, c7, c8, c9, c10, c11⟩ := hy.out w2 (Below.refl _ _)
  replace q0 := fhid q0
  replace q1 := fhid q1
  replace hz := fhid hz
  clear hpa r3
  go_upto_region 3 with (go_at_call 21; (with_reducible refine (hse _ _ hcr2.out (hw.out.below g2)).mono ?_); rintro e w3 ⟨rfl, b3⟩)
  have b4 : Below w2.heap.size w2 (w3.alloc (.cells #[.int .u64 10, .int .u64 0, .int .u64 0, .int .u64 0] TNodes)) := b3.alloc b3.size _
  have z4 : Box (w3.alloc (.cells #[.int .u64 10, .int .u64 0, .int .u64 0, .int .u64 0] TNodes)) w3.heap.size TNodes [.int .u64 10, .int .u64 0, .int .u64 0, .int .u64 0] := Box.new w3 TNodes _
  generalize w3.alloc _ = w4 at *
  have g4 := g2.trans (b4.mono g2.size)
  have hcr4 := fhid (hcr2.out.below b4)
  clear c0 c1 c2 c3 c4 c5 c6 c7 c8 c9 c10 c11
  obtain ⟨c0, c1, c2, c3, c4, c5, c6, c7, c8, c9, c10, c11⟩ := hy.out w4 b4
  obtain ⟨f0, f1⟩ := hf.out w4 b4
  obtain ⟨p1, p2, p3, p4, p5⟩ := hp.out w4 (bA.trans (b4.mono bA.size))
  obtain ⟨⟨y0, y1, y2, y3⟩, -, -, -, -⟩ := Box.four z4
  have l1 := Nat.lt_of_lt_of_le zl b4.size
  have l2 := Nat.lt_of_lt_of_le zl1 b4.size
  have l3 := Nat.lt_of_lt_of_le hpb (Nat.le_trans bA.size b4.size)
  have l4 := Box.lt z4
  replace z4 := fhid z4
  go_wp2_with (go_at_call 24; (with_reducible refine (hri _ _ hcr4.out (hw.out.below g4)).mono ?_); rintro e w5 ⟨rfl, b5⟩)
  go_ret
  exact ⟨rfl, g4.trans (b5.mono g4.size)⟩
end Go.Proofs.YtghnpkpmgpbmcaaGreatDoor
