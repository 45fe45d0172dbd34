/-
  The sum of bytes: a range over slices.Chunk.
-/
import Derived.Test.YtpblpkmlioojiaaFChunk
namespace Go.Proofs.Ytpblpkmlioojiaa
open Go.RowKit Go.Shelf
attribute [local go_sem] Oper.semAt_some

/-- a and b behind these rounds. -/
def st (l : List UInt8) (pre : List (Rd l)) : Nat × Nat := pre.foldl (fun s x => ((s.1 + num (word l x.1)) % 4294967295, (s.2 + (s.1 + num (word l x.1)) % 4294967295) % 4294967295)) (l.length, 0)
theorem st_snoc (l : List UInt8) (pre : List (Rd l)) (x : Rd l) : st l (pre ++ [x]) = (((st l pre).1 + num (word l x.1)) % 4294967295, ((st l pre).2 + ((st l pre).1 + num (word l x.1)) % 4294967295) % 4294967295) := by
  simp [st]
theorem st_fa (l : List UInt8) : ∀ (k : Nat) (pre : List (Rd l)), rdNums pre = List.range k → st l pre = (fa l k, fb l k)
  | 0, pre, h => by
    cases pre with
    | nil => rfl
    | cons x r => simp [rdNums] at h
  | k + 1, pre, h => by
    rcases List.eq_nil_or_concat pre with rfl | ⟨r, x, rfl⟩
    · simp [rdNums] at h
    · rw [List.concat_eq_append] at h ⊢
      rw [rdNums_snoc, List.range_succ] at h
      obtain ⟨h1, h2⟩ := List.append_inj' h rfl
      have h3 : x.1 = k := by simpa using h2
      rw [st_snoc, st_fa l k r h1, h3]
      rfl
theorem st_le (l : List UInt8) (pre : List (Rd l)) : (st l pre).1 ≤ l.length + 4294967295 ∧ (st l pre).2 < 4294967295 := by
  rcases List.eq_nil_or_concat pre with rfl | ⟨r, x, rfl⟩
  · exact ⟨Nat.le_add_right _ _, show (0 : Nat) < 4294967295 by decide⟩
  · rw [List.concat_eq_append, st_snoc]
    have h1 := Nat.mod_lt ((st l r).1 + num (word l x.1)) (show 4294967295 > 0 by decide)
    have h2 := Nat.mod_lt ((st l r).2 + ((st l r).1 + num (word l x.1)) % 4294967295) (show 4294967295 > 0 by decide)
    exact ⟨by omega, h2⟩

/-- What a round leaves: both boxes, and all else as it lay. -/
theorem round_left (n₀ : Nat) (t : TypeId) (W : World) (x y u v : Value) (bL : Boxed W n₀ t x) (bH : Boxed W (n₀ + 1) t y) :
    KeepsOthers W ((W.setCell ⟨n₀, 0, none⟩ u).setCell ⟨n₀ + 1, 0, none⟩ v).drew ∧ KpC n₀ (n₀ + 1 + 1) (n₀ + 1 + 1 + 1) W ((W.setCell ⟨n₀, 0, none⟩ u).setCell ⟨n₀ + 1, 0, none⟩ v).drew ∧
      (Boxed ((W.setCell ⟨n₀, 0, none⟩ u).setCell ⟨n₀ + 1, 0, none⟩ v).drew n₀ t u ∧ Boxed ((W.setCell ⟨n₀, 0, none⟩ u).setCell ⟨n₀ + 1, 0, none⟩ v).drew (n₀ + 1) t v) := by
  have b1 : Boxed (W.setCell ⟨n₀, 0, none⟩ u) n₀ t u := bL.set u
  have b2 : Boxed (W.setCell ⟨n₀, 0, none⟩ u) (n₀ + 1) t y := bH.other (by omega) u
  have k1 : KeepsOthers W (W.setCell ⟨n₀, 0, none⟩ u) := KeepsOthers.setCell _ _ _
  have d1 : Below n₀ W (W.setCell ⟨n₀, 0, none⟩ u) := (Below.refl n₀ W).setCell (p := ⟨n₀, 0, none⟩) (Nat.le_refl _) u
  have e : ∀ j, n₀ + 1 < j → (W.setCell ⟨n₀, 0, none⟩ u).heap[j]? = W.heap[j]? := fun j hj => Below.heap_setCell W ⟨n₀, 0, none⟩ u j (by show j ≠ n₀; omega)
  generalize W.setCell ⟨n₀, 0, none⟩ u = W1 at *
  refine ⟨(k1.trans (KeepsOthers.setCell _ _ _)).trans (KeepsOthers.drew _), ⟨below_drewN (d1.setCell (p := ⟨n₀ + 1, 0, none⟩) (Nat.le_succ _) v) 1, ?_, ?_⟩, b1.other (by omega) v, b2.set v⟩
  · exact (Below.heap_setCell W1 ⟨n₀ + 1, 0, none⟩ v _ (by show n₀ + 1 + 1 ≠ n₀ + 1; omega)).trans (e _ (by omega))
  · exact (Below.heap_setCell W1 ⟨n₀ + 1, 0, none⟩ v _ (by show n₀ + 1 + 1 + 1 ≠ n₀ + 1; omega)).trans (e _ (by omega))

set_option maxRecDepth 100000 in
set_option maxHeartbeats 2000000 in
theorem Sum_any (A : Option Addr) (l : List UInt8) (cap : Nat) (w : World) (h : Seg w w.heap.size A l) (hcap : l.length ≤ cap) (hlen : l.length ≤ 140737488355328) :
    Calls Try.prog 10 #[.slice A l.length cap] w fun e w' => e = .returned (.int .u64 ((sumOf l : Nat) : Int)) ∧ Below w.heap.size w w' := by
  have hlw : IntKind.u64.wrap ((l.length : Nat) : Int) = ((l.length : Nat) : Int) := by rw [IntKind.wrap_u64]; omega
  refine (callsIn_wide (n := 6)).1 ?_
  refine callsIn_of_wp_marks Try.func10 rfl trivial ?_ rfl
  simp only [Try.ntmps10, List.size_toArray, List.length_cons, List.length_nil, Nat.reduceAdd, Nat.reduceSub, Array.replicate_succ, Array.replicate_zero, List.push_toArray, List.append_toArray, List.nil_append, List.cons_append]
  gi_wp2_with (refine ⟨trivial, ?_⟩; gi_at_call 22; refine (chunk_in Fence.wide _ trivial rfl _ _ _ _).mono ?_; rintro e w' ⟨rfl, rfl⟩)
  obtain ⟨b, o, hA, hb, hcells⟩ : ∃ b o, (0 < l.length → A = some ⟨b, o, none⟩) ∧ (0 < l.length → b < w.heap.size) ∧ ∀ j (h : j < l.length), w.cell? ⟨b, o + j, none⟩ = some (.int .u8 (l[j].toNat : Int)) := by
    by_cases h0 : 0 < l.length
    · obtain ⟨b, o, e, hb, hc⟩ := h h0
      exact ⟨b, o, fun _ => e, fun _ => hb, hc⟩
    · exact ⟨0, 0, fun h => absurd h h0, fun h => absurd h h0, fun j hj => absurd hj (by omega)⟩
  clear h
  generalize hW1 : w.alloc (.cells #[.int .u64 (l.length : Int)] 23) = W1
  have s1 : W1.heap.size = w.heap.size + 1 := by rw [← hW1]; exact World.size_alloc _ _
  have bL1 : Boxed W1 w.heap.size 23 (.int .u64 (l.length : Int)) := by rw [← hW1]; exact Boxed.new _ _ _
  have B1 : Below w.heap.size w W1 := by rw [← hW1]; exact (Below.refl _ w).alloc (Nat.le_refl _) _
  generalize hW2 : W1.alloc (.cells #[.int .u64 0] 23) = W2
  have s2 : W2.heap.size = w.heap.size + 2 := by rw [← hW2, World.size_alloc, s1]
  have bL2 : Boxed W2 w.heap.size 23 (.int .u64 (l.length : Int)) := by rw [← hW2]; exact bL1.alloc _
  have bH2 : Boxed W2 (w.heap.size + 1) 23 (.int .u64 0) := by rw [← hW2, ← s1]; exact Boxed.new _ _ _
  have B2 : Below w.heap.size w W2 := by rw [← hW2]; exact B1.alloc (by omega) _
  generalize hW3 : W2.alloc (.cells #[.slice A l.length cap] 22) = W3
  have s3 : W3.heap.size = w.heap.size + 3 := by rw [← hW3, World.size_alloc, s2]
  have bL3 : Boxed W3 w.heap.size 23 (.int .u64 (l.length : Int)) := by rw [← hW3]; exact bL2.alloc _
  have bH3 : Boxed W3 (w.heap.size + 1) 23 (.int .u64 0) := by rw [← hW3]; exact bH2.alloc _
  have bS3 : Boxed W3 (w.heap.size + 1 + 1) 22 (.slice A l.length cap) := by
    have := Boxed.new W2 22 (.slice A l.length cap)
    rw [hW3, s2] at this; exact this
  have B3 : Below w.heap.size w W3 := by rw [← hW3]; exact B2.alloc (by omega) _
  generalize hW4 : W3.alloc (.cells #[.int .i64 4] 3) = W4
  have s4 : W4.heap.size = w.heap.size + 4 := by rw [← hW4, World.size_alloc, s3]
  have bL4 : Boxed W4 w.heap.size 23 (.int .u64 (l.length : Int)) := by rw [← hW4]; exact bL3.alloc _
  have bH4 : Boxed W4 (w.heap.size + 1) 23 (.int .u64 0) := by rw [← hW4]; exact bH3.alloc _
  have bS4 : Boxed W4 (w.heap.size + 1 + 1) 22 (.slice A l.length cap) := by rw [← hW4]; exact bS3.alloc _
  have bN4 : Boxed W4 (w.heap.size + 1 + 1 + 1) 3 (.int .i64 4) := by
    have := Boxed.new W3 3 (.int .i64 4)
    rw [hW4, s3] at this; exact this
  have B4 : Below w.heap.size w W4 := by rw [← hW4]; exact B3.alloc (by omega) _
  clear hW1 hW2 hW3 hW4 s1 s2 s3 bL1 bL2 bL3 bH2 bH3 bS3 B1 B2 B3 W1 W2 W3
  refine wpIn_rangeFunc_ownG rfl (by omega) (gf := 26) (lb := #[.pointer (some ⟨w.heap.size + 1 + 1, 0, none⟩), .pointer (some ⟨w.heap.size + 1 + 1 + 1, 0, none⟩)]) rfl trivial (enters_of Try.func26 (by kernel_rfl) rfl)
    (chunk_stops (6 - 1) (by omega) (w.heap.size + 1 + 1) (w.heap.size + 1 + 1 + 1) w.heap.size cap A l hcap hlen b o hA W4 (by omega) (by omega) bS4 bN4)
    (fun h k => h.trans k)
    (fun W l o o' hl h h1 h2 => ⟨belowK_b (w := W4) (by omega) W l o o' hl h h1 h2, World.putObj_heap_other (by omega), World.putObj_heap_other (by omega)⟩)
    (Below.refl _ _) (fun _ => rfl)
    (fun pre W => (Boxed W w.heap.size 23 (.int .u64 (((st l pre).1 : Nat) : Int)) ∧ Boxed W (w.heap.size + 1) 23 (.int .u64 (((st l pre).2 : Nat) : Int))) ∧ Below w.heap.size w W)
    (fun _ _ _ => False)
    (OwnFrom.and (OwnFrom.and (Own.from (boxed_own _ _ _) _) (Own.from (boxed_own _ _ _) _)) (ownFrom_below (Nat.le_refl _) (by omega)))
    (fun _ _ _ _ _ hs _ _ => hs)
    ⟨⟨bL4, bH4⟩, B4⟩
    (fun x => { tmps := #[.slice A l.length cap, undef, .int .u64 0, .pointer (some ⟨w.heap.size, 0, none⟩), .pointer (some ⟨w.heap.size + 1, 0, none⟩), rdSlice b o l x, .slice A l.length cap, .int .i64 (l.length : Int), .int .u64 (l.length : Int), .slice A l.length cap,
      .func (.func 26) #[] #[.pointer (some ⟨w.heap.size + 1 + 1, 0, none⟩), .pointer (some ⟨w.heap.size + 1 + 1 + 1, 0, none⟩)], rdSlice b o l x, undef, undef, undef, undef, undef, undef, undef, undef, undef, undef, undef, undef, undef], defers := [] }) ?assign ?body ?done ?stop
  case assign =>
    intro l x W K hK
    gi_wp2
    exact hK
  case body =>
    rintro lp pre x W ⟨⟨bL, bH⟩, hB⟩ _
    have hx := x.2
    have hbw := hb (by omega)
    have hsg : Seg W w.heap.size (some ⟨b, o + 4 * x.1, none⟩) (word l x.1) := fun _ => ⟨b, o + 4 * x.1, rfl, hbw, fun j hj => by
      obtain ⟨h', e⟩ := word_get l x.1 (4 * x.1) j rfl hj
      rw [← e, Nat.add_assoc]
      exact (hB.cell (p := ⟨b, _, none⟩) hbw).trans (hcells _ h')⟩
    have hnum := number_any (some ⟨b, o + 4 * x.1, none⟩) (word l x.1) (word l x.1).length w.heap.size W.drew (hsg.keep fun _ _ => rfl) (by have := word_le l x.1; omega)
    have er : rdSlice b o l x = .slice (some ⟨b, o + 4 * x.1, none⟩) (word l x.1).length (word l x.1).length := by unfold rdSlice; rw [word_len]
    have hsn := fhid (st_snoc l pre x)
    have hcl := num_word (word l x.1) (word_le l x.1)
    obtain ⟨hal, hbl⟩ := st_le l pre
    rw [er]
    clear er hsg hx hbw hcells hA hb bS4 bN4 bL4 bH4 B4 s4 hlw
    generalize hpr : st l (pre ++ [x]) = pr at *
    replace hpr := fhid hpr
    generalize num (word l x.1) = c at *
    generalize (word l x.1).length = mm at *
    generalize (st l pre).1 = av at *
    generalize (st l pre).2 = bv at *
    have hd : 1 ≤ 6 - 1 - 1 := by omega
    have hmx : Try.prog.follows .mixedOrders = true := by kernel_rfl
    have g1 : IntKind.u64.wrap ((av : Int) + (c : Int)) = ((av + c : Nat) : Int) := by rw [IntKind.wrap_u64]; omega
    have g2 : ((av + c : Nat) : Int).tmod 4294967295 = (((av + c) % 4294967295 : Nat) : Int) := rfl
    have g3 := Nat.mod_lt (av + c) (show 4294967295 > 0 by decide)
    generalize av + c = ac at *
    generalize ac % 4294967295 = ad at *
    have g4 : IntKind.u64.wrap ((bv : Int) + (ad : Int)) = ((bv + ad : Nat) : Int) := by rw [IntKind.wrap_u64]; omega
    have cL := bL.cell
    have fL := bL.frozen
    have cH := bH.cell
    have fH := bH.frozen
    gi_wp2
    gi_region_with_o (refine ⟨trivial, ?_⟩; gi_at_call 23; refine (CallsIn.inRound lp (callsIn_wide.2 hnum)).mono ?_; rintro e w' ⟨rfl, rfl⟩)
    all_goals gi_wp2
    all_goals
      obtain ⟨k1, k2, k3, k4⟩ := round_left w.heap.size 23 W _ _ (.int .u64 (ad : Int)) (.int .u64 (((bv : Int) + (ad : Int)) % 4294967295)) bL bH
      have hE := hpr.out.trans hsn.out
      refine ⟨k1.from _, k2, ⟨?_, ?_⟩, hB.trans k2.1⟩
      · show Boxed _ _ _ (.int .u64 (((st l (pre ++ [x])).1 : Nat) : Int))
        rw [hE]; exact k3
      · show Boxed _ _ _ (.int .u64 (((st l (pre ++ [x])).2 : Nat) : Int))
        rw [hE]; exact k4
  case done =>
    rintro D ys W hD hys ⟨⟨bL, bH⟩, hB⟩ hK
    rw [st_fa l _ _ hys] at bL bH
    have cL := bL.cell
    have cH := bH.cell
    have hfl := fb_lt l (rounds4 l)
    have hfa := fa_end l
    have E := fhid (show sumOf l = fb l (rounds4 l) * 4294967296 + fa l (rounds4 l) from rfl)
    generalize fb l (rounds4 l) = bv at *
    generalize fa l (rounds4 l) = av at *
    clear hcells hA hb bS4 bN4 bL4 bH4 B4 hlw hys
    have e1 : IntKind.u64.wrap ((bv : Int) * 4294967296) = ((bv * 4294967296 : Nat) : Int) := by rw [IntKind.wrap_u64]; omega
    have e2 : bits .or .u64 ((bv * 4294967296 : Nat) : Int) (av : Int) = ((sumOf l : Nat) : Int) := by
      rw [bits_or_u64_nat _ _ (by omega) (by omega), E.out]
      rw [show (4294967296 : Nat) = 2 ^ 32 by decide, Nat.mul_comm, ← Nat.two_pow_add_eq_or_of_lt (by omega) bv]
    generalize bv * 4294967296 = hv at *
    gi_wp2
    refine ⟨by simp, .inl ⟨_, _, rfl, run_takeDeferred hK, ?_⟩⟩
    exact ⟨_, results_tmp rfl _ _ _, by first | rfl | exact fret1 rfl, hB.trans (belowK_b (w := W4) (by omega) W D _ _ hD hK rfl rfl)⟩
  case stop =>
    rintro D c pre W _ _ h _
    exact h.elim
end Go.Proofs.Ytpblpkmlioojiaa
