/-
  NodeReach, walked.
-/
import Derived.Test.YtmdebbkmhcfpfaaDoorEReachM
namespace Go.Proofs.YtmdebbkmhcfpfaaDoor
open Go.RowKit

theorem mod8 {f : Int} (h : 0 ≤ f ∧ f ≤ 255) : ∃ a : Nat, a < 8 ∧ wrap64 (f.tmod 8) = (a : Int) := by
  refine ⟨(f.tmod 8).toNat, ?_⟩
  rw [Int.tmod_eq_emod_of_nonneg h.1]
  unfold wrap64
  omega
set_option maxRecDepth 100000 in
set_option maxHeartbeats 16000000 in
theorem reach_walk (f g : Int) (w : World) (hT : TabW w) (hf : 0 ≤ f ∧ f ≤ 255) (hg : 0 ≤ g ∧ g ≤ 255) :
    Calls Tryd.prog 5 #[.int .u8 f, .int .u8 g] w (BoolPost w true) := by
  obtain ⟨a, ha, ea⟩ := mod8 hf
  obtain ⟨b, hb, eb⟩ := mod8 hg
  have hal := fun W (hW : Below w.heap.size w W) => alive_any W (hT.below hW)
  have hev := fun s W (hW : Below w.heap.size w W) => Events_any s W (hT.below hW)
  have hnx := fun s ev W (hW : Below w.heap.size w W) => Next_any (s, 0, 0) ev 0 3 W (hT.below hW)
  have hil := iter_len a ha
  have hir := iter_rng a ha
  have hia := iter_all a ha b hb
  unfold NextPost nv at hnx
  simp only at hnx
  have hmm := @run_makeMap Tryd.prog
  obtain ⟨w1, hins, hm1, g1⟩ := lit_truth w a
  have z1 := hm1.lt
  replace hT := fhid hT
  replace hil := fhid hil
  replace hir := fhid hir
  replace hia := fhid hia
  clear hf hg ha hb
  go_enter Tryd.func5, Tryd.ntmps5
  go_upto_region 4 with fail
  generalize wrap64 (g.tmod 8) = x at *
  subst eb
  have hz1 : w1.heap.size ≠ w.heap.size := by omega
  have n0 : SegP (w1.alloc (.cells #[.int .i64 a] 3)) (fun k => k ≠ w.heap.size) (some ⟨w1.heap.size, 0, none⟩) (IV [(a : Int)]) := fun _ => ⟨w1.heap.size, 0, rfl, hz1, fun j hj => by
    have hj : j = 0 := by simpa [IV] using hj
    subst hj
    have h := heap_alloc_new w1 (.cells #[.int .i64 a] 3)
    simp only [World.cell?, h, Nat.zero_add]
    simp [IV]⟩
  have m0 : IMap (w1.alloc (.cells #[.int .i64 a] 3)) w.heap.size (BS [(a : Int)]) := hm1.keep (Below.heap_alloc _ _ _ z1)
  have g0 : Below w.heap.size w (w1.alloc (.cells #[.int .i64 a] 3)) := g1.alloc g1.size _
  clear hm1 g1 hmm hins hz1 z1 ea
  generalize w1.alloc _ = w2 at *
  generalize w1.heap.size = c at *
  replace n0 := fhid n0
  replace m0 := fhid m0
  replace g0 := fhid g0
  go_wp2_with fail
  go_loopw [8, 27] (fun v i wr => ∃ (k : Nat) (A : Option Addr) (cap : Nat), k ≤ 8 ∧ i = .int .i64 (k : Int) ∧ v = .slice A (iterR k a).2.length cap ∧ SegP wr (fun k => k ≠ w.heap.size) A (IV (iterR k a).2) ∧ IMap wr w.heap.size (BS (iterR k a).1) ∧ Below w.heap.size w wr) (fun _ i _ => (8 - intOf i).toNat)
  case atStart => exact ⟨0, some ⟨c, 0, none⟩, 1, by omega, rfl, rfl, n0.out, m0.out, g0.out⟩
  case round =>
    obtain ⟨k, A, cap, hk, rfl, rfl, hS, hM, hB⟩ := hrel
    by_cases hlt : k < 8
    · have hll := hil.out k (by omega)
      have hrg := hir.out k (by omega)
      have hsu := fhid (iter_succ k a)
      have i1 : (k : Int) < 8 := by omega
      generalize (iterR k a).2 = L at *
      generalize (iterR k a).1 = M at *
      have zr := hM.lt
      have hA0 : Apart wr w.heap.size (.slice none 0 0) A L := hS.imp fun k _ h => ⟨h, by simp [Value.ownBlock]⟩
      replace hA0 := fhid hA0
      replace hM := fhid hM
      replace hB := fhid hB
      replace hrg := fhid hrg
      clear hS
      go_wp2_with fail
      go_loopw [9, 31] (fun v i wq => ∃ (j : Nat) (vv : Value) (met more : List Int), j ≤ L.length ∧ i = .int .i64 (j : Int) ∧ vv = v ∧ (L.take j).foldl stepS (M, []) = (met, more) ∧ more.length ≤ 12 * j ∧ OwnI wq (w.heap.size + 1) vv more ∧ IMap wq w.heap.size (BS met) ∧ Below w.heap.size w wq ∧ Apart wq w.heap.size vv A L) (fun _ i _ => (L.length - intOf i).toNat)
      case atStart => exact ⟨0, _, M, [], Nat.zero_le _, rfl, rfl, rfl, Nat.zero_le _, ownsRow_nil _ _ _ _, hM.out, hB.out, hA0.out⟩
      case round =>
        obtain ⟨j, vv, met, more, hj, rfl, rfl, hfo, hml, hO, hM2, hB2, hA2⟩ := hrel
        by_cases hlt2 : j < L.length
        · obtain ⟨bb, oo, rfl, ⟨hb1, hb2⟩, hc⟩ := Ints.at_ hA2 hlt2
          have hse := List.take_succ_eq_append_getElem hlt2
          obtain ⟨hs0, hs7⟩ := hrg.out L[j] (List.getElem_mem hlt2)
          have i2 : (j : Int) < L.length := by omega
          have i0 : (0 : Int) ≤ j := by omega
          generalize L[j] = s at *
          have hfs : (L.take (j + 1)).foldl stepS (M, []) = stepS (met, more) s := by rw [hse, List.foldl_append, hfo]; rfl
          have hev2 := fun W hW => hev s W hW
          have hnx2 := fun ev W hW => hnx s ev W hW
          have hco := fun ev hm => event_comes (s := s) (ev := ev) hs0 hs7 hm
          have hst : stepS (met, more) s = (eventsP s).foldl (stepE s) (met, more) := rfl
          have hel : (eventsP s).length ≤ 12 := by
            unfold eventsP
            rw [if_pos (show stOk s = true from decide_eq_true ⟨hs0, hs7⟩)]
            exact events_len _ (by omega)
          rw [hst] at hfs
          generalize eventsP s = E at *
          have zr2 := hM2.lt
          replace hO := fhid hO
          replace hM2 := fhid hM2
          replace hB2 := fhid hB2
          replace hA2 := fhid hA2
          replace hfs := fhid hfs
          replace hco := fhid hco
          clear hst hse hfo
          go_upto_region 11 with (go_at_call 9; (with_reducible refine (hev2 _ hB2.out).mono ?_); rintro e w4 ⟨v4, rfl, o4, b4⟩; obtain ⟨A4, cap4, rfl, _, _, hS4⟩ := o4.seg)
          have hvl : ∀ k, vv.ownBlock = some k → w.heap.size < k ∧ k < wr.heap.size := fun k hk => ⟨ownsRow_ge hO.out k hk, ownsRow_lt hO.out k hk⟩
          have hE4 : Apart w4 w.heap.size vv A4 E := hS4.imp fun k _ hk => ⟨by omega, fun e => by have := (hvl k e.symm).2; omega⟩
          have hO4 := OwnI.below hO.out b4
          have hM4 := IMap.below hM2.out b4 zr2
          have hB4 := hB2.out.trans (b4.mono hB2.out.size)
          have hA4 := Apart.below hA2.out b4
          clear hS4 hvl o4 b4 hO hM2 hB2 hA2 hev2 zr2
          replace hE4 := fhid hE4
          replace hO4 := fhid hO4
          replace hM4 := fhid hM4
          replace hB4 := fhid hB4
          replace hA4 := fhid hA4
          go_loopw [9, 38] (fun v i wp => ∃ (j2 : Nat) (vv : Value) (met2 more2 : List Int), j2 ≤ E.length ∧ i = .int .i64 (j2 : Int) ∧ vv = v ∧ (E.take j2).foldl (stepE s) (met, more) = (met2, more2) ∧ more2.length ≤ 12 * j + j2 ∧ OwnI wp (w.heap.size + 1) vv more2 ∧ IMap wp w.heap.size (BS met2) ∧ Below w.heap.size w wp ∧ Apart wp w.heap.size vv (some ⟨bb, oo, none⟩) L ∧ Apart wp w.heap.size vv A4 E) (fun _ i _ => (E.length - intOf i).toNat)
          case atStart => exact ⟨0, _, met, more, Nat.zero_le _, rfl, rfl, rfl, by omega, hO4.out, hM4.out, hB4.out, hA4.out, hE4.out⟩
          case round =>
            clear hE4 hO4 hM4 hB4 hA4
            obtain ⟨j2, vv, met2, more2, hj2, rfl, rfl, hf2, hm2, hO5, hM5, hB5, hA5, hE5⟩ := hrel
            by_cases hlt3 : j2 < E.length
            · obtain ⟨b5, o5, rfl, ⟨_, _⟩, hc5⟩ := Ints.at_ hE5 hlt3
              have hse := List.take_succ_eq_append_getElem hlt3
              obtain ⟨x, hx⟩ := hco.out E[j2] (List.getElem_mem hlt3)
              have i3 : (j2 : Int) < E.length := by omega
              have i4 : (0 : Int) ≤ j2 := by omega
              generalize E[j2] = ev at *
              have hfe : (E.take (j2 + 1)).foldl (stepE s) (met, more) = addP (met2, more2) x.1 := by
                rw [hse, List.foldl_append, hf2]
                show addP (met2, more2) (nextN (s, 0, 0) ev 0 3).1.1 = _
                rw [hx]
              have hn3 := fun W hW => hnx2 ev W hW
              rw [hx] at hn3
              obtain ⟨xs, xi, xt⟩ := x
              simp only at hn3 hfe
              have zm := hM5.lt
              replace hfe := fhid hfe
              replace hO5 := fhid hO5
              replace hM5 := fhid hM5
              replace hB5 := fhid hB5
              replace hA5 := fhid hA5
              replace hE5 := fhid hE5
              clear hx hse hf2
              go_upto_region 14 with (go_at_call 19; (with_reducible refine (hn3 _ hB5.out).mono ?_); rintro e u2 ⟨rfl, b2⟩)
              have q6 : NB (u2.alloc (.cells #[.int .i64 xs, .int .i64 xi, .int .i64 xt] TNd)) u2.heap.size TNd (xs, xi, xt) := NB.new u2 TNd (xs, xi, xt)
              have b6 : Below wr.heap.size wr (u2.alloc (.cells #[.int .i64 xs, .int .i64 xi, .int .i64 xt] TNd)) := b2.alloc b2.size _
              have hcm : u2.heap.size ≠ w.heap.size := by have := b2.size; omega
              have hO6 := OwnI.below hO5.out b6
              have hM6 := IMap.below hM5.out b6 zm
              have hB6 := hB5.out.trans (b6.mono hB5.out.size)
              have hA6 := Apart.below hA5.out b6
              have hE6 := Apart.below hE5.out b6
              clear hc5 hO5 hM5 hB5 hA5 hE5 hn3 b6 b2 zm
              generalize u2.alloc _ = w6 at *
              generalize u2.heap.size = c6 at *
              obtain ⟨k0, k1, k2, _, _, _, kz⟩ := q6.facts
              have zm := hM6.lt
              have hvo : ∀ k, vv.ownBlock = some k → w.heap.size < k ∧ k < w6.heap.size := fun k hk => ⟨ownsRow_ge hO6 k hk, ownsRow_lt hO6 k hk⟩
              replace q6 := fhid q6
              replace hO6 := fhid hO6
              replace hM6 := fhid hM6
              replace hB6 := fhid hB6
              replace hA6 := fhid hA6
              replace hE6 := fhid hE6
              replace hvo := fhid hvo
              by_cases hin : xs ∈ met2
              · have hfe2 := fhid (hfe.out.trans (addP_in (p := (met2, more2)) hin))
                have hd := fhid (decide_eq_true hin)
                clear hin
                go_wp2_with (at_lookup; refine truth_look rfl _ _ rfl w.heap.size met2 rfl hM6.out xs rfl true hd.out ?_)
                go_roundw
                case rel => exact ⟨j2 + 1, _, met2, more2, by omega, by go_num, rfl, hfe2.out, by omega, hO6.out, hM6.out, hB6.out, hA6.out, hE6.out⟩
                case measure => simp [intOf]; omega
              · have hfe2 := fhid (hfe.out.trans (addP_out (p := (met2, more2)) hin))
                have hd := fhid (decide_eq_false hin)
                have hin := fhid hin
                go_wp2_with (first
                  | (at_lookup; refine truth_look rfl _ _ rfl w.heap.size met2 rfl hM6.out xs rfl false hd.out ?_)
                  | (at_mapUpdate
                     refine truth_put rfl _ _ _ rfl w.heap.size met2 rfl hM6.out xs rfl rfl hin.out ?_
                     intro w7 m7 g7 z7
                     have q7 : NB w7 c6 TNd (xs, xi, xt) := (g7.block c6 kz (by simpa using hcm)).trans q6.out
                     clear k0 k1 k2
                     obtain ⟨k0, k1, k2, _⟩ := q7.facts
                     have hO7 : OwnI w7 (w.heap.size + 1) vv more2 := hO6.out.keep fun k hk => g7.block k (hvo.out k hk).2 (by have := (hvo.out k hk).1; simp; omega)
                     have hz7 : w.heap.size + 1 ≤ w7.heap.size := by omega
                     clear z7)
                  | (at_builtin
                     refine app_apart rfl _ _ rfl (w.heap.size + 1) vv more2 xs w7 rfl hO7 rfl w7.heap.size rfl rfl (by omega) hz7 (fun k => k < w7.heap.size ∧ some k ≠ vv.ownBlock) (fun k h => h) ?_
                     intro v8 w8 o8 a8 b8)
                  | fail)
                have hB7 := hB6.out.trans (below_at g7 (Nat.le_refl _) zm)
                have hnm : some w.heap.size ≠ vv.ownBlock := fun e => by have := (hvo.out _ e.symm).1; omega
                have hA8 : ∀ A ns, Apart w6 w.heap.size vv A ns → Apart w8 w.heap.size v8 A ns := fun A ns h => (h.turn (w' := w7) (v' := vv) fun k h1 h2 h3 => ⟨g7.block k h1 (by simpa using h2), h3⟩).turn fun k h1 h2 h3 => a8 k ⟨h1, h3⟩
                go_roundw
                case rel => exact ⟨j2 + 1, _, met2 ++ [xs], more2 ++ [xs], by omega, by go_num, rfl, hfe2.out, by rw [List.length_append, List.length_singleton]; omega, o8, m7.keep (a8 _ ⟨by omega, hnm⟩).1, hB7.trans (b8.mono (by omega)), hA8 _ _ hA6.out, hA8 _ _ hE6.out⟩
                case measure => simp [intOf]; omega
            · obtain rfl : j2 = E.length := by omega
              rw [List.take_length] at hf2
              have i3 : ¬ (E.length : Int) < E.length := by omega
              have hff := fhid (hfs.out.trans hf2)
              go_wp2_with fail
              go_roundw
              case rel => exact ⟨j + 1, _, met2, more2, by omega, by go_num, rfl, hff.out, by omega, hO5, hM5, hB5, hA5⟩
              case measure => simp [intOf]; omega
        · obtain rfl : j = L.length := by omega
          rw [List.take_length] at hfo
          have i2 : ¬ (L.length : Int) < L.length := by omega
          have hsu2 := fhid (hsu.out.trans hfo)
          obtain ⟨A3, cap3, rfl, _, _, hS3⟩ := hO.seg
          go_wp2_with fail
          go_roundw
          case rel => exact ⟨k + 1, A3, cap3, by omega, by go_num, by rw [hsu2.out], by rw [hsu2.out]; exact hS3.imp fun k _ h => by omega, by rw [hsu2.out]; exact hM2, hB2⟩
          case measure => simp [intOf]; omega
    · obtain rfl : k = 8 := by omega
      have hd := fhid (decide_eq_true hia.out)
      generalize (iterR 8 a).1 = M at *
      replace hB := fhid hB
      go_wp2_with (first | (at_lookup; refine truth_look rfl _ _ rfl w.heap.size M rfl hM b rfl true hd.out ?_) | (go_at_call 18; (with_reducible refine (hal _ hB.out).mono ?_); rintro e w5 ⟨rfl, b5⟩) | fail)
      go_ret
      exact ⟨rfl, hB.out.trans (b5.mono hB.out.size)⟩
end Go.Proofs.YtmdebbkmhcfpfaaDoor
