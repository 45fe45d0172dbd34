/-
  The reference's number, text and set, put behind bytes.
-/
import Derived.Test.YtbclmgakifmgfaaCWNodes
import Derived.Outline
import Derived.Deep.DeepCutAuto
namespace Go.Proofs.Ytbclmgakifmgfaa
open Go.RowKit

theorem Own.weak {w : World} {base base' : Nat} {v : Value} {l : List UInt8} (h : Own w base v l) (hb : base' ≤ base) : Own w base' v l := by
  refine ⟨h.1, ?_⟩
  rcases h.2 with hn | ⟨g, cap, cur, hv, hg, r⟩
  · exact .inl hn
  · exact .inr ⟨g, cap, cur, hv, Nat.le_trans hb hg, r⟩
theorem Own.rebase {w : World} {base B : Nat} {v : Value} {l : List UInt8} (h : Own w base v l) (hv : ∀ b, v.ownBlock = some b → B ≤ b) : Own w B v l := by
  refine ⟨h.1, ?_⟩
  rcases h.2 with hn | ⟨g, cap, cur, rfl, hg, r⟩
  · exact .inl hn
  · exact .inr ⟨g, cap, cur, rfl, hv g rfl, r⟩
set_option maxRecDepth 100000 in
set_option maxHeartbeats 1000000 in
theorem rInt_any (A : Option Addr) (l : List UInt8) (c : Nat) (n : Int) (w : World) (hs : Seg w w.heap.size A l) (hr : InR n) (hl : l.length + 10 ≤ 140737488355328) :
    Calls Try.prog 11 #[.slice A l.length c, .int .i64 n] w (Fresh w (l ++ nb n)) := by
  obtain ⟨u, hu⟩ : ∃ u, foldN n = u := ⟨_, rfl⟩
  have hul := fold_lt n hr.1 hr.2
  have hten := nb_ten n hr.1 hr.2
  unfold nb at hten ⊢
  rw [hu] at hul hten ⊢
  have hlen : (l ++ vb u).length ≤ 140737488355328 := by rw [List.length_append]; omega
  obtain ⟨L, hL⟩ : ∃ L, l ++ vb u = L := ⟨_, rfl⟩
  rw [hL] at hlen ⊢
  replace hL := fhid hL
  replace hs := fhid hs
  obtain ⟨h1, h2⟩ := hr
  by_cases h0 : n < 0
  · have e1 : (u : Int) = 2 * (-n - 1) + 1 := by rw [← hu]; unfold foldN; rw [if_pos h0]; omega
    replace hu := fhid hu
    replace e1 := fhid e1
    have e2 : IntKind.i64.wrap (n + 1) = n + 1 := IntWalk.i64_in _ (by omega)
    have e3 : IntKind.i64.wrap (-(n + 1)) = -(n + 1) := IntWalk.i64_in _ (by omega)
    have e4 : IntKind.u64.wrap (-(n + 1)) = -(n + 1) := by rw [IntKind.wrap_u64]; omega
    have e5 : IntKind.u64.wrap (-(n + 1) * 2) = -(n + 1) * 2 := by rw [IntKind.wrap_u64]; omega
    have e6 : IntKind.u64.wrap (-(n + 1) * 2 + 1) = (u : Int) := by have := e1.out; rw [IntKind.wrap_u64]; omega
    clear h1 h2
    go_enter Try.func11, Try.ntmps11
    go_wp2_with (at_builtin; refine app_seg rfl _ _ rfl w.heap.size _ [] rfl (Own.none_ _ _) w.heap.size A l c rfl hs.out (by rw [List.length_nil]; omega) (Nat.le_refl _) ?_; intro v1 w1 o1 b1)
    clear e2 e3 e4 e5 e6
    clear hs
    go_loopw [5, 6] (fun s v1 wr => ∃ (x : Nat) (pre : List UInt8), s = .int .u64 x ∧ x < 18446744073709551616 ∧ pre ++ vb x = L ∧ Own wr w.heap.size v1 pre ∧ Below w.heap.size w wr) (fun s _ _ => (intOf s).toNat)
    case atStart => exact ⟨u, l, rfl, hul, hL.out, o1, b1⟩
    case round =>
      obtain ⟨x, pre, rfl, hx, hp, hO, hE⟩ := hrel
      have hpl : pre.length + (vb x).length ≤ 140737488355328 := by rw [← List.length_append, hp]; exact hlen
      have hvp := vb_pos x
      have hws := hE.size
      clear o1 b1
      by_cases hb : x ≥ 128
      · have S1 := Seg.one wr (UInt8.ofNat (128 + x % 128))
        rw [byte_small (128 + x % 128) (by omega), show ((128 + x % 128 : Nat) : Int) = 128 + (x : Int) % 128 by omega] at S1
        have hnx := fhid (show (pre ++ [UInt8.ofNat (128 + x % 128)]) ++ vb (x / 128) = L by rw [← hp, vb_big x (by omega), List.append_assoc]; rfl)
        have h2 : (x : Int) ≥ 128 := by omega
        have e7 : IntKind.u8.wrap (128 + (x : Int) % 128) = 128 + (x : Int) % 128 := by rw [IntKind.wrap_u8']; omega
        replace hp := fhid hp
        replace S1 := fhid S1
        generalize UInt8.ofNat (128 + x % 128) = c at *
        go_wp2_with (at_builtin; refine app_seg rfl _ _ rfl w.heap.size _ pre rfl (hO.alloc _) (wr.heap.size + 1) (some ⟨wr.heap.size, 0, none⟩) [c] 1 rfl S1.out (by rw [List.length_singleton]; omega) (by rw [World.size_alloc]; omega) ?_; intro v2 w2 o2 b2)
        go_roundw
        case rel => exact ⟨x / 128, _, by congr 1, by omega, hnx.out, o2, (hE.alloc hws _).trans b2⟩
        case measure => simp [intOf]; omega
      · have S1 := Seg.one wr (UInt8.ofNat x)
        rw [byte_small x (by omega)] at S1
        have hnx := fhid (show pre ++ [UInt8.ofNat x] = L by rw [← hp, vb_small x (by omega)])
        have h2 : ¬ (x : Int) ≥ 128 := by omega
        replace hp := fhid hp
        replace S1 := fhid S1
        generalize UInt8.ofNat x = c at *
        go_wp2_with (at_builtin; refine app_seg rfl _ _ rfl w.heap.size _ pre rfl (hO.alloc _) (wr.heap.size + 1) (some ⟨wr.heap.size, 0, none⟩) [c] 1 rfl S1.out (by rw [List.length_singleton]; omega) (by rw [World.size_alloc]; omega) ?_; intro v2 w2 o2 b2)
        go_ret
        exact ⟨_, rfl, by rw [← hnx.out]; exact o2, (hE.alloc hws _).trans b2⟩
  · have e1 : (u : Int) = 2 * n := by rw [← hu]; unfold foldN; rw [if_neg h0]; omega
    have h3 : 0 ≤ n := by omega
    replace hu := fhid hu
    have e5 : n * 2 = (u : Int) := by omega
    replace e1 := fhid e1
    have e6 : IntKind.u64.wrap n = n := by rw [IntKind.wrap_u64]; omega
    have e7 : IntKind.u64.wrap (n * 2) = (u : Int) := by have := e1.out; rw [IntKind.wrap_u64]; omega
    clear h1 h2
    go_enter Try.func11, Try.ntmps11
    go_wp2_with (at_builtin; refine app_seg rfl _ _ rfl w.heap.size _ [] rfl (Own.none_ _ _) w.heap.size A l c rfl hs.out (by rw [List.length_nil]; omega) (Nat.le_refl _) ?_; intro v1 w1 o1 b1)
    clear e5 e6 e7
    clear hs
    go_loopw [5, 6] (fun s v1 wr => ∃ (x : Nat) (pre : List UInt8), s = .int .u64 x ∧ x < 18446744073709551616 ∧ pre ++ vb x = L ∧ Own wr w.heap.size v1 pre ∧ Below w.heap.size w wr) (fun s _ _ => (intOf s).toNat)
    case atStart => exact ⟨u, l, rfl, hul, hL.out, o1, b1⟩
    case round =>
      obtain ⟨x, pre, rfl, hx, hp, hO, hE⟩ := hrel
      have hpl : pre.length + (vb x).length ≤ 140737488355328 := by rw [← List.length_append, hp]; exact hlen
      have hvp := vb_pos x
      have hws := hE.size
      clear o1 b1
      by_cases hb : x ≥ 128
      · have S1 := Seg.one wr (UInt8.ofNat (128 + x % 128))
        rw [byte_small (128 + x % 128) (by omega), show ((128 + x % 128 : Nat) : Int) = 128 + (x : Int) % 128 by omega] at S1
        have hnx := fhid (show (pre ++ [UInt8.ofNat (128 + x % 128)]) ++ vb (x / 128) = L by rw [← hp, vb_big x (by omega), List.append_assoc]; rfl)
        have h2 : (x : Int) ≥ 128 := by omega
        have e7 : IntKind.u8.wrap (128 + (x : Int) % 128) = 128 + (x : Int) % 128 := by rw [IntKind.wrap_u8']; omega
        replace hp := fhid hp
        replace S1 := fhid S1
        generalize UInt8.ofNat (128 + x % 128) = c at *
        go_wp2_with (at_builtin; refine app_seg rfl _ _ rfl w.heap.size _ pre rfl (hO.alloc _) (wr.heap.size + 1) (some ⟨wr.heap.size, 0, none⟩) [c] 1 rfl S1.out (by rw [List.length_singleton]; omega) (by rw [World.size_alloc]; omega) ?_; intro v2 w2 o2 b2)
        go_roundw
        case rel => exact ⟨x / 128, _, by congr 1, by omega, hnx.out, o2, (hE.alloc hws _).trans b2⟩
        case measure => simp [intOf]; omega
      · have S1 := Seg.one wr (UInt8.ofNat x)
        rw [byte_small x (by omega)] at S1
        have hnx := fhid (show pre ++ [UInt8.ofNat x] = L by rw [← hp, vb_small x (by omega)])
        have h2 : ¬ (x : Int) ≥ 128 := by omega
        replace hp := fhid hp
        replace S1 := fhid S1
        generalize UInt8.ofNat x = c at *
        go_wp2_with (at_builtin; refine app_seg rfl _ _ rfl w.heap.size _ pre rfl (hO.alloc _) (wr.heap.size + 1) (some ⟨wr.heap.size, 0, none⟩) [c] 1 rfl S1.out (by rw [List.length_singleton]; omega) (by rw [World.size_alloc]; omega) ?_; intro v2 w2 o2 b2)
        go_ret
        exact ⟨_, rfl, by rw [← hnx.out]; exact o2, (hE.alloc hws _).trans b2⟩
set_option maxRecDepth 100000 in
set_option maxHeartbeats 1000000 in
theorem rText_any (A : Option Addr) (l : List UInt8) (c : Nat) (t : List UInt8) (w : World) (hs : Seg w w.heap.size A l) (hl : l.length + t.length + 20 ≤ 140737488355328) :
    Calls Try.prog 12 #[.slice A l.length c, .string (str t)] w (Fresh w (l ++ tb t)) := by
  have hz := str_size t
  have hten := nb_ten (t.length : Int) (by omega) (by omega)
  have ci := rInt_any A l c (t.length : Int) w hs ⟨by omega, by omega⟩ (by omega)
  have hnl : (l ++ nb (t.length : Int)).length + t.length ≤ 140737488355328 := by rw [List.length_append]; omega
  have htb := fhid (show l ++ tb t = (l ++ nb (t.length : Int)) ++ t by unfold tb; rw [List.append_assoc])
  clear hs
  go_enter Try.func12, Try.ntmps12
  go_wp2_with (first
    | (go_at_call 11; (with_reducible refine ci.mono ?_); rintro e w1 ⟨v1, rfl, o1, b1⟩)
    | (at_builtin
       refine app_str rfl _ _ rfl v1 _ rfl (o1.weak (Nat.zero_le _)) t rfl hnl ?_
       intro v2 w2 o2 e2))
  go_ret
  have g1 : ∀ b, v1.ownBlock = some b → w.heap.size ≤ b := fun b hb => o1.block_ge b hb
  refine ⟨_, rfl, ?_, b1.trans (e2.below b1.size (fun b e => by cases e) g1)⟩
  rw [htb.out]
  refine o2.rebase fun b hb => ?_
  have := b1.size
  rcases e2.at_ with e | e | ⟨g, e, hg⟩
  · exact g1 b (by rw [← e]; exact hb)
  · rw [e] at hb; cases hb
  · rw [e] at hb; injection hb with hb; omega
set_option maxRecDepth 100000 in
set_option maxHeartbeats 2000000 in
theorem rNodes_any (A : Option Addr) (l : List UInt8) (c : Nat) (f : Nat → Nat) (w : World) (hs : Seg w w.heap.size A l) (hf : ∀ j, j < 4 → f j < 18446744073709551616) (hl : l.length + 40 ≤ 140737488355328) :
    Calls Try.prog 15 #[.slice A l.length c, agg4 f] w (Fresh w (l ++ sb f)) := by
  have y0 : Below w.heap.size w (w.alloc (.cells #[.int .u64 (f 0 : Nat), .int .u64 (f 1 : Nat), .int .u64 (f 2 : Nat), .int .u64 (f 3 : Nat)] 26)) := (Below.refl _ _).alloc (Nat.le_refl _) _
  have hz0 : Four (w.alloc (.cells #[.int .u64 (f 0 : Nat), .int .u64 (f 1 : Nat), .int .u64 (f 2 : Nat), .int .u64 (f 3 : Nat)] 26)) w.heap.size f := heap_alloc_new w _
  have hs0 := hs.below y0
  have hn0 := hz0.lt
  replace hf := fhid hf
  clear hs
  rw [show agg4 f = .agg #[.int .u64 (f 0 : Nat), .int .u64 (f 1 : Nat), .int .u64 (f 2 : Nat), .int .u64 (f 3 : Nat)] from rfl]
  go_enter Try.func15, Try.ntmps15
  go_upto_region 1 with fail
  generalize w.alloc _ = wb at *
  go_wp2_with (at_builtin; refine app_seg rfl _ _ rfl wb.heap.size _ [] rfl (Own.none_ _ _) w.heap.size A l c rfl hs0 (by rw [List.length_nil]; omega) (Nat.le_refl _) ?_; intro v1 w1 o1 b1)
  have hbs := y0.size
  go_loopw [5, 6] (fun v i wr => ∃ k : Nat, k ≤ 4 ∧ i = .int .i64 k ∧ Own wr wb.heap.size v (l ++ sbN f k) ∧ Below wb.heap.size wb wr) (fun _ i _ => 4 - (intOf i).toNat)
  case atStart => exact ⟨0, Nat.zero_le _, rfl, by rw [show sbN f 0 = [] from rfl, List.append_nil]; exact o1, b1⟩
  case round =>
    obtain ⟨k, hk, rfl, hO, hB⟩ := hrel
    obtain ⟨wo, rfl⟩ : ∃ wo : World, wo = wr := ⟨_, rfl⟩
    clear o1 b1 hs0
    by_cases hlt : k < 4
    · obtain ⟨c0, _⟩ := (hz0.below hB hn0).at_ k hlt
      have hfk := hf.out k hlt
      have hsn := fhid (sbN_succ f k)
      have hsl := sbN_len f k
      have h2 : (k : Int) < 4 := by omega
      have h3 : (0 : Int) ≤ k := by omega
      obtain ⟨P, hP⟩ : ∃ P, l ++ sbN f k = P := ⟨_, rfl⟩
      have hPl : P.length ≤ l.length + 32 := by rw [← hP, List.length_append]; omega
      rw [hP] at hO
      replace hP := fhid hP
      clear hsl
      go_wp2_with fail
      go_loopw [5, 7, 8] (fun v x j wr => ∃ m y : Nat, m ≤ 8 ∧ j = .int .i64 m ∧ x = .int .u64 y ∧ y = f k / 256 ^ m ∧ y < 18446744073709551616 ∧ Own wr wb.heap.size v (P ++ le m (f k)) ∧ Below wb.heap.size wb wr) (fun _ _ j _ => 8 - (intOf j).toNat)
      case atStart => exact ⟨0, f k, Nat.zero_le _, rfl, rfl, by simp, hfk, by rw [le, List.append_nil]; exact hO, hB⟩
      case round =>
        obtain ⟨m, y, hm, rfl, rfl, hy, hyl, hO2, hB2⟩ := hrel
        clear hO hB c0
        by_cases hlt2 : m < 8
        · have S1 := Seg.one wr (UInt8.ofNat y)
          rw [byte_of, show ((y % 256 : Nat) : Int) = (y : Int) % 256 by omega] at S1
          have hle := fhid (show P ++ le (m + 1) (f k) = (P ++ le m (f k)) ++ [UInt8.ofNat y] by rw [le_snoc, hy, List.append_assoc])
          have hy' := fhid (show y / 256 = f k / 256 ^ (m + 1) by rw [hy, Nat.div_div_eq_div_mul, Nat.pow_succ])
          have hll := le_length m (f k)
          obtain ⟨pre, hpre⟩ : ∃ pre, P ++ le m (f k) = pre := ⟨_, rfl⟩
          have hpl : pre.length ≤ l.length + 39 := by rw [← hpre, List.length_append]; omega
          rw [hpre] at hO2 hle
          have h5 : (m : Int) < 8 := by omega
          have h6 : (0 : Int) ≤ m := by omega
          have hws := hB2.size
          replace hy := fhid hy
          replace S1 := fhid S1
          replace hpre := fhid hpre
          clear hll
          generalize UInt8.ofNat y = b at *
          go_wp2_with (at_builtin; refine app_seg rfl _ _ rfl wb.heap.size _ pre rfl (hO2.alloc _) (wr.heap.size + 1) (some ⟨wr.heap.size, 0, none⟩) [b] 1 rfl S1.out (by rw [List.length_singleton]; omega) (by rw [World.size_alloc]; omega) ?_; intro v2 w2 o2 b2)
          go_roundw
          case rel => exact ⟨m + 1, y / 256, by omega, by go_num, by congr 1, hy'.out, by omega, by rw [hle.out]; exact o2, (hB2.alloc hws _).trans b2⟩
          case measure => simp [intOf]; omega
        · obtain rfl : m = 8 := by omega
          have h5 : ¬ ((8 : Nat) : Int) < 8 := by omega
          clear hy
          go_wp2_with fail
          go_roundw
          case rel => exact ⟨k + 1, by omega, by go_num, by rw [hsn.out, ← List.append_assoc, hP.out]; exact hO2, hB2⟩
          case measure => simp [intOf]; omega
    · obtain rfl : k = 4 := by omega
      have h2 : ¬ ((4 : Nat) : Int) < 4 := by omega
      go_wp2
      go_ret
      exact ⟨_, rfl, hO.weak hbs, y0.trans (hB.mono hbs)⟩
end Go.Proofs.Ytbclmgakifmgfaa
