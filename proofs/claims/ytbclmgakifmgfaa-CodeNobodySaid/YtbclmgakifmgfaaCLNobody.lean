/-
  CodeNobody's walk: a nil writer has nothing, a nil reader gets nothing; bytes may be written over.
-/
import Derived.Test.YtbclmgakifmgfaaCBoth
import Derived.Test.YtbclmgakifmgfaaCNodesOk
import Derived.Test.YtbclmgakifmgfaaCWNodes
import Derived.Test.YtbclmgakifmgfaaCStore
import Derived.Outline
namespace Go.Proofs.Ytbclmgakifmgfaa
open Go.RowKit

theorem nodes_nil (w : World) : Calls Try.prog 19 #[.pointer none] w fun e w' => e = .returned (.agg #[.int .u64 0, .int .u64 0, .int .u64 0, .int .u64 0]) ∧ Below w.heap.size w w' :=
  nodes_stop none w fun w' _ => stop_nil w'
theorem wnodes_nil (w : World) : Calls Try.prog 10 #[.pointer none, .agg #[.int .u64 1, .int .u64 0, .int .u64 0, .int .u64 0]] w fun e w' => e = .returned (.tuple #[]) ∧ Below w.heap.size w w' :=
  Nodes_put_nil (fun j => if j = 0 then 1 else 0) w
theorem nodes_zero_ne (w : World) : (binOp .neq 26 (.agg #[.int .u64 0, .int .u64 0, .int .u64 0, .int .u64 0]) (.agg #[.int .u64 0, .int .u64 0, .int .u64 0, .int .u64 0])).run Try.prog w = .ok (.bool false) w := by kernel_rfl
theorem put_one (n : Int) (w : World) (hn : InR n) :
    Calls Try.prog 8 #[.pointer (some ⟨w.heap.size, 0, none⟩), .slice (some ⟨w.heap.size + 1, 0, none⟩) 1 1] ((w.alloc (.cells #[.slice none 0 0] 29)).alloc (.cells #[.int .i64 n] 3))
      (Wrote ((w.alloc (.cells #[.slice none 0 0] 29)).alloc (.cells #[.int .i64 n] 3)) w.heap.size (.slice none 0 0) (nb n)) := by
  have := Int_built w.heap.size (.slice none 0 0) [] [n] _ (Wr.new w) (by intro m hm; rw [List.mem_singleton] at hm; subst hm; exact hn) (by simp) (w.heap.size + 1) 1 1 (by rw [World.size_alloc]) rfl #[.int .i64 n] rfl
  rw [List.flatMap_singleton, List.nil_append] at this
  exact this
theorem put_text (p : Nat) (v : Value) (l t : List UInt8) (w : World) (h : Wr w p v l) (hl : l.length ≤ 10) (ht : t.length ≤ 140737488351232) :
    Calls Try.prog 9 #[.pointer (some ⟨p, 0, none⟩), .slice (some ⟨w.heap.size, 0, none⟩) 1 1] (w.alloc (.cells #[.string (str t)] 9)) (Wrote (w.alloc (.cells #[.string (str t)] 9)) p v (l ++ tb t)) := by
  have := Text_built p v l [t] w h (by
    rw [List.flatMap_singleton]
    unfold tb
    rw [List.length_append]
    have := nb_ten (t.length : Int) (by omega) (by omega)
    omega) (by simp) w.heap.size 1 1 rfl rfl #[.string (str t)] rfl
  rw [List.flatMap_singleton] at this
  exact this
set_option maxRecDepth 100000 in
set_option maxHeartbeats 2000000 in
theorem nobody_walk (n : Int) (t : List UInt8) (w : World) (hn : InR n) (ht : t.length ≤ 140737488351232) :
    Calls Try.prog 7 #[.int .i64 n, .string (str t)] w fun e w' => e = .returned (.bool true) ∧ Below w.heap.size w w' := by
  have se : str [] = ⟨#[]⟩ := rfl
  have hten := nb_ten n hn.1 hn.2
  have hL : (nb n ++ tb t).length ≤ 140737488355328 := by
    unfold tb
    rw [List.length_append, List.length_append]
    have := nb_ten (t.length : Int) (by omega) (by omega)
    omega
  have c9 := fun w => put_one n w hn
  have hz := nodes_zero_ne
  go_enter Try.func7, Try.ntmps7
  go_wp2_with (first
    | (go_at_call 8; (with_reducible refine (Int_put_nil _ _ _ _).mono ?_); rintro e w1 ⟨rfl, rfl⟩)
    | (go_at_call 9; (with_reducible refine (Text_put_nil _ _ _ _).mono ?_); rintro e w1 ⟨rfl, rfl⟩)
    | (go_at_call 10; (with_reducible refine (wnodes_nil _).mono ?_); rintro e w1 ⟨rfl, b1⟩
       have y1 := (((Below.refl w.heap.size w).alloc (Nat.le_refl _) (.cells #[.int .i64 n] 3)).alloc (by rw [World.size_alloc]; omega) (.cells #[.string (str t)] 9)).trans (b1.mono (by rw [World.size_alloc, World.size_alloc]; omega)))
    | (go_at_call 8; (with_reducible refine (c9 w8).mono ?_); rintro e w9 ⟨v9, rfl, W9, E9⟩
       have G9 : Ge w8.heap.size v9 := E9.ge (Ge.nil _) (by rw [World.size_alloc, World.size_alloc]; omega)
       have z9 : Below w8.heap.size w8 w9 := (((Below.refl _ _).alloc (Nat.le_refl _) _).alloc (by rw [World.size_alloc]; omega) _).trans (E9.belowP (by rw [World.size_alloc, World.size_alloc]; omega) (Nat.le_refl _) (Ge.nil _))
       have c10 := put_text w8.heap.size v9 (nb n) t w9 W9 hten ht)
    | (go_at_call 9; (with_reducible refine c10.mono ?_); rintro e w10 ⟨v10, rfl, W10, E10⟩
       have z10 := (z9.alloc z9.size _).trans (E10.belowP (by rw [World.size_alloc]; have := z9.size; omega) (Nat.le_refl _) G9)
       have y10 := y8.trans (z10.mono y8.size)
       have c11 := Bytes_any w8.heap.size v10 _ w10 W10 hL)
    | (go_at_call 14; (with_reducible refine c11.mono ?_); rintro e w11 ⟨v11, rfl, O11, B11⟩
       obtain ⟨A11, k11, hv11, hk11, _, S11⟩ := O11.shape
       obtain ⟨N, hN⟩ : ∃ N, (nb n ++ tb t).length = N := ⟨_, rfl⟩
       have cv := conv_seg w11 _ A11 _ k11 S11
       rw [hN] at hv11 cv
       subst hv11
       replace hN := fhid hN
       clear c11)
    | (go_at_call 14; (with_reducible refine (Bytes_nil _).mono ?_); rintro e w2 ⟨rfl, rfl⟩)
    | (go_at_call 18; (with_reducible refine (Int_nil _).mono ?_); rintro e w2 ⟨rfl, b2⟩; have y2 := y1.trans (b2.mono y1.size))
    | (go_at_call 24; (with_reducible refine (in_nil _ _ _).mono ?_); rintro e w3 ⟨rfl, b3⟩; have y3 := y2.trans (b3.mono y2.size))
    | (go_at_call 20; (with_reducible refine (text_nil _ _).mono ?_); rintro e w4 ⟨rfl, b4⟩; have y4 := y3.trans (b4.mono y3.size))
    | (go_at_call 19; (with_reducible refine (nodes_nil _).mono ?_); rintro e w5 ⟨rfl, b5⟩; have y5 := y4.trans (b5.mono y4.size))
    | (go_at_call 22; (with_reducible refine (Left_nil _).mono ?_); rintro e w6 ⟨rfl, rfl⟩)
    | (go_at_call 21; (with_reducible refine (End_nil _).mono ?_); rintro e w7 ⟨rfl, b7⟩; have y7 := y6.trans (b7.mono y6.size))
    | (go_at_call 23; (with_reducible refine (Fault_nil w7).mono ?_); rintro e w8 ⟨rfl, b8⟩; have y8 := y7.trans (b8.mono y7.size))
    | (go_at_call 23; (with_reducible refine (Fault_nil _).mono ?_); rintro e w6 ⟨rfl, b6⟩; have y6 := y5.trans (b6.mono y5.size)))
  have hNl : N ≤ 140737488355328 := by have := hN.out; omega
  replace W10 := fhid W10
  obtain ⟨L, hLL⟩ : ∃ L, nb n ++ tb t = L := ⟨_, rfl⟩
  rw [hLL] at W10 O11 hN hL ⊢
  replace hLL := fhid hLL
  clear cv S11 hL c9
  go_loopw [76] (fun i wr => ∃ (j : Nat) (xs : List UInt8), j ≤ N ∧ i = .int .i64 j ∧ xs.length = N ∧ Own wr w10.heap.size (.slice A11 xs.length k11) xs ∧ Below w10.heap.size w10 wr) (fun i _ => N - (intOf i).toNat)
  case atStart => exact ⟨0, L, Nat.zero_le _, rfl, hN.out, by rw [hN.out]; exact O11, B11⟩
  case round =>
    obtain ⟨j, xs, hj, rfl, hxs, hO, hB⟩ := hrel
    by_cases hlt : j < N
    · obtain ⟨g3, rfl, hg3⟩ := Own.form2 hO (by omega)
      obtain ⟨e1, e2⟩ := hO.cell_at j (by omega)
      have hS := fhid (Own.stored hO j (xs[j] ^^^ 255))
      have e3 : bits .xor .u8 (xs[j].toNat : Int) 255 = ((xs[j] ^^^ 255).toNat : Int) := xor_byte xs[j] 255
      have i1 : (0 : Int) ≤ j := by omega
      have i2 : (j : Int) < N := by omega
      have hxl := fhid (show (xs.set j (xs[j] ^^^ 255)).length = xs.length from List.length_set)
      replace hxs := fhid hxs
      clear hO O11
      generalize hz : xs[j] ^^^ 255 = z at *
      generalize xs[j].toNat = cn at *
      replace hz := fhid hz
      go_wp2
      go_roundw
      case rel => exact ⟨j + 1, xs.set j z, by omega, by go_num, by rw [hxl.out, hxs.out], by rw [hxl.out]; exact hS.out, hB.setCell (p := ⟨g3, j, none⟩) hg3 _⟩
      case measure => simp [intOf]; omega
    · have h2 : ¬ (j : Int) < N := by omega
      have yr := y10.trans (hB.mono y10.size)
      have cB := Bytes_any w8.heap.size v10 L wr (W10.out.below hB) (by have := hN.out; omega)
      clear hO O11 hxs B11
      go_wp2_with (first
        | (go_at_call 14; (with_reducible refine cB.mono ?_); rintro e w12 ⟨v12, rfl, O12, B12⟩
           obtain ⟨A12, k12, rfl, _, _, S12⟩ := O12.shape
           have cv := conv_seg w12 _ A12 _ k12 S12
           have y12 := yr.trans (B12.mono yr.size))
        | (go_at_call 16; (with_reducible refine (alive_any _).mono ?_); rintro e w13 ⟨rfl, b13⟩))
      go_ret
      exact ⟨rfl, y12.trans (b13.mono y12.size)⟩
end Go.Proofs.Ytbclmgakifmgfaa
