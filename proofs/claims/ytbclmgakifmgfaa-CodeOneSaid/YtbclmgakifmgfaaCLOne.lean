/-
  CodeOne's walk: bytes that are read as numbers, to the end, are those that are put for them.
-/
import Derived.Test.YtbclmgakifmgfaaCBoth
import Derived.Deep.LoopGhost
namespace Go.Proofs.Ytbclmgakifmgfaa
open Go.RowKit

/-- What Int comes to where nothing was wrong yet: a number's bytes, read; or a fault. -/
theorem int_step (l : List UInt8) (at_ : Nat) (h : at_ ≤ l.length) :
    (∃ n : Int, InR n ∧ at_ + (nb n).length ≤ l.length ∧ l.take (at_ + (nb n).length) = l.take at_ ++ nb n ∧ inStep l at_ 0 0 (-9223372036854775808) 9223372036854775807 = (n, at_ + (nb n).length, 0, 0)) ∨
    ∃ why fat : Int, why ≠ 0 ∧ inStep l at_ 0 0 (-9223372036854775808) 9223372036854775807 = (0, at_, why, fat) := by
  unfold inStep numRes
  rw [if_neg (by simp)]
  cases hd : dec 0 0 (l.drop at_) with
  | got u k =>
    left
    obtain ⟨x, r, hl, hu, hk, _⟩ := dec_inv _ 0 0 u k hd
    have hlt := (dec_lt _ 0 0 u k (by omega) (by omega) hd).1
    have hr := unfold_range u hlt
    rw [Nat.pow_zero, Nat.mul_one, Nat.zero_add] at hu
    rw [Nat.zero_add] at hk
    subst hu
    have hn : nb (unfoldN u) = vb u := by unfold nb; rw [fold_unfold]
    have hdl := congrArg List.length hl
    rw [List.length_drop, List.length_append] at hdl
    refine ⟨unfoldN u, hr, by rw [hn]; omega, ?_, ?_⟩
    · rw [hn, List.take_add, hl, List.take_left]
    · have hc : ¬ (unfoldN u < -9223372036854775808 ∨ 9223372036854775807 < unfoldN u) := by omega
      simp only [if_neg hc]
      rw [hn, ← hk]
      simp
  | bad i => exact .inr ⟨3, (at_ + i : Nat), by decide, by simp⟩
  | short => exact .inr ⟨4, (l.length : Nat), by decide, by simp⟩
/-- What holds at each round's head, when so many rounds are to come at most. -/
def OneInv (w : World) (g p : Nat) (l : List UInt8) (k : Nat) (wr : World) : Prop :=
  ∃ (at_ : Nat) (why fat : Int) (v : Value) (c : List UInt8), Rdb p wr g l at_ why fat ∧ Wr wr p v c ∧ Ge p v ∧ Below w.heap.size w wr ∧ (why = 0 → fat = 0 ∧ c = l.take at_) ∧ 2 * (l.length - at_) + (if why = 0 then 1 else 0) ≤ k
set_option maxRecDepth 100000 in
set_option maxHeartbeats 2000000 in
theorem one_walk (A : Option Addr) (l : List UInt8) (cap : Nat) (w : World) (hs : Seg w w.heap.size A l) (hl : l.length ≤ 140737488351232) :
    Calls Try.prog 5 #[.slice A l.length cap] w fun e w' => e = .returned (.bool true) ∧ Below w.heap.size w w' := by
  have cN := New_any A l cap w hs (by omega)
  replace hs := fhid hs
  go_enter Try.func5, Try.ntmps5
  go_wp2_with (go_at_call 17; (with_reducible refine cN.mono ?_); rintro e w1 ⟨g, rfl, Hg, R1, B1⟩)
  have W1 := Wr.new w1
  have R2 := (Rdb.of R1).below ((Below.refl _ _).alloc (Nat.le_refl _) (.cells #[.slice none 0 0] 29))
  have y2 := B1.alloc B1.size (.cells #[.slice none 0 0] 29)
  have hp := B1.size
  have I0 : OneInv w g w1.heap.size l (2 * l.length + 1) (w1.alloc (.cells #[.slice none 0 0] 29)) :=
    ⟨0, 0, 0, _, _, R2, W1, Ge.nil _, y2, fun _ => ⟨rfl, by simp⟩, by simp⟩
  generalize w1.alloc _ = w2 at *
  generalize w1.heap.size = p at *
  clear R1 R2 W1 y2 cN B1
  go_loopg [] (2 * l.length + 1) (fun k wr => OneInv w g p l k wr)
  case atStart => exact I0
  case round =>
    obtain ⟨at_, why, fat, v, c, Rb, W, G, y, hc, hk⟩ := hrel
    clear I0
    have hal := Rb.le
    have hgp := Rb.lt
    have hps := Rb.size
    have R := Rb.rdr
    have cL := left_of R
    replace hk := fhid hk
    replace hc := fhid hc
    by_cases hlt : at_ < l.length
    · have hI : ((l.length - at_ : Nat) : Int) > 0 := by omega
      by_cases hw : why = 0
      · subst hw
        obtain ⟨rfl, rfl⟩ := hc.out rfl
        rw [if_pos rfl] at hk
        have cF := fun q => fault_of (rdr_drew R q)
        have hci := fun q w' (hb : Below (wr.drewN q).heap.size (wr.drewN q) w') => Int_any g l at_ 0 0 w' (Rdr.below (w := wr.drewN q) R hb)
        have hWi := fun q w' (hb : Below (wr.drewN q).heap.size (wr.drewN q) w') => Wr.below (w := wr.drewN q) W hb
        have hRi := fun q w' (hb : Below (wr.drewN q).heap.size (wr.drewN q) w') => Rdb.below (w := wr.drewN q) Rb (hb.mono hps)
        clear cL
        have cL := left_of R
        clear hc
        rcases int_step l at_ hal with ⟨n, hnr, hn1, hn2, hs1⟩ | ⟨why', fat', hw', hs1⟩
        · rw [hs1] at hci
          replace hn2 := fhid hn2
          clear hs1
          go_wp2_with (first
            | (go_at_call 22; (with_reducible refine cL.mono ?_); rintro e w3 ⟨rfl, q, rfl⟩)
            | (go_at_call 23; (with_reducible refine (fault_of r5).mono ?_); rintro e w6 ⟨rfl, b6⟩
               have y6 := y5.trans (b6.mono y5.size)
               have W6 := W5.below b6
               have Rb6 := Rb5.below (b6.mono Rb5.size)
               have cI := Int_built p v _ [n] w6 W6 (by intro m hm; rw [List.mem_singleton] at hm; subst hm; exact hnr) (by rw [List.length_take, List.length_singleton]; omega) w6.heap.size 1 1 rfl rfl #[.int .i64 n] rfl)
            | (go_at_call 23; (with_reducible refine (cF q).mono ?_); rintro e w4 ⟨rfl, b4⟩
               have y4 := (below_drewN y q).trans (b4.mono y.size)
               have W4 := hWi q w4 b4
               have Rb4 := hRi q w4 b4)
            | (go_at_call 18; (with_reducible refine (hci q w4 b4).mono ?_); rintro e w5 ⟨rfl, r5, t5⟩
               have y5 := y4.trans (Turns.below t5 Hg y4.size)
               have Rb5 := Rb4.turn r5 t5
               have W5 := W4.turn Rb4.rdr t5 (Nat.ne_of_gt hgp))
            | (go_at_call 8; (with_reducible refine cI.mono ?_); rintro e w7 ⟨v7, rfl, W7, E7⟩))
          have hpos := nb_pos n
          have b7 := ((Below.refl p w6).alloc (Rb6.size) (.cells #[.int .i64 n] 3)).trans (E7.belowP (by rw [World.size_alloc]; have := Rb6.size; omega) (Nat.le_refl _) G)
          have Rb7 := Rb6.below b7
          have y7 := y6.trans (b7.mono hp)
          have G7 := E7.ge G (by rw [World.size_alloc]; have := Rb6.size; omega)
          go_roundg (2 * (l.length - (at_ + (nb n).length)) + 1)
          case rel => exact ⟨at_ + (nb n).length, 0, 0, v7, _, Rb7, W7, G7, y7, fun _ => ⟨rfl, by rw [hn2.out]; simp⟩, by simp⟩
          case measure => have := hk.out; omega
        · rw [hs1] at hci
          have hq : (why' == 0) = false := by simpa using hw'
          clear hs1
          go_wp2_with (first
            | (go_at_call 22; (with_reducible refine cL.mono ?_); rintro e w3 ⟨rfl, q, rfl⟩)
            | (go_at_call 23; (with_reducible refine (fault_of r5).mono ?_); rintro e w6 ⟨rfl, b6⟩
               have y6 := y5.trans (b6.mono y5.size)
               have W6 := W5.below b6
               have Rb6 := Rb5.below (b6.mono Rb5.size))
            | (go_at_call 23; (with_reducible refine (cF q).mono ?_); rintro e w4 ⟨rfl, b4⟩
               have y4 := (below_drewN y q).trans (b4.mono y.size)
               have W4 := hWi q w4 b4
               have Rb4 := hRi q w4 b4)
            | (go_at_call 18; (with_reducible refine (hci q w4 b4).mono ?_); rintro e w5 ⟨rfl, r5, t5⟩
               have y5 := y4.trans (Turns.below t5 Hg y4.size)
               have Rb5 := Rb4.turn r5 t5
               have W5 := W4.turn Rb4.rdr t5 (Nat.ne_of_gt hgp)))
          go_roundg (2 * (l.length - at_))
          case rel => exact ⟨at_, why', fat', v, _, Rb6, W6, G, y6, fun h => absurd h hw', by rw [if_neg hw']; omega⟩
          case measure => have := hk.out; omega
      · have cF := fun q w' (hb : Below (wr.drewN q).heap.size (wr.drewN q) w') => fault_of (Rdr.below (w := wr.drewN q) R hb)
        have hq : (why == 0) = false := by simpa using hw
        clear hc hk
        go_wp2_with (first
          | (go_at_call 22; (with_reducible refine cL.mono ?_); rintro e w3 ⟨rfl, q, rfl⟩)
          | (go_at_call 23; (with_reducible refine (cF q w4 b4).mono ?_); rintro e w5 ⟨rfl, b5⟩
             have y5 := y4.trans (b5.mono y4.size))
          | (go_at_call 23; (with_reducible refine (cF q _ (Below.refl _ _)).mono ?_); rintro e w4 ⟨rfl, b4⟩
             have y4 := (below_drewN y q).trans (b4.mono y.size))
          | (go_at_call 16; (with_reducible refine (alive_any _).mono ?_); rintro e w7 ⟨rfl, b7⟩))
        go_ret
        exact ⟨rfl, y5.trans (b7.mono y5.size)⟩
    · have hI : ¬ ((l.length - at_ : Nat) : Int) > 0 := by omega
      by_cases hw : why = 0
      · subst hw
        obtain ⟨rfl, hcc⟩ := hc.out rfl
        rw [List.take_of_length_le (by omega)] at hcc
        subst hcc
        have cF := fun q => fault_of (rdr_drew R q)
        have cB := fun q w' (hb : Below (wr.drewN q).heap.size (wr.drewN q) w') => Bytes_any p v c w' (Wr.below (w := wr.drewN q) W hb) (by omega)
        clear hc hk
        go_wp2_with (first
          | (go_at_call 22; (with_reducible refine cL.mono ?_); rintro e w3 ⟨rfl, q, rfl⟩)
          | (go_at_call 23; (with_reducible refine (cF q).mono ?_); rintro e w4 ⟨rfl, b4⟩
             have y4 := (below_drewN y q).trans (b4.mono y.size))
          | (go_at_call 14; (with_reducible refine (cB q w4 b4).mono ?_); rintro e w5 ⟨v5, rfl, o5, b5⟩
             have y5 := y4.trans (b5.mono y4.size)
             obtain ⟨A5, k5, rfl, _, _, s5⟩ := o5.shape)
          | (go_at_call 13; (with_reducible refine (Same_same A5 A c k5 cap _ _ w5 s5 (hs.out.below y5)).mono ?_); rintro e w6 ⟨rfl, rfl⟩)
          | (go_at_call 16; (with_reducible refine (alive_any _).mono ?_); rintro e w7 ⟨rfl, b7⟩))
        go_ret
        exact ⟨rfl, y5.trans (b7.mono y5.size)⟩
      · have cF := fun q w' (hb : Below (wr.drewN q).heap.size (wr.drewN q) w') => fault_of (Rdr.below (w := wr.drewN q) R hb)
        have hq : (why == 0) = false := by simpa using hw
        clear hc hk
        go_wp2_with (first
          | (go_at_call 22; (with_reducible refine cL.mono ?_); rintro e w3 ⟨rfl, q, rfl⟩)
          | (go_at_call 23; (with_reducible refine (cF q _ (Below.refl _ _)).mono ?_); rintro e w4 ⟨rfl, b4⟩
             have y4 := (below_drewN y q).trans (b4.mono y.size))
          | (go_at_call 16; (with_reducible refine (alive_any _).mono ?_); rintro e w7 ⟨rfl, b7⟩))
        go_ret
        exact ⟨rfl, y4.trans (b7.mono y4.size)⟩
end Go.Proofs.Ytbclmgakifmgfaa
