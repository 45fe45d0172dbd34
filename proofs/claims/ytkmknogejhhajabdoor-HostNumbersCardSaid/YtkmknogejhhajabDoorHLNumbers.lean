/-
  HostNumbers, walked.
-/
import Derived.Test.YtkmknogejhhajabDoorHLong
import Derived.Test.YtkmknogejhhajabDoorHSorted
import Derived.Test.YtkmknogejhhajabDoorHRSorted
namespace Go.Proofs.YtkmknogejhhajabDoor
open Go.RowKit

theorem below_drewN0 (w : World) (n : Nat) : Below w.heap.size w (w.drewN n) := ⟨rfl, rfl, rfl, Nat.le_refl _, fun _ _ => rfl⟩
set_option maxRecDepth 100000 in
set_option maxHeartbeats 8000000 in
theorem numbers_walk (s : ByteArray) (hs : s.size ≤ 140737488355328) (A : Option Addr) (ls : List (List UInt8)) (cap : Nat) (w : World) (hr : Strs w w.heap.size A ls) (hl : ls.length ≤ 9223372036854775807) (hT : Tab w) :
    Calls Tryd.prog 3 #[.string s, .slice A ls.length cap] w (BoolPost w true) := by
  have n1 := fun W => Number_any s W (by omega)
  have n2 := fun W => rNumber_any s W hs
  unfold NumberPost numberV at n1 n2
  generalize number (bl s) = P at *
  obtain ⟨p, n, c, b⟩ := P
  simp only at n1 n2
  generalize (n : Int) = nI at *
  generalize (c : Int) = cI at *
  generalize str p = S at *
  have hlo := fun W (hW : Below w.heap.size w W) => long_is A ls cap W (Strs.more (Strs.below hr hW) hW.size) hl
  have hal := fun W (hW : Below w.heap.size w W) => alive_any W (tab_below hT hW)
  by_cases hL : ls.length ≤ 300 ∧ ∀ x ∈ ls, x.length ≤ 300
  · rw [longB_good hL] at hlo
    have hso := fun W (hW : Below w.heap.size w W) => hSorted_any ls A cap W (Strs.more (Strs.below hr hW) hW.size) (by omega) (fun x hx => by have := hL.2 x hx; omega)
    have hrs := fun W (hW : Below w.heap.size w W) => rSorted_any ls A cap W (Strs.more (Strs.below hr hW) hW.size) (by omega) (fun x hx => by have := hL.2 x hx; omega)
    obtain ⟨hL1, _⟩ := hL
    clear hr hT hl
    go_enter Tryd.func3, Tryd.ntmps3
    go_wp2_with (first
      | (go_at_call 5; (with_reducible refine (n1 _).mono ?_); rintro e w1 ⟨rfl, q1⟩; have g1 := q1.below)
      | (go_at_call 6; (with_reducible refine (n2 _).mono ?_); rintro e w2 ⟨rfl, q2⟩; have g2 := g1.trans (q2.below.mono g1.size))
      | (go_at_call 7; (with_reducible refine (hlo _ g2).mono ?_); rintro e w3 ⟨rfl, m, rfl⟩; have g3 := g2.trans ((below_drewN0 w2 m).mono g2.size))
      | (go_at_call 9; (with_reducible refine (hso _ g3).mono ?_); rintro e w4 ⟨v4, rfl, ks, o4, s4, p4, b4⟩; have g4 := g3.trans (b4.mono g3.size); obtain ⟨A4, c4, rfl, _, _, t4⟩ := OwnS.shape o4; replace t4 := fhid t4; replace s4 := fhid s4; replace p4 := fhid p4; clear o4)
      | (go_at_call 10; (with_reducible refine (hrs _ g4).mono ?_); rintro e w5 ⟨v5, rfl, js, o5, s5, p5, b5⟩; have g5 := g4.trans (b5.mono g4.size)
         obtain rfl : js = ks := srt_uniq s5 s4.out (p5.trans p4.out.symm)
         obtain ⟨A5, c5, rfl, _, _, t5⟩ := OwnS.shape o5
         have hsm := Same_any A4 A5 js js c4 c5 _ _ w5 (Strs.below t4.out b5) t5 (by rw [p5.length_eq]; omega)
         rw [decide_eq_true rfl] at hsm
         clear o5 s5 p5 t5)
      | (go_at_call 8; (with_reducible refine hsm.mono ?_); rintro e w6 ⟨rfl, m6, rfl⟩; have g6 := g5.trans ((below_drewN0 w5 m6).mono g5.size))
      | (go_at_call 11; (with_reducible refine (hal _ g6).mono ?_); rintro e w7 ⟨rfl, b7⟩))
    go_ret
    exact ⟨rfl, g6.trans (b7.mono g6.size)⟩
  · rw [longB_bad hL] at hlo
    clear hL hr hT hl
    go_enter Tryd.func3, Tryd.ntmps3
    go_wp2_with (first
      | (go_at_call 5; (with_reducible refine (n1 _).mono ?_); rintro e w1 ⟨rfl, q1⟩; have g1 := q1.below)
      | (go_at_call 6; (with_reducible refine (n2 _).mono ?_); rintro e w2 ⟨rfl, q2⟩; have g2 := g1.trans (q2.below.mono g1.size))
      | (go_at_call 7; (with_reducible refine (hlo _ g2).mono ?_); rintro e w3 ⟨rfl, m, rfl⟩; have g3 := g2.trans ((below_drewN0 w2 m).mono g2.size))
      | (go_at_call 11; (with_reducible refine (hal _ g3).mono ?_); rintro e w7 ⟨rfl, b7⟩))
    go_ret
    exact ⟨rfl, g3.trans (b7.mono g3.size)⟩
end Go.Proofs.YtkmknogejhhajabDoor
