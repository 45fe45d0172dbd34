/-
  A text, read: the way without a fault.
-/
import Derived.Test.YtbclmgakifmgfaaCText
namespace Go.Proofs.Ytbclmgakifmgfaa
open Go.RowKit

theorem rdr_drew {w : World} {p : Nat} {l : List UInt8} {at_ : Nat} {why fat : Int} (h : Rdr w p l at_ why fat) (q : Nat) : Rdr (w.drewN q) p l at_ why fat := h
theorem turns_drew {w w' : World} {p : Nat} (h : Turns w w' p) (q : Nat) : Turns w (w'.drewN q) p := ⟨h.os, h.tape, h.output, h.size, h.block, h.head⟩
set_option maxRecDepth 100000 in
set_option maxHeartbeats 1000000 in
theorem text_ok (p : Nat) (l : List UInt8) (at_ : Nat) (fat most : Int) (n en fat' : Nat) (w : World) (h : Rdr w p l at_ 0 fat) (hr : numRes l at_ 0 most = ((n : Int), en, 0, fat')) (hn : ¬ (l.length : Int) - en < n) :
    Calls Try.prog 20 #[.pointer (some ⟨p, 0, none⟩), .int .i64 most] w (TextPost w p l ((l.drop en).take n, en + n, 0, fat)) := by
  have st := stop_no h
  have nm := fun w' (hb : Below w.heap.size w w') => num_of (h.below hb) 0 most
  rw [hr] at nm
  have hen := numRes_le l at_ 0 most
  rw [hr] at hen
  replace hen : en ≤ l.length := hen (by obtain ⟨_, _, _, _, _, _, h5, _⟩ := h; exact h5)
  have hl6 : l.length ≤ 140737488355328 := by obtain ⟨_, _, _, _, _, _, _, h6⟩ := h; exact h6
  have e1 : IntKind.i64.wrap ((l.length : Int) - en) = (l.length : Int) - en := IntWalk.i64_in _ (by omega)
  have e2 : IntKind.i64.wrap ((en : Int) + n) = (en : Int) + n := IntWalk.i64_in _ (by omega)
  have hgt : ¬ (n : Int) > (l.length : Int) - en := hn
  have hnl : en + n ≤ l.length := by omega
  clear hr hn
  replace h := fhid h
  go_enter Try.func20, Try.ntmps20
  go_wp2_with (first
    | (go_at_call 28; (with_reducible refine st.mono ?_); rintro e w1 ⟨rfl, b1⟩)
    | (go_at_call 31; (with_reducible refine (nm w1 b1).mono ?_); rintro e w2 ⟨rfl, b2⟩
       have x2 := b1.trans (b2.mono b1.size)
       obtain ⟨A, cap, g1, g2, g3, g4, g5, g6⟩ := h.out.below x2
       obtain ⟨c0, c1, c2, c3, hp⟩ := g1.facts
       have f1 := g1.f1
       have g1 := fhid g1
       have hpn := Nat.ne_of_lt hp))
  have G1 := (g1.out.set1 (((en + n : Nat) : Int))).alloc (.cells #[.int .i64 0, .int .i64 fat'] 47)
  have G2 := ((Turns.refl w2 p).set 1 (.int .i64 ((en : Int) + n))).alloc (.cells #[.int .i64 0, .int .i64 fat'] 47)
  rw [show ((en + n : Nat) : Int) = (en : Int) + n by omega] at G1
  generalize hwx : (w2.setCell ⟨p, 1, none⟩ _).alloc _ = wx at *
  replace hwx := fhid hwx
  obtain ⟨d0, d1, d2, d3, hq⟩ := G1.facts
  have S : Seg wx wx.heap.size A l := (g2.turn g4 fun q hq hp => World.cell?_of_block (G2.block q.block hq (fun e => hp (by injection e)))).more G2.size
  obtain ⟨t, ht⟩ : ∃ t, (l.drop en).take n = t := ⟨_, rfl⟩
  have htl : ((en : Int) + n).toNat - en = t.length := by rw [← ht, List.length_take, List.length_drop]; omega
  have S2 := (S.drop hen g3).take n
  rw [ht] at S2
  have K := fun q => conv_seg (wx.drewN q) _ _ t (cap - en) (S2.keep fun _ _ => rfl)
  rw [← htl] at K
  have G1 := fhid G1
  replace G2 := fhid G2
  replace ht := fhid ht
  replace htl := fhid htl
  clear c0 c1 c2 c3 f1 S S2 e1 e2
  have i1 : (0 : Int) ≤ (en : Int) + n := by omega
  have i2 : (en : Int) ≤ (en : Int) + n := by omega
  have i3 : (en : Int) + n ≤ cap := by omega
  have E1 : Rdr wx p l (en + n) 0 fat := by
    have := Rdr.mk' (w := w2) (w' := wx) (at_ := en + n) (by rw [show ((en + n : Nat) : Int) = (en : Int) + n by omega]; exact G1.out) g2 g3 g4 hnl g6 G2.out
    exact this
  have E2 : Turns w wx p := (Turns.ofBelow x2 p).trans G2.out
  by_cases hce : cap = en
  · rw [if_pos hce] at K
    rw [show cap - en = 0 by omega, show ((en : Int) + n).toNat - en = 0 by omega] at K
    obtain rfl : cap = en := hce
    go_quiet (fail)
    go_wp2_with fail
    go_ret
    exact ⟨by rw [ht.out]; rfl, rdr_drew E1 nq, turns_drew E2 nq⟩
  · rw [if_neg hce] at K
    go_quiet (fail)
    go_wp2_with fail
    go_ret
    exact ⟨by rw [ht.out]; rfl, rdr_drew E1 nq, turns_drew E2 nq⟩
theorem text_any (p : Nat) (l : List UInt8) (at_ : Nat) (why fat most : Int) (w : World) (h : Rdr w p l at_ why fat) :
    Calls Try.prog 20 #[.pointer (some ⟨p, 0, none⟩), .int .i64 most] w (TextPost w p l (textStep l at_ why fat most)) := by
  unfold textStep
  by_cases hw : why = 0
  · subst hw
    rw [if_neg (by simp)]
    obtain ⟨n, en, why', fat', hr⟩ : ∃ n en why' fat', numRes l at_ 0 most = (n, en, why', fat') := ⟨_, _, _, _, rfl⟩
    rw [hr]
    by_cases hw' : why' = 0
    · subst hw'
      rw [if_neg (by simp)]
      obtain ⟨k, rfl⟩ := Int.eq_ofNat_of_zero_le (numRes_in hr).1
      by_cases hn : (l.length : Int) - en < k
      · rw [if_pos hn]
        exact text_short p l at_ fat most k en fat' w h hr hn
      · rw [if_neg hn]
        exact text_ok p l at_ fat most k en fat' w h hr hn
    · rw [if_pos hw']
      exact text_fault p l at_ fat most n why' en fat' w h hr hw'
  · rw [if_pos hw]
    exact text_stop p l at_ why fat most w h hw
end Go.Proofs.Ytbclmgakifmgfaa
