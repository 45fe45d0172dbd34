/-
  A number between two others, and any, read.
-/
import Derived.Test.YtbclmgakifmgfaaCNew
import Derived.Test.YtbclmgakifmgfaaCNum
namespace Go.Proofs.Ytbclmgakifmgfaa
open Go.RowKit

/-- What In comes to: the number, the place, the fault. -/
def inStep (l : List UInt8) (at_ : Nat) (why fat low high : Int) : Int × Nat × Int × Int :=
  if why ≠ 0 then (0, at_, why, fat) else if (numRes l at_ low high).2.2.1 ≠ 0 then (0, at_, (numRes l at_ low high).2.2.1, (numRes l at_ low high).2.2.2) else ((numRes l at_ low high).1, (numRes l at_ low high).2.1, 0, fat)
/-- The call answers a number, and leaves the reader so. -/
def InPost (w : World) (p : Nat) (l : List UInt8) (s : Int × Nat × Int × Int) (e : Ending) (w' : World) : Prop := e = .returned (.int .i64 s.1) ∧ Rdr w' p l s.2.1 s.2.2.1 s.2.2.2 ∧ Turns w w' p
theorem Turns.alloc {w w' : World} {p : Nat} (h : Turns w w' p) (o : Obj) : Turns w (w'.alloc o) p := h.trans (Turns.ofBelow ((Below.refl _ _).alloc (Nat.le_refl _) o) p)
theorem numRes_le (l : List UInt8) (at_ : Nat) (low high : Int) (h : at_ ≤ l.length) : (numRes l at_ low high).2.1 ≤ l.length := by
  unfold numRes
  split
  · rename_i u k hd
    have := (dec_lt _ 0 0 u k (by omega) (by omega) hd).2.1
    rw [List.length_drop] at this
    split
    · exact Nat.zero_le _
    · show at_ + k ≤ _; omega
  · exact Nat.zero_le _
  · exact Nat.zero_le _
theorem stop_yes {p : Nat} {l : List UInt8} {at_ : Nat} {why fat : Int} {w : World} (h : Rdr w p l at_ why fat) (hw : ¬ why = 0) :
    Calls Try.prog 28 #[.pointer (some ⟨p, 0, none⟩)] w fun e w' => e = .returned (.bool true) ∧ Below w.heap.size w w' := by
  obtain ⟨A, cap, h1, _⟩ := h
  exact stopped_yes _ why fat w hw (Fault_any p _ _ why fat w h1)
theorem stop_no {p : Nat} {l : List UInt8} {at_ : Nat} {fat : Int} {w : World} (h : Rdr w p l at_ 0 fat) :
    Calls Try.prog 28 #[.pointer (some ⟨p, 0, none⟩)] w fun e w' => e = .returned (.bool false) ∧ Below w.heap.size w w' := by
  obtain ⟨A, cap, h1, _⟩ := h
  exact stopped_no p _ _ fat w h1
theorem num_of {p : Nat} {l : List UInt8} {at_ : Nat} {why fat : Int} {w : World} (h : Rdr w p l at_ why fat) (low high : Int) :
    Calls Try.prog 31 #[.pointer (some ⟨p, 0, none⟩), .int .i64 low, .int .i64 high] w (NumPost w (numRes l at_ low high)) := by
  obtain ⟨A, cap, h1, h2, h3, _, h5, h6⟩ := h
  exact number_any p cap A l at_ low high why fat w h1 h2 h3 h6 h5
set_option maxHeartbeats 400000 in
theorem in_stop (p : Nat) (l : List UInt8) (at_ : Nat) (why fat low high : Int) (w : World) (h : Rdr w p l at_ why fat) (hw : ¬ why = 0) :
    Calls Try.prog 24 #[.pointer (some ⟨p, 0, none⟩), .int .i64 low, .int .i64 high] w (InPost w p l (0, at_, why, fat)) := by
  have st := stop_yes h hw
  replace h := fhid h
  go_enter Try.func24, Try.ntmps24
  go_wp2_with (go_at_call 28; (with_reducible refine st.mono ?_); rintro e w1 ⟨rfl, b1⟩)
  go_ret
  exact ⟨rfl, h.out.below b1, Turns.ofBelow b1 p⟩
set_option maxRecDepth 100000 in
set_option maxHeartbeats 1000000 in
theorem in_fault (p : Nat) (l : List UInt8) (at_ : Nat) (fat low high n why' : Int) (en fat' : Nat) (w : World) (h : Rdr w p l at_ 0 fat) (hr : numRes l at_ low high = (n, en, why', fat')) (hw : ¬ why' = 0) :
    Calls Try.prog 24 #[.pointer (some ⟨p, 0, none⟩), .int .i64 low, .int .i64 high] w (InPost w p l (0, at_, why', fat')) := by
  have st := stop_no h
  have nm := fun w' (hb : Below w.heap.size w w') => num_of (h.below hb) low high
  rw [hr] at nm
  have hne : (why' != 0) = true := by simpa using hw
  clear hr hw
  replace h := fhid h
  go_enter Try.func24, Try.ntmps24
  go_wp2_with (first
    | (go_at_call 28; (with_reducible refine st.mono ?_); rintro e w1 ⟨rfl, b1⟩)
    | (go_at_call 31; (with_reducible refine (nm w1 b1).mono ?_); rintro e w2 ⟨rfl, b2⟩
       have x2 := b1.trans (b2.mono b1.size)
       obtain ⟨A, cap, g1, g2, g3, g4, g5, g6⟩ := h.out.below x2
       obtain ⟨c0, c1, c2, c3, hp⟩ := g1.facts
       have f2 := g1.f2
       have f3 := g1.f3
       have g1 := fhid g1
       have hpn := Nat.ne_of_lt hp))
  go_ret
  exact ⟨rfl, Rdr.mk' (((g1.out.set2 _).set3 _).alloc _) g2 g3 g4 g5 g6 ((((Turns.refl _ _).set _ _).set _ _).alloc _), (((Turns.ofBelow x2 p).set _ _).set _ _).alloc _⟩
set_option maxRecDepth 100000 in
set_option maxHeartbeats 1000000 in
theorem in_ok (p : Nat) (l : List UInt8) (at_ : Nat) (fat low high n : Int) (en fat' : Nat) (w : World) (h : Rdr w p l at_ 0 fat) (hr : numRes l at_ low high = (n, en, 0, fat')) :
    Calls Try.prog 24 #[.pointer (some ⟨p, 0, none⟩), .int .i64 low, .int .i64 high] w (InPost w p l (n, en, 0, fat)) := by
  have st := stop_no h
  have nm := fun w' (hb : Below w.heap.size w w') => num_of (h.below hb) low high
  rw [hr] at nm
  have hen := numRes_le l at_ low high
  rw [hr] at hen
  replace hen := fhid hen
  clear hr
  replace h := fhid h
  go_enter Try.func24, Try.ntmps24
  go_wp2_with (first
    | (go_at_call 28; (with_reducible refine st.mono ?_); rintro e w1 ⟨rfl, b1⟩)
    | (go_at_call 31; (with_reducible refine (nm w1 b1).mono ?_); rintro e w2 ⟨rfl, b2⟩
       have x2 := b1.trans (b2.mono b1.size)
       obtain ⟨A, cap, g1, g2, g3, g4, g5, g6⟩ := h.out.below x2
       obtain ⟨c0, c1, c2, c3, hp⟩ := g1.facts
       have f1 := g1.f1
       have g1 := fhid g1
       have hpn := Nat.ne_of_lt hp))
  go_ret
  exact ⟨rfl, Rdr.mk' ((g1.out.set1 _).alloc _) g2 g3 g4 (hen.out g5) g6 (((Turns.refl _ _).set _ _).alloc _), ((Turns.ofBelow x2 p).set _ _).alloc _⟩
theorem in_any (p : Nat) (l : List UInt8) (at_ : Nat) (why fat low high : Int) (w : World) (h : Rdr w p l at_ why fat) :
    Calls Try.prog 24 #[.pointer (some ⟨p, 0, none⟩), .int .i64 low, .int .i64 high] w (InPost w p l (inStep l at_ why fat low high)) := by
  unfold inStep
  by_cases hw : why = 0
  · subst hw
    rw [if_neg (by simp)]
    obtain ⟨n, en, why', fat', hr⟩ : ∃ n en why' fat', numRes l at_ low high = (n, en, why', fat') := ⟨_, _, _, _, rfl⟩
    rw [hr]
    by_cases hw' : why' = 0
    · subst hw'
      rw [if_neg (by simp)]
      exact in_ok p l at_ fat low high n en fat' w h hr
    · rw [if_pos hw']
      exact in_fault p l at_ fat low high n why' en fat' w h hr hw'
  · rw [if_pos hw]
    exact in_stop p l at_ why fat low high w h hw
set_option maxHeartbeats 400000 in
theorem Int_any (p : Nat) (l : List UInt8) (at_ : Nat) (why fat : Int) (w : World) (h : Rdr w p l at_ why fat) :
    Calls Try.prog 18 #[.pointer (some ⟨p, 0, none⟩)] w (InPost w p l (inStep l at_ why fat (-9223372036854775808) 9223372036854775807)) := by
  have c := in_any p l at_ why fat (-9223372036854775808) 9223372036854775807 w h
  clear h
  generalize inStep l at_ why fat (-9223372036854775808) 9223372036854775807 = s at *
  obtain ⟨n, en, why', fat'⟩ := s
  go_enter Try.func18, Try.ntmps18
  go_wp2_with (go_at_call 24; (with_reducible refine c.mono ?_); rintro e w1 ⟨rfl, r1, t1⟩)
  go_ret
  exact ⟨rfl, r1, t1⟩
/-- Of a reader that nobody made. -/
theorem stop_nil (w : World) : Calls Try.prog 28 #[.pointer none] w fun e w' => e = .returned (.bool true) ∧ Below w.heap.size w w' :=
  stopped_yes none 4 0 w (by decide) (Fault_nil w)
set_option maxHeartbeats 400000 in
theorem in_nil (low high : Int) (w : World) :
    Calls Try.prog 24 #[.pointer none, .int .i64 low, .int .i64 high] w fun e w' => e = .returned (.int .i64 0) ∧ Below w.heap.size w w' := by
  have st := stop_nil w
  go_enter Try.func24, Try.ntmps24
  go_wp2_with (go_at_call 28; (with_reducible refine st.mono ?_); rintro e w1 ⟨rfl, b1⟩)
  go_ret
  exact ⟨rfl, b1⟩
set_option maxHeartbeats 400000 in
theorem Int_nil (w : World) :
    Calls Try.prog 18 #[.pointer none] w fun e w' => e = .returned (.int .i64 0) ∧ Below w.heap.size w w' := by
  have c := in_nil (-9223372036854775808) 9223372036854775807 w
  go_enter Try.func18, Try.ntmps18
  go_wp2_with (go_at_call 24; (with_reducible refine c.mono ?_); rintro e w1 ⟨rfl, b1⟩)
  go_ret
  exact ⟨rfl, b1⟩
end Go.Proofs.Ytbclmgakifmgfaa
