/-
  A text, read.
-/
import Derived.Test.YtbclmgakifmgfaaCIn
import Derived.Test.YtbclmgakifmgfaaFSame
import Derived.Outline
namespace Go.Proofs.Ytbclmgakifmgfaa
open Go.RowKit

/-- What Text comes to: the bytes, the place, the fault. -/
def textStep (l : List UInt8) (at_ : Nat) (why fat most : Int) : List UInt8 × Nat × Int × Int :=
  if why ≠ 0 then ([], at_, why, fat) else if (numRes l at_ 0 most).2.2.1 ≠ 0 then ([], at_, (numRes l at_ 0 most).2.2.1, (numRes l at_ 0 most).2.2.2)
  else if (l.length : Int) - (numRes l at_ 0 most).2.1 < (numRes l at_ 0 most).1 then ([], at_, 4, l.length)
  else ((l.drop (numRes l at_ 0 most).2.1).take (numRes l at_ 0 most).1.toNat, (numRes l at_ 0 most).2.1 + (numRes l at_ 0 most).1.toNat, 0, fat)
def TextPost (w : World) (p : Nat) (l : List UInt8) (s : List UInt8 × Nat × Int × Int) (e : Ending) (w' : World) : Prop := e = .returned (.string (str s.1)) ∧ Rdr w' p l s.2.1 s.2.2.1 s.2.2.2 ∧ Turns w w' p
theorem numRes_in {l : List UInt8} {at_ : Nat} {low high n : Int} {en fat' : Nat} (h : numRes l at_ low high = (n, en, 0, fat')) : low ≤ n ∧ n ≤ high := by
  unfold numRes at h
  split at h
  · split at h
    · simp at h
    · rename_i hn
      injection h with h1 h2
      subst h1
      omega
  · simp at h
  · simp at h
theorem Turns.setNew {w w' : World} {p b : Nat} (h : Turns w w' p) (hb : w.heap.size ≤ b) (i : Nat) (u : Value) : Turns w (w'.setCell ⟨b, i, none⟩ u) p :=
  ⟨h.os, h.tape, h.output, by simpa [World.setCell] using h.size, fun k hk hne => (Below.heap_setCell _ _ _ _ (by show k ≠ b; omega)).trans (h.block k hk hne), fun hp => (World.cell?_of_block (Below.heap_setCell _ _ _ _ (by show p ≠ b; omega))).trans (h.head hp)⟩
theorem Rd.setOther {w : World} {p b : Nat} {v : Value} {at_ why fat : Int} (h : Rd w p v at_ why fat) (hb : p ≠ b) (i : Nat) (u : Value) : Rd (w.setCell ⟨b, i, none⟩ u) p v at_ why fat :=
  (Below.heap_setCell _ _ _ _ hb).trans h
theorem fault_facts {w w' : World} {a b : Int} (hb : Below (w.alloc (.cells #[.int .i64 a, .int .i64 b] 47)).heap.size (w.alloc (.cells #[.int .i64 a, .int .i64 b] 47)) w') :
    w'.cell? ⟨w.heap.size, 0, none⟩ = some (.int .i64 a) ∧ w'.cell? ⟨w.heap.size, 1, none⟩ = some (.int .i64 b) ∧ w'.frozen? ⟨w.heap.size, 0, none⟩ = false ∧ w'.frozen? ⟨w.heap.size, 1, none⟩ = false ∧ w.heap.size < w'.heap.size := by
  have h := (hb.block w.heap.size (by rw [World.size_alloc]; omega)).trans (heap_alloc_new w _)
  exact ⟨by simp [World.cell?, h], by simp [World.cell?, h], by simp [World.frozen?, h], by simp [World.frozen?, h], lt_of_block h⟩
set_option maxHeartbeats 400000 in
theorem text_stop (p : Nat) (l : List UInt8) (at_ : Nat) (why fat most : Int) (w : World) (h : Rdr w p l at_ why fat) (hw : ¬ why = 0) :
    Calls Try.prog 20 #[.pointer (some ⟨p, 0, none⟩), .int .i64 most] w (TextPost w p l ([], at_, why, fat)) := by
  have st := stop_yes h hw
  replace h := fhid h
  go_enter Try.func20, Try.ntmps20
  go_wp2_with (go_at_call 28; (with_reducible refine st.mono ?_); rintro e w1 ⟨rfl, b1⟩)
  go_ret
  exact ⟨rfl, h.out.below b1, Turns.ofBelow b1 p⟩
theorem text_nil (most : Int) (w : World) :
    Calls Try.prog 20 #[.pointer none, .int .i64 most] w fun e w' => e = .returned (.string (str [])) ∧ Below w.heap.size w w' := by
  have st := stop_nil w
  go_enter Try.func20, Try.ntmps20
  go_wp2_with (go_at_call 28; (with_reducible refine st.mono ?_); rintro e w1 ⟨rfl, b1⟩)
  go_ret
  exact ⟨rfl, b1⟩
set_option maxRecDepth 100000 in
set_option maxHeartbeats 1000000 in
theorem text_fault (p : Nat) (l : List UInt8) (at_ : Nat) (fat most n why' : Int) (en fat' : Nat) (w : World) (h : Rdr w p l at_ 0 fat) (hr : numRes l at_ 0 most = (n, en, why', fat')) (hw : ¬ why' = 0) :
    Calls Try.prog 20 #[.pointer (some ⟨p, 0, none⟩), .int .i64 most] w (TextPost w p l ([], at_, why', fat')) := by
  have st := stop_no h
  have nm := fun w' (hb : Below w.heap.size w w') => num_of (h.below hb) 0 most
  rw [hr] at nm
  have hne : (why' != 0) = true := by simpa using hw
  have hnq : (why' == 0) = false := by simpa using hw
  clear hr hw
  replace h := fhid h
  go_enter Try.func20, Try.ntmps20
  go_wp2_with (first
    | (go_at_call 28; (with_reducible refine st.mono ?_); rintro e w1 ⟨rfl, b1⟩)
    | (go_at_call 31; (with_reducible refine (nm w1 b1).mono ?_); rintro e w2 ⟨rfl, b2⟩
       have x2 := b1.trans (b2.mono b1.size)
       obtain ⟨A, cap, g1, g2, g3, g4, g5, g6⟩ := h.out.below x2
       obtain ⟨c0, c1, c2, c3, hp⟩ := g1.facts
       have f2 := g1.f2
       have f3 := g1.f3
       have g1 := fhid g1
       have hpn := Nat.ne_of_lt hp))
  go_ret
  exact ⟨rfl, Rdr.mk' (((g1.out.set2 _).set3 _).alloc _) g2 g3 g4 g5 g6 ((((Turns.refl _ _).set _ _).set _ _).alloc _), (((Turns.ofBelow x2 p).set _ _).set _ _).alloc _⟩
set_option maxRecDepth 100000 in
set_option maxHeartbeats 1000000 in
theorem text_short (p : Nat) (l : List UInt8) (at_ : Nat) (fat most : Int) (n en fat' : Nat) (w : World) (h : Rdr w p l at_ 0 fat) (hr : numRes l at_ 0 most = ((n : Int), en, 0, fat')) (hn : (l.length : Int) - en < n) :
    Calls Try.prog 20 #[.pointer (some ⟨p, 0, none⟩), .int .i64 most] w (TextPost w p l ([], at_, 4, l.length)) := by
  have st := stop_no h
  have nm := fun w' (hb : Below w.heap.size w w') => num_of (h.below hb) 0 most
  rw [hr] at nm
  have hen := numRes_le l at_ 0 most
  rw [hr] at hen
  replace hen : en ≤ l.length := hen (by obtain ⟨_, _, _, _, _, _, h5, _⟩ := h; exact h5)
  have hl6 : l.length ≤ 140737488355328 := by obtain ⟨_, _, _, _, _, _, _, h6⟩ := h; exact h6
  have e1 : IntKind.i64.wrap ((l.length : Int) - en) = (l.length : Int) - en := IntWalk.i64_in _ (by omega)
  have hgt : (n : Int) > (l.length : Int) - en := hn
  clear hr hn
  replace h := fhid h
  go_enter Try.func20, Try.ntmps20
  go_wp2_with (first
    | (go_at_call 28; (with_reducible refine st.mono ?_); rintro e w1 ⟨rfl, b1⟩)
    | (go_at_call 31; (with_reducible refine (nm w1 b1).mono ?_); rintro e w2 ⟨rfl, b2⟩
       have x2 := b1.trans (b2.mono b1.size)
       obtain ⟨A, cap, g1, g2, g3, g4, g5, g6⟩ := h.out.below x2
       obtain ⟨c0, c1, c2, c3, hp⟩ := g1.facts
       have g1 := fhid g1
       have hpn := Nat.ne_of_lt hp)
    | (go_at_call 29; (with_reducible refine (missing_any p l.length cap A at_ 0 fat _ (g1.out.alloc _)).mono ?_); rintro e w3 ⟨rfl, b3⟩
       obtain ⟨r0, r1, q0, q1, hz⟩ := fault_facts b3
       have y3 := ((Below.refl _ _).alloc (Nat.le_refl _) _).trans (b3.mono (by rw [World.size_alloc]; omega))
       have g7 := g1.out.below y3
       obtain ⟨d0, d1, d2, d3, hq⟩ := g7.facts
       have f2 := g7.f2
       have f3 := g7.f3
       have g7 := fhid g7))
  go_ret
  exact ⟨rfl, Rdr.mk' ((((g7.out.setOther hpn 0 _).setOther hpn 1 _).set2 _).set3 _) g2 g3 g4 g5 g6 ((((((Turns.ofBelow y3 p).setNew (Nat.le_refl _) 0 _).setNew (Nat.le_refl _) 1 _)).set _ _).set _ _),
    (((((Turns.ofBelow (x2.trans (y3.mono x2.size)) p).setNew x2.size 0 _).setNew x2.size 1 _)).set _ _).set _ _⟩
end Go.Proofs.Ytbclmgakifmgfaa
