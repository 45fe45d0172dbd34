/-
  Parts: FSame CText CTextOk CWord CNodes CEnd CExt CPut CWriter.
-/
import Derived.Test.YtmbgcphiigmdjaaC1
import Derived.Lib.SlBytesRow
import Derived.Laws.Strings
import Derived.Outline
import Derived.StillTailTactics
import Derived.Lib.AppendStr
set_option linter.unusedSimpArgs false
set_option linter.unusedVariables false
/-
  Two slices of bytes are the same where their bytes are.
-/
namespace Go.Proofs.Ytmbgcphiigmdjaa.Cs
open Go.RowKit

/-- Bytes, as a string. -/
def str (l : List UInt8) : ByteArray := ⟨l.toArray⟩
theorem str_inj {l m : List UInt8} : str l = str m ↔ l = m := by
  constructor
  · intro h
    have := congrArg (fun s : ByteArray => s.data.toList) h
    simpa [str] using this
  · rintro rfl; rfl
theorem conv_seg (w : World) (B : Nat) (A : Option Addr) (l : List UInt8) (cap : Nat) (h : Seg w B A l) :
    (convert 49 9 (.slice A l.length cap)).run Try.prog w = .ok (.string (str l)) w := by
  cases A with
  | none =>
    have hl : l = [] := by
      cases l with
      | nil => rfl
      | cons c r => obtain ⟨b, o, e, _⟩ := h (by simp); cases e
    subst hl
    exact run_convert_bytes_nil w 49 5 Try.underlying49 Try.underlying5 _ _ 9 Try.underlying9
  | some ad =>
    refine run_convert_bytes_back w 49 9 5 ad cap l Try.underlying49 Try.underlying5 Try.underlying9 (fun j hj => ?_)
    obtain ⟨b, o, e, _, hc⟩ := h (by omega)
    cases e
    have := hc j hj
    unfold Addr.add
    by_cases hz : j = 0
    · subst hz; simpa using this
    · rw [if_neg hz]; exact this
end Go.Proofs.Ytmbgcphiigmdjaa.Cs
/-
  A text, read.
-/
namespace Go.Proofs.Ytmbgcphiigmdjaa.Cs
open Go.RowKit

/-- What Text comes to: the bytes, the place, the fault. -/
def textStep (l : List UInt8) (at_ : Nat) (why fat most : Int) : List UInt8 × Nat × Int × Int :=
  if why ≠ 0 then ([], at_, why, fat) else if (numRes l at_ 0 most).2.2.1 ≠ 0 then ([], at_, (numRes l at_ 0 most).2.2.1, (numRes l at_ 0 most).2.2.2)
  else if (l.length : Int) - (numRes l at_ 0 most).2.1 < (numRes l at_ 0 most).1 then ([], at_, 4, l.length)
  else ((l.drop (numRes l at_ 0 most).2.1).take (numRes l at_ 0 most).1.toNat, (numRes l at_ 0 most).2.1 + (numRes l at_ 0 most).1.toNat, 0, fat)
def TextPost (w : World) (p : Nat) (l : List UInt8) (s : List UInt8 × Nat × Int × Int) (e : Ending) (w' : World) : Prop := e = .returned (.string (str s.1)) ∧ Rdr w' p l s.2.1 s.2.2.1 s.2.2.2 ∧ Turns w w' p
theorem numRes_in {l : List UInt8} {at_ : Nat} {low high n : Int} {en fat' : Nat} (h : numRes l at_ low high = (n, en, 0, fat')) : low ≤ n ∧ n ≤ high := by
  unfold numRes at h
  split at h
  · split at h
    · simp at h
    · rename_i hn
      injection h with h1 h2
      subst h1
      omega
  · simp at h
  · simp at h
theorem Turns.setNew {w w' : World} {p b : Nat} (h : Turns w w' p) (hb : w.heap.size ≤ b) (i : Nat) (u : Value) : Turns w (w'.setCell ⟨b, i, none⟩ u) p :=
  ⟨h.os, h.tape, h.output, by simpa [World.setCell] using h.size, fun k hk hne => (Below.heap_setCell _ _ _ _ (by show k ≠ b; omega)).trans (h.block k hk hne), fun hp => (World.cell?_of_block (Below.heap_setCell _ _ _ _ (by show p ≠ b; omega))).trans (h.head hp)⟩
theorem Rd.setOther {w : World} {p b : Nat} {v : Value} {at_ why fat : Int} (h : Rd w p v at_ why fat) (hb : p ≠ b) (i : Nat) (u : Value) : Rd (w.setCell ⟨b, i, none⟩ u) p v at_ why fat :=
  (Below.heap_setCell _ _ _ _ hb).trans h
theorem fault_facts {w w' : World} {a b : Int} (hb : Below (w.alloc (.cells #[.int .i64 a, .int .i64 b] 93)).heap.size (w.alloc (.cells #[.int .i64 a, .int .i64 b] 93)) w') :
    w'.cell? ⟨w.heap.size, 0, none⟩ = some (.int .i64 a) ∧ w'.cell? ⟨w.heap.size, 1, none⟩ = some (.int .i64 b) ∧ w'.frozen? ⟨w.heap.size, 0, none⟩ = false ∧ w'.frozen? ⟨w.heap.size, 1, none⟩ = false ∧ w.heap.size < w'.heap.size := by
  have h := (hb.block w.heap.size (by rw [World.size_alloc]; omega)).trans (heap_alloc_new w _)
  exact ⟨by simp [World.cell?, h], by simp [World.cell?, h], by simp [World.frozen?, h], by simp [World.frozen?, h], lt_of_block h⟩
set_option maxHeartbeats 400000 in
theorem text_stop (p : Nat) (l : List UInt8) (at_ : Nat) (why fat most : Int) (w : World) (h : Rdr w p l at_ why fat) (hw : ¬ why = 0) :
    Calls Try.prog 48 #[.pointer (some ⟨p, 0, none⟩), .int .i64 most] w (TextPost w p l ([], at_, why, fat)) := by
  have st := stop_yes h hw
  replace h := fhid h
  go_enter Try.func48, Try.ntmps48
  go_wp2_with (go_at_call 63; (with_reducible refine st.mono ?_); rintro e w1 ⟨rfl, b1⟩)
  go_ret
  exact ⟨rfl, h.out.below b1, Turns.ofBelow b1 p⟩
set_option maxRecDepth 100000 in
set_option maxHeartbeats 1000000 in
theorem text_fault (p : Nat) (l : List UInt8) (at_ : Nat) (fat most n why' : Int) (en fat' : Nat) (w : World) (h : Rdr w p l at_ 0 fat) (hr : numRes l at_ 0 most = (n, en, why', fat')) (hw : ¬ why' = 0) :
    Calls Try.prog 48 #[.pointer (some ⟨p, 0, none⟩), .int .i64 most] w (TextPost w p l ([], at_, why', fat')) := by
  have st := stop_no h
  have nm := fun w' (hb : Below w.heap.size w w') => num_of (h.below hb) 0 most
  rw [hr] at nm
  have hne : (why' != 0) = true := by simpa using hw
  have hnq : (why' == 0) = false := by simpa using hw
  clear hr hw
  replace h := fhid h
  go_enter Try.func48, Try.ntmps48
  go_wp2_with (first
    | (go_at_call 63; (with_reducible refine st.mono ?_); rintro e w1 ⟨rfl, b1⟩)
    | (go_at_call 64; (with_reducible refine (nm w1 b1).mono ?_); rintro e w2 ⟨rfl, b2⟩
       have x2 := b1.trans (b2.mono b1.size)
       obtain ⟨A, cap, g1, g2, g3, g4, g5, g6⟩ := h.out.below x2
       obtain ⟨c0, c1, c2, c3, hp⟩ := g1.facts
       have f2 := g1.f2
       have f3 := g1.f3
       have g1 := fhid g1
       have hpn := Nat.ne_of_lt hp))
  go_ret
  exact ⟨rfl, Rdr.mk' (((g1.out.set2 _).set3 _).alloc _) g2 g3 g4 g5 g6 ((((Turns.refl _ _).set _ _).set _ _).alloc _), (((Turns.ofBelow x2 p).set _ _).set _ _).alloc _⟩
set_option maxRecDepth 100000 in
set_option maxHeartbeats 1000000 in
theorem text_short (p : Nat) (l : List UInt8) (at_ : Nat) (fat most : Int) (n en fat' : Nat) (w : World) (h : Rdr w p l at_ 0 fat) (hr : numRes l at_ 0 most = ((n : Int), en, 0, fat')) (hn : (l.length : Int) - en < n) :
    Calls Try.prog 48 #[.pointer (some ⟨p, 0, none⟩), .int .i64 most] w (TextPost w p l ([], at_, 4, l.length)) := by
  have st := stop_no h
  have nm := fun w' (hb : Below w.heap.size w w') => num_of (h.below hb) 0 most
  rw [hr] at nm
  have hen := numRes_le l at_ 0 most
  rw [hr] at hen
  replace hen : en ≤ l.length := hen (by obtain ⟨_, _, _, _, _, _, h5, _⟩ := h; exact h5)
  have hl6 : l.length ≤ 140737488355328 := by obtain ⟨_, _, _, _, _, _, _, h6⟩ := h; exact h6
  have e1 : IntKind.i64.wrap ((l.length : Int) - en) = (l.length : Int) - en := IntWalk.i64_in _ (by omega)
  have hgt : (n : Int) > (l.length : Int) - en := hn
  clear hr hn
  replace h := fhid h
  go_enter Try.func48, Try.ntmps48
  go_wp2_with (first
    | (go_at_call 63; (with_reducible refine st.mono ?_); rintro e w1 ⟨rfl, b1⟩)
    | (go_at_call 64; (with_reducible refine (nm w1 b1).mono ?_); rintro e w2 ⟨rfl, b2⟩
       have x2 := b1.trans (b2.mono b1.size)
       obtain ⟨A, cap, g1, g2, g3, g4, g5, g6⟩ := h.out.below x2
       obtain ⟨c0, c1, c2, c3, hp⟩ := g1.facts
       have g1 := fhid g1
       have hpn := Nat.ne_of_lt hp)
    | (go_at_call 65; (with_reducible refine (missing_any p l.length cap A at_ 0 fat _ (g1.out.alloc _)).mono ?_); rintro e w3 ⟨rfl, b3⟩
       obtain ⟨r0, r1, q0, q1, hz⟩ := fault_facts b3
       have y3 := ((Below.refl _ _).alloc (Nat.le_refl _) _).trans (b3.mono (by rw [World.size_alloc]; omega))
       have g7 := g1.out.below y3
       obtain ⟨d0, d1, d2, d3, hq⟩ := g7.facts
       have f2 := g7.f2
       have f3 := g7.f3
       have g7 := fhid g7))
  go_ret
  exact ⟨rfl, Rdr.mk' ((((g7.out.setOther hpn 0 _).setOther hpn 1 _).set2 _).set3 _) g2 g3 g4 g5 g6 ((((((Turns.ofBelow y3 p).setNew (Nat.le_refl _) 0 _).setNew (Nat.le_refl _) 1 _)).set _ _).set _ _),
    (((((Turns.ofBelow (x2.trans (y3.mono x2.size)) p).setNew x2.size 0 _).setNew x2.size 1 _)).set _ _).set _ _⟩
end Go.Proofs.Ytmbgcphiigmdjaa.Cs
/-
  A text, read: the way without a fault.
-/
namespace Go.Proofs.Ytmbgcphiigmdjaa.Cs
open Go.RowKit

theorem rdr_drew {w : World} {p : Nat} {l : List UInt8} {at_ : Nat} {why fat : Int} (h : Rdr w p l at_ why fat) (q : Nat) : Rdr (w.drewN q) p l at_ why fat := h
theorem turns_drew {w w' : World} {p : Nat} (h : Turns w w' p) (q : Nat) : Turns w (w'.drewN q) p := ⟨h.os, h.tape, h.output, h.size, h.block, h.head⟩
set_option maxRecDepth 100000 in
set_option maxHeartbeats 1000000 in
theorem text_ok (p : Nat) (l : List UInt8) (at_ : Nat) (fat most : Int) (n en fat' : Nat) (w : World) (h : Rdr w p l at_ 0 fat) (hr : numRes l at_ 0 most = ((n : Int), en, 0, fat')) (hn : ¬ (l.length : Int) - en < n) :
    Calls Try.prog 48 #[.pointer (some ⟨p, 0, none⟩), .int .i64 most] w (TextPost w p l ((l.drop en).take n, en + n, 0, fat)) := by
  have st := stop_no h
  have nm := fun w' (hb : Below w.heap.size w w') => num_of (h.below hb) 0 most
  rw [hr] at nm
  have hen := numRes_le l at_ 0 most
  rw [hr] at hen
  replace hen : en ≤ l.length := hen (by obtain ⟨_, _, _, _, _, _, h5, _⟩ := h; exact h5)
  have hl6 : l.length ≤ 140737488355328 := by obtain ⟨_, _, _, _, _, _, _, h6⟩ := h; exact h6
  have e1 : IntKind.i64.wrap ((l.length : Int) - en) = (l.length : Int) - en := IntWalk.i64_in _ (by omega)
  have e2 : IntKind.i64.wrap ((en : Int) + n) = (en : Int) + n := IntWalk.i64_in _ (by omega)
  have hgt : ¬ (n : Int) > (l.length : Int) - en := hn
  have hnl : en + n ≤ l.length := by omega
  clear hr hn
  replace h := fhid h
  go_enter Try.func48, Try.ntmps48
  go_wp2_with (first
    | (go_at_call 63; (with_reducible refine st.mono ?_); rintro e w1 ⟨rfl, b1⟩)
    | (go_at_call 64; (with_reducible refine (nm w1 b1).mono ?_); rintro e w2 ⟨rfl, b2⟩
       have x2 := b1.trans (b2.mono b1.size)
       obtain ⟨A, cap, g1, g2, g3, g4, g5, g6⟩ := h.out.below x2
       obtain ⟨c0, c1, c2, c3, hp⟩ := g1.facts
       have f1 := g1.f1
       have g1 := fhid g1
       have hpn := Nat.ne_of_lt hp))
  have G1 := (g1.out.set1 (((en + n : Nat) : Int))).alloc (.cells #[.int .i64 0, .int .i64 fat'] 93)
  have G2 := ((Turns.refl w2 p).set 1 (.int .i64 ((en : Int) + n))).alloc (.cells #[.int .i64 0, .int .i64 fat'] 93)
  rw [show ((en + n : Nat) : Int) = (en : Int) + n by omega] at G1
  generalize hwx : (w2.setCell ⟨p, 1, none⟩ _).alloc _ = wx at *
  replace hwx := fhid hwx
  obtain ⟨d0, d1, d2, d3, hq⟩ := G1.facts
  have S : Seg wx wx.heap.size A l := (g2.turn g4 fun q hq hp => World.cell?_of_block (G2.block q.block hq (fun e => hp (by injection e)))).more G2.size
  obtain ⟨t, ht⟩ : ∃ t, (l.drop en).take n = t := ⟨_, rfl⟩
  have htl : ((en : Int) + n).toNat - en = t.length := by rw [← ht, List.length_take, List.length_drop]; omega
  have S2 := (S.drop hen g3).take n
  rw [ht] at S2
  have K := fun q => conv_seg (wx.drewN q) _ _ t (cap - en) (S2.keep fun _ _ => rfl)
  rw [← htl] at K
  have G1 := fhid G1
  replace G2 := fhid G2
  replace ht := fhid ht
  replace htl := fhid htl
  clear c0 c1 c2 c3 f1 S S2 e1 e2
  have i1 : (0 : Int) ≤ (en : Int) + n := by omega
  have i2 : (en : Int) ≤ (en : Int) + n := by omega
  have i3 : (en : Int) + n ≤ cap := by omega
  have E1 : Rdr wx p l (en + n) 0 fat := by
    have := Rdr.mk' (w := w2) (w' := wx) (at_ := en + n) (by rw [show ((en + n : Nat) : Int) = (en : Int) + n by omega]; exact G1.out) g2 g3 g4 hnl g6 G2.out
    exact this
  have E2 : Turns w wx p := (Turns.ofBelow x2 p).trans G2.out
  by_cases hce : cap = en
  · rw [if_pos hce] at K
    rw [show cap - en = 0 by omega, show ((en : Int) + n).toNat - en = 0 by omega] at K
    obtain rfl : cap = en := hce
    go_quiet (fail)
    go_wp2_with fail
    go_ret
    exact ⟨by rw [ht.out]; rfl, rdr_drew E1 nq, turns_drew E2 nq⟩
  · rw [if_neg hce] at K
    go_quiet (fail)
    go_wp2_with fail
    go_ret
    exact ⟨by rw [ht.out]; rfl, rdr_drew E1 nq, turns_drew E2 nq⟩
theorem text_any (p : Nat) (l : List UInt8) (at_ : Nat) (why fat most : Int) (w : World) (h : Rdr w p l at_ why fat) :
    Calls Try.prog 48 #[.pointer (some ⟨p, 0, none⟩), .int .i64 most] w (TextPost w p l (textStep l at_ why fat most)) := by
  unfold textStep
  by_cases hw : why = 0
  · subst hw
    rw [if_neg (by simp)]
    obtain ⟨n, en, why', fat', hr⟩ : ∃ n en why' fat', numRes l at_ 0 most = (n, en, why', fat') := ⟨_, _, _, _, rfl⟩
    rw [hr]
    by_cases hw' : why' = 0
    · subst hw'
      rw [if_neg (by simp)]
      obtain ⟨k, rfl⟩ := Int.eq_ofNat_of_zero_le (numRes_in hr).1
      by_cases hn : (l.length : Int) - en < k
      · rw [if_pos hn]
        exact text_short p l at_ fat most k en fat' w h hr hn
      · rw [if_neg hn]
        exact text_ok p l at_ fat most k en fat' w h hr hn
    · rw [if_pos hw']
      exact text_fault p l at_ fat most n why' en fat' w h hr hw'
  · rw [if_pos hw]
    exact text_stop p l at_ why fat most w h hw
end Go.Proofs.Ytmbgcphiigmdjaa.Cs
/-
  A word's eight bytes, read.
-/
namespace Go.Proofs.Ytmbgcphiigmdjaa.Cs
open Go.RowKit

end Go.Proofs.Ytmbgcphiigmdjaa.Cs
/-
  A set, read.
-/
namespace Go.Proofs.Ytmbgcphiigmdjaa.Cs
open Go.RowKit

theorem left_of {p : Nat} {l : List UInt8} {at_ : Nat} {why fat : Int} {w : World} (h : Rdr w p l at_ why fat) :
    Calls Try.prog 66 #[.pointer (some ⟨p, 0, none⟩)] w fun e w' => e = .returned (.int .i64 ((l.length - at_ : Nat) : Int)) ∧ ∃ q, w' = w.drewN q := by
  obtain ⟨A, cap, h1, _, _, _, h5, h6⟩ := h
  exact Left_any p l.length cap A at_ why fat w h1 h6 h5
section
variable {w w' : World} {B : Nat} {f : Nat → Nat}
end
end Go.Proofs.Ytmbgcphiigmdjaa.Cs
/-
  The end asked for.
-/
namespace Go.Proofs.Ytmbgcphiigmdjaa.Cs
open Go.RowKit

/-- What End comes to: the fault. -/
def endStep (l : List UInt8) (at_ : Nat) (why fat : Int) : Int × Int := if why = 0 ∧ at_ < l.length then (3, at_) else (why, fat)
def EndPost (w : World) (p : Nat) (l : List UInt8) (at_ : Nat) (s : Int × Int) (e : Ending) (w' : World) : Prop := e = .returned (.agg #[.int .i64 s.1, .int .i64 s.2]) ∧ Rdr w' p l at_ s.1 s.2 ∧ Turns w w' p
theorem rd_drew {w : World} {p : Nat} {v : Value} {at_ why fat : Int} (h : Rd w p v at_ why fat) (q : Nat) : Rd (w.drewN q) p v at_ why fat := h
theorem fault_of {p : Nat} {l : List UInt8} {at_ : Nat} {why fat : Int} {w : World} (h : Rdr w p l at_ why fat) :
    Calls Try.prog 67 #[.pointer (some ⟨p, 0, none⟩)] w fun e w' => e = .returned (.agg #[.int .i64 why, .int .i64 fat]) ∧ Below w.heap.size w w' := by
  obtain ⟨A, cap, h1, _⟩ := h
  exact Fault_any p _ _ why fat w h1
theorem fault_new (w : World) : (w.alloc (.cells #[.int .i64 0, .int .i64 0] 93)).heap[w.heap.size]? = some (.cells #[.int .i64 0, .int .i64 0] 93 (0, 0)) := heap_alloc_new w _
theorem two_facts {w : World} {B : Nat} {a b : Int} (h : w.heap[B]? = some (.cells #[.int .i64 a, .int .i64 b] 93 (0, 0))) :
    w.cell? ⟨B, 0, none⟩ = some (.int .i64 a) ∧ w.cell? ⟨B, 1, none⟩ = some (.int .i64 b) ∧ w.frozen? ⟨B, 0, none⟩ = false ∧ w.frozen? ⟨B, 1, none⟩ = false := by
  exact ⟨by simp [World.cell?, h], by simp [World.cell?, h], by simp [World.frozen?, h], by simp [World.frozen?, h]⟩
set_option maxRecDepth 100000 in
set_option maxHeartbeats 400000 in
/-- The way on which the fault that is there is answered. -/
theorem end_stop (a : Option Addr) (why fat : Int) (w : World) (st : ∀ w', Below w.heap.size w w' → Calls Try.prog 63 #[.pointer a] w' fun e w'' => e = .returned (.bool true) ∧ Below w'.heap.size w' w'')
    (ft : ∀ w', Below w.heap.size w w' → Calls Try.prog 67 #[.pointer a] w' fun e w'' => e = .returned (.agg #[.int .i64 why, .int .i64 fat]) ∧ Below w'.heap.size w' w'') :
    Calls Try.prog 49 #[.pointer a] w fun e w' => e = .returned (.agg #[.int .i64 why, .int .i64 fat]) ∧ Below w.heap.size w w' := by
  have y0 : Below w.heap.size w (w.alloc (.cells #[.int .i64 0, .int .i64 0] 93)) := (Below.refl _ _).alloc (Nat.le_refl _) _
  go_enter Try.func49, Try.ntmps49
  go_wp2_with (first
    | (go_at_call 63; (with_reducible refine (st _ y0).mono ?_); rintro e w1 ⟨rfl, b1⟩
       have z1 := (b1.block w.heap.size (by rw [World.size_alloc]; omega)).trans (fault_new w)
       have y1 := y0.trans (b1.mono y0.size)
       replace z1 := fhid z1)
    | (go_at_call 67; (with_reducible refine (ft w1 y1).mono ?_); rintro e w2 ⟨rfl, b2⟩
       have z2 := (b2.block w.heap.size (lt_of_block z1.out)).trans z1.out
       have y2 := y1.trans (b2.mono y1.size)
       obtain ⟨c0, c1, f0, f1⟩ := two_facts z2
       clear z2))
  exact bodyPost_ret (v := .agg #[.int .i64 why, .int .i64 fat]) (by simp [results, Try.results49, go_sem, c0, c1]) rfl ⟨rfl, (y2.setCell (p := ⟨w.heap.size, 0, none⟩) (Nat.le_refl _) _).setCell (p := ⟨w.heap.size, 1, none⟩) (Nat.le_refl _) _⟩
set_option maxRecDepth 100000 in
set_option maxHeartbeats 1000000 in
theorem end_go (p : Nat) (l : List UInt8) (at_ : Nat) (fat : Int) (w : World) (h : Rdr w p l at_ 0 fat) :
    Calls Try.prog 49 #[.pointer (some ⟨p, 0, none⟩)] w (EndPost w p l at_ (endStep l at_ 0 fat)) := by
  have y0 : Below w.heap.size w (w.alloc (.cells #[.int .i64 0, .int .i64 0] 93)) := (Below.refl _ _).alloc (Nat.le_refl _) _
  have hpw := h.lt
  obtain ⟨A, cap, g1, g2, g3, g4, g5, g6⟩ := id h
  have h0 := fhid h
  have g1 := fhid g1
  have g2 := fhid g2
  have m1 : ¬ w.heap.size = p := by omega
  have m2 : p ≠ w.heap.size := by omega
  clear h
  by_cases hlt : at_ < l.length
  · have hes := fhid (show endStep l at_ 0 fat = (3, (at_ : Int)) from if_pos ⟨rfl, hlt⟩)
    have hI : ((l.length - at_ : Nat) : Int) > 0 := by omega
    go_enter Try.func49, Try.ntmps49
    go_wp2_with (first
      | (go_at_call 63; (with_reducible refine (stop_no (h0.out.below y0)).mono ?_); rintro e w1 ⟨rfl, b1⟩
         have z1 := (b1.block w.heap.size (by rw [World.size_alloc]; omega)).trans (fault_new w)
         have y1 := y0.trans (b1.mono y0.size)
         replace z1 := fhid z1)
      | (go_at_call 66; (with_reducible refine (left_of (h0.out.below y1)).mono ?_); rintro e w2 ⟨rfl, q, rfl⟩
         have R := g1.out.below y1
         obtain ⟨d0, d1, d2, d3, hq⟩ := R.facts
         have f2 := R.f2
         have f3 := R.f3
         have R := fhid R)
      | (go_at_call 67
         have R2 := ((rd_drew R.out q).set2 3).set3 (at_ : Int)
         (with_reducible refine (Fault_any p _ _ 3 (at_ : Int) _ R2).mono ?_); rintro e w2 ⟨rfl, b2⟩
         have R3 := R2.below b2
         have z2 := (b2.block w.heap.size (by have := y1.size; have := lt_of_block z1.out; simp only [World.setCell, Array.size_modify]; exact this)).trans ((Below.heap_setCell _ ⟨p, 3, none⟩ _ _ m1).trans ((Below.heap_setCell _ ⟨p, 2, none⟩ _ _ m1).trans z1.out))
         have t2 := ((turns_drew (Turns.ofBelow y1 p) q).set 2 (.int .i64 3)).set 3 (.int .i64 (at_ : Int))
         have b2' : Turns _ w2 p := Turns.ofBelow b2 p
         have t3 : Turns w w2 p := t2.trans b2'
         obtain ⟨k0, k1, k2, k3⟩ := two_facts z2
         replace t2 := fhid t2
         replace R2 := fhid R2
         replace R3 := fhid R3
         clear z2))
    have T := (t3.setNew (Nat.le_refl _) 0 (.int .i64 3)).setNew (Nat.le_refl _) 1 (.int .i64 (at_ : Int))
    exact bodyPost_ret (v := .agg #[.int .i64 3, .int .i64 (at_ : Int)]) (by simp [results, Try.results49, go_sem, k0, k1]) rfl
      ⟨by rw [hes.out], by rw [hes.out]; exact Rdr.mk' ((R3.out.setOther m2 0 _).setOther m2 1 _) g2.out g3 g4 g5 g6 T, T⟩
  · have hes := fhid (show endStep l at_ 0 fat = (0, fat) from if_neg fun h => hlt h.2)
    have hI : ¬ ((l.length - at_ : Nat) : Int) > 0 := by omega
    go_enter Try.func49, Try.ntmps49
    go_wp2_with (first
      | (go_at_call 63; (with_reducible refine (stop_no (h0.out.below y0)).mono ?_); rintro e w1 ⟨rfl, b1⟩
         have z1 := (b1.block w.heap.size (by rw [World.size_alloc]; omega)).trans (fault_new w)
         have y1 := y0.trans (b1.mono y0.size)
         replace z1 := fhid z1)
      | (go_at_call 66; (with_reducible refine (left_of (h0.out.below y1)).mono ?_); rintro e w2 ⟨rfl, q, rfl⟩)
      | (go_at_call 67
         (with_reducible refine (fault_of (rdr_drew (h0.out.below y1) q)).mono ?_); rintro e w2 ⟨rfl, b2⟩
         have z2 := (b2.block w.heap.size (lt_of_block z1.out)).trans z1.out
         have y2 := (below_drewN y1 q).trans (b2.mono y1.size)
         obtain ⟨k0, k1, k2, k3⟩ := two_facts z2
         clear z2))
    have T := ((Turns.ofBelow y2 p).setNew (Nat.le_refl _) 0 (.int .i64 0)).setNew (Nat.le_refl _) 1 (.int .i64 fat)
    exact bodyPost_ret (v := .agg #[.int .i64 0, .int .i64 fat]) (by simp [results, Try.results49, go_sem, k0, k1]) rfl
      ⟨by rw [hes.out], by rw [hes.out]; exact Rdr.mk' (((g1.out.below y2).setOther m2 0 _).setOther m2 1 _) g2.out g3 g4 g5 g6 T, T⟩
theorem end_any (p : Nat) (l : List UInt8) (at_ : Nat) (why fat : Int) (w : World) (h : Rdr w p l at_ why fat) :
    Calls Try.prog 49 #[.pointer (some ⟨p, 0, none⟩)] w (EndPost w p l at_ (endStep l at_ why fat)) := by
  by_cases hw : why = 0
  · subst hw
    exact end_go p l at_ fat w h
  · have e : endStep l at_ why fat = (why, fat) := if_neg fun h => hw h.1
    rw [e]
    refine (end_stop _ why fat w (fun w' hb => stop_yes (h.below hb) hw) (fun w' hb => fault_of (h.below hb))).mono ?_
    rintro e w' ⟨rfl, hb⟩
    exact ⟨rfl, h.below hb, Turns.ofBelow hb p⟩
end Go.Proofs.Ytmbgcphiigmdjaa.Cs
/-
  Bytes of the call's own that grow: where they lie behind it, and what else is as it was.
-/
namespace Go.Proofs.Ytmbgcphiigmdjaa.Cs
open Go.RowKit

/-- v has become v': all blocks that were there are as they were, but p and v's own; v' lies in v's block or in a new one. -/
structure Ext (p : Option Nat) (v : Value) (w : World) (v' : Value) (w' : World) : Prop where
  os : w'.os = w.os
  tape : w'.tape = w.tape
  output : w'.output = w.output
  size : w.heap.size ≤ w'.heap.size
  block : ∀ k, k < w.heap.size → some k ≠ p → some k ≠ v.ownBlock → w'.heap[k]? = w.heap[k]?
  at_ : v'.ownBlock = v.ownBlock ∨ v'.ownBlock = none ∨ ∃ g, v'.ownBlock = some g ∧ w.heap.size ≤ g
section
variable {p : Option Nat} {v v' v'' : Value} {w w' w'' : World}
theorem Ext.refl (p : Option Nat) (v : Value) (w : World) : Ext p v w v w := ⟨rfl, rfl, rfl, Nat.le_refl _, fun _ _ _ _ => rfl, .inl rfl⟩
theorem Ext.trans (h : Ext p v w v' w') (k : Ext p v' w' v'' w'') : Ext p v w v'' w'' := by
  refine ⟨k.os.trans h.os, k.tape.trans h.tape, k.output.trans h.output, Nat.le_trans h.size k.size, fun i hi hp hv => ?_, ?_⟩
  · refine (k.block i (Nat.lt_of_lt_of_le hi h.size) hp ?_).trans (h.block i hi hp hv)
    rcases h.at_ with e | e | ⟨g, e, hg⟩
    · rw [e]; exact hv
    · rw [e]; simp
    · rw [e]; intro e2; injection e2 with e2; omega
  · rcases k.at_ with e | e | ⟨g, e, hg⟩
    · rw [e]; exact h.at_
    · exact .inr (.inl e)
    · exact .inr (.inr ⟨g, e, Nat.le_trans h.size hg⟩)
theorem Ext.ofBelow (p : Option Nat) (v : Value) (h : Below w.heap.size w w') : Ext p v w v w' := ⟨h.os, h.tape, h.output, h.size, fun k hk _ _ => h.block k hk, .inl rfl⟩
theorem Ext.alloc (h : Ext p v w v' w') (o : Obj) : Ext p v w v' (w'.alloc o) := h.trans (Ext.ofBelow p v' ((Below.refl _ _).alloc (Nat.le_refl _) o))
theorem Ext.weak (h : Ext none v w v' w') (p : Option Nat) : Ext p v w v' w' := ⟨h.os, h.tape, h.output, h.size, fun k hk _ hv => h.block k hk (by simp) hv, h.at_⟩
theorem Ext.set {b : Nat} (h : Ext (some b) v w v' w') (i : Nat) (u : Value) : Ext (some b) v w v' (w'.setCell ⟨b, i, none⟩ u) :=
  ⟨h.os, h.tape, h.output, by simpa [World.setCell] using h.size, fun k hk hp hv => (Below.heap_setCell _ _ _ _ (fun e => hp (by rw [e]))).trans (h.block k hk hp hv), h.at_⟩
/-- From below all that the value or the block could have turned. -/
theorem Ext.below {B : Nat} (h : Ext p v w v' w') (hB : B ≤ w.heap.size) (hp : ∀ b, p = some b → B ≤ b) (hv : ∀ b, v.ownBlock = some b → B ≤ b) : Below B w w' :=
  ⟨h.os, h.tape, h.output, h.size, fun k hk => h.block k (by omega) (fun e => by have := hp k e.symm; omega) (fun e => by have := hv k e.symm; omega)⟩
theorem Ext.cell (h : Ext p v w v' w') {a : Addr} (ha : a.block < w.heap.size) (hp : some a.block ≠ p) (hv : some a.block ≠ v.ownBlock) : w'.cell? a = w.cell? a := World.cell?_of_block (h.block a.block ha hp hv)
end
theorem run_app_str_at (w : World) (t u ty e : TypeId) {P : Program} (i : TypeInfo) (ht : P.underlying t = some (.slice e)) (hu : P.underlying u = some .string) (hi : P.info? e = some i) (hz : i.zero = some (.int .u8 0))
    (hsize : i.size = 1) (hby : i.bytes = 1) (v : Value) (n : Nat) (xs : List Value) (hown : w.ownsRow 0 e 1 v n xs) (s : ByteArray) (hb : n + s.size ≤ 140737488355328) :
    ∃ v' w', (Builtin.append_ #[t, u] ty #[v, .string s]).run P w = .ok v' w' ∧ w'.ownsRow 0 e 1 v' (n + s.size) (xs ++ Lib.strCells s) ∧ w.grownBy w' v.ownBlock ∧ (v'.ownBlock = v.ownBlock ∨ v'.ownBlock = none ∨ ∃ g, v'.ownBlock = some g ∧ w.heap.size ≤ g) := by
  obtain ⟨v', w', hr, h2, h3, _⟩ := Lib.run_append_own_string w 0 t u ty e i ht hu hi hz hsize hby v n xs hown s (by unfold maxLen; omega) hb (Nat.zero_le _)
  refine ⟨v', w', hr, h2, h3, ?_⟩
  rcases hown.2 with ⟨rfl, rfl⟩ | ⟨g, cap, cur, rfl, _, hg, hnc, hcm, hcs, htake⟩
  · obtain ⟨v2, w2, hr2, k2, _, _⟩ := Lib.run_append_own_string (P := P) w w.heap.size t u ty e i ht hu hi hz hsize hby (.slice none 0 0) 0 xs ⟨hown.1, .inl ⟨rfl, rfl⟩⟩ s (by unfold maxLen; omega) hb (Nat.le_refl _)
    rw [hr2] at hr
    injection hr with e1 e2
    subst e1; subst e2
    rcases k2.2 with ⟨rfl, _⟩ | ⟨g, _, _, rfl, hg, _⟩
    · exact .inl rfl
    · exact .inr (.inr ⟨g, rfl, hg⟩)
  · by_cases hroom : n + s.size ≤ cap
    · have hr2 := Lib.run_append_room_string (P := P) w t u ty e i ht hu hi hsize g n cap cur hg s hroom (by omega)
      rw [hr2] at hr
      injection hr with e1 e2
      subst e1
      exact .inl rfl
    · have holds : ∀ j u, xs[j]? = some u → w.cell? ((⟨g, 0, none⟩ : Addr).add j) = some u := World.ownsRow.cells (base := 0) (e := e) (size := 1) (n := n) (v := .slice (some ⟨g, 0, none⟩) n cap) ⟨hown.1, .inr ⟨g, cap, cur, rfl, Nat.zero_le _, hg, hnc, hcm, hcs, htake⟩⟩ rfl
      have hr2 := Lib.run_append_grow_string (P := P) w t u ty e i (.int .u8 0) ht hu hi hz ⟨g, 0, none⟩ n cap xs (by rw [hsize]; exact hown.1) holds s (by omega) (by omega) (by rw [hby]; exact growslice_fits (by omega) (by omega))
      rw [hr2] at hr
      injection hr with e1 e2
      subst e1
      exact .inr (.inr ⟨w.heap.size, rfl, Nat.le_refl _⟩)
theorem strCells_str (l : List UInt8) : Lib.strCells (str l) = BV l := by
  simp [Lib.strCells, BV, str]
theorem str_size (l : List UInt8) : (str l).size = l.length := by simp [str, ByteArray.size]
/-- A string's bytes, put behind. -/
theorem app_str {w : World} {ops : Array Oper} {rest : List Oper} {o : Oper} {a : Act} {Q : Exit → Act → World → Prop} (hgd : o.guard = none) (s x : Operand)
    (ho : o.op = .call { callee := .builtin .append, args := #[s, x], argTypes := #[49, 9] })
    (v : Value) (l : List UInt8) (hs : a.eval s = v) (hown : Own w 0 v l) (m : List UInt8) (hx : a.eval x = .string (str m)) (hlen : l.length + m.length ≤ 140737488355328)
    (h : ∀ v' w', Own w' 0 v' (l ++ m) → Ext none v w v' w' → wpList Try.prog ops Q rest (a.put o.dst v') w') : wpList Try.prog ops Q (o :: rest) a w := by
  obtain ⟨i0, hi, hz0, hz1, hz2⟩ := info_parts infoByte
  obtain ⟨v', w', hrun, h2, h3, h4⟩ := run_app_str_at w 49 9 o.type 5 (P := Try.prog) i0 Try.underlying49 Try.underlying9 hi hz0 hz1 hz2 v l.length (BV l) hown (str m) (by rw [str_size]; exact hlen)
  rw [str_size, strCells_str] at h2
  refine wpList_plain hgd fun K hK => ?_
  unfold Oper.wp execOp
  simp only [ho, resolve, invoke, builtin, Sem.run_bind, Sem.run_pure, Result.andThen_ok, List.map_toArray, List.map_cons, List.map_nil, hs, hx, hrun]
  refine hK _ _ (h v' w' ?_ ⟨h3.os, h3.tape, h3.output, h3.size, fun k hk _ hv => h3.block k hk hv, h4⟩)
  unfold Own
  rw [List.length_append, BV_append]
  exact h2
/-- A slice's bytes, put behind. -/
theorem app_ext {w : World} {ops : Array Oper} {rest : List Oper} {o : Oper} {a : Act} {Q : Exit → Act → World → Prop} (hgd : o.guard = none) (s x : Operand)
    (ho : o.op = .call { callee := .builtin .append, args := #[s, x], argTypes := #[49, 49] })
    (v : Value) (l : List UInt8) (hs : a.eval s = v) (hown : Own w 0 v l) (B : Nat) (A : Option Addr) (m : List UInt8) (c : Nat) (hx : a.eval x = .slice A m.length c) (hr : Seg w B A m)
    (hlen : l.length + m.length ≤ 140737488355328)
    (h : ∀ v' w', Own w' 0 v' (l ++ m) → Ext none v w v' w' → wpList Try.prog ops Q rest (a.put o.dst v') w') : wpList Try.prog ops Q (o :: rest) a w := by
  obtain ⟨i0, hi, hz0, hz1, hz2⟩ := info_parts infoByte
  have hrun : ∃ v' w', (Builtin.append_ #[49, 49] o.type #[v, .slice A m.length c]).run Try.prog w = .ok v' w' ∧ Own w' 0 v' (l ++ m) ∧ Ext none v w v' w' := by
    by_cases h0 : 0 < m.length
    · obtain ⟨b, of, rfl, _, hc⟩ := hr h0
      obtain ⟨v', w', hrun, h2, h3, _, h5⟩ := run_append_own_at (P := Try.prog) w 0 49 o.type 5 i0 (.int .u8 0) 1 1 Try.underlying49 hi hz0 hz1 hz2 rfl (by decide) v l.length (BV l) hown ⟨b, of, none⟩ m.length c (BV m)
        (by rw [BV_len]; omega) (fun j u hu => by
          obtain ⟨hj, rfl⟩ := BV_get m j u hu
          have := hc j hj
          unfold Addr.add
          by_cases hz : j = 0
          · subst hz; simpa using this
          · rw [if_neg hz]; exact this) (BV_one m) (by unfold maxLen; omega) (by omega) (Nat.zero_le _)
      refine ⟨v', w', hrun, ?_, ⟨h3.os, h3.tape, h3.output, h3.size, fun k hk _ hv => h3.block k hk hv, ?_⟩⟩
      · unfold Own
        rw [List.length_append, BV_append]
        exact h2
      · rcases h5 with e | e
        · exact .inl e
        · exact .inr (.inr ⟨_, e, Nat.le_refl _⟩)
    · have hm : m = [] := List.eq_nil_of_length_eq_zero (by omega)
      subst hm
      cases A with
      | none => exact ⟨v, w, run_app_nil w 0 o.type v l hown c, by rw [List.append_nil]; exact hown, Ext.refl _ _ _⟩
      | some ad =>
        obtain ⟨v', w', hrun, h2, h3, _, h5⟩ := run_append_own_at (P := Try.prog) w 0 49 o.type 5 i0 (.int .u8 0) 1 1 Try.underlying49 hi hz0 hz1 hz2 rfl (by decide) v l.length (BV l) hown ad 0 c [] rfl (fun j u hu => by simp at hu) (fun u hu => by simp at hu) (by unfold maxLen; omega) (by omega) (Nat.zero_le _)
        refine ⟨v', w', hrun, ?_, ⟨h3.os, h3.tape, h3.output, h3.size, fun k hk _ hv => h3.block k hk hv, ?_⟩⟩
        · rw [List.append_nil]
          unfold Own
          simpa using h2
        · rcases h5 with e | e
          · exact .inl e
          · exact .inr (.inr ⟨_, e, Nat.le_refl _⟩)
  obtain ⟨v', w', hrun, h2, h3⟩ := hrun
  refine wpList_plain hgd fun K hK => ?_
  unfold Oper.wp execOp
  simp only [ho, resolve, invoke, builtin, Sem.run_bind, Sem.run_pure, Result.andThen_ok, List.map_toArray, List.map_cons, List.map_nil, hs, hx, hrun]
  exact hK _ _ (h v' w' h2 h3)
end Go.Proofs.Ytmbgcphiigmdjaa.Cs
/-
  A number's bytes, and a word's, put behind others.
-/
namespace Go.Proofs.Ytmbgcphiigmdjaa.Cs
open Go.RowKit

/-- The call answers v grown to these bytes. -/
def Puts (w : World) (v : Value) (l : List UInt8) (e : Ending) (w' : World) : Prop := ∃ v', e = .returned v' ∧ Own w' 0 v' l ∧ Ext none v w v' w'
set_option maxRecDepth 100000 in
set_option maxHeartbeats 1000000 in
theorem putNumber_any (v : Value) (l : List UInt8) (n : Int) (w : World) (hv : Own w 0 v l) (h1 : -9223372036854775808 ≤ n) (h2 : n ≤ 9223372036854775807) (hl : l.length + 10 ≤ 140737488355328) :
    Calls Try.prog 61 #[v, .int .i64 n] w (Puts w v (l ++ nb n)) := by
  have cf := fold_any n w h1 h2
  have hu := fold_lt n h1 h2
  have hten := nb_ten n h1 h2
  unfold nb at hten
  unfold nb
  generalize foldN n = u at *
  have hlen : (l ++ vb u).length ≤ 140737488355328 := by rw [List.length_append]; omega
  obtain ⟨L, hL⟩ : ∃ L, l ++ vb u = L := ⟨_, rfl⟩
  rw [hL] at hlen ⊢
  replace hL := fhid hL
  clear h1 h2 hten hl
  go_enter Try.func61, Try.ntmps61
  go_wp2_with (go_at_call 74; with_reducible refine cf.mono ?_; rintro e w1 ⟨rfl, rfl⟩)
  go_loopw [0, 5] (fun v1 s wr => ∃ (x : Nat) (pre : List UInt8), s = .int .u64 x ∧ x < 18446744073709551616 ∧ pre ++ vb x = L ∧ Own wr 0 v1 pre ∧ Ext none v w v1 wr) (fun _ s _ => (intOf s).toNat)
  case atStart => exact ⟨u, l, rfl, hu, hL.out, hv, Ext.refl _ _ _⟩
  case round =>
    obtain ⟨x, pre, rfl, hx, hp, hO, hE⟩ := hrel
    have hpl : pre.length + (vb x).length ≤ 140737488355328 := by rw [← List.length_append, hp]; exact hlen
    have hvp := vb_pos x
    clear hu hv cf
    by_cases hb : x ≥ 128
    · have e1 := put_more x
      rw [show IntKind.u8.wrap (x : Int) = (x : Int) % 256 by simp [IntKind.wrap, IntKind.bits, IntKind.signed]] at e1
      have hnx := fhid (show (pre ++ [UInt8.ofNat (128 + x % 128)]) ++ vb (x / 128) = L by rw [← hp, vb_big x (by omega), List.append_assoc]; rfl)
      have h2 : (x : Int) ≥ 128 := by omega
      replace hp := fhid hp
      generalize UInt8.ofNat (128 + x % 128) = c at *
      go_wp2_with (at_builtin; refine app_ext rfl _ _ rfl _ pre rfl (hO.alloc _) (wr.heap.size + 1) (some ⟨wr.heap.size, 0, none⟩) [c] 1 rfl (Seg.one wr c) (by rw [List.length_singleton]; omega) ?_; intro v1 w1 ho1 he1)
      go_roundw
      case rel => exact ⟨x / 128, _, by congr 1, by omega, hnx.out, ho1, (hE.alloc _).trans he1⟩
      case measure => simp [intOf]; omega
    · have S1 := Seg.one wr (UInt8.ofNat x)
      rw [byte_small x (by omega)] at S1
      have hnx := fhid (show pre ++ [UInt8.ofNat x] = L by rw [← hp, vb_small x (by omega)])
      have h2 : ¬ (x : Int) ≥ 128 := by omega
      replace hp := fhid hp
      generalize UInt8.ofNat x = c at *
      replace S1 := fhid S1
      go_wp2_with (at_builtin; refine app_ext rfl _ _ rfl _ pre rfl (hO.alloc _) (wr.heap.size + 1) (some ⟨wr.heap.size, 0, none⟩) [c] 1 rfl S1.out (by rw [List.length_singleton]; omega) ?_; intro v1 w1 ho1 he1)
      go_ret
      exact ⟨_, rfl, by rw [← hnx.out]; exact ho1, (hE.alloc _).trans he1⟩
end Go.Proofs.Ytmbgcphiigmdjaa.Cs
/-
  A writer's Int, Text and Nodes.
-/
namespace Go.Proofs.Ytmbgcphiigmdjaa.Cs
open Go.RowKit

theorem Wr.ne {w : World} {p : Nat} {v : Value} {l : List UInt8} (h : Wr w p v l) : some p ≠ v.ownBlock := by
  rcases h.2.2 with ⟨rfl, _⟩ | ⟨g, cap, cur, rfl, _, hg, _⟩
  · simp [Value.ownBlock]
  · intro e
    have e : p = g := by simpa [Value.ownBlock] using e
    subst e
    have h1 := h.1
    rw [hg] at h1
    injection h1 with h1
    injection h1 with _ ht _
    exact absurd ht (by decide)
theorem Wr.lt {w : World} {p : Nat} {v : Value} {l : List UInt8} (h : Wr w p v l) : p < w.heap.size := lt_of_block h.1
theorem Wr.below {w w' : World} {p : Nat} {v : Value} {l : List UInt8} (h : Wr w p v l) (hb : Below w.heap.size w w') : Wr w' p v l := ⟨(hb.block p h.lt).trans h.1, h.2.below hb⟩
theorem Wr.new (w : World) : Wr (w.alloc (.cells #[.slice none 0 0] 84)) w.heap.size (.slice none 0 0) [] := ⟨heap_alloc_new w _, Own.none_ _ _⟩
/-- The writer's slice has grown, and is laid back. -/
theorem Wr.put {w w1 : World} {p : Nat} {v v2 : Value} {l l2 : List UInt8} (h : Wr w p v l) (ho : Own w1 0 v2 l2) (he : Ext none v w v2 w1) : Wr (w1.setCell ⟨p, 0, none⟩ v2) p v2 l2 ∧ Ext (some p) v w v2 (w1.setCell ⟨p, 0, none⟩ v2) := by
  have hb := (he.block p h.lt (by simp) h.ne).trans h.1
  refine ⟨⟨one_setCell hb, ownsRow_setCell_other ho ?_ _⟩, (he.weak (some p)).set 0 v2⟩
  show v2.ownBlock ≠ some p
  rcases he.at_ with e | e | ⟨g, e, hg⟩
  · rw [e]; exact fun e => h.ne e.symm
  · rw [e]; simp
  · rw [e]; intro e2; injection e2 with e2; have := h.lt; omega
theorem Wr.kept {w w1 : World} {p : Nat} {v v2 : Value} {l : List UInt8} (h : Wr w p v l) (he : Ext none v w v2 w1) : w1.cell? ⟨p, 0, none⟩ = some v ∧ w1.frozen? ⟨p, 0, none⟩ = false := by
  have hb := (he.block p h.lt (by simp) h.ne).trans h.1
  exact ⟨cell_of_one hb, free_of_one hb⟩

/-- The slice at address A reads as these values. -/
def SegV (w : World) (A : Option Addr) (vs : List Value) : Prop := 0 < vs.length → ∃ b o, A = some ⟨b, o, none⟩ ∧ b < w.heap.size ∧ ∀ j (h : j < vs.length), w.cell? ⟨b, o + j, none⟩ = some vs[j]
theorem SegV.at_ {w : World} {A : Option Addr} {vs : List Value} (h : SegV w A vs) {k : Nat} (hk : k < vs.length) : ∃ b o, A = some ⟨b, o, none⟩ ∧ b < w.heap.size ∧ w.cell? ⟨b, o + k, none⟩ = some vs[k] := by
  obtain ⟨b, o, e, hb, hc⟩ := h (by omega)
  exact ⟨b, o, e, hb, hc k hk⟩
theorem SegV.below {w w' : World} {A : Option Addr} {vs : List Value} (h : SegV w A vs) (hb : Below w.heap.size w w') : SegV w' A vs := fun h0 => by
  obtain ⟨b, o, e, hlt, hc⟩ := h h0
  exact ⟨b, o, e, Nat.lt_of_lt_of_le hlt hb.size, fun j hj => (hb.cell (p := ⟨b, o + j, none⟩) hlt).trans (hc j hj)⟩
/-- The slice lies apart from the writer. -/
def Apart (A : Option Addr) (p : Nat) (v : Value) : Prop := ∀ a, A = some a → a.block ≠ p ∧ some a.block ≠ v.ownBlock
/-- The writer has become one of these bytes. -/
def Wrote (w : World) (p : Nat) (v : Value) (l : List UInt8) (e : Ending) (w' : World) : Prop := ∃ v', e = .returned (.tuple #[]) ∧ Wr w' p v' l ∧ Ext (some p) v w v' w'
def InR (n : Int) : Prop := -9223372036854775808 ≤ n ∧ n ≤ 9223372036854775807
theorem flat_le (ns : List Int) (h : ∀ n ∈ ns, InR n) : (ns.flatMap nb).length ≤ 10 * ns.length := by
  induction ns with
  | nil => simp
  | cons n r ih =>
    have h1 := h n (by simp)
    have := nb_ten n h1.1 h1.2
    have := ih fun m hm => h m (by simp [hm])
    rw [List.flatMap_cons, List.length_append, List.length_cons]
    omega
theorem flat_snoc {α : Type} (f : α → List UInt8) (ns : List α) (k : Nat) (h : k < ns.length) : (ns.take (k + 1)).flatMap f = (ns.take k).flatMap f ++ f ns[k] := by
  rw [List.take_succ_eq_append_getElem h, List.flatMap_append, List.flatMap_singleton]
set_option maxRecDepth 100000 in
set_option maxHeartbeats 1000000 in
theorem Int_put (p : Nat) (v : Value) (l : List UInt8) (A : Option Addr) (ns : List Int) (c : Nat) (w : World) (h : Wr w p v l) (hs : SegV w A (ns.map (.int .i64))) (ha : 0 < ns.length → Apart A p v) (hr : ∀ n ∈ ns, InR n)
    (hl : l.length + 10 * ns.length + 10 ≤ 140737488355328) :
    Calls Try.prog 41 #[.pointer (some ⟨p, 0, none⟩), .slice A ns.length c] w (Wrote w p v (l ++ ns.flatMap nb)) := by
  replace h := fhid h
  replace hs := fhid hs
  replace hr := fhid hr
  replace ha := fhid ha
  go_enter Try.func41, Try.ntmps41
  go_wp2
  go_loopw [10] (fun i wr => ∃ (k : Nat) (v1 : Value), k ≤ ns.length ∧ i = .int .i64 k ∧ Wr wr p v1 (l ++ (ns.take k).flatMap nb) ∧ Ext (some p) v w v1 wr) (fun i _ => ns.length - (intOf i).toNat)
  case atStart => exact ⟨0, v, Nat.zero_le _, rfl, by rw [List.take_zero, List.flatMap_nil, List.append_nil]; exact h.out, Ext.refl _ _ _⟩
  case round =>
    obtain ⟨k, v1, hk, rfl, hW, hE⟩ := hrel
    by_cases hlt : k < ns.length
    · obtain ⟨b, o, rfl, hb, hc⟩ := hs.out.at_ (k := k) (by rw [List.length_map]; exact hlt)
      rw [List.getElem_map] at hc
      obtain ⟨a1, a2⟩ := ha.out (by omega) _ rfl
      have hcell : wr.cell? ⟨b, o + k, none⟩ = some (.int .i64 ns[k]) := (hE.cell (a := ⟨b, o + k, none⟩) hb (fun e => a1 (by injection e)) a2).trans hc
      have hsn := fhid (flat_snoc nb ns k hlt)
      have hri := hr.out ns[k] (List.getElem_mem hlt)
      have hfl := flat_le (ns.take k) fun m hm => hr.out m (List.mem_of_mem_take hm)
      rw [List.length_take] at hfl
      generalize ns[k] = n at *
      generalize hpre : l ++ (ns.take k).flatMap nb = pre at *
      have hpl : pre.length + 10 ≤ 140737488355328 := by rw [← hpre, List.length_append]; omega
      replace hpre := fhid hpre
      have c0 := cell_of_one hW.1
      have f0 := free_of_one hW.1
      have pn := putNumber_any v1 pre n wr hW.2 hri.1 hri.2 hpl
      replace hW := fhid hW
      have h2 : (k : Int) < ns.length := by omega
      have h3 : (0 : Int) ≤ k := by omega
      clear hc hfl hri a2
      go_wp2_with (go_at_call 61; (with_reducible refine pn.mono ?_); rintro e w1 ⟨v2, rfl, o2, e2⟩; obtain ⟨c1, f1⟩ := hW.out.kept e2; have P := fhid (hW.out.put o2 e2); obtain ⟨A2, k2, rfl, _⟩ := o2.shape; generalize (pre ++ nb n).length = N2 at *)
      go_roundw
      case rel => exact ⟨k + 1, _, by omega, by go_num, by rw [hsn.out, ← List.append_assoc, hpre.out]; exact P.out.1, hE.trans P.out.2⟩
      case measure => simp [intOf]; omega
    · obtain rfl : k = ns.length := by omega
      have h2 : ¬ (ns.length : Int) < ns.length := by omega
      go_wp2
      go_end0
      exact ⟨v1, rfl, by rw [List.take_length] at hW; exact hW, hE⟩
/-- A text's bytes. -/
def tb (t : List UInt8) : List UInt8 := nb (t.length : Int) ++ t
theorem flat_part {α : Type} (f : α → List UInt8) (ns : List α) (k : Nat) : ((ns.take k).flatMap f).length ≤ (ns.flatMap f).length := by
  have := congrArg (fun l => (l.flatMap f).length) (List.take_append_drop k ns)
  simp only [List.flatMap_append, List.length_append] at this
  omega
set_option maxRecDepth 100000 in
set_option maxHeartbeats 1000000 in
theorem Text_put (p : Nat) (v : Value) (l : List UInt8) (A : Option Addr) (ts : List (List UInt8)) (c : Nat) (w : World) (h : Wr w p v l) (hs : SegV w A (ts.map fun t => .string (str t))) (ha : 0 < ts.length → Apart A p v)
    (hl : l.length + (ts.flatMap tb).length + 10 ≤ 140737488355328) (hn : ts.length ≤ 140737488355328) :
    Calls Try.prog 42 #[.pointer (some ⟨p, 0, none⟩), .slice A ts.length c] w (Wrote w p v (l ++ ts.flatMap tb)) := by
  replace h := fhid h
  replace hs := fhid hs
  replace ha := fhid ha
  go_enter Try.func42, Try.ntmps42
  go_wp2
  go_loopw [10] (fun i wr => ∃ (k : Nat) (v1 : Value), k ≤ ts.length ∧ i = .int .i64 k ∧ Wr wr p v1 (l ++ (ts.take k).flatMap tb) ∧ Ext (some p) v w v1 wr) (fun i _ => ts.length - (intOf i).toNat)
  case atStart => exact ⟨0, v, Nat.zero_le _, rfl, by rw [List.take_zero, List.flatMap_nil, List.append_nil]; exact h.out, Ext.refl _ _ _⟩
  case round =>
    obtain ⟨k, v1, hk, rfl, hW, hE⟩ := hrel
    by_cases hlt : k < ts.length
    · obtain ⟨b, o, rfl, hb, hc⟩ := hs.out.at_ (k := k) (by rw [List.length_map]; exact hlt)
      rw [List.getElem_map] at hc
      obtain ⟨a1, a2⟩ := ha.out (by omega) _ rfl
      have hcell : wr.cell? ⟨b, o + k, none⟩ = some (.string (str ts[k])) := (hE.cell (a := ⟨b, o + k, none⟩) hb (fun e => a1 (by injection e)) a2).trans hc
      have hsn := fhid (flat_snoc tb ts k hlt)
      have hfl := flat_part tb ts (k + 1)
      rw [hsn.out, List.length_append] at hfl
      generalize ts[k] = t at *
      have hz := str_size t
      have htb := fhid (show tb t = nb (t.length : Int) ++ t from rfl)
      have htl : (tb t).length = (nb (t.length : Int)).length + t.length := by rw [htb.out, List.length_append]
      have hten := nb_pos (t.length : Int)
      generalize hpre : l ++ (ts.take k).flatMap tb = pre at *
      have hpl : pre.length + (tb t).length + 10 ≤ 140737488355328 := by rw [← hpre, List.length_append]; omega
      replace hpre := fhid hpre
      have c0 := cell_of_one hW.1
      have f0 := free_of_one hW.1
      have pn := putNumber_any v1 pre (t.length : Int) wr hW.2 (by omega) (by omega) (by omega)
      have hnl : (pre ++ nb (t.length : Int)).length + t.length ≤ 140737488355328 := by rw [List.length_append]; omega
      replace hW := fhid hW
      replace htl := fhid htl
      have h2 : (k : Int) < ts.length := by omega
      have h3 : (0 : Int) ≤ k := by omega
      clear hc hfl a2
      go_wp2_with (first
        | (go_at_call 61; (with_reducible refine pn.mono ?_); rintro e w1 ⟨v2, rfl, o2, e2⟩)
        | (at_builtin
           refine app_str rfl _ _ rfl v2 _ rfl o2 t rfl hnl ?_
           intro v3 w3 o3 e3
           have e4 := e2.trans e3
           obtain ⟨c1, f1⟩ := hW.out.kept e4
           have P := fhid (hW.out.put o3 e4)
           obtain ⟨A2, k2, rfl, _⟩ := o3.shape
           generalize (pre ++ nb (t.length : Int) ++ t).length = N2 at *))
      go_roundw
      case rel => exact ⟨k + 1, _, by omega, by go_num, by rw [hsn.out, htb.out, ← List.append_assoc, ← List.append_assoc, hpre.out]; exact P.out.1, hE.trans P.out.2⟩
      case measure => simp [intOf]; omega
    · obtain rfl : k = ts.length := by omega
      have h2 : ¬ (ts.length : Int) < ts.length := by omega
      go_wp2
      go_end0
      exact ⟨v1, rfl, by rw [List.take_length] at hW; exact hW, hE⟩
end Go.Proofs.Ytmbgcphiigmdjaa.Cs
