/-
  Bytes cloned; a writer's bytes; a new reader.
-/
import Derived.Test.YtbclmgakifmgfaaCBase
import Derived.WalkSpells
namespace Go.Proofs.Ytbclmgakifmgfaa
open Go.RowKit

/-- The call answers bytes of its own. -/
def Fresh (w : World) (l : List UInt8) (e : Ending) (w' : World) : Prop := ∃ v, e = .returned v ∧ Own w' w.heap.size v l ∧ Below w.heap.size w w'
/-- A writer. -/
def Wr (w : World) (p : Nat) (v : Value) (l : List UInt8) : Prop := w.heap[p]? = some (.cells #[v] 29 (0, 0)) ∧ Own w 0 v l
/-- A reader of the bytes l, at a place, with a fault. -/
def Rdr (w : World) (p : Nat) (l : List UInt8) (at_ : Nat) (why fat : Int) : Prop :=
  ∃ A cap, Rd w p (.slice A l.length cap) at_ why fat ∧ Seg w w.heap.size A l ∧ l.length ≤ cap ∧ (∀ a, A = some a → a.block ≠ p) ∧ at_ ≤ l.length ∧ l.length ≤ 140737488355328
theorem Seg.turn {w w' : World} {B p : Nat} {A : Option Addr} {l : List UInt8} (h : Seg w B A l) (hne : ∀ a, A = some a → a.block ≠ p) (ht : ∀ q : Addr, q.block < B → q.block ≠ p → w'.cell? q = w.cell? q) : Seg w' B A l := fun h0 => by
  obtain ⟨b, o, e, hb, hc⟩ := h h0
  exact ⟨b, o, e, hb, fun j hj => (ht ⟨b, o + j, none⟩ hb (hne ⟨b, o, none⟩ e)).trans (hc j hj)⟩
theorem Rdr.mk' {w w' : World} {p cap : Nat} {A : Option Addr} {l : List UInt8} {at_ : Nat} {why fat : Int} (h : Rd w' p (.slice A l.length cap) at_ why fat) (hs : Seg w w.heap.size A l) (hc : l.length ≤ cap) (hne : ∀ a, A = some a → a.block ≠ p) (ha : at_ ≤ l.length) (hl : l.length ≤ 140737488355328)
    (ht : Turns w w' p) : Rdr w' p l at_ why fat :=
  ⟨A, cap, h, (hs.turn hne fun q hq hp => World.cell?_of_block (ht.block q.block hq (fun e => hp (by injection e)))).more ht.size, hc, hne, ha, hl⟩
theorem Rdr.below {w w' : World} {p : Nat} {l : List UInt8} {at_ : Nat} {why fat : Int} (h : Rdr w p l at_ why fat) (hb : Below w.heap.size w w') : Rdr w' p l at_ why fat := by
  obtain ⟨A, cap, h1, h2, h3, h4, h5, h6⟩ := h
  exact ⟨A, cap, h1.below hb, (h2.below hb).more hb.size, h3, h4, h5, h6⟩
theorem Rdr.lt {w : World} {p : Nat} {l : List UInt8} {at_ : Nat} {why fat : Int} (h : Rdr w p l at_ why fat) : p < w.heap.size := by
  obtain ⟨A, cap, h1, _⟩ := h
  exact h1.lt

set_option maxHeartbeats 400000 in
theorem Clone_nil (n c : Nat) (w : World) :
    Calls Try.prog 27 #[.slice none n c] w fun e w' => e = .returned (.slice none 0 0) ∧ w = w' := by
  have k1 := fun w => Lib.run_eql_slice_nil (P := Try.prog) w 27 5 none n c 0 0 Try.underlying27
  simp only [Option.isNone_none] at k1
  go_enter Try.func27, Try.ntmps27
  go_wp2
  go_ret
  exact ⟨rfl, rfl⟩
set_option maxRecDepth 100000 in
set_option maxHeartbeats 1000000 in
theorem Clone_some (a : Addr) (l : List UInt8) (c : Nat) (w : World) (h : Seg w w.heap.size (some a) l) (hl : l.length ≤ 140737488355328) :
    Calls Try.prog 27 #[.slice (some a) l.length c] w (Fresh w l) := by
  have k1 := fun w => Lib.run_eql_slice_nil (P := Try.prog) w 27 5 (some a) l.length c 0 0 Try.underlying27
  simp only [Option.isNone_some] at k1
  replace h := fhid h
  go_enter Try.func27, Try.ntmps27
  go_wp2_with (at_builtin
               refine app_seg rfl _ _ rfl w.heap.size _ [] rfl (World.ownsRow_made w #[] 0 (Nat.le_refl _) (by decide) rfl) w.heap.size (some a) l c rfl (h.out.below ((Below.refl _ _).alloc (Nat.le_refl _) _)) (by rw [List.length_nil]; omega) (by rw [World.size_alloc]; omega) ?_
               intro v2 w2 o2 b2)
  go_ret
  exact ⟨_, rfl, o2, ((Below.refl _ _).alloc (Nat.le_refl _) _).trans b2⟩
theorem Clone_any (A : Option Addr) (l : List UInt8) (c : Nat) (w : World) (h : Seg w w.heap.size A l) (hl : l.length ≤ 140737488355328) :
    Calls Try.prog 27 #[.slice A l.length c] w (Fresh w l) := by
  cases A with
  | none =>
    have e : l = [] := by
      cases l with
      | nil => rfl
      | cons c r => obtain ⟨b, o, e, _⟩ := h (by simp); cases e
    subst e
    refine (Clone_nil _ c w).mono ?_
    rintro e w' ⟨rfl, rfl⟩
    exact ⟨_, rfl, Own.none_ _ _, Below.refl _ _⟩
  | some a => exact Clone_some a l c w h hl
set_option maxHeartbeats 400000 in
theorem Bytes_any (p : Nat) (v : Value) (l : List UInt8) (w : World) (h : Wr w p v l) (hl : l.length ≤ 140737488355328) :
    Calls Try.prog 14 #[.pointer (some ⟨p, 0, none⟩)] w (Fresh w l) := by
  obtain ⟨h1, h2⟩ := h
  have c0 := cell_of_one h1
  obtain ⟨A, cap, rfl, hc, _, hs⟩ := h2.shape
  have cl := Clone_any A l cap w hs hl
  clear h1 h2 hs
  go_enter Try.func14, Try.ntmps14
  go_wp2_with (go_at_call 27; (with_reducible refine cl.mono ?_); rintro e w1 ⟨v1, rfl, o1, b1⟩)
  go_ret
  exact ⟨_, rfl, o1, b1⟩
theorem Bytes_nil (w : World) :
    Calls Try.prog 14 #[.pointer none] w fun e w' => e = .returned (.slice none 0 0) ∧ w = w' := by
  go_enter Try.func14, Try.ntmps14
  go_wp2
  go_ret
  exact ⟨rfl, rfl⟩
/-- The call answers a reader of its own. -/
def NewR (w : World) (l : List UInt8) (e : Ending) (w' : World) : Prop := ∃ g, e = .returned (.pointer (some ⟨g, 0, none⟩)) ∧ w.heap.size ≤ g ∧ Rdr w' g l 0 0 0 ∧ Below w.heap.size w w'
set_option maxHeartbeats 400000 in
theorem New_any (A : Option Addr) (l : List UInt8) (c : Nat) (w : World) (h : Seg w w.heap.size A l) (hl : l.length ≤ 140737488355328) :
    Calls Try.prog 17 #[.slice A l.length c] w (NewR w l) := by
  have cl := Clone_any A l c w h hl
  clear h
  go_enter Try.func17, Try.ntmps17
  go_wp2_with (go_at_call 27; (with_reducible refine cl.mono ?_); rintro e w1 ⟨v1, rfl, o1, b1⟩; obtain ⟨A1, c1, rfl, hc1, _, s1⟩ := o1.shape)
  go_ret
  refine ⟨w1.heap.size, rfl, b1.size, ⟨A1, c1, ?_, ?_, hc1, ?_, Nat.zero_le _, hl⟩, b1.alloc b1.size _⟩
  · exact heap_alloc_new w1 _
  · rw [World.size_alloc]
    exact (s1.keep fun p hp => World.cell?_alloc_lt _ _ _ hp).more (by omega)
  · rintro a rfl
    rcases o1.2 with ⟨hv, _⟩ | ⟨g, cap, cur, hv, hg, hh, _⟩
    · cases hv
    · injection hv with hA _ _
      injection hA with hA
      subst hA
      have := (Array.getElem?_eq_some_iff.1 hh).1
      show g ≠ _
      omega
end Go.Proofs.Ytbclmgakifmgfaa
