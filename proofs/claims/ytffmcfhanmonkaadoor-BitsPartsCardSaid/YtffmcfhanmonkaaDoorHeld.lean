/-
  Two, three and four sets that a statement holds in blocks of its own, through calls that make memory.
-/
import Derived.Test.YtffmcfhanmonkaaDoorAlive
import Derived.Test.YtffmcfhanmonkaaDoorMerge
import Derived.Deep.RegionHeld3
namespace Go.Proofs.YtffmcfhanmonkaaDoor
open Go.RowKit
theorem Blk.on {w w' : World} {b : Nat} {p : Nat → Bool} (h : Blk w b p) (hb : Below w.heap.size w w') : Blk w' b p := h.below hb h.lt
theorem below_on {w w1 w2 : World} (h : Below w.heap.size w w1) (hb : Below w1.heap.size w1 w2) : Below w.heap.size w w2 := h.trans (hb.mono h.size)
/-- What is held: sets in blocks, and all that was there as it was. -/
def Held (w : World) (l : List (Nat × (Nat → Bool))) (w' : World) : Prop := (∀ x, x ∈ l → Blk w' x.1 x.2) ∧ Below w.heap.size w w'
theorem Held.on {w w1 w2 : World} {l : List (Nat × (Nat → Bool))} (h : Held w l w1) (hx : Below w1.heap.size w1 w2) : Held w l w2 :=
  ⟨fun x hm => (h.1 x hm).on hx, below_on h.2 hx⟩
theorem Held.alloc {w w1 : World} {l : List (Nat × (Nat → Bool))} (h : Held w l w1) (o : Obj) : Held w l (w1.alloc o) :=
  ⟨fun x hm => (h.1 x hm).old o, h.2.alloc h.2.size o⟩
theorem Held.drew {w w1 : World} {l : List (Nat × (Nat → Bool))} (h : Held w l w1) : Held w l w1.drew :=
  ⟨fun x hm => (h.1 x hm).drew, h.2.drew⟩
theorem Held.one {w w1 : World} {a : Nat} {p : Nat → Bool} (h1 : Blk w1 a p) (h : Below w.heap.size w w1) : Held w [(a, p)] w1 :=
  ⟨fun x hm => by simp at hm; subst hm; exact h1, h⟩
theorem Held.cons {w w1 : World} {a : Nat} {p : Nat → Bool} {l : List (Nat × (Nat → Bool))} (h1 : Blk w1 a p) (h : Held w l w1) : Held w ((a, p) :: l) w1 :=
  ⟨fun x hm => by
    rcases List.mem_cons.1 hm with rfl | hm
    · exact h1
    · exact h.1 x hm, h.2⟩
theorem Held.tail {w w1 : World} {a : Nat × (Nat → Bool)} {l : List (Nat × (Nat → Bool))} (h : Held w (a :: l) w1) : Held w l w1 :=
  ⟨fun x hm => h.1 x (List.mem_cons_of_mem _ hm), h.2⟩
theorem Held.head {w w1 : World} {a : Nat} {p : Nat → Bool} {l : List (Nat × (Nat → Bool))} (h : Held w ((a, p) :: l) w1) : Blk w1 a p := h.1 (a, p) (by simp)
theorem Held.tab {w w1 : World} {l : List (Nat × (Nat → Bool))} (h : Held w l w1) (hT : Tab w) : Tab w1 := tab_below hT h.2
theorem held1 {w w' : World} {a : Nat} {p : Nat → Bool} (h : Held w [(a, p)] w') :
    w'.cell? ⟨a, 0, none⟩ = some (.int .u64 (word p 0)) ∧ w'.cell? ⟨a, 1, none⟩ = some (.int .u64 (word p 1)) ∧ w'.cell? ⟨a, 2, none⟩ = some (.int .u64 (word p 2)) ∧ w'.cell? ⟨a, 3, none⟩ = some (.int .u64 (word p 3)) :=
  h.head.four
theorem held2 {w w' : World} {a b : Nat} {p q : Nat → Bool} (h : Held w [(a, p), (b, q)] w') :
    w'.cell? ⟨a, 0, none⟩ = some (.int .u64 (word p 0)) ∧ w'.cell? ⟨a, 1, none⟩ = some (.int .u64 (word p 1)) ∧ w'.cell? ⟨a, 2, none⟩ = some (.int .u64 (word p 2)) ∧ w'.cell? ⟨a, 3, none⟩ = some (.int .u64 (word p 3)) ∧
    w'.cell? ⟨b, 0, none⟩ = some (.int .u64 (word q 0)) ∧ w'.cell? ⟨b, 1, none⟩ = some (.int .u64 (word q 1)) ∧ w'.cell? ⟨b, 2, none⟩ = some (.int .u64 (word q 2)) ∧ w'.cell? ⟨b, 3, none⟩ = some (.int .u64 (word q 3)) := by
  obtain ⟨h0, h1, h2, h3⟩ := h.head.four
  exact ⟨h0, h1, h2, h3, held1 h.tail⟩
theorem held3 {w w' : World} {a b c : Nat} {p q r : Nat → Bool} (h : Held w [(a, p), (b, q), (c, r)] w') :
    w'.cell? ⟨a, 0, none⟩ = some (.int .u64 (word p 0)) ∧ w'.cell? ⟨a, 1, none⟩ = some (.int .u64 (word p 1)) ∧ w'.cell? ⟨a, 2, none⟩ = some (.int .u64 (word p 2)) ∧ w'.cell? ⟨a, 3, none⟩ = some (.int .u64 (word p 3)) ∧
    w'.cell? ⟨b, 0, none⟩ = some (.int .u64 (word q 0)) ∧ w'.cell? ⟨b, 1, none⟩ = some (.int .u64 (word q 1)) ∧ w'.cell? ⟨b, 2, none⟩ = some (.int .u64 (word q 2)) ∧ w'.cell? ⟨b, 3, none⟩ = some (.int .u64 (word q 3)) ∧
    w'.cell? ⟨c, 0, none⟩ = some (.int .u64 (word r 0)) ∧ w'.cell? ⟨c, 1, none⟩ = some (.int .u64 (word r 1)) ∧ w'.cell? ⟨c, 2, none⟩ = some (.int .u64 (word r 2)) ∧ w'.cell? ⟨c, 3, none⟩ = some (.int .u64 (word r 3)) := by
  obtain ⟨h0, h1, h2, h3⟩ := h.head.four
  exact ⟨h0, h1, h2, h3, held2 h.tail⟩
theorem held4 {w w' : World} {a b c d : Nat} {p q r s : Nat → Bool} (h : Held w [(a, p), (b, q), (c, r), (d, s)] w') :
    w'.cell? ⟨a, 0, none⟩ = some (.int .u64 (word p 0)) ∧ w'.cell? ⟨a, 1, none⟩ = some (.int .u64 (word p 1)) ∧ w'.cell? ⟨a, 2, none⟩ = some (.int .u64 (word p 2)) ∧ w'.cell? ⟨a, 3, none⟩ = some (.int .u64 (word p 3)) ∧
    w'.cell? ⟨b, 0, none⟩ = some (.int .u64 (word q 0)) ∧ w'.cell? ⟨b, 1, none⟩ = some (.int .u64 (word q 1)) ∧ w'.cell? ⟨b, 2, none⟩ = some (.int .u64 (word q 2)) ∧ w'.cell? ⟨b, 3, none⟩ = some (.int .u64 (word q 3)) ∧
    w'.cell? ⟨c, 0, none⟩ = some (.int .u64 (word r 0)) ∧ w'.cell? ⟨c, 1, none⟩ = some (.int .u64 (word r 1)) ∧ w'.cell? ⟨c, 2, none⟩ = some (.int .u64 (word r 2)) ∧ w'.cell? ⟨c, 3, none⟩ = some (.int .u64 (word r 3)) ∧
    w'.cell? ⟨d, 0, none⟩ = some (.int .u64 (word s 0)) ∧ w'.cell? ⟨d, 1, none⟩ = some (.int .u64 (word s 1)) ∧ w'.cell? ⟨d, 2, none⟩ = some (.int .u64 (word s 2)) ∧ w'.cell? ⟨d, 3, none⟩ = some (.int .u64 (word s 3)) := by
  obtain ⟨h0, h1, h2, h3⟩ := h.head.four
  exact ⟨h0, h1, h2, h3, held3 h.tail⟩
end Go.Proofs.YtffmcfhanmonkaaDoor
