/-
  The law's own look at the package: it answers true.
-/
import Derived.Test.YtbclmgakifmgfaaCWriter
import Derived.Test.YtbclmgakifmgfaaCTextOk
import Derived.Test.YtbclmgakifmgfaaCEnd
import Derived.Laws.StructEq
namespace Go.Proofs.Ytbclmgakifmgfaa
open Go.RowKit

theorem SegV.new (w : World) (cs : Array Value) (t : TypeId) : SegV (w.alloc (.cells cs t)) (some ⟨w.heap.size, 0, none⟩) cs.toList := fun _ => by
  refine ⟨w.heap.size, 0, rfl, by rw [World.size_alloc]; omega, fun j hj => ?_⟩
  have h : (w.alloc (.cells cs t)).heap[w.heap.size]? = some (.cells cs t (0, 0)) := heap_alloc_new w _
  rw [Nat.zero_add, Array.getElem_toList]
  simp only [World.cell?, h]
  simp at hj
  simp [hj]
theorem Apart.of {p g : Nat} {v : Value} (hp : p < g) (hv : ∀ b, v.ownBlock = some b → b < g) : Apart (some ⟨g, 0, none⟩) p v := by
  intro a ha
  injection ha with ha
  subst ha
  refine ⟨by show g ≠ p; omega, fun e => ?_⟩
  have := hv g e.symm
  omega
theorem Own.lt {w : World} {base : Nat} {v : Value} {l : List UInt8} (h : Own w base v l) : ∀ b, v.ownBlock = some b → b < w.heap.size := fun b hb => (World.ownsRow.lt h b hb).2
/-- The value lies from B on. -/
def Ge (B : Nat) (v : Value) : Prop := ∀ b, v.ownBlock = some b → B ≤ b
theorem Ge.nil (B : Nat) : Ge B (.slice none 0 0) := fun b h => by simp [Value.ownBlock] at h
theorem Ext.ge {p : Option Nat} {v v' : Value} {w w' : World} {B : Nat} (h : Ext p v w v' w') (hv : Ge B v) (hB : B ≤ w.heap.size) : Ge B v' := by
  intro b hb
  rcases h.at_ with e | e | ⟨g, e, hg⟩
  · exact hv b (by rw [← e]; exact hb)
  · rw [e] at hb; cases hb
  · rw [e] at hb; injection hb with hb; omega
theorem Ext.belowP {p B : Nat} {v v' : Value} {w w' : World} (h : Ext (some p) v w v' w') (hB : B ≤ w.heap.size) (hp : B ≤ p) (hv : Ge B v) : Below B w w' := h.below hB (fun b e => by injection e with e; omega) hv
def six : List UInt8 := [1, 128, 1, 4, 97, 98]
theorem six_of : (([] : List UInt8) ++ ([-1, 64] : List Int).flatMap nb) ++ ([[97, 98]] : List (List UInt8)).flatMap tb = six := by
  have e1 : nb (-1) = [1] := vb_small 1 (by omega)
  have e2 : nb 64 = [128, 1] := by
    show vb 128 = _
    rw [vb_big 128 (by omega)]
    show _ :: vb 1 = _
    rw [vb_small 1 (by omega)]
    rfl
  have e3 : nb 2 = [4] := vb_small 4 (by omega)
  have e4 : tb [97, 98] = [4, 97, 98] := by
    show nb 2 ++ _ = _
    rw [e3]; rfl
  simp [e1, e2, e4, six]
theorem six_1 : inStep six 0 0 0 (-9223372036854775808) 9223372036854775807 = (-1, 1, 0, 0) := by decide +kernel
theorem six_2 : inStep six 1 0 0 0 64 = (64, 3, 0, 0) := by decide +kernel
theorem six_3 : textStep six 3 0 0 9 = ([97, 98], 6, 0, 0) := by decide +kernel
theorem six_4 : endStep six 6 0 0 = (0, 0) := by decide +kernel
/-- Numbers in a slice that was just built, put. -/
theorem Int_built (p : Nat) (v : Value) (l : List UInt8) (ns : List Int) (w : World) (h : Wr w p v l) (hr : ∀ n ∈ ns, InR n) (hl : l.length + 10 * ns.length + 10 ≤ 140737488355328) (g n c : Nat) (hg : g = w.heap.size) (hn : n = ns.length) (cs : Array Value) (hcs : cs = (ns.map (.int .i64)).toArray) :
    Calls Try.prog 8 #[.pointer (some ⟨p, 0, none⟩), .slice (some ⟨g, 0, none⟩) n c] (w.alloc (.cells cs 3)) (Wrote (w.alloc (.cells cs 3)) p v (l ++ ns.flatMap nb)) := by
  subst hg hn hcs
  exact Int_put p v l _ ns c _ (h.below ((Below.refl _ _).alloc (Nat.le_refl _) _)) (SegV.new w (ns.map (.int .i64)).toArray _) (fun _ => Apart.of h.lt h.2.lt) hr hl
/-- Texts in a slice that was just built, put. -/
theorem Text_built (p : Nat) (v : Value) (l : List UInt8) (ts : List (List UInt8)) (w : World) (h : Wr w p v l) (hl : l.length + (ts.flatMap tb).length + 10 ≤ 140737488355328) (ht : ts.length ≤ 140737488355328) (g n c : Nat) (hg : g = w.heap.size) (hn : n = ts.length) (cs : Array Value) (hcs : cs = (ts.map fun t => .string (str t)).toArray) :
    Calls Try.prog 9 #[.pointer (some ⟨p, 0, none⟩), .slice (some ⟨g, 0, none⟩) n c] (w.alloc (.cells cs 9)) (Wrote (w.alloc (.cells cs 9)) p v (l ++ ts.flatMap tb)) := by
  subst hg hn hcs
  exact Text_put p v l _ ts c _ (h.below ((Below.refl _ _).alloc (Nat.le_refl _) _)) (SegV.new w (ts.map fun t => Value.string (str t)).toArray _) (fun _ => Apart.of h.lt h.2.lt) hl ht
theorem Same_same (A Bo : Option Addr) (l : List UInt8) (ca cb BA BB : Nat) (w : World) (hl : Seg w BA A l) (hm : Seg w BB Bo l) :
    Calls Try.prog 13 #[.slice A l.length ca, .slice Bo l.length cb] w fun e w' => e = .returned (.bool true) ∧ w = w' := by
  have := Same_any A Bo l l ca cb BA BB w hl hm
  rw [decide_eq_true (rfl : l = l)] at this
  exact this
theorem six_built (w : World) : Seg (w.alloc (.cells #[.int .u8 1, .int .u8 128, .int .u8 1, .int .u8 4, .int .u8 97, .int .u8 98] 5)) (w.heap.size + 1) (some ⟨w.heap.size, 0, none⟩) six := fun _ => by
  refine ⟨w.heap.size, 0, rfl, Nat.lt_succ_self _, fun j hj => ?_⟩
  have hj6 : j < 6 := hj
  have h : (w.alloc (.cells #[.int .u8 1, .int .u8 128, .int .u8 1, .int .u8 4, .int .u8 97, .int .u8 98] 5)).heap[w.heap.size]? = some (.cells #[.int .u8 1, .int .u8 128, .int .u8 1, .int .u8 4, .int .u8 97, .int .u8 98] 5 (0, 0)) := heap_alloc_new w _
  rw [Nat.zero_add]
  simp only [World.cell?, h]
  obtain rfl | rfl | rfl | rfl | rfl | rfl : j = 0 ∨ j = 1 ∨ j = 2 ∨ j = 3 ∨ j = 4 ∨ j = 5 := by omega
  all_goals rfl
theorem six_room : (([] : List UInt8) ++ ([-1, 64] : List Int).flatMap nb).length + (([[97, 98]] : List (List UInt8)).flatMap tb).length + 10 ≤ 140737488355328 := by
  rw [← List.length_append, six_of]; decide
theorem same_six (A : Option Addr) (k B : Nat) (w : World) (h : Seg w B A six) (hB : B ≤ w.heap.size) :
    Calls Try.prog 13 #[.slice A 6 k, .slice (some ⟨w.heap.size, 0, none⟩) 6 6] (w.alloc (.cells #[.int .u8 1, .int .u8 128, .int .u8 1, .int .u8 4, .int .u8 97, .int .u8 98] 5)) fun e w' => e = .returned (.bool true) ∧ Below w.heap.size w w' := by
  refine (Same_same A (some ⟨w.heap.size, 0, none⟩) six k 6 B (w.heap.size + 1) _ (h.keep fun p hp => World.cell?_alloc_lt _ _ _ (by omega)) (six_built w)).mono ?_
  rintro e w' ⟨rfl, rfl⟩
  exact ⟨rfl, (Below.refl _ _).alloc (Nat.le_refl _) _⟩
theorem two_in : ∀ n ∈ ([-1, 64] : List Int), InR n := by
  intro n hn
  simp at hn
  unfold InR
  rcases hn with rfl | rfl <;> omega
theorem put_ab (p : Nat) (v : Value) (w : World) (h : Wr w p v ([] ++ ([-1, 64] : List Int).flatMap nb)) :
    Calls Try.prog 9 #[.pointer (some ⟨p, 0, none⟩), .slice (some ⟨w.heap.size, 0, none⟩) 1 1] (w.alloc (.cells #[.string ⟨#[97, 98]⟩] 9)) (Wrote (w.alloc (.cells #[.string ⟨#[97, 98]⟩] 9)) p v six) := by
  have := Text_built p v _ [[97, 98]] w h six_room (by decide) w.heap.size 1 1 rfl rfl #[.string ⟨#[97, 98]⟩] rfl
  rw [six_of] at this
  exact this
theorem put_two (w : World) :
    Calls Try.prog 8 #[.pointer (some ⟨w.heap.size, 0, none⟩), .slice (some ⟨w.heap.size + 1, 0, none⟩) 2 2] ((w.alloc (.cells #[.slice none 0 0] 29)).alloc (.cells #[.int .i64 (-1), .int .i64 64] 3))
      (Wrote ((w.alloc (.cells #[.slice none 0 0] 29)).alloc (.cells #[.int .i64 (-1), .int .i64 64] 3)) w.heap.size (.slice none 0 0) ([] ++ ([-1, 64] : List Int).flatMap nb)) :=
  Int_built w.heap.size (.slice none 0 0) [] [-1, 64] _ (Wr.new w) two_in (by decide) (w.heap.size + 1) 2 2 (by rw [World.size_alloc]) rfl #[.int .i64 (-1), .int .i64 64] rfl
set_option maxRecDepth 100000 in
set_option maxHeartbeats 2000000 in
theorem alive_any (w : World) : Calls Try.prog 16 #[] w fun e w' => e = .returned (.bool true) ∧ Below w.heap.size w w' := by
  have y0 : Below w.heap.size w (w.alloc (.cells #[.slice none 0 0] 29)) := (Below.refl _ _).alloc (Nat.le_refl _) _
  have s6 : six.length = 6 := rfl
  have sab : (str [97, 98]).toList = [97, 98] := by rw [ByteArray.toList_eq]; rfl
  go_enter Try.func16, Try.ntmps16
  go_wp2_with (first
    | (go_at_call 8
       (with_reducible refine (put_two w).mono ?_)
       rintro e w1 ⟨v1, rfl, W1, E1⟩
       have G1 : Ge w.heap.size v1 := E1.ge (Ge.nil _) (by rw [World.size_alloc, World.size_alloc]; omega)
       have y1 : Below w.heap.size w w1 := (y0.alloc y0.size _).trans (E1.belowP (by rw [World.size_alloc, World.size_alloc]; omega) (Nat.le_refl _) (Ge.nil _)))
    | (go_at_call 9
       (with_reducible refine (put_ab w.heap.size v1 w1 W1).mono ?_)
       rintro e w2 ⟨v2, rfl, W2, E2⟩
       have y2 : Below w.heap.size w w2 := (y1.alloc y1.size _).trans (E2.belowP (by rw [World.size_alloc]; have := y1.size; omega) (Nat.le_refl _) G1))
    | (go_at_call 14
       (with_reducible refine (Bytes_any w.heap.size v2 six w4 W4 (by decide)).mono ?_)
       rintro e w5 ⟨v5, rfl, O5, B5⟩
       have y5 := y4.trans (B5.mono y4.size)
       have R5 := R4.below B5
       obtain ⟨A5, k5, hv5, _, _, S5⟩ := O5.shape
       rw [s6] at hv5
       subst hv5)
    | (go_at_call 14
       (with_reducible refine (Bytes_any w.heap.size v2 six w2 W2 (by decide)).mono ?_)
       rintro e w3 ⟨v3, rfl, O3, B3⟩
       have y3 := y2.trans (B3.mono y2.size)
       have W3 := W2.below B3
       obtain ⟨A3, k3, hv3, _, _, S3⟩ := O3.shape
       rw [s6] at hv3
       subst hv3
       have N3 := New_any A3 six k3 w3 S3 (by rw [s6]; decide)
       rw [s6] at N3)
    | (go_at_call 17
       (with_reducible refine N3.mono ?_)
       rintro e w4 ⟨g, rfl, Hg, R4, B4⟩
       have y4 := y3.trans (B4.mono y3.size)
       replace Hg := Nat.le_trans y3.size Hg
       have W4 := W3.below B4)
    | (go_at_call 13
       (with_reducible refine (same_six A5 k5 w5.heap.size w5 S5 (Nat.le_refl _)).mono ?_)
       rintro e w6 ⟨rfl, B6⟩
       have y6 := y5.trans (B6.mono y5.size)
       have R6 := R5.below B6
       have I1 := Int_any g six 0 0 0 w6 R6
       rw [six_1] at I1)
    | (go_at_call 18
       (with_reducible refine I1.mono ?_)
       rintro e w7 ⟨rfl, R7, T7⟩
       have y7 := y6.trans (Turns.below T7 Hg y6.size)
       have I2 := in_any g six 1 0 0 0 64 w7 R7
       rw [six_2] at I2)
    | (go_at_call 24
       (with_reducible refine I2.mono ?_)
       rintro e w8 ⟨rfl, R8, T8⟩
       have y8 := y7.trans (Turns.below T8 Hg y7.size)
       have I3 := text_any g six 3 0 0 9 w8 R8
       rw [six_3] at I3)
    | (go_at_call 20
       (with_reducible refine I3.mono ?_)
       rintro e w9 ⟨rfl, R9, T9⟩
       have y9 := y8.trans (Turns.below T9 Hg y8.size)
       have I4 := end_any g six 6 0 0 w9 R9
       rw [six_4] at I4)
    | (go_at_call 21
       (with_reducible refine I4.mono ?_)
       rintro e w10 ⟨rfl, R10, T10⟩
       have y10 := y9.trans (Turns.below T10 Hg y9.size)))
  go_ret
  exact ⟨rfl, y10⟩
end Go.Proofs.Ytbclmgakifmgfaa
