/-
  A ledger in memory; whether one was made; a use later.
-/
import Derived.Test.YtmbgcphiigmdjaaURng
import Derived.Test.YtmbgcphiigmdjaaUMath
import Derived.Deep.DeepCutAuto
import Derived.BigRegion
import Derived.StillTailTactics
namespace Go.Proofs.Ytmbgcphiigmdjaa
open Go.RowKit Ss Ds

abbrev TLed : TypeId := 61
abbrev TUse : TypeId := 66
abbrev TMap : TypeId := 59
def useV (u : Int × Int) : Value := .agg #[.int .i64 u.1, .int .i64 u.2]
def UL (M : List Usr) : List (Str × Value) := M.map fun x => (x.1, useV x.2)
theorem look_UL (M : List Usr) (s : Str) : lookG s (UL M) = (lookG s M).map useV := lookG_map useV
theorem put_UL (M : List Usr) (s : Str) (u : Int × Int) : putG s (useV u) (UL M) = UL (putG s u M) := putG_map useV
theorem UL_len (M : List Usr) : (UL M).length = M.length := List.length_map _
theorem zeroUse (w : World) : (zeroValue TUse).run Try.prog w = .ok (useV (0, 0)) w := by kernel_rfl
/-- A block of cells. -/
def Box (w : World) (b : Nat) (T : TypeId) (cs : List Value) : Prop := w.heap[b]? = some (.cells cs.toArray T)
theorem Box.lt {w : World} {b : Nat} {T : TypeId} {cs : List Value} (h : Box w b T cs) : b < w.heap.size := lt_of_block h
theorem Box.below {w w' : World} {b B : Nat} {T : TypeId} {cs : List Value} (h : Box w b T cs) (hb : Below B w w') (hB : b < B) : Box w' b T cs := (hb.block b hB).trans h
theorem Box.cell {w : World} {b : Nat} {T : TypeId} {cs : List Value} (h : Box w b T cs) (i : Nat) : w.cell? ⟨b, i, none⟩ = cs[i]? := by
  unfold Box at h
  simp [World.cell?, h]
theorem Box.free {w : World} {b : Nat} {T : TypeId} {cs : List Value} (h : Box w b T cs) (i : Nat) : w.frozen? ⟨b, i, none⟩ = false := by
  unfold Box at h
  simp [World.frozen?, h]
theorem Box.set {w : World} {b : Nat} {T : TypeId} {cs : List Value} (h : Box w b T cs) (i : Nat) (v : Value) : Box (w.setCell ⟨b, i, none⟩ v) b T (cs.set i v) := by
  unfold Box at *
  unfold World.setCell
  simp only [Array.getElem?_modify, if_true, h, Option.map_some]
  simp
theorem Box.other {w : World} {b : Nat} {T : TypeId} {cs : List Value} (h : Box w b T cs) {a : Addr} (ha : b ≠ a.block) (v : Value) : Box (w.setCell a v) b T cs := by
  unfold Box at *
  rw [Below.heap_setCell _ _ _ _ ha]; exact h
theorem Box.new (w : World) (T : TypeId) (cs : List Value) : Box (w.alloc (.cells cs.toArray T)) w.heap.size T cs := heap_alloc_new w _
theorem Box.keep {w w' : World} {b : Nat} {T : TypeId} {cs : List Value} (h : Box w b T cs) (hk : w'.heap[b]? = w.heap[b]?) : Box w' b T cs := hk.trans h
/-- A ledger: its object's block, and its map's. -/
def LB (w : World) (p m : Nat) (h : Int) (M : List Usr) : Prop := Box w p TLed [.int .i64 h, .map (some m)] ∧ SM w m (UL M)
section
variable {w w' : World} {p m B : Nat} {h : Int} {M : List Usr}
theorem LB.lt (l : LB w p m h M) : p < w.heap.size ∧ m < w.heap.size := ⟨l.1.lt, l.2.lt⟩
theorem LB.ne (l : LB w p m h M) : p ≠ m := by
  obtain ⟨h1, es, c, h2, _⟩ := l
  intro e
  subst e
  rw [h1] at h2
  cases h2
theorem LB.below (l : LB w p m h M) (hb : Below w.heap.size w w') : LB w' p m h M := ⟨l.1.below hb l.1.lt, l.2.below hb l.2.lt⟩
theorem LB.grown (l : LB w p m h M) {k : Nat} (hg : w.grownBy w' (some k)) (h1 : p ≠ k) (h2 : m ≠ k) : LB w' p m h M :=
  ⟨l.1.keep (hg.block p l.lt.1 (by simpa using h1)), l.2.keep (hg.block m l.lt.2 (by simpa using h2))⟩
theorem LB.cells (l : LB w p m h M) : w.cell? ⟨p, 0, none⟩ = some (.int .i64 h) ∧ w.cell? ⟨p, 1, none⟩ = some (.map (some m)) ∧ w.frozen? ⟨p, 0, none⟩ = false ∧ w.frozen? ⟨p, 1, none⟩ = false :=
  ⟨l.1.cell 0, l.1.cell 1, l.1.free 0, l.1.free 1⟩
end
theorem below_grown {w w' : World} {m : Nat} (h : Below w.heap.size w w') : w.grownBy w' (some m) := ⟨h.os, h.tape, h.output, h.size, fun k hk _ => h.block k hk⟩
theorem grown_trans {a b c : World} {m : Nat} (h : a.grownBy b (some m)) (g : b.grownBy c (some m)) : a.grownBy c (some m) :=
  ⟨g.os.trans h.os, g.tape.trans h.tape, g.output.trans h.output, Nat.le_trans h.size g.size, fun k hk hne => (g.block k (Nat.lt_of_lt_of_le hk h.size) hne).trans (h.block k hk hne)⟩
theorem grown_below {a b : World} {m B : Nat} (h : a.grownBy b (some m)) (hB : B ≤ m) (hs : B ≤ a.heap.size) : Below B a b :=
  ⟨h.os, h.tape, h.output, h.size, fun k hk => h.block k (by omega) (by intro e; injection e with e; omega)⟩
/-- A half-life is from 1 to a million. -/
def halfB (h : Int) : Prop := 1 ≤ h ∧ h ≤ 1000000
set_option maxRecDepth 100000 in
set_option maxHeartbeats 1000000 in
theorem made_any {w : World} {p m : Nat} {h : Int} {M : List Usr} (l : LB w p m h M) (hh : halfB h) : Calls Try.prog 38 #[.pointer (some ⟨p, 0, none⟩)] w fun e w' => e = .returned (.bool true) ∧ w' = w := by
  obtain ⟨c0, c1, _, _⟩ := l.cells
  have hp := l.lt.1
  obtain ⟨h1, h2⟩ := hh
  have i0 : h > 0 := by omega
  clear l
  go_enter Try.func38, Try.ntmps38
  go_wp2
  go_ret
  exact ⟨by simp, rfl⟩
set_option maxRecDepth 100000 in
set_option maxHeartbeats 1000000 in
theorem made_nil (w : World) : Calls Try.prog 38 #[.pointer none] w fun e w' => e = .returned (.bool false) ∧ w' = w := by
  go_enter Try.func38, Try.ntmps38
  go_wp2
  go_ret
  exact ⟨rfl, rfl⟩
/-- A ledger that nobody made. -/
def ZB (w : World) (p : Nat) : Prop := Box w p TLed [.int .i64 0, .map none]
set_option maxRecDepth 100000 in
set_option maxHeartbeats 1000000 in
theorem made_zero {w : World} {p : Nat} (l : ZB w p) : Calls Try.prog 38 #[.pointer (some ⟨p, 0, none⟩)] w fun e w' => e = .returned (.bool false) ∧ w' = w := by
  have c0 := Box.cell l 0
  have hp := Box.lt l
  clear l
  simp only [List.getElem?_cons_zero] at c0
  go_enter Try.func38, Try.ntmps38
  go_wp2
  go_ret
  exact ⟨rfl, rfl⟩
/-- Nothing is told of such a one. -/
def NoMade (w : World) (pa : Option Addr) : Prop := Calls Try.prog 38 #[.pointer pa] w fun e w' => e = .returned (.bool false) ∧ w' = w
set_option maxRecDepth 100000 in
set_option maxHeartbeats 1000000 in
theorem refused_any {w : World} {p m : Nat} {h : Int} {M : List Usr} (l : LB w p m h M) (hh : halfB h) (now : Int) :
    Calls Try.prog 34 #[.pointer (some ⟨p, 0, none⟩), .int .i64 now] w fun e w' => e = .returned (.int .i64 (if timeB now then 0 else 1)) ∧ w' = w := by
  have hm := made_any l hh
  by_cases h0 : now < 0
  · rw [show (if timeB now then (0 : Int) else 1) = 1 from if_neg (by unfold timeB; omega)]
    clear l
    go_enter Try.func34, Try.ntmps34
    go_wp2_with (go_at_call 38; (with_reducible refine hm.mono ?_); rintro e w' ⟨rfl, rfl⟩)
    go_ret
    exact ⟨rfl, rfl⟩
  · by_cases h1 : now > 1099511627776
    · rw [show (if timeB now then (0 : Int) else 1) = 1 from if_neg (by unfold timeB; omega)]
      clear l
      go_enter Try.func34, Try.ntmps34
      go_wp2_with (go_at_call 38; (with_reducible refine hm.mono ?_); rintro e w' ⟨rfl, rfl⟩)
      go_ret
      exact ⟨rfl, rfl⟩
    · rw [show (if timeB now then (0 : Int) else 1) = 0 from if_pos (by unfold timeB; omega)]
      clear l
      go_enter Try.func34, Try.ntmps34
      go_wp2_with (go_at_call 38; (with_reducible refine hm.mono ?_); rintro e w' ⟨rfl, rfl⟩)
      go_ret
      exact ⟨rfl, rfl⟩
set_option maxRecDepth 100000 in
set_option maxHeartbeats 1000000 in
theorem refused_no {w : World} {pa : Option Addr} (hm : NoMade w pa) (now : Int) :
    Calls Try.prog 34 #[.pointer pa, .int .i64 now] w fun e w' => e = .returned (.int .i64 2) ∧ w' = w := by
  unfold NoMade at hm
  go_enter Try.func34, Try.ntmps34
  go_wp2_with (go_at_call 38; (with_reducible refine hm.mono ?_); rintro e w' ⟨rfl, rfl⟩)
  go_ret
  exact ⟨rfl, rfl⟩
end Go.Proofs.Ytmbgcphiigmdjaa
