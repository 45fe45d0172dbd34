/-
  Parts: FMath FLe FSeg FApp CMath CBase CNew CFault CFold CBits CNum CIn.
-/
import Derived.Test.YtmbgcphiigmdjaaProg
import Derived.WalkKit
import Derived.Below
import Derived.IntWalk
import Derived.Laws.Bits64b
import Derived.Deep.Draws
import Derived.Maps.AppendAt
import Derived.Laws.AppendOwnNone
import Derived.OwnWalk
import Derived.OneCell
import Derived.Lib.AppendStr
import Derived.WalkSpells
import Derived.BigQuiet
import Derived.Deep.QuietTactic
import Derived.Laws.BitsAllLaws
import Derived.BigRegion
import Derived.Outline
import Derived.Deep.DeepCutAuto
set_option linter.unusedSimpArgs false
set_option linter.unusedVariables false
/-
  Plain facts: bytes as numbers, the lowest first; the sum of bytes.
-/
namespace Go.Proofs.Ytmbgcphiigmdjaa.Cs

/-- Bytes, the lowest first, as a number. -/
def num : List UInt8 → Nat
  | [] => 0
  | c :: r => c.toNat + 256 * num r
/-- The k-th word. -/
def word (l : List UInt8) (k : Nat) : List UInt8 := (l.drop (4 * k)).take 4
/-- a and b behind k words. -/
def fa (l : List UInt8) : Nat → Nat
  | 0 => l.length
  | k + 1 => (fa l k + num (word l k)) % 4294967295
def fb (l : List UInt8) : Nat → Nat
  | 0 => 0
  | k + 1 => (fb l k + fa l (k + 1)) % 4294967295
def rounds4 (l : List UInt8) : Nat := (l.length + 3) / 4
def sumOf (l : List UInt8) : Nat := fb l (rounds4 l) * 4294967296 + fa l (rounds4 l)
end Go.Proofs.Ytmbgcphiigmdjaa.Cs
/-
  Plain facts: a number as bytes, the lowest first; a frame.
-/
namespace Go.Proofs.Ytmbgcphiigmdjaa.Cs

/-- A number's bytes, so many, the lowest first. -/
def le : Nat → Nat → List UInt8
  | 0, _ => []
  | k + 1, n => UInt8.ofNat n :: le k (n / 256)
/-- A frame. -/
def frame (b : List UInt8) : List UInt8 := le 4 b.length ++ b ++ le 8 (sumOf b)
end Go.Proofs.Ytmbgcphiigmdjaa.Cs
/-
  A slice of bytes that reads as a list, the nil one too; the number of few bytes.
-/
namespace Go.Proofs.Ytmbgcphiigmdjaa.Cs
open Go.RowKit

theorem fhid {p : Prop} (h : p) : Hid p := h
theorem below_drewN {B : Nat} {a w : World} (h : Below B a w) (n : Nat) : Below B a (w.drewN n) := ⟨h.os, h.tape, h.output, h.size, h.block⟩
/-- The slice at address A reads as the bytes l, in a block below B. -/
def Seg (w : World) (B : Nat) (A : Option Addr) (l : List UInt8) : Prop :=
  0 < l.length → ∃ b o, A = some ⟨b, o, none⟩ ∧ b < B ∧ ∀ j (h : j < l.length), w.cell? ⟨b, o + j, none⟩ = some (.int .u8 (l[j].toNat : Int))

section
variable {w w' : World} {B B' : Nat} {A : Option Addr} {l : List UInt8}
theorem Seg.nil (w : World) (B : Nat) (A : Option Addr) : Seg w B A [] := fun h => absurd h (Nat.lt_irrefl 0)
theorem Seg.at_ (h : Seg w B A l) {k : Nat} (hk : k < l.length) : ∃ b o, A = some ⟨b, o, none⟩ ∧ b < B ∧ w.cell? ⟨b, o + k, none⟩ = some (.int .u8 (l[k].toNat : Int)) := by
  obtain ⟨b, o, e, hb, hc⟩ := h (by omega)
  exact ⟨b, o, e, hb, hc k hk⟩
theorem Seg.keep (h : Seg w B A l) (hk : ∀ p : Addr, p.block < B → w'.cell? p = w.cell? p) : Seg w' B A l := fun h0 => by
  obtain ⟨b, o, e, hb, hc⟩ := h h0
  exact ⟨b, o, e, hb, fun j hj => (hk _ hb).trans (hc j hj)⟩
theorem Seg.more (h : Seg w B A l) (hB : B ≤ B') : Seg w B' A l := fun h0 => by
  obtain ⟨b, o, e, hb, hc⟩ := h h0
  exact ⟨b, o, e, by omega, hc⟩
theorem Seg.below (h : Seg w B A l) (hb : Below B w w') : Seg w' B A l := h.keep fun _ hp => hb.cell hp
theorem Seg.take (h : Seg w B A l) (k : Nat) : Seg w B A (l.take k) := fun h0 => by
  rw [List.length_take] at h0
  obtain ⟨b, o, e, hb, hc⟩ := h (by omega)
  refine ⟨b, o, e, hb, fun j hj => ?_⟩
  rw [List.length_take] at hj
  rw [List.getElem_take]
  exact hc j (by omega)
theorem Seg.drop (h : Seg w B A l) {k cap : Nat} (hk : k ≤ l.length) (hc : l.length ≤ cap) : Seg w B (if cap = k then A else A.map (·.add k)) (l.drop k) := fun h0 => by
  rw [List.length_drop] at h0
  obtain ⟨b, o, rfl, hb, hcell⟩ := h (by omega)
  rw [if_neg (by omega)]
  refine ⟨b, o + k, ?_, hb, fun j hj => ?_⟩
  · show some (Addr.add _ _) = _
    unfold Addr.add
    by_cases h0 : k = 0
    · rw [if_pos h0, h0, Nat.add_zero]
    · rw [if_neg h0]
  · rw [List.getElem_drop, Nat.add_assoc]
    exact hcell (k + j) (by rw [List.length_drop] at hj; omega)
end
end Go.Proofs.Ytmbgcphiigmdjaa.Cs
/-
  Bytes that the call itself laid; bytes put behind them.
-/
namespace Go.Proofs.Ytmbgcphiigmdjaa.Cs
open Go.RowKit

/-- Bytes as cells. -/
def BV (l : List UInt8) : List Value := l.map fun c => .int .u8 (c.toNat : Int)
theorem BV_len (l : List UInt8) : (BV l).length = l.length := List.length_map _
theorem BV_append (l m : List UInt8) : BV (l ++ m) = BV l ++ BV m := List.map_append
theorem BV_get (l : List UInt8) (j : Nat) (u : Value) (h : (BV l)[j]? = some u) : ∃ hj : j < l.length, u = .int .u8 (l[j].toNat : Int) := by
  unfold BV at h
  rw [List.getElem?_map] at h
  obtain ⟨c, hc, rfl⟩ := Option.map_eq_some_iff.1 h
  obtain ⟨hj, e⟩ := List.getElem?_eq_some_iff.1 hc
  exact ⟨hj, by rw [e]⟩
theorem BV_one (l : List UInt8) : ∀ u ∈ BV l, u.oneCell' = true := by
  intro u hu
  unfold BV at hu
  obtain ⟨c, _, rfl⟩ := List.mem_map.1 hu
  rfl
/-- A slice of the call's own holds the bytes l. -/
def Own (w : World) (base : Nat) (v : Value) (l : List UInt8) : Prop := w.ownsRow base 5 1 v l.length (BV l)
theorem infoByte : (Try.prog.info? 5).map (fun i => (i.zero, i.size, i.bytes)) = some (some (.int .u8 0), 1, 1) := by kernel_rfl

theorem Own.none_ (w : World) (base : Nat) : Own w base (.slice none 0 0) [] := ⟨rfl, .inl ⟨rfl, rfl⟩⟩
theorem Own.shape {w : World} {base : Nat} {v : Value} {l : List UInt8} (h : Own w base v l) : ∃ A cap, v = .slice A l.length cap ∧ l.length ≤ cap ∧ cap ≤ maxLen ∧ Seg w w.heap.size A l := by
  obtain ⟨_, ⟨rfl, hn⟩ | ⟨g, cap, cur, rfl, _, hg, hle, hcm, hsz, ht⟩⟩ := h
  · have hl : l = [] := List.eq_nil_of_length_eq_zero hn
    subst hl
    exact ⟨none, 0, rfl, Nat.le_refl _, by unfold maxLen; omega, Seg.nil _ _ _⟩
  · refine ⟨some ⟨g, 0, none⟩, cap, rfl, hle, hcm, fun h0 => ⟨g, 0, rfl, (Array.getElem?_eq_some_iff.1 hg).1, fun j hj => ?_⟩⟩
    have e : (cur.toList.take (l.length * 1))[j]? = some (.int .u8 (l[j].toNat : Int)) := by
      rw [ht]; unfold BV; rw [List.getElem?_map, List.getElem?_eq_getElem hj]; rfl
    rw [List.getElem?_take, if_pos (by omega), Array.getElem?_toList] at e
    simp only [World.cell?, hg, Nat.zero_add]
    simpa using e
theorem Own.block_ge {w : World} {base : Nat} {v : Value} {l : List UInt8} (h : Own w base v l) (k : Nat) (hk : v.ownBlock = some k) : base ≤ k := by
  obtain ⟨_, ⟨rfl, _⟩ | ⟨g, cap, cur, rfl, hg, _⟩⟩ := h
  · simp [Value.ownBlock] at hk
  · simp [Value.ownBlock] at hk; omega
theorem Own.alloc {w : World} {base : Nat} {v : Value} {l : List UInt8} (h : Own w base v l) (o : Obj) : Own (w.alloc o) base v l := World.ownsRow.alloc h o

theorem Own.below {w w' : World} {base : Nat} {v : Value} {l : List UInt8} (h : Own w base v l) (hb : Below w.heap.size w w') : Own w' base v l := by
  refine ⟨h.1, ?_⟩
  rcases h.2 with ⟨rfl, hn⟩ | ⟨g, cap, cur, rfl, hg, hh, rest⟩
  · exact .inl ⟨rfl, hn⟩
  · exact .inr ⟨g, cap, cur, rfl, hg, (hb.block g (Array.getElem?_eq_some_iff.1 hh).1).trans hh, rest⟩
theorem Seg.one (w : World) (c : UInt8) : Seg (w.alloc (.cells #[.int .u8 (c.toNat : Int)] 5)) (w.heap.size + 1) (some ⟨w.heap.size, 0, none⟩) [c] := fun _ => by
  refine ⟨w.heap.size, 0, rfl, Nat.lt_succ_self _, fun j hj => ?_⟩
  have hz : j = 0 := by simp at hj; omega
  subst hz
  show (w.alloc (.cells #[.int .u8 (c.toNat : Int)] 5)).cell? ⟨w.heap.size, 0, none⟩ = some (.int .u8 (c.toNat : Int))
  simp
/-- What append answers at a nil source. -/
theorem run_app_nil (w : World) (base : Nat) (ty : TypeId) (v : Value) (l : List UInt8) (hown : Own w base v l) (c : Nat) :
    (Builtin.append_ #[49, 49] ty #[v, .slice none 0 c]).run Try.prog w = .ok v w := by
  obtain ⟨i0, hi, hz0, hz1, hz2⟩ := info_parts infoByte
  rcases hown.2 with ⟨rfl, _⟩ | ⟨g, cap, cur, rfl, _, _, hnc, _⟩
  · simp [Builtin.append_, run_underlying Try.underlying49, sizeOf, typeInfo, hi, Builtin.lenOf, Builtin.firstCells]
  · simp [Builtin.append_, run_underlying Try.underlying49, sizeOf, typeInfo, hi, Builtin.lenOf, Builtin.firstCells, hnc, storeCells]

theorem app_seg {w : World} {ops : Array Oper} {rest : List Oper} {o : Oper} {a : Act} {Q : Exit → Act → World → Prop} (hgd : o.guard = none) (s x : Operand)
    (ho : o.op = .call { callee := .builtin .append, args := #[s, x], argTypes := #[49, 49] })
    (base : Nat) (v : Value) (l : List UInt8) (hs : a.eval s = v) (hown : Own w base v l)
    (B : Nat) (A : Option Addr) (m : List UInt8) (c : Nat) (hx : a.eval x = .slice A m.length c) (hr : Seg w B A m)
    (hlen : l.length + m.length ≤ 140737488355328) (hbase : base ≤ w.heap.size)
    (h : ∀ v' w', Own w' base v' (l ++ m) → Below base w w' → wpList Try.prog ops Q rest (a.put o.dst v') w') : wpList Try.prog ops Q (o :: rest) a w := by
  obtain ⟨i0, hi, hz0, hz1, hz2⟩ := info_parts infoByte
  have hrun : ∃ v' w', (Builtin.append_ #[49, 49] o.type #[v, .slice A m.length c]).run Try.prog w = .ok v' w' ∧ Own w' base v' (l ++ m) ∧ Below base w w' := by
    by_cases h0 : 0 < m.length
    · obtain ⟨b, of, rfl, _, hc⟩ := hr h0
      obtain ⟨v', w', hrun, h2, h3, _, _⟩ := run_append_own_at (P := Try.prog) w base 49 o.type 5 i0 (.int .u8 0) 1 1 Try.underlying49 hi hz0 hz1 hz2 rfl (by decide) v l.length (BV l) hown ⟨b, of, none⟩ m.length c (BV m)
        (by rw [BV_len]; omega) (fun j u hu => by
          obtain ⟨hj, rfl⟩ := BV_get m j u hu
          have := hc j hj
          unfold Addr.add
          by_cases hz : j = 0
          · subst hz; simpa using this
          · rw [if_neg hz]; exact this) (BV_one m) (by unfold maxLen; omega) (by omega) hbase
      refine ⟨v', w', hrun, ?_, (Below.refl _ _).grown h3 hbase (fun k hk => hown.block_ge k hk)⟩
      unfold Own
      rw [List.length_append, BV_append]
      exact h2
    · have hm : m = [] := List.eq_nil_of_length_eq_zero (by omega)
      subst hm
      cases A with
      | none => exact ⟨v, w, run_app_nil w base o.type v l hown c, by rw [List.append_nil]; exact hown, Below.refl _ _⟩
      | some ad =>
        obtain ⟨v', w', hrun, h2, h3, _, _⟩ := run_append_own_at (P := Try.prog) w base 49 o.type 5 i0 (.int .u8 0) 1 1 Try.underlying49 hi hz0 hz1 hz2 rfl (by decide) v l.length (BV l) hown ad 0 c [] rfl (fun j u hu => by simp at hu) (fun u hu => by simp at hu) (by unfold maxLen; omega) (by omega) hbase
        refine ⟨v', w', hrun, ?_, (Below.refl _ _).grown h3 hbase (fun k hk => hown.block_ge k hk)⟩
        rw [List.append_nil]
        unfold Own
        simpa using h2
  obtain ⟨v', w', hrun, h2, h3⟩ := hrun
  refine wpList_plain hgd fun K hK => ?_
  unfold Oper.wp execOp
  simp only [ho, resolve, invoke, builtin, Sem.run_bind, Sem.run_pure, Result.andThen_ok, List.map_toArray, List.map_cons, List.map_nil, hs, hx, hrun]
  exact hK _ _ (h v' w' h2 h3)
end Go.Proofs.Ytmbgcphiigmdjaa.Cs
/-
  Plain facts: a number as one from 0 on; its bytes; how bytes are read as a number.
-/
namespace Go.Proofs.Ytmbgcphiigmdjaa.Cs

/-- A number as one from 0 on. -/
def foldN (n : Int) : Nat := if n < 0 then (2 * (-(n + 1)) + 1).toNat else (2 * n).toNat
/-- A number's bytes, seven bits each. -/
def vb (u : Nat) : List UInt8 := if u < 128 then [UInt8.ofNat u] else UInt8.ofNat (128 + u % 128) :: vb (u / 128)
termination_by u
decreasing_by omega
/-- An int's bytes. -/
def nb (n : Int) : List UInt8 := vb (foldN n)
end Go.Proofs.Ytmbgcphiigmdjaa.Cs
/-
  A reader and a writer in memory; what a call leaves as it was.
-/
namespace Go.Proofs.Ytmbgcphiigmdjaa.Cs
open Go.RowKit

/-- A reader: its bytes' slice, its place, its fault. -/
def Rd (w : World) (p : Nat) (v : Value) (at_ why fat : Int) : Prop := w.heap[p]? = some (.cells #[v, .int .i64 at_, .int .i64 why, .int .i64 fat] 107 (0, 0))
section
variable {w : World} {p : Nat} {v : Value} {at_ why fat : Int}
theorem Rd.lt (h : Rd w p v at_ why fat) : p < w.heap.size := lt_of_block h
theorem Rd.c0 (h : Rd w p v at_ why fat) : w.cell? ⟨p, 0, none⟩ = some v := by unfold Rd at h; simp [World.cell?, h]
theorem Rd.c1 (h : Rd w p v at_ why fat) : w.cell? ⟨p, 1, none⟩ = some (.int .i64 at_) := by unfold Rd at h; simp [World.cell?, h]
theorem Rd.c2 (h : Rd w p v at_ why fat) : w.cell? ⟨p, 2, none⟩ = some (.int .i64 why) := by unfold Rd at h; simp [World.cell?, h]
theorem Rd.c3 (h : Rd w p v at_ why fat) : w.cell? ⟨p, 3, none⟩ = some (.int .i64 fat) := by unfold Rd at h; simp [World.cell?, h]
theorem Rd.f1 (h : Rd w p v at_ why fat) : w.frozen? ⟨p, 1, none⟩ = false := by unfold Rd at h; simp [World.frozen?, h]
theorem Rd.f2 (h : Rd w p v at_ why fat) : w.frozen? ⟨p, 2, none⟩ = false := by unfold Rd at h; simp [World.frozen?, h]
theorem Rd.f3 (h : Rd w p v at_ why fat) : w.frozen? ⟨p, 3, none⟩ = false := by unfold Rd at h; simp [World.frozen?, h]
theorem Rd.facts (h : Rd w p v at_ why fat) : w.cell? ⟨p, 0, none⟩ = some v ∧ w.cell? ⟨p, 1, none⟩ = some (.int .i64 at_) ∧ w.cell? ⟨p, 2, none⟩ = some (.int .i64 why) ∧ w.cell? ⟨p, 3, none⟩ = some (.int .i64 fat) ∧ p < w.heap.size := ⟨h.c0, h.c1, h.c2, h.c3, h.lt⟩
theorem Rd.below {w' : World} (h : Rd w p v at_ why fat) (hb : Below w.heap.size w w') : Rd w' p v at_ why fat := (hb.block p h.lt).trans h
theorem Rd.alloc (h : Rd w p v at_ why fat) (o : Obj) : Rd (w.alloc o) p v at_ why fat := (Below.heap_alloc w o p h.lt).trans h
theorem block_set {b : Nat} {cs : Array Value} {t : TypeId} (i : Nat) (u : Value) (h : w.heap[b]? = some (.cells cs t (0, 0))) : (w.setCell ⟨b, i, none⟩ u).heap[b]? = some (.cells (cs.setIfInBounds i u) t (0, 0)) := by
  have hlt := lt_of_block h
  have h' : w.heap[b] = .cells cs t (0, 0) := by simpa [Array.getElem?_eq_getElem hlt] using h
  show (w.heap.modify b _)[b]? = _
  rw [Array.getElem?_eq_getElem (by simpa using hlt), Array.getElem_modify_self, h']
  rfl
theorem Rd.set2 (h : Rd w p v at_ why fat) (n : Int) : Rd (w.setCell ⟨p, 2, none⟩ (.int .i64 n)) p v at_ n fat := block_set 2 _ h
end
/-- A call that turns block p alone, of those that were there, and of p not the first cell. -/
structure Turns (w w' : World) (p : Nat) : Prop where
  os : w'.os = w.os
  tape : w'.tape = w.tape
  output : w'.output = w.output
  size : w.heap.size ≤ w'.heap.size
  block : ∀ k, k < w.heap.size → some k ≠ some p → w'.heap[k]? = w.heap[k]?
  head : p < w.heap.size → w'.cell? ⟨p, 0, none⟩ = w.cell? ⟨p, 0, none⟩
theorem cell_setCell_off (w : World) (b i j : Nat) (u : Value) (h : i ≠ j) : (w.setCell ⟨b, i, none⟩ u).cell? ⟨b, j, none⟩ = w.cell? ⟨b, j, none⟩ := by
  simp only [World.cell?, World.setCell, Array.getElem?_modify, if_true]
  cases w.heap[b]? with
  | none => rfl
  | some o =>
    cases o <;> simp [Array.getElem?_setIfInBounds_ne h]
section
variable {w w' w'' : World} {p : Nat}
theorem Turns.refl (w : World) (p : Nat) : Turns w w p := ⟨rfl, rfl, rfl, Nat.le_refl _, fun _ _ _ => rfl, fun _ => rfl⟩
theorem Turns.trans (h : Turns w w' p) (k : Turns w' w'' p) : Turns w w'' p :=
  ⟨k.os.trans h.os, k.tape.trans h.tape, k.output.trans h.output, Nat.le_trans h.size k.size, fun i hi hne => (k.block i (Nat.lt_of_lt_of_le hi h.size) hne).trans (h.block i hi hne), fun hp => (k.head (Nat.lt_of_lt_of_le hp h.size)).trans (h.head hp)⟩
theorem Turns.ofBelow (h : Below w.heap.size w w') (p : Nat) : Turns w w' p := ⟨h.os, h.tape, h.output, h.size, fun k hk _ => h.block k hk, fun hp => h.cell (p := ⟨p, 0, none⟩) hp⟩
theorem Turns.set (h : Turns w w' p) (i : Nat) (u : Value) (hi : i ≠ 0 := by decide) : Turns w (w'.setCell ⟨p, i, none⟩ u) p :=
  h.trans ⟨rfl, rfl, rfl, by simp [World.setCell], fun k hk hne => Below.heap_setCell _ _ _ _ (fun e => hne (by rw [e])), fun _ => cell_setCell_off _ _ _ _ _ hi⟩
theorem Turns.gb (h : Turns w w' p) : w.grownBy w' (some p) := ⟨h.os, h.tape, h.output, h.size, h.block⟩
theorem Turns.below (h : Turns w w' p) {B : Nat} (hp : B ≤ p) (hB : B ≤ w.heap.size) : Below B w w' := ⟨h.os, h.tape, h.output, h.size, fun k hk => h.block k (by omega) (fun e => by injection e with e; omega)⟩
end
end Go.Proofs.Ytmbgcphiigmdjaa.Cs
/-
  Bytes cloned; a writer's bytes; a new reader.
-/
namespace Go.Proofs.Ytmbgcphiigmdjaa.Cs
open Go.RowKit

/-- The call answers bytes of its own. -/
def Fresh (w : World) (l : List UInt8) (e : Ending) (w' : World) : Prop := ∃ v, e = .returned v ∧ Own w' w.heap.size v l ∧ Below w.heap.size w w'
/-- A writer. -/
def Wr (w : World) (p : Nat) (v : Value) (l : List UInt8) : Prop := w.heap[p]? = some (.cells #[v] 84 (0, 0)) ∧ Own w 0 v l
/-- A reader of the bytes l, at a place, with a fault. -/
def Rdr (w : World) (p : Nat) (l : List UInt8) (at_ : Nat) (why fat : Int) : Prop :=
  ∃ A cap, Rd w p (.slice A l.length cap) at_ why fat ∧ Seg w w.heap.size A l ∧ l.length ≤ cap ∧ (∀ a, A = some a → a.block ≠ p) ∧ at_ ≤ l.length ∧ l.length ≤ 140737488355328
theorem Seg.turn {w w' : World} {B p : Nat} {A : Option Addr} {l : List UInt8} (h : Seg w B A l) (hne : ∀ a, A = some a → a.block ≠ p) (ht : ∀ q : Addr, q.block < B → q.block ≠ p → w'.cell? q = w.cell? q) : Seg w' B A l := fun h0 => by
  obtain ⟨b, o, e, hb, hc⟩ := h h0
  exact ⟨b, o, e, hb, fun j hj => (ht ⟨b, o + j, none⟩ hb (hne ⟨b, o, none⟩ e)).trans (hc j hj)⟩
theorem Rdr.below {w w' : World} {p : Nat} {l : List UInt8} {at_ : Nat} {why fat : Int} (h : Rdr w p l at_ why fat) (hb : Below w.heap.size w w') : Rdr w' p l at_ why fat := by
  obtain ⟨A, cap, h1, h2, h3, h4, h5, h6⟩ := h
  exact ⟨A, cap, h1.below hb, (h2.below hb).more hb.size, h3, h4, h5, h6⟩
theorem Rdr.lt {w : World} {p : Nat} {l : List UInt8} {at_ : Nat} {why fat : Int} (h : Rdr w p l at_ why fat) : p < w.heap.size := by
  obtain ⟨A, cap, h1, _⟩ := h
  exact h1.lt

set_option maxHeartbeats 400000 in
theorem Clone_nil (n c : Nat) (w : World) :
    Calls Try.prog 62 #[.slice none n c] w fun e w' => e = .returned (.slice none 0 0) ∧ w = w' := by
  have k1 := fun w => Lib.run_eql_slice_nil (P := Try.prog) w 49 5 none n c 0 0 Try.underlying49
  simp only [Option.isNone_none] at k1
  go_enter Try.func62, Try.ntmps62
  go_wp2
  go_ret
  exact ⟨rfl, rfl⟩
set_option maxRecDepth 100000 in
set_option maxHeartbeats 1000000 in
theorem Clone_some (a : Addr) (l : List UInt8) (c : Nat) (w : World) (h : Seg w w.heap.size (some a) l) (hl : l.length ≤ 140737488355328) :
    Calls Try.prog 62 #[.slice (some a) l.length c] w (Fresh w l) := by
  have k1 := fun w => Lib.run_eql_slice_nil (P := Try.prog) w 49 5 (some a) l.length c 0 0 Try.underlying49
  simp only [Option.isNone_some] at k1
  replace h := fhid h
  go_enter Try.func62, Try.ntmps62
  go_wp2_with (at_builtin
               refine app_seg rfl _ _ rfl w.heap.size _ [] rfl (World.ownsRow_made w #[] 0 (Nat.le_refl _) (by decide) rfl) w.heap.size (some a) l c rfl (h.out.below ((Below.refl _ _).alloc (Nat.le_refl _) _)) (by rw [List.length_nil]; omega) (by rw [World.size_alloc]; omega) ?_
               intro v2 w2 o2 b2)
  go_ret
  exact ⟨_, rfl, o2, ((Below.refl _ _).alloc (Nat.le_refl _) _).trans b2⟩
theorem Clone_any (A : Option Addr) (l : List UInt8) (c : Nat) (w : World) (h : Seg w w.heap.size A l) (hl : l.length ≤ 140737488355328) :
    Calls Try.prog 62 #[.slice A l.length c] w (Fresh w l) := by
  cases A with
  | none =>
    have e : l = [] := by
      cases l with
      | nil => rfl
      | cons c r => obtain ⟨b, o, e, _⟩ := h (by simp); cases e
    subst e
    refine (Clone_nil _ c w).mono ?_
    rintro e w' ⟨rfl, rfl⟩
    exact ⟨_, rfl, Own.none_ _ _, Below.refl _ _⟩
  | some a => exact Clone_some a l c w h hl
/-- The call answers a reader of its own. -/
def NewR (w : World) (l : List UInt8) (e : Ending) (w' : World) : Prop := ∃ g, e = .returned (.pointer (some ⟨g, 0, none⟩)) ∧ w.heap.size ≤ g ∧ Rdr w' g l 0 0 0 ∧ Below w.heap.size w w'
set_option maxHeartbeats 400000 in
theorem New_any (A : Option Addr) (l : List UInt8) (c : Nat) (w : World) (h : Seg w w.heap.size A l) (hl : l.length ≤ 140737488355328) :
    Calls Try.prog 46 #[.slice A l.length c] w (NewR w l) := by
  have cl := Clone_any A l c w h hl
  clear h
  go_enter Try.func46, Try.ntmps46
  go_wp2_with (go_at_call 62; (with_reducible refine cl.mono ?_); rintro e w1 ⟨v1, rfl, o1, b1⟩; obtain ⟨A1, c1, rfl, hc1, _, s1⟩ := o1.shape)
  go_ret
  refine ⟨w1.heap.size, rfl, b1.size, ⟨A1, c1, ?_, ?_, hc1, ?_, Nat.zero_le _, hl⟩, b1.alloc b1.size _⟩
  · exact heap_alloc_new w1 _
  · rw [World.size_alloc]
    exact (s1.keep fun p hp => World.cell?_alloc_lt _ _ _ hp).more (by omega)
  · rintro a rfl
    rcases o1.2 with ⟨hv, _⟩ | ⟨g, cap, cur, hv, hg, hh, _⟩
    · cases hv
    · injection hv with hA _ _
      injection hA with hA
      subst hA
      have := (Array.getElem?_eq_some_iff.1 hh).1
      show g ≠ _
      omega
end Go.Proofs.Ytmbgcphiigmdjaa.Cs
/-
  What a reader tells of itself: its fault, whether it stopped, how much is left, the fault of bytes that are missing.
-/
namespace Go.Proofs.Ytmbgcphiigmdjaa.Cs
open Go.RowKit

end Go.Proofs.Ytmbgcphiigmdjaa.Cs
/-
  A number as one from 0 on, and back.
-/
namespace Go.Proofs.Ytmbgcphiigmdjaa.Cs
open Go.RowKit

end Go.Proofs.Ytmbgcphiigmdjaa.Cs
/-
  Bytes of numbers: their seven bits, and the eighth.
-/
namespace Go.Proofs.Ytmbgcphiigmdjaa.Cs
open Go.RowKit

end Go.Proofs.Ytmbgcphiigmdjaa.Cs
/-
  The number that comes next.
-/
namespace Go.Proofs.Ytmbgcphiigmdjaa.Cs
open Go.RowKit

end Go.Proofs.Ytmbgcphiigmdjaa.Cs
/-
  A number between two others, and any, read.
-/
namespace Go.Proofs.Ytmbgcphiigmdjaa.Cs
open Go.RowKit

theorem Turns.alloc {w w' : World} {p : Nat} (h : Turns w w' p) (o : Obj) : Turns w (w'.alloc o) p := h.trans (Turns.ofBelow ((Below.refl _ _).alloc (Nat.le_refl _) o) p)
end Go.Proofs.Ytmbgcphiigmdjaa.Cs
