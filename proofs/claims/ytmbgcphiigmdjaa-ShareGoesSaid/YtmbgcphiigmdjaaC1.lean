/-
  Parts: FMath FLe FSeg FApp CMath CBase CNew CFault CFold CBits CNum CIn.
-/
import Derived.Test.YtmbgcphiigmdjaaProg
import Derived.WalkKit
import Derived.Below
import Derived.IntWalk
import Derived.Laws.Bits64b
import Derived.Deep.Draws
import Derived.Maps.AppendAt
import Derived.Laws.AppendOwnNone
import Derived.OwnWalk
import Derived.OneCell
import Derived.Lib.AppendStr
import Derived.WalkSpells
import Derived.BigQuiet
import Derived.Deep.QuietTactic
import Derived.Laws.BitsAllLaws
import Derived.BigRegion
import Derived.Outline
import Derived.Deep.DeepCutAuto
set_option linter.unusedSimpArgs false
set_option linter.unusedVariables false
/-
  Plain facts: bytes as numbers, the lowest first; the sum of bytes.
-/
namespace Go.Proofs.Ytmbgcphiigmdjaa.Cs

/-- Bytes, the lowest first, as a number. -/
def num : List UInt8 → Nat
  | [] => 0
  | c :: r => c.toNat + 256 * num r
/-- The k-th word. -/
def word (l : List UInt8) (k : Nat) : List UInt8 := (l.drop (4 * k)).take 4
/-- a and b behind k words. -/
def fa (l : List UInt8) : Nat → Nat
  | 0 => l.length
  | k + 1 => (fa l k + num (word l k)) % 4294967295
def fb (l : List UInt8) : Nat → Nat
  | 0 => 0
  | k + 1 => (fb l k + fa l (k + 1)) % 4294967295
def rounds4 (l : List UInt8) : Nat := (l.length + 3) / 4
def sumOf (l : List UInt8) : Nat := fb l (rounds4 l) * 4294967296 + fa l (rounds4 l)
end Go.Proofs.Ytmbgcphiigmdjaa.Cs
/-
  Plain facts: a number as bytes, the lowest first; a frame.
-/
namespace Go.Proofs.Ytmbgcphiigmdjaa.Cs

/-- A number's bytes, so many, the lowest first. -/
def le : Nat → Nat → List UInt8
  | 0, _ => []
  | k + 1, n => UInt8.ofNat n :: le k (n / 256)
theorem byte_of (n : Nat) : (UInt8.ofNat n).toNat = n % 256 := by
  rw [UInt8.toNat_ofNat']
/-- A frame. -/
def frame (b : List UInt8) : List UInt8 := le 4 b.length ++ b ++ le 8 (sumOf b)
end Go.Proofs.Ytmbgcphiigmdjaa.Cs
/-
  A slice of bytes that reads as a list, the nil one too; the number of few bytes.
-/
namespace Go.Proofs.Ytmbgcphiigmdjaa.Cs
open Go.RowKit

theorem fhid {p : Prop} (h : p) : Hid p := h
theorem fret1 {k : IntKind} {a b : Int} (h : a = b) : Ending.returned (.int k a) = .returned (.int k b) := by rw [h]

theorem below_drewN {B : Nat} {a w : World} (h : Below B a w) (n : Nat) : Below B a (w.drewN n) := ⟨h.os, h.tape, h.output, h.size, h.block⟩
/-- The slice at address A reads as the bytes l, in a block below B. -/
def Seg (w : World) (B : Nat) (A : Option Addr) (l : List UInt8) : Prop :=
  0 < l.length → ∃ b o, A = some ⟨b, o, none⟩ ∧ b < B ∧ ∀ j (h : j < l.length), w.cell? ⟨b, o + j, none⟩ = some (.int .u8 (l[j].toNat : Int))

section
variable {w w' : World} {B B' : Nat} {A : Option Addr} {l : List UInt8}
theorem Seg.nil (w : World) (B : Nat) (A : Option Addr) : Seg w B A [] := fun h => absurd h (Nat.lt_irrefl 0)
theorem Seg.at_ (h : Seg w B A l) {k : Nat} (hk : k < l.length) : ∃ b o, A = some ⟨b, o, none⟩ ∧ b < B ∧ w.cell? ⟨b, o + k, none⟩ = some (.int .u8 (l[k].toNat : Int)) := by
  obtain ⟨b, o, e, hb, hc⟩ := h (by omega)
  exact ⟨b, o, e, hb, hc k hk⟩
theorem Seg.keep (h : Seg w B A l) (hk : ∀ p : Addr, p.block < B → w'.cell? p = w.cell? p) : Seg w' B A l := fun h0 => by
  obtain ⟨b, o, e, hb, hc⟩ := h h0
  exact ⟨b, o, e, hb, fun j hj => (hk _ hb).trans (hc j hj)⟩
theorem Seg.more (h : Seg w B A l) (hB : B ≤ B') : Seg w B' A l := fun h0 => by
  obtain ⟨b, o, e, hb, hc⟩ := h h0
  exact ⟨b, o, e, by omega, hc⟩
theorem Seg.below (h : Seg w B A l) (hb : Below B w w') : Seg w' B A l := h.keep fun _ hp => hb.cell hp
theorem Seg.take (h : Seg w B A l) (k : Nat) : Seg w B A (l.take k) := fun h0 => by
  rw [List.length_take] at h0
  obtain ⟨b, o, e, hb, hc⟩ := h (by omega)
  refine ⟨b, o, e, hb, fun j hj => ?_⟩
  rw [List.length_take] at hj
  rw [List.getElem_take]
  exact hc j (by omega)
theorem Seg.drop (h : Seg w B A l) {k cap : Nat} (hk : k ≤ l.length) (hc : l.length ≤ cap) : Seg w B (if cap = k then A else A.map (·.add k)) (l.drop k) := fun h0 => by
  rw [List.length_drop] at h0
  obtain ⟨b, o, rfl, hb, hcell⟩ := h (by omega)
  rw [if_neg (by omega)]
  refine ⟨b, o + k, ?_, hb, fun j hj => ?_⟩
  · show some (Addr.add _ _) = _
    unfold Addr.add
    by_cases h0 : k = 0
    · rw [if_pos h0, h0, Nat.add_zero]
    · rw [if_neg h0]
  · rw [List.getElem_drop, Nat.add_assoc]
    exact hcell (k + j) (by rw [List.length_drop] at hj; omega)
end
end Go.Proofs.Ytmbgcphiigmdjaa.Cs
/-
  Bytes that the call itself laid; bytes put behind them.
-/
namespace Go.Proofs.Ytmbgcphiigmdjaa.Cs
open Go.RowKit

/-- Bytes as cells. -/
def BV (l : List UInt8) : List Value := l.map fun c => .int .u8 (c.toNat : Int)
theorem BV_len (l : List UInt8) : (BV l).length = l.length := List.length_map _
theorem BV_append (l m : List UInt8) : BV (l ++ m) = BV l ++ BV m := List.map_append
theorem BV_get (l : List UInt8) (j : Nat) (u : Value) (h : (BV l)[j]? = some u) : ∃ hj : j < l.length, u = .int .u8 (l[j].toNat : Int) := by
  unfold BV at h
  rw [List.getElem?_map] at h
  obtain ⟨c, hc, rfl⟩ := Option.map_eq_some_iff.1 h
  obtain ⟨hj, e⟩ := List.getElem?_eq_some_iff.1 hc
  exact ⟨hj, by rw [e]⟩
theorem BV_one (l : List UInt8) : ∀ u ∈ BV l, u.oneCell' = true := by
  intro u hu
  unfold BV at hu
  obtain ⟨c, _, rfl⟩ := List.mem_map.1 hu
  rfl
/-- A slice of the call's own holds the bytes l. -/
def Own (w : World) (base : Nat) (v : Value) (l : List UInt8) : Prop := w.ownsRow base 5 1 v l.length (BV l)
theorem infoByte : (Try.prog.info? 5).map (fun i => (i.zero, i.size, i.bytes)) = some (some (.int .u8 0), 1, 1) := by kernel_rfl

theorem Own.none_ (w : World) (base : Nat) : Own w base (.slice none 0 0) [] := ⟨rfl, .inl ⟨rfl, rfl⟩⟩
theorem Own.shape {w : World} {base : Nat} {v : Value} {l : List UInt8} (h : Own w base v l) : ∃ A cap, v = .slice A l.length cap ∧ l.length ≤ cap ∧ cap ≤ maxLen ∧ Seg w w.heap.size A l := by
  obtain ⟨_, ⟨rfl, hn⟩ | ⟨g, cap, cur, rfl, _, hg, hle, hcm, hsz, ht⟩⟩ := h
  · have hl : l = [] := List.eq_nil_of_length_eq_zero hn
    subst hl
    exact ⟨none, 0, rfl, Nat.le_refl _, by unfold maxLen; omega, Seg.nil _ _ _⟩
  · refine ⟨some ⟨g, 0, none⟩, cap, rfl, hle, hcm, fun h0 => ⟨g, 0, rfl, (Array.getElem?_eq_some_iff.1 hg).1, fun j hj => ?_⟩⟩
    have e : (cur.toList.take (l.length * 1))[j]? = some (.int .u8 (l[j].toNat : Int)) := by
      rw [ht]; unfold BV; rw [List.getElem?_map, List.getElem?_eq_getElem hj]; rfl
    rw [List.getElem?_take, if_pos (by omega), Array.getElem?_toList] at e
    simp only [World.cell?, hg, Nat.zero_add]
    simpa using e
theorem Own.block_ge {w : World} {base : Nat} {v : Value} {l : List UInt8} (h : Own w base v l) (k : Nat) (hk : v.ownBlock = some k) : base ≤ k := by
  obtain ⟨_, ⟨rfl, _⟩ | ⟨g, cap, cur, rfl, hg, _⟩⟩ := h
  · simp [Value.ownBlock] at hk
  · simp [Value.ownBlock] at hk; omega
theorem Own.alloc {w : World} {base : Nat} {v : Value} {l : List UInt8} (h : Own w base v l) (o : Obj) : Own (w.alloc o) base v l := World.ownsRow.alloc h o

theorem Own.below {w w' : World} {base : Nat} {v : Value} {l : List UInt8} (h : Own w base v l) (hb : Below w.heap.size w w') : Own w' base v l := by
  refine ⟨h.1, ?_⟩
  rcases h.2 with ⟨rfl, hn⟩ | ⟨g, cap, cur, rfl, hg, hh, rest⟩
  · exact .inl ⟨rfl, hn⟩
  · exact .inr ⟨g, cap, cur, rfl, hg, (hb.block g (Array.getElem?_eq_some_iff.1 hh).1).trans hh, rest⟩
theorem Seg.one (w : World) (c : UInt8) : Seg (w.alloc (.cells #[.int .u8 (c.toNat : Int)] 5)) (w.heap.size + 1) (some ⟨w.heap.size, 0, none⟩) [c] := fun _ => by
  refine ⟨w.heap.size, 0, rfl, Nat.lt_succ_self _, fun j hj => ?_⟩
  have hz : j = 0 := by simp at hj; omega
  subst hz
  show (w.alloc (.cells #[.int .u8 (c.toNat : Int)] 5)).cell? ⟨w.heap.size, 0, none⟩ = some (.int .u8 (c.toNat : Int))
  simp
/-- What append answers at a nil source. -/
theorem run_app_nil (w : World) (base : Nat) (ty : TypeId) (v : Value) (l : List UInt8) (hown : Own w base v l) (c : Nat) :
    (Builtin.append_ #[49, 49] ty #[v, .slice none 0 c]).run Try.prog w = .ok v w := by
  obtain ⟨i0, hi, hz0, hz1, hz2⟩ := info_parts infoByte
  rcases hown.2 with ⟨rfl, _⟩ | ⟨g, cap, cur, rfl, _, _, hnc, _⟩
  · simp [Builtin.append_, run_underlying Try.underlying49, sizeOf, typeInfo, hi, Builtin.lenOf, Builtin.firstCells]
  · simp [Builtin.append_, run_underlying Try.underlying49, sizeOf, typeInfo, hi, Builtin.lenOf, Builtin.firstCells, hnc, storeCells]

theorem app_seg {w : World} {ops : Array Oper} {rest : List Oper} {o : Oper} {a : Act} {Q : Exit → Act → World → Prop} (hgd : o.guard = none) (s x : Operand)
    (ho : o.op = .call { callee := .builtin .append, args := #[s, x], argTypes := #[49, 49] })
    (base : Nat) (v : Value) (l : List UInt8) (hs : a.eval s = v) (hown : Own w base v l)
    (B : Nat) (A : Option Addr) (m : List UInt8) (c : Nat) (hx : a.eval x = .slice A m.length c) (hr : Seg w B A m)
    (hlen : l.length + m.length ≤ 140737488355328) (hbase : base ≤ w.heap.size)
    (h : ∀ v' w', Own w' base v' (l ++ m) → Below base w w' → wpList Try.prog ops Q rest (a.put o.dst v') w') : wpList Try.prog ops Q (o :: rest) a w := by
  obtain ⟨i0, hi, hz0, hz1, hz2⟩ := info_parts infoByte
  have hrun : ∃ v' w', (Builtin.append_ #[49, 49] o.type #[v, .slice A m.length c]).run Try.prog w = .ok v' w' ∧ Own w' base v' (l ++ m) ∧ Below base w w' := by
    by_cases h0 : 0 < m.length
    · obtain ⟨b, of, rfl, _, hc⟩ := hr h0
      obtain ⟨v', w', hrun, h2, h3, _, _⟩ := run_append_own_at (P := Try.prog) w base 49 o.type 5 i0 (.int .u8 0) 1 1 Try.underlying49 hi hz0 hz1 hz2 rfl (by decide) v l.length (BV l) hown ⟨b, of, none⟩ m.length c (BV m)
        (by rw [BV_len]; omega) (fun j u hu => by
          obtain ⟨hj, rfl⟩ := BV_get m j u hu
          have := hc j hj
          unfold Addr.add
          by_cases hz : j = 0
          · subst hz; simpa using this
          · rw [if_neg hz]; exact this) (BV_one m) (by unfold maxLen; omega) (by omega) hbase
      refine ⟨v', w', hrun, ?_, (Below.refl _ _).grown h3 hbase (fun k hk => hown.block_ge k hk)⟩
      unfold Own
      rw [List.length_append, BV_append]
      exact h2
    · have hm : m = [] := List.eq_nil_of_length_eq_zero (by omega)
      subst hm
      cases A with
      | none => exact ⟨v, w, run_app_nil w base o.type v l hown c, by rw [List.append_nil]; exact hown, Below.refl _ _⟩
      | some ad =>
        obtain ⟨v', w', hrun, h2, h3, _, _⟩ := run_append_own_at (P := Try.prog) w base 49 o.type 5 i0 (.int .u8 0) 1 1 Try.underlying49 hi hz0 hz1 hz2 rfl (by decide) v l.length (BV l) hown ad 0 c [] rfl (fun j u hu => by simp at hu) (fun u hu => by simp at hu) (by unfold maxLen; omega) (by omega) hbase
        refine ⟨v', w', hrun, ?_, (Below.refl _ _).grown h3 hbase (fun k hk => hown.block_ge k hk)⟩
        rw [List.append_nil]
        unfold Own
        simpa using h2
  obtain ⟨v', w', hrun, h2, h3⟩ := hrun
  refine wpList_plain hgd fun K hK => ?_
  unfold Oper.wp execOp
  simp only [ho, resolve, invoke, builtin, Sem.run_bind, Sem.run_pure, Result.andThen_ok, List.map_toArray, List.map_cons, List.map_nil, hs, hx, hrun]
  exact hK _ _ (h v' w' h2 h3)
end Go.Proofs.Ytmbgcphiigmdjaa.Cs
/-
  Plain facts: a number as one from 0 on; its bytes; how bytes are read as a number.
-/
namespace Go.Proofs.Ytmbgcphiigmdjaa.Cs

/-- A number as one from 0 on. -/
def foldN (n : Int) : Nat := if n < 0 then (2 * (-(n + 1)) + 1).toNat else (2 * n).toNat
/-- And back. -/
def unfoldN (u : Nat) : Int := if u % 2 = 1 then -((u / 2 : Nat) : Int) - 1 else ((u / 2 : Nat) : Int)
theorem unfold_fold (n : Int) : unfoldN (foldN n) = n := by
  unfold foldN unfoldN
  split <;> split <;> omega
theorem fold_lt (n : Int) (h : -9223372036854775808 ≤ n) (h' : n ≤ 9223372036854775807) : foldN n < 18446744073709551616 := by
  unfold foldN
  split <;> omega
theorem unfold_range (u : Nat) (h : u < 18446744073709551616) : -9223372036854775808 ≤ unfoldN u ∧ unfoldN u ≤ 9223372036854775807 := by
  unfold unfoldN
  split <;> omega

/-- A number's bytes, seven bits each. -/
def vb (u : Nat) : List UInt8 := if u < 128 then [UInt8.ofNat u] else UInt8.ofNat (128 + u % 128) :: vb (u / 128)
termination_by u
decreasing_by omega
theorem vb_small (u : Nat) (h : u < 128) : vb u = [UInt8.ofNat u] := by rw [vb, if_pos h]
theorem vb_big (u : Nat) (h : ¬ u < 128) : vb u = UInt8.ofNat (128 + u % 128) :: vb (u / 128) := by rw [vb, if_neg h]
theorem vb_pos (u : Nat) : 0 < (vb u).length := by
  by_cases h : u < 128
  · rw [vb_small u h]; exact Nat.one_pos
  · rw [vb_big u h]; exact Nat.succ_pos _
theorem vb_len (k u : Nat) (h : u < 128 ^ (k + 1)) : (vb u).length ≤ k + 1 := by
  induction k generalizing u with
  | zero => rw [vb_small u (by simpa using h)]; exact Nat.le_refl _
  | succ k ih =>
    by_cases h1 : u < 128
    · rw [vb_small u h1]; simp
    · rw [vb_big u h1, List.length_cons]
      have := ih (u / 128) (by rw [Nat.pow_succ] at h; omega)
      omega
theorem vb_ten (u : Nat) (h : u < 18446744073709551616) : (vb u).length ≤ 10 := vb_len 9 u (by omega)
/-- An int's bytes. -/
def nb (n : Int) : List UInt8 := vb (foldN n)
theorem nb_pos (n : Int) : 0 < (nb n).length := vb_pos _
theorem nb_ten (n : Int) (h : -9223372036854775808 ≤ n) (h' : n ≤ 9223372036854775807) : (nb n).length ≤ 10 := vb_ten _ (fold_lt n h h')

/-- What reading a number comes to. -/
inductive Out where
  | got (u k : Nat)
  | bad (k : Nat)
  | short
/-- Behind i bytes that tell u: the next ones. -/
def dec : Nat → Nat → List UInt8 → Out
  | _, _, [] => .short
  | i, u, c :: r =>
    if (i = 9 ∧ 1 < c.toNat) ∨ (0 < i ∧ c.toNat = 0) then .bad i
    else if 128 ≤ c.toNat then dec (i + 1) (u + c.toNat % 128 * 128 ^ i) r
    else .got (u + c.toNat % 128 * 128 ^ i) (i + 1)
theorem dec_nil (i u : Nat) : dec i u [] = .short := rfl
theorem dec_bad (i u : Nat) (c : UInt8) (r : List UInt8) (h : (i = 9 ∧ 1 < c.toNat) ∨ (0 < i ∧ c.toNat = 0)) : dec i u (c :: r) = .bad i := by
  rw [dec, if_pos h]
theorem dec_more (i u : Nat) (c : UInt8) (r : List UInt8) (h : ¬ ((i = 9 ∧ 1 < c.toNat) ∨ (0 < i ∧ c.toNat = 0))) (h1 : 128 ≤ c.toNat) : dec i u (c :: r) = dec (i + 1) (u + c.toNat % 128 * 128 ^ i) r := by
  rw [dec, if_neg h, if_pos h1]
theorem dec_got (i u : Nat) (c : UInt8) (r : List UInt8) (h : ¬ ((i = 9 ∧ 1 < c.toNat) ∨ (0 < i ∧ c.toNat = 0))) (h1 : ¬ 128 ≤ c.toNat) : dec i u (c :: r) = .got (u + c.toNat % 128 * 128 ^ i) (i + 1) := by
  rw [dec, if_neg h, if_neg h1]
theorem pow_9 : (128 : Nat) ^ 9 = 9223372036854775808 := by decide
theorem pow_le_9 (i : Nat) (h : i ≤ 9) : (128 : Nat) ^ i ≤ 9223372036854775808 := by
  rw [← pow_9]; exact Nat.pow_le_pow_right (by omega) h
theorem pow_pos7 (i : Nat) : 0 < (128 : Nat) ^ i := Nat.pow_pos (by omega)
theorem byte_small (x : Nat) (h : x < 256) : (UInt8.ofNat x).toNat = x := by
  rw [byte_of]; omega
/-- What was put is read. -/
theorem dec_vb (x : Nat) : ∀ (i a : Nat) (r : List UInt8), i ≤ 9 → x * 128 ^ i < 18446744073709551616 → (0 < i → 0 < x) → dec i a (vb x ++ r) = .got (a + x * 128 ^ i) (i + (vb x).length) := by
  induction x using Nat.strongRecOn with
  | ind x ih =>
    intro i a r hi hx hz
    have h9 : i = 9 → x < 2 := by
      rintro rfl
      rw [pow_9] at hx
      omega
    by_cases h : x < 128
    · have hc := byte_small x (by omega)
      rw [vb_small x h, List.singleton_append, dec_got i a _ r (by rw [hc]; omega) (by rw [hc]; omega), hc, Nat.mod_eq_of_lt h]
      rfl
    · have hc := byte_small (128 + x % 128) (by omega)
      rw [vb_big x h, List.cons_append, dec_more i a _ _ (by rw [hc]; omega) (by rw [hc]; omega), hc]
      have e1 : (128 + x % 128) % 128 = x % 128 := by omega
      have e2 : (x / 128) * 128 ^ (i + 1) + x % 128 * 128 ^ i = x * 128 ^ i := by
        rw [Nat.pow_succ, Nat.mul_comm (128 ^ i) 128, ← Nat.mul_assoc, ← Nat.add_mul, Nat.div_add_mod' x 128]
      rw [e1, ih (x / 128) (by omega) (i + 1) _ r (by omega) (by omega) (fun _ => by omega), List.length_cons]
      congr 1 <;> omega
theorem dec_nb (n : Int) (r : List UInt8) (h : -9223372036854775808 ≤ n) (h' : n ≤ 9223372036854775807) : dec 0 0 (nb n ++ r) = .got (foldN n) (nb n).length := by
  have := dec_vb (foldN n) 0 0 r (by omega) (by rw [Nat.pow_zero, Nat.mul_one]; exact fold_lt n h h') (fun h => absurd h (Nat.lt_irrefl 0))
  rw [Nat.pow_zero, Nat.mul_one, Nat.zero_add, Nat.zero_add] at this
  exact this
theorem dec_lt (l : List UInt8) : ∀ (i a u k : Nat), i ≤ 9 → a < 128 ^ i → dec i a l = .got u k → u < 18446744073709551616 ∧ k ≤ i + l.length ∧ i < k := by
  induction l with
  | nil => intro i a u k _ _ h; cases h
  | cons c r ih =>
    intro i a u k hi ha h
    have hc := c.toNat_lt
    have hp := pow_pos7 i
    by_cases hb : (i = 9 ∧ 1 < c.toNat) ∨ (0 < i ∧ c.toNat = 0)
    · rw [dec_bad i a c r hb] at h; cases h
    · have hm : c.toNat % 128 * 128 ^ i ≤ 127 * 128 ^ i := Nat.mul_le_mul_right _ (by omega)
      by_cases h1 : 128 ≤ c.toNat
      · rw [dec_more i a c r hb h1] at h
        have := ih _ _ _ _ (by omega) (by rw [Nat.pow_succ]; omega) h
        rw [List.length_cons]
        omega
      · rw [dec_got i a c r hb h1] at h
        injection h with h2 h3
        rw [List.length_cons]
        refine ⟨?_, by omega, by omega⟩
        by_cases h9 : i = 9
        · subst h9
          have hc1 : c.toNat ≤ 1 := by omega
          rw [← h2, Nat.mod_eq_of_lt (by omega)]
          rw [pow_9] at ha ⊢
          omega
        · have := pow_le_9 (i + 1) (by omega)
          rw [Nat.pow_succ] at this
          omega
end Go.Proofs.Ytmbgcphiigmdjaa.Cs
/-
  A reader and a writer in memory; what a call leaves as it was.
-/
namespace Go.Proofs.Ytmbgcphiigmdjaa.Cs
open Go.RowKit

/-- A reader: its bytes' slice, its place, its fault. -/
def Rd (w : World) (p : Nat) (v : Value) (at_ why fat : Int) : Prop := w.heap[p]? = some (.cells #[v, .int .i64 at_, .int .i64 why, .int .i64 fat] 107 (0, 0))
section
variable {w : World} {p : Nat} {v : Value} {at_ why fat : Int}
theorem Rd.lt (h : Rd w p v at_ why fat) : p < w.heap.size := lt_of_block h
theorem Rd.c0 (h : Rd w p v at_ why fat) : w.cell? ⟨p, 0, none⟩ = some v := by unfold Rd at h; simp [World.cell?, h]
theorem Rd.c1 (h : Rd w p v at_ why fat) : w.cell? ⟨p, 1, none⟩ = some (.int .i64 at_) := by unfold Rd at h; simp [World.cell?, h]
theorem Rd.c2 (h : Rd w p v at_ why fat) : w.cell? ⟨p, 2, none⟩ = some (.int .i64 why) := by unfold Rd at h; simp [World.cell?, h]
theorem Rd.c3 (h : Rd w p v at_ why fat) : w.cell? ⟨p, 3, none⟩ = some (.int .i64 fat) := by unfold Rd at h; simp [World.cell?, h]
theorem Rd.f1 (h : Rd w p v at_ why fat) : w.frozen? ⟨p, 1, none⟩ = false := by unfold Rd at h; simp [World.frozen?, h]
theorem Rd.f2 (h : Rd w p v at_ why fat) : w.frozen? ⟨p, 2, none⟩ = false := by unfold Rd at h; simp [World.frozen?, h]
theorem Rd.f3 (h : Rd w p v at_ why fat) : w.frozen? ⟨p, 3, none⟩ = false := by unfold Rd at h; simp [World.frozen?, h]
theorem Rd.facts (h : Rd w p v at_ why fat) : w.cell? ⟨p, 0, none⟩ = some v ∧ w.cell? ⟨p, 1, none⟩ = some (.int .i64 at_) ∧ w.cell? ⟨p, 2, none⟩ = some (.int .i64 why) ∧ w.cell? ⟨p, 3, none⟩ = some (.int .i64 fat) ∧ p < w.heap.size := ⟨h.c0, h.c1, h.c2, h.c3, h.lt⟩
theorem Rd.below {w' : World} (h : Rd w p v at_ why fat) (hb : Below w.heap.size w w') : Rd w' p v at_ why fat := (hb.block p h.lt).trans h
theorem Rd.alloc (h : Rd w p v at_ why fat) (o : Obj) : Rd (w.alloc o) p v at_ why fat := (Below.heap_alloc w o p h.lt).trans h
theorem block_set {b : Nat} {cs : Array Value} {t : TypeId} (i : Nat) (u : Value) (h : w.heap[b]? = some (.cells cs t (0, 0))) : (w.setCell ⟨b, i, none⟩ u).heap[b]? = some (.cells (cs.setIfInBounds i u) t (0, 0)) := by
  have hlt := lt_of_block h
  have h' : w.heap[b] = .cells cs t (0, 0) := by simpa [Array.getElem?_eq_getElem hlt] using h
  show (w.heap.modify b _)[b]? = _
  rw [Array.getElem?_eq_getElem (by simpa using hlt), Array.getElem_modify_self, h']
  rfl
theorem Rd.set1 (h : Rd w p v at_ why fat) (n : Int) : Rd (w.setCell ⟨p, 1, none⟩ (.int .i64 n)) p v n why fat := block_set 1 _ h
theorem Rd.set2 (h : Rd w p v at_ why fat) (n : Int) : Rd (w.setCell ⟨p, 2, none⟩ (.int .i64 n)) p v at_ n fat := block_set 2 _ h
theorem Rd.set3 (h : Rd w p v at_ why fat) (n : Int) : Rd (w.setCell ⟨p, 3, none⟩ (.int .i64 n)) p v at_ why n := block_set 3 _ h
end
/-- A call that turns block p alone, of those that were there, and of p not the first cell. -/
structure Turns (w w' : World) (p : Nat) : Prop where
  os : w'.os = w.os
  tape : w'.tape = w.tape
  output : w'.output = w.output
  size : w.heap.size ≤ w'.heap.size
  block : ∀ k, k < w.heap.size → some k ≠ some p → w'.heap[k]? = w.heap[k]?
  head : p < w.heap.size → w'.cell? ⟨p, 0, none⟩ = w.cell? ⟨p, 0, none⟩
theorem cell_setCell_off (w : World) (b i j : Nat) (u : Value) (h : i ≠ j) : (w.setCell ⟨b, i, none⟩ u).cell? ⟨b, j, none⟩ = w.cell? ⟨b, j, none⟩ := by
  simp only [World.cell?, World.setCell, Array.getElem?_modify, if_true]
  cases w.heap[b]? with
  | none => rfl
  | some o =>
    cases o <;> simp [Array.getElem?_setIfInBounds_ne h]
section
variable {w w' w'' : World} {p : Nat}
theorem Turns.refl (w : World) (p : Nat) : Turns w w p := ⟨rfl, rfl, rfl, Nat.le_refl _, fun _ _ _ => rfl, fun _ => rfl⟩
theorem Turns.trans (h : Turns w w' p) (k : Turns w' w'' p) : Turns w w'' p :=
  ⟨k.os.trans h.os, k.tape.trans h.tape, k.output.trans h.output, Nat.le_trans h.size k.size, fun i hi hne => (k.block i (Nat.lt_of_lt_of_le hi h.size) hne).trans (h.block i hi hne), fun hp => (k.head (Nat.lt_of_lt_of_le hp h.size)).trans (h.head hp)⟩
theorem Turns.ofBelow (h : Below w.heap.size w w') (p : Nat) : Turns w w' p := ⟨h.os, h.tape, h.output, h.size, fun k hk _ => h.block k hk, fun hp => h.cell (p := ⟨p, 0, none⟩) hp⟩
theorem Turns.set (h : Turns w w' p) (i : Nat) (u : Value) (hi : i ≠ 0 := by decide) : Turns w (w'.setCell ⟨p, i, none⟩ u) p :=
  h.trans ⟨rfl, rfl, rfl, by simp [World.setCell], fun k hk hne => Below.heap_setCell _ _ _ _ (fun e => hne (by rw [e])), fun _ => cell_setCell_off _ _ _ _ _ hi⟩
theorem Turns.gb (h : Turns w w' p) : w.grownBy w' (some p) := ⟨h.os, h.tape, h.output, h.size, h.block⟩
theorem Turns.below (h : Turns w w' p) {B : Nat} (hp : B ≤ p) (hB : B ≤ w.heap.size) : Below B w w' := ⟨h.os, h.tape, h.output, h.size, fun k hk => h.block k (by omega) (fun e => by injection e with e; omega)⟩
end
end Go.Proofs.Ytmbgcphiigmdjaa.Cs
/-
  Bytes cloned; a writer's bytes; a new reader.
-/
namespace Go.Proofs.Ytmbgcphiigmdjaa.Cs
open Go.RowKit

/-- The call answers bytes of its own. -/
def Fresh (w : World) (l : List UInt8) (e : Ending) (w' : World) : Prop := ∃ v, e = .returned v ∧ Own w' w.heap.size v l ∧ Below w.heap.size w w'
/-- A writer. -/
def Wr (w : World) (p : Nat) (v : Value) (l : List UInt8) : Prop := w.heap[p]? = some (.cells #[v] 84 (0, 0)) ∧ Own w 0 v l
/-- A reader of the bytes l, at a place, with a fault. -/
def Rdr (w : World) (p : Nat) (l : List UInt8) (at_ : Nat) (why fat : Int) : Prop :=
  ∃ A cap, Rd w p (.slice A l.length cap) at_ why fat ∧ Seg w w.heap.size A l ∧ l.length ≤ cap ∧ (∀ a, A = some a → a.block ≠ p) ∧ at_ ≤ l.length ∧ l.length ≤ 140737488355328
theorem Seg.turn {w w' : World} {B p : Nat} {A : Option Addr} {l : List UInt8} (h : Seg w B A l) (hne : ∀ a, A = some a → a.block ≠ p) (ht : ∀ q : Addr, q.block < B → q.block ≠ p → w'.cell? q = w.cell? q) : Seg w' B A l := fun h0 => by
  obtain ⟨b, o, e, hb, hc⟩ := h h0
  exact ⟨b, o, e, hb, fun j hj => (ht ⟨b, o + j, none⟩ hb (hne ⟨b, o, none⟩ e)).trans (hc j hj)⟩
theorem Rdr.mk' {w w' : World} {p cap : Nat} {A : Option Addr} {l : List UInt8} {at_ : Nat} {why fat : Int} (h : Rd w' p (.slice A l.length cap) at_ why fat) (hs : Seg w w.heap.size A l) (hc : l.length ≤ cap) (hne : ∀ a, A = some a → a.block ≠ p) (ha : at_ ≤ l.length) (hl : l.length ≤ 140737488355328)
    (ht : Turns w w' p) : Rdr w' p l at_ why fat :=
  ⟨A, cap, h, (hs.turn hne fun q hq hp => World.cell?_of_block (ht.block q.block hq (fun e => hp (by injection e)))).more ht.size, hc, hne, ha, hl⟩
theorem Rdr.below {w w' : World} {p : Nat} {l : List UInt8} {at_ : Nat} {why fat : Int} (h : Rdr w p l at_ why fat) (hb : Below w.heap.size w w') : Rdr w' p l at_ why fat := by
  obtain ⟨A, cap, h1, h2, h3, h4, h5, h6⟩ := h
  exact ⟨A, cap, h1.below hb, (h2.below hb).more hb.size, h3, h4, h5, h6⟩
theorem Rdr.lt {w : World} {p : Nat} {l : List UInt8} {at_ : Nat} {why fat : Int} (h : Rdr w p l at_ why fat) : p < w.heap.size := by
  obtain ⟨A, cap, h1, _⟩ := h
  exact h1.lt

set_option maxHeartbeats 400000 in
theorem Clone_nil (n c : Nat) (w : World) :
    Calls Try.prog 62 #[.slice none n c] w fun e w' => e = .returned (.slice none 0 0) ∧ w = w' := by
  have k1 := fun w => Lib.run_eql_slice_nil (P := Try.prog) w 49 5 none n c 0 0 Try.underlying49
  simp only [Option.isNone_none] at k1
  go_enter Try.func62, Try.ntmps62
  go_wp2
  go_ret
  exact ⟨rfl, rfl⟩
set_option maxRecDepth 100000 in
set_option maxHeartbeats 1000000 in
theorem Clone_some (a : Addr) (l : List UInt8) (c : Nat) (w : World) (h : Seg w w.heap.size (some a) l) (hl : l.length ≤ 140737488355328) :
    Calls Try.prog 62 #[.slice (some a) l.length c] w (Fresh w l) := by
  have k1 := fun w => Lib.run_eql_slice_nil (P := Try.prog) w 49 5 (some a) l.length c 0 0 Try.underlying49
  simp only [Option.isNone_some] at k1
  replace h := fhid h
  go_enter Try.func62, Try.ntmps62
  go_wp2_with (at_builtin
               refine app_seg rfl _ _ rfl w.heap.size _ [] rfl (World.ownsRow_made w #[] 0 (Nat.le_refl _) (by decide) rfl) w.heap.size (some a) l c rfl (h.out.below ((Below.refl _ _).alloc (Nat.le_refl _) _)) (by rw [List.length_nil]; omega) (by rw [World.size_alloc]; omega) ?_
               intro v2 w2 o2 b2)
  go_ret
  exact ⟨_, rfl, o2, ((Below.refl _ _).alloc (Nat.le_refl _) _).trans b2⟩
theorem Clone_any (A : Option Addr) (l : List UInt8) (c : Nat) (w : World) (h : Seg w w.heap.size A l) (hl : l.length ≤ 140737488355328) :
    Calls Try.prog 62 #[.slice A l.length c] w (Fresh w l) := by
  cases A with
  | none =>
    have e : l = [] := by
      cases l with
      | nil => rfl
      | cons c r => obtain ⟨b, o, e, _⟩ := h (by simp); cases e
    subst e
    refine (Clone_nil _ c w).mono ?_
    rintro e w' ⟨rfl, rfl⟩
    exact ⟨_, rfl, Own.none_ _ _, Below.refl _ _⟩
  | some a => exact Clone_some a l c w h hl
set_option maxHeartbeats 400000 in
theorem Bytes_any (p : Nat) (v : Value) (l : List UInt8) (w : World) (h : Wr w p v l) (hl : l.length ≤ 140737488355328) :
    Calls Try.prog 43 #[.pointer (some ⟨p, 0, none⟩)] w (Fresh w l) := by
  obtain ⟨h1, h2⟩ := h
  have c0 := cell_of_one h1
  obtain ⟨A, cap, rfl, hc, _, hs⟩ := h2.shape
  have cl := Clone_any A l cap w hs hl
  clear h1 h2 hs
  go_enter Try.func43, Try.ntmps43
  go_wp2_with (go_at_call 62; (with_reducible refine cl.mono ?_); rintro e w1 ⟨v1, rfl, o1, b1⟩)
  go_ret
  exact ⟨_, rfl, o1, b1⟩
/-- The call answers a reader of its own. -/
def NewR (w : World) (l : List UInt8) (e : Ending) (w' : World) : Prop := ∃ g, e = .returned (.pointer (some ⟨g, 0, none⟩)) ∧ w.heap.size ≤ g ∧ Rdr w' g l 0 0 0 ∧ Below w.heap.size w w'
set_option maxHeartbeats 400000 in
theorem New_any (A : Option Addr) (l : List UInt8) (c : Nat) (w : World) (h : Seg w w.heap.size A l) (hl : l.length ≤ 140737488355328) :
    Calls Try.prog 46 #[.slice A l.length c] w (NewR w l) := by
  have cl := Clone_any A l c w h hl
  clear h
  go_enter Try.func46, Try.ntmps46
  go_wp2_with (go_at_call 62; (with_reducible refine cl.mono ?_); rintro e w1 ⟨v1, rfl, o1, b1⟩; obtain ⟨A1, c1, rfl, hc1, _, s1⟩ := o1.shape)
  go_ret
  refine ⟨w1.heap.size, rfl, b1.size, ⟨A1, c1, ?_, ?_, hc1, ?_, Nat.zero_le _, hl⟩, b1.alloc b1.size _⟩
  · exact heap_alloc_new w1 _
  · rw [World.size_alloc]
    exact (s1.keep fun p hp => World.cell?_alloc_lt _ _ _ hp).more (by omega)
  · rintro a rfl
    rcases o1.2 with ⟨hv, _⟩ | ⟨g, cap, cur, hv, hg, hh, _⟩
    · cases hv
    · injection hv with hA _ _
      injection hA with hA
      subst hA
      have := (Array.getElem?_eq_some_iff.1 hh).1
      show g ≠ _
      omega
end Go.Proofs.Ytmbgcphiigmdjaa.Cs
/-
  What a reader tells of itself: its fault, whether it stopped, how much is left, the fault of bytes that are missing.
-/
namespace Go.Proofs.Ytmbgcphiigmdjaa.Cs
open Go.RowKit

set_option maxHeartbeats 400000 in
theorem Fault_any (p : Nat) (v : Value) (at_ why fat : Int) (w : World) (h : Rd w p v at_ why fat) :
    Calls Try.prog 67 #[.pointer (some ⟨p, 0, none⟩)] w fun e w' => e = .returned (.agg #[.int .i64 why, .int .i64 fat]) ∧ Below w.heap.size w w' := by
  obtain ⟨c0, c1, c2, c3, hp⟩ := h.facts
  go_enter Try.func67, Try.ntmps67
  go_wp2
  exact bodyPost_ret (v := .agg #[.int .i64 why, .int .i64 fat]) (by simp [results, Try.results67, go_sem]) rfl ⟨rfl, (Below.refl _ _).alloc (Nat.le_refl _) _⟩
theorem fault_why (why fat : Int) (w : World) : (Instr.field 93 (.agg #[.int .i64 why, .int .i64 fat]) 0).run Try.prog w = .ok (.int .i64 why) w := by kernel_rfl
set_option maxHeartbeats 400000 in
theorem stopped_yes (a : Option Addr) (why fat : Int) (w : World) (hw : ¬ why = 0) (f : Calls Try.prog 67 #[.pointer a] w fun e w' => e = .returned (.agg #[.int .i64 why, .int .i64 fat]) ∧ Below w.heap.size w w') :
    Calls Try.prog 63 #[.pointer a] w fun e w' => e = .returned (.bool true) ∧ Below w.heap.size w w' := by
  have hfd := fault_why why fat
  have hb : (why != 0) = true := by simpa using hw
  go_enter Try.func63, Try.ntmps63
  go_wp2_with (go_at_call 67; with_reducible refine f.mono ?_; rintro e w1 ⟨rfl, b1⟩)
  go_ret
  exact ⟨rfl, b1⟩
set_option maxHeartbeats 400000 in
theorem stopped_no (p : Nat) (v : Value) (at_ fat : Int) (w : World) (h : Rd w p v at_ 0 fat) :
    Calls Try.prog 63 #[.pointer (some ⟨p, 0, none⟩)] w fun e w' => e = .returned (.bool false) ∧ Below w.heap.size w w' := by
  have f := Fault_any p v at_ 0 fat w h
  have hfd := fault_why 0 fat
  clear h
  go_enter Try.func63, Try.ntmps63
  go_wp2_with (go_at_call 67; with_reducible refine f.mono ?_; rintro e w1 ⟨rfl, b1⟩)
  go_ret
  exact ⟨rfl, b1⟩
set_option maxHeartbeats 400000 in
theorem Left_any (p n cap : Nat) (A : Option Addr) (at_ : Nat) (why fat : Int) (w : World) (h : Rd w p (.slice A n cap) at_ why fat) (hn : n ≤ 140737488355328) (ha : at_ ≤ n) :
    Calls Try.prog 66 #[.pointer (some ⟨p, 0, none⟩)] w fun e w' => e = .returned (.int .i64 ((n - at_ : Nat) : Int)) ∧ ∃ q, w' = w.drewN q := by
  obtain ⟨c0, c1, c2, c3, hp⟩ := h.facts
  have e1 : ((n - at_ : Nat) : Int) = (n : Int) - at_ := by omega
  have e2 : IntKind.i64.wrap ((n : Int) - at_) = (n : Int) - at_ := IntWalk.i64_in _ (by omega)
  rw [e1]
  clear e1
  go_enter Try.func66, Try.ntmps66
  go_wp2_with fail
  go_quiet (fail)
  go_wp2
  go_ret
  exact ⟨rfl, _, rfl⟩
set_option maxHeartbeats 400000 in
theorem missing_any (p n cap : Nat) (A : Option Addr) (at_ why fat : Int) (w : World) (h : Rd w p (.slice A n cap) at_ why fat) :
    Calls Try.prog 65 #[.pointer (some ⟨p, 0, none⟩)] w fun e w' => e = .returned (.agg #[.int .i64 4, .int .i64 n]) ∧ Below w.heap.size w w' := by
  obtain ⟨c0, c1, c2, c3, hp⟩ := h.facts
  go_enter Try.func65, Try.ntmps65
  go_wp2
  exact bodyPost_ret (v := .agg #[.int .i64 4, .int .i64 n]) (by simp [results, Try.results65, go_sem]) rfl ⟨rfl, (Below.refl _ _).alloc (Nat.le_refl _) _⟩
end Go.Proofs.Ytmbgcphiigmdjaa.Cs
/-
  A number as one from 0 on, and back.
-/
namespace Go.Proofs.Ytmbgcphiigmdjaa.Cs
open Go.RowKit

theorem not_i64 (n : Int) (h : -9223372036854775808 ≤ n) (h' : n ≤ 9223372036854775807) : bits .xor .i64 (-1) n = -n - 1 := by
  show IntKind.i64.wrap ((BitVec.ofInt 64 (-1) ^^^ BitVec.ofInt 64 n).toNat : Int) = _
  rw [show BitVec.ofInt 64 (-1) = BitVec.allOnes 64 by decide, BitVec.allOnes_xor, BitVec.toNat_not, BitVec.toNat_ofInt, IntKind.wrap_i64]
  omega
set_option maxHeartbeats 400000 in
theorem fold_any (n : Int) (w : World) (h : -9223372036854775808 ≤ n) (h' : n ≤ 9223372036854775807) :
    Calls Try.prog 74 #[.int .i64 n] w fun e w' => e = .returned (.int .u64 ((foldN n : Nat) : Int)) ∧ w = w' := by
  by_cases h0 : n < 0
  · have e1 : ((foldN n : Nat) : Int) = 2 * (-n - 1) + 1 := by unfold foldN; rw [if_pos h0]; omega
    rw [e1]
    clear e1
    have e2 := not_i64 n h h'
    have e3 : IntKind.u64.wrap (-n - 1) = -n - 1 := by rw [IntKind.wrap_u64]; omega
    have e4 : IntKind.u64.wrap (2 * (-n - 1)) = 2 * (-n - 1) := by rw [IntKind.wrap_u64]; omega
    have e5 : IntKind.u64.wrap (2 * (-n - 1) + 1) = 2 * (-n - 1) + 1 := by rw [IntKind.wrap_u64]; omega
    clear h h'
    go_enter Try.func74, Try.ntmps74
    go_wp2
    go_ret
    exact ⟨rfl, rfl⟩
  · have e1 : ((foldN n : Nat) : Int) = 2 * n := by unfold foldN; rw [if_neg h0]; omega
    rw [e1]
    clear e1
    have h1 : 0 ≤ n := by omega
    go_enter Try.func74, Try.ntmps74
    go_wp2
    go_ret
    exact ⟨fret1 (by omega), rfl⟩
set_option maxHeartbeats 400000 in
theorem unfold_any (u : Nat) (w : World) (h : u < 18446744073709551616) :
    Calls Try.prog 75 #[.int .u64 u] w fun e w' => e = .returned (.int .i64 (unfoldN u)) ∧ w = w' := by
  by_cases h0 : u % 2 = 1
  · have e1 : unfoldN u = -((u : Int) / 2) - 1 := by unfold unfoldN; rw [if_pos h0]; omega
    have hm : (u : Int) % 2 = 1 := by omega
    have h2 : (u : Int) / 2 ≤ 9223372036854775807 := by omega
    have h3 : 0 ≤ (u : Int) / 2 := by omega
    have hu : (u : Int) < 18446744073709551616 := by omega
    rw [e1]
    have e2 := not_i64 ((u : Int) / 2) (by omega) (by omega)
    clear e1 h h0
    generalize (u : Int) = x at *
    go_enter Try.func75, Try.ntmps75
    go_wp2
    go_ret
    exact ⟨rfl, rfl⟩
  · have e1 : unfoldN u = ((u : Int) / 2) := by unfold unfoldN; rw [if_neg h0]; omega
    have hm : (u : Int) % 2 = 0 := by omega
    have h2 : (u : Int) / 2 ≤ 9223372036854775807 := by omega
    have h3 : 0 ≤ (u : Int) / 2 := by omega
    have hu : (u : Int) < 18446744073709551616 := by omega
    rw [e1]
    clear e1 h h0
    go_enter Try.func75, Try.ntmps75
    go_wp2
    go_ret
    exact ⟨fret1 (by omega), rfl⟩
end Go.Proofs.Ytmbgcphiigmdjaa.Cs
/-
  Bytes of numbers: their seven bits, and the eighth.
-/
namespace Go.Proofs.Ytmbgcphiigmdjaa.Cs
open Go.RowKit

theorem or_plus {a b k : Nat} (hb : b < 2 ^ k) : b ||| a * 2 ^ k = b + a * 2 ^ k := by
  rw [Nat.or_comm, Nat.mul_comm, ← Nat.two_pow_add_eq_or_of_lt hb a, Nat.add_comm]
theorem fin_and (c : Nat) (h : c < 256) : c &&& 128 = if c < 128 then 0 else 128 := by
  have : ∀ c : Fin 256, c.val &&& 128 = if c.val < 128 then 0 else 128 := by decide +kernel
  exact this ⟨c, h⟩
theorem fin_or (c : Nat) (h : c < 256) : c ||| 128 = 128 + c % 128 := by
  have : ∀ c : Fin 256, c.val ||| 128 = 128 + c.val % 128 := by decide +kernel
  exact this ⟨c, h⟩
theorem low7 (c : UInt8) : bits .andNot .u8 (c.toNat : Int) 128 = ((c.toNat % 128 : Nat) : Int) := by
  have := u8_andNot_nat c.toNat 128 c.toNat_lt (by omega)
  rw [show (255 - 128 : Nat) = 2 ^ 7 - 1 from rfl, Nat.and_two_pow_sub_one_eq_mod] at this
  exact this
theorem more_yes (c : UInt8) (h : 128 ≤ c.toNat) : bits .and .u8 (c.toNat : Int) 128 = 128 := by
  have := u8_and_nat c.toNat 128 c.toNat_lt (by omega)
  rw [fin_and _ c.toNat_lt, if_neg (by omega)] at this
  exact this
theorem more_no (c : UInt8) (h : ¬ 128 ≤ c.toNat) : bits .and .u8 (c.toNat : Int) 128 = 0 := by
  have := u8_and_nat c.toNat 128 c.toNat_lt (by omega)
  rw [fin_and _ c.toNat_lt, if_pos (by omega)] at this
  exact this
theorem put_more (x : Nat) : bits .or .u8 (IntKind.u8.wrap (x : Int)) 128 = ((UInt8.ofNat (128 + x % 128)).toNat : Int) := by
  have e : IntKind.u8.wrap (x : Int) = ((x % 256 : Nat) : Int) := by simp [IntKind.wrap, IntKind.bits, IntKind.signed]
  rw [e]
  have := u8_or_nat (x % 256) 128 (by omega) (by omega)
  rw [fin_or _ (by omega)] at this
  rw [byte_small (128 + x % 128) (by omega), show (x % 128) = x % 256 % 128 by omega]
  exact this
theorem pow_128 (k : Nat) : (128 : Nat) ^ k = 2 ^ (7 * k) := by
  rw [Nat.pow_mul]
theorem shift7 (d k : Nat) (h : d * 128 ^ k < 18446744073709551616) : IntKind.u64.wrap ((d : Int) * 2 ^ (7 * k)) = ((d * 128 ^ k : Nat) : Int) := by
  have e : (d : Int) * 2 ^ (7 * k) = ((d * 128 ^ k : Nat) : Int) := by
    rw [pow_128, Int.natCast_mul, Int.natCast_pow]; rfl
  rw [e]
  generalize d * 128 ^ k = x at *
  rw [IntKind.wrap_u64]; omega
theorem or7 (a d k : Nat) (ha : a < 128 ^ k) (h : a + d * 128 ^ k < 18446744073709551616) : bits .or .u64 (a : Int) ((d * 128 ^ k : Nat) : Int) = ((a + d * 128 ^ k : Nat) : Int) := by
  rw [bits_or_u64_nat _ _ (by omega) (by omega)]
  rw [pow_128] at ha ⊢
  rw [or_plus ha]
end Go.Proofs.Ytmbgcphiigmdjaa.Cs
/-
  The number that comes next.
-/
namespace Go.Proofs.Ytmbgcphiigmdjaa.Cs
open Go.RowKit

/-- What reading a number between two others comes to: the number, where it ends, the fault and its place. -/
def numRes (l : List UInt8) (at_ : Nat) (low high : Int) : Int × Nat × Int × Nat := match dec 0 0 (l.drop at_) with
  | .got u k => if unfoldN u < low ∨ high < unfoldN u then (0, 0, 5, at_) else (unfoldN u, at_ + k, 0, 0)
  | .bad i => (0, 0, 3, at_ + i)
  | .short => (0, 0, 4, l.length)
def NumPost (w : World) (r : Int × Nat × Int × Nat) (e : Ending) (w' : World) : Prop := e = .returned (.tuple #[.int .i64 r.1, .int .i64 r.2.1, .agg #[.int .i64 r.2.2.1, .int .i64 r.2.2.2]]) ∧ Below w.heap.size w w'
/-- What the loop finds: the next bytes, at most ten. -/
def NumCut (w : World) (l : List UInt8) (at_ : Nat) (s32 s33 s34 : Value) (wx : World) : Prop := ∃ (A' : Option Addr) (m c' : Nat), s32 = .slice A' m c' ∧ s33 = .int .i64 m ∧ s34 = .int .i64 0 ∧ m = min 10 (l.length - at_) ∧ Seg wx w.heap.size A' ((l.drop at_).take m) ∧
    wx.heap[w.heap.size]? = some (.cells #[.int .i64 0, .int .i64 0] 93 (0, 0)) ∧ wx.heap.size = w.heap.size + 1 ∧ Below w.heap.size w wx
theorem num_cut {w : World} {l : List UInt8} {at_ : Nat} {A1 : Option Addr} (hs : Seg w w.heap.size A1 (l.drop at_)) (q : Nat) (A' : Option Addr) (m c' : Nat) {s32 s33 : Value} (h32 : s32 = .slice A' m c') (h33 : s33 = .int .i64 m) (hm : m = min 10 (l.length - at_)) (hA : A1 = A') :
    NumCut w l at_ s32 s33 (.int .i64 0) ((w.alloc (.cells #[.int .i64 0, .int .i64 0] 93)).drewN q) := by
  subst hA
  refine ⟨A1, m, c', h32, h33, rfl, hm, (hs.take m).keep fun p hp => ?_, ?_, ?_, ?_⟩
  · exact World.cell?_alloc_lt _ _ _ hp
  · exact heap_alloc_new w _
  · exact World.size_alloc _ _
  · exact below_drewN ((Below.refl _ _).alloc (Nat.le_refl _) _) q
set_option maxRecDepth 100000 in
set_option maxHeartbeats 2000000 in
theorem number_any (p cap : Nat) (A : Option Addr) (l : List UInt8) (at_ : Nat) (low high why fat : Int) (w : World) (h : Rd w p (.slice A l.length cap) at_ why fat) (hs : Seg w w.heap.size A l)
    (hc : l.length ≤ cap) (hl : l.length ≤ 140737488355328) (ha : at_ ≤ l.length) :
    Calls Try.prog 64 #[.pointer (some ⟨p, 0, none⟩), .int .i64 low, .int .i64 high] w (NumPost w (numRes l at_ low high)) := by
  obtain ⟨c0, c1, c2, c3, hp⟩ := h.facts
  have e2 : IntKind.i64.wrap ((at_ : Int) + 10) = (at_ : Int) + 10 := IntWalk.i64_in _ (by omega)
  replace hs := fhid hs
  replace h := fhid h
  go_enter Try.func64, Try.ntmps64
  go_upto_region 2 with fail
  go_cut [32, 33, 34] (fun s32 s33 s34 wx => NumCut w l at_ s32 s33 s34 wx)
  case first =>
    by_cases hm : at_ + 10 ≤ l.length
    · go_quiet (fail)
      go_wp2_with fail
      go_meet
      refine num_cut (hs.out.drop ha hc) nq _ (at_ + 10 - at_) (cap - at_) rfl ?_ (by omega) (if_neg (by omega))
      rw [show at_ + 10 - at_ = 10 by omega]; rfl
    · go_quiet (fail)
      all_goals go_wp2_with fail
      all_goals go_meet
      · exact num_cut (hs.out.drop ha hc) nq _ (l.length - at_) 0 rfl rfl (by omega) (if_pos (by assumption))
      · exact num_cut (hs.out.drop ha hc) nq _ (l.length - at_) (cap - at_) rfl rfl (by omega) (if_neg (by assumption))
  case rest =>
    obtain ⟨A', m, c', rfl, rfl, rfl, hm, S, hr, hz, hb⟩ := hcut
    have d1 : wc.cell? ⟨p, 1, none⟩ = some (.int .i64 (at_ : Int)) := (hb.cell (p := ⟨p, 1, none⟩) hp).trans c1
    have r0 : wc.cell? ⟨w.heap.size, 0, none⟩ = some (.int .i64 0) := by simp [World.cell?, hr]
    have r1 : wc.cell? ⟨w.heap.size, 1, none⟩ = some (.int .i64 0) := by simp [World.cell?, hr]
    have f0 : wc.frozen? ⟨w.heap.size, 0, none⟩ = false := by simp [World.frozen?, hr]
    have f1 : wc.frozen? ⟨w.heap.size, 1, none⟩ = false := by simp [World.frozen?, hr]
    have hml : (l.drop at_).length = l.length - at_ := List.length_drop
    have hm10 : m ≤ 10 := by omega
    have hmr : m ≤ (l.drop at_).length := by omega
    have hms := fhid (show m < 10 → m = (l.drop at_).length by omega)
    replace hm := fhid hm
    replace hml := fhid hml
    replace hr := fhid hr
    replace hz := fhid hz
    obtain ⟨rest, hrest⟩ : ∃ rest, l.drop at_ = rest := ⟨_, rfl⟩
    rw [hrest] at S hms hmr
    replace hrest := fhid hrest
    replace S := fhid S
    clear e2
    have hMiss := missing_any p l.length cap A at_ why fat wc (h.out.below hb)
    go_wp2_with fail
    go_loop [9, 34] (fun s9 i => ∃ k a : Nat, k ≤ m ∧ k ≤ 9 ∧ i = .int .i64 k ∧ s9 = .int .u64 a ∧ a < 128 ^ k ∧ dec 0 0 rest = dec k a (rest.drop k)) (fun _ i => m - (intOf i).toNat)
    case atStart => exact ⟨0, 0, Nat.zero_le _, Nat.zero_le _, rfl, rfl, Nat.one_pos, rfl⟩
    case round =>
      obtain ⟨k, a, hk, hk9, rfl, rfl, hak, hdec⟩ := hrel
      replace hdec := fhid hdec
      replace hak := fhid hak
      by_cases hlt : k < m
      · obtain ⟨b, o, rfl, hbB, hcell⟩ := S.out.at_ (k := k) (by rw [List.length_take]; omega)
        rw [List.getElem_take] at hcell
        have hkr : k < rest.length := by omega
        have hdrop := fhid (List.drop_eq_getElem_cons hkr)
        obtain ⟨c, hcr⟩ : ∃ c, rest[k] = c := ⟨_, rfl⟩
        rw [hcr] at hcell hdrop
        clear hcr
        have h2 : (k : Int) < m := by omega
        have h0k : (0 : Int) ≤ k := by omega
        have hc256 := c.toNat_lt
        have b1 := low7 c
        by_cases hbad : (k = 9 ∧ 1 < c.toNat) ∨ (0 < k ∧ c.toNat = 0)
        · have hnum := fhid (show numRes l at_ low high = (0, 0, 3, at_ + k) by
            unfold numRes
            rw [hrest.out, hdec.out, hdrop.out, dec_bad _ _ _ _ hbad])
          clear b1 hMiss
          by_cases h9 : k = 9
          · have t1 : ((k : Int) == 9) = true := by simp; omega
            replace h9 := fhid h9
            by_cases hb1 : 1 < c.toNat
            · have t2 : (c.toNat : Int) > 1 := by omega
              clear hbad
              go_wp2_with fail
              go_region
              go_wp2_with fail
              exact bodyPost_ret (v := .tuple #[.int .i64 0, .int .i64 0, .agg #[.int .i64 3, .int .i64 ((at_ : Int) + k)]]) (by simp [results, Try.results64, go_sem, r0, r1]) rfl ⟨by rw [hnum.out]; rfl, ((hb.setCell (p := ⟨w.heap.size, 0, none⟩) (Nat.le_refl _) _).setCell (p := ⟨w.heap.size, 1, none⟩) (Nat.le_refl _) _).drew⟩
            · have t2 : ¬ (c.toNat : Int) > 1 := by omega
              have t3 : ((c.toNat : Int) == 0) = true := by simp; omega
              have t4 : (k : Int) > 0 := by have := h9.out; omega
              clear hbad
              go_wp2_with fail
              go_region
              go_wp2_with fail
              exact bodyPost_ret (v := .tuple #[.int .i64 0, .int .i64 0, .agg #[.int .i64 3, .int .i64 ((at_ : Int) + k)]]) (by simp [results, Try.results64, go_sem, r0, r1]) rfl ⟨by rw [hnum.out]; rfl, ((hb.setCell (p := ⟨w.heap.size, 0, none⟩) (Nat.le_refl _) _).setCell (p := ⟨w.heap.size, 1, none⟩) (Nat.le_refl _) _).drew⟩
          · have t1 : ((k : Int) == 9) = false := by simp; omega
            have t3 : ((c.toNat : Int) == 0) = true := by simp; omega
            have t4 : (k : Int) > 0 := by omega
            clear hbad h9
            go_wp2_with fail
            go_region
            go_wp2_with fail
            exact bodyPost_ret (v := .tuple #[.int .i64 0, .int .i64 0, .agg #[.int .i64 3, .int .i64 ((at_ : Int) + k)]]) (by simp [results, Try.results64, go_sem, r0, r1]) rfl ⟨by rw [hnum.out]; rfl, ((hb.setCell (p := ⟨w.heap.size, 0, none⟩) (Nat.le_refl _) _).setCell (p := ⟨w.heap.size, 1, none⟩) (Nat.le_refl _) _).drew⟩
        · have hd := fhid (dec_more k a c (rest.drop (k + 1)) hbad)
          have hg := fhid (dec_got k a c (rest.drop (k + 1)) hbad)
          have hp9 := pow_le_9 k hk9
          have hdm : c.toNat % 128 ≤ 127 := by omega
          have hkc : k = 9 → c.toNat ≤ 1 := fun h9 => by omega
          have hsum : a + c.toNat % 128 * 128 ^ k < 18446744073709551616 ∧ (128 ≤ c.toNat → k + 1 ≤ 9 ∧ a + c.toNat % 128 * 128 ^ k < 128 ^ (k + 1)) := by
            have ha := hak.out
            have hmul : c.toNat % 128 * 128 ^ k ≤ 127 * 128 ^ k := Nat.mul_le_mul_right _ hdm
            refine ⟨?_, fun h => ⟨by omega, by rw [Nat.pow_succ]; omega⟩⟩
            by_cases h9 : k = 9
            · have h1 := hkc h9
              have : c.toNat % 128 * 128 ^ k ≤ 1 * 128 ^ k := Nat.mul_le_mul_right _ (by omega)
              omega
            · have := pow_le_9 (k + 1) (by omega)
              rw [Nat.pow_succ] at this
              omega
          have e7 := shift7 (c.toNat % 128) k (by omega)
          have e8 := or7 a (c.toNat % 128) k hak.out hsum.1
          have hcase : (((k : Int) == 9) = true ∧ ¬ (c.toNat : Int) > 1 ∧ (k : Int) > 0 ∧ ((c.toNat : Int) == 0) = false) ∨ (((k : Int) == 9) = false ∧ (k : Int) > 0 ∧ ((c.toNat : Int) == 0) = false) ∨ (((k : Int) == 9) = false ∧ ¬ (k : Int) > 0) := by
            by_cases h9 : k = 9
            · left
              refine ⟨by simp; omega, by omega, by omega, by simp; omega⟩
            · right
              by_cases h0 : 0 < k
              · left
                exact ⟨by simp; omega, by omega, by simp; omega⟩
              · right
                exact ⟨by simp; omega, by omega⟩
          have hdI : ((c.toNat % 128 : Nat) : Int) ≤ 127 := by omega
          have hd0 : (0 : Int) ≤ ((c.toNat % 128 : Nat) : Int) := by omega
          clear hbad hkc hdm hp9 hp
          by_cases hmore : 128 ≤ c.toNat
          · have b2 := more_yes c hmore
            have hnx := fhid (hd.out hmore)
            have hs2 := fhid (hsum.2 hmore)
            clear hd hg hsum hMiss hmore
            generalize a + c.toNat % 128 * 128 ^ k = a' at *
            generalize c.toNat % 128 * 128 ^ k = s at *
            generalize ((c.toNat % 128 : Nat) : Int) = d at *
            rcases hcase with ⟨t1, t2, t3, t4⟩ | ⟨t1, t2, t3⟩ | ⟨t1, t2⟩
            all_goals
              go_wp2_with fail
              go_round
              case rel => exact ⟨k + 1, a', by omega, hs2.out.1, by go_num, rfl, hs2.out.2, by rw [hdec.out, hdrop.out, hnx.out]⟩
              case measure => simp [intOf]; omega
          · have b2 := more_no c hmore
            have hnx := fhid (hg.out hmore)
            have hlt64 := hsum.1
            clear hd hg hsum hMiss hmore
            generalize a + c.toNat % 128 * 128 ^ k = a' at *
            generalize c.toNat % 128 * 128 ^ k = s at *
            generalize ((c.toNat % 128 : Nat) : Int) = d at *
            have hu := unfold_any a' wc hlt64
            have hur := unfold_range a' hlt64
            have hnr := fhid (show numRes l at_ low high = if unfoldN a' < low ∨ high < unfoldN a' then (0, 0, 5, at_) else (unfoldN a', at_ + (k + 1), 0, 0) by
              unfold numRes
              rw [hrest.out, hdec.out, hdrop.out, hnx.out])
            clear hlt64
            generalize unfoldN a' = n at *
            by_cases hlow : n < low
            · have hnum := fhid (hnr.out.trans (if_pos (.inl hlow)))
              clear hnr
              rcases hcase with ⟨t1, t2, t3, t4⟩ | ⟨t1, t2, t3⟩ | ⟨t1, t2⟩
              all_goals
                go_wp2_with (go_at_call 75; with_reducible refine hu.mono ?_; rintro e w1 ⟨rfl, rfl⟩)
                go_region
                go_wp2_with fail
                exact bodyPost_ret (v := .tuple #[.int .i64 0, .int .i64 0, .agg #[.int .i64 5, .int .i64 (at_ : Int)]]) (by simp [results, Try.results64, go_sem, r0, r1]) rfl ⟨by rw [hnum.out]; rfl, ((hb.setCell (p := ⟨w.heap.size, 0, none⟩) (Nat.le_refl _) _).setCell (p := ⟨w.heap.size, 1, none⟩) (Nat.le_refl _) _).drew⟩
            · by_cases hhigh : n > high
              · have hnum := fhid (hnr.out.trans (if_pos (.inr hhigh)))
                clear hnr
                rcases hcase with ⟨t1, t2, t3, t4⟩ | ⟨t1, t2, t3⟩ | ⟨t1, t2⟩
                all_goals
                  go_wp2_with (go_at_call 75; with_reducible refine hu.mono ?_; rintro e w1 ⟨rfl, rfl⟩)
                  go_region
                  go_wp2_with fail
                  exact bodyPost_ret (v := .tuple #[.int .i64 0, .int .i64 0, .agg #[.int .i64 5, .int .i64 (at_ : Int)]]) (by simp [results, Try.results64, go_sem, r0, r1]) rfl ⟨by rw [hnum.out]; rfl, ((hb.setCell (p := ⟨w.heap.size, 0, none⟩) (Nat.le_refl _) _).setCell (p := ⟨w.heap.size, 1, none⟩) (Nat.le_refl _) _).drew⟩
              · have hnum := fhid (hnr.out.trans (if_neg (fun h => h.elim hlow hhigh)))
                clear hnr
                rcases hcase with ⟨t1, t2, t3, t4⟩ | ⟨t1, t2, t3⟩ | ⟨t1, t2⟩
                all_goals
                  go_wp2_with (go_at_call 75; with_reducible refine hu.mono ?_; rintro e w1 ⟨rfl, rfl⟩)
                  go_region
                  go_wp2_with fail
                  exact bodyPost_ret (v := .tuple #[.int .i64 n, .int .i64 ((at_ : Int) + k + 1), .agg #[.int .i64 0, .int .i64 0]]) (by simp [results, Try.results64, go_sem, r0, r1]) rfl ⟨by rw [hnum.out]; show _ = Ending.returned (.tuple #[.int .i64 n, .int .i64 ((at_ + (k + 1) : Nat) : Int), .agg #[.int .i64 0, .int .i64 ((0 : Nat) : Int)]]); rw [show ((at_ + (k + 1) : Nat) : Int) = (at_ : Int) + k + 1 by omega]; rfl, ((hb.setCell (p := ⟨w.heap.size, 0, none⟩) (Nat.le_refl _) _).setCell (p := ⟨w.heap.size, 1, none⟩) (Nat.le_refl _) _).drew⟩
      · have h2 : ¬ (k : Int) < m := by omega
        have hnum := fhid (show numRes l at_ low high = (0, 0, 4, l.length) by
          have hkm : k = rest.length := by have := hms.out (by omega); omega
          unfold numRes
          rw [hrest.out, hdec.out, hkm, List.drop_length, dec_nil])
        go_wp2_with (go_at_call 65; with_reducible refine hMiss.mono ?_; rintro e w1 ⟨rfl, b1⟩; have f0' : w1.frozen? ⟨w.heap.size, 0, none⟩ = false := (b1.frozen (p := ⟨w.heap.size, 0, none⟩) (by show w.heap.size < _; rw [hz.out]; omega)).trans f0; have f1' : w1.frozen? ⟨w.heap.size, 1, none⟩ = false := (b1.frozen (p := ⟨w.heap.size, 1, none⟩) (by show w.heap.size < _; rw [hz.out]; omega)).trans f1; have r0' := (b1.cell (p := ⟨w.heap.size, 0, none⟩) (by show w.heap.size < _; rw [hz.out]; omega)).trans r0; have r1' := (b1.cell (p := ⟨w.heap.size, 1, none⟩) (by show w.heap.size < _; rw [hz.out]; omega)).trans r1)
        exact bodyPost_ret (v := .tuple #[.int .i64 0, .int .i64 0, .agg #[.int .i64 4, .int .i64 l.length]]) (by simp [results, Try.results64, go_sem, r0', r1']) rfl ⟨by rw [hnum.out]; rfl, (((hb.trans (b1.mono hb.size)).setCell (p := ⟨w.heap.size, 0, none⟩) (Nat.le_refl _) _).setCell (p := ⟨w.heap.size, 1, none⟩) (Nat.le_refl _) _)⟩
end Go.Proofs.Ytmbgcphiigmdjaa.Cs
/-
  A number between two others, and any, read.
-/
namespace Go.Proofs.Ytmbgcphiigmdjaa.Cs
open Go.RowKit

/-- What In comes to: the number, the place, the fault. -/
def inStep (l : List UInt8) (at_ : Nat) (why fat low high : Int) : Int × Nat × Int × Int :=
  if why ≠ 0 then (0, at_, why, fat) else if (numRes l at_ low high).2.2.1 ≠ 0 then (0, at_, (numRes l at_ low high).2.2.1, (numRes l at_ low high).2.2.2) else ((numRes l at_ low high).1, (numRes l at_ low high).2.1, 0, fat)
/-- The call answers a number, and leaves the reader so. -/
def InPost (w : World) (p : Nat) (l : List UInt8) (s : Int × Nat × Int × Int) (e : Ending) (w' : World) : Prop := e = .returned (.int .i64 s.1) ∧ Rdr w' p l s.2.1 s.2.2.1 s.2.2.2 ∧ Turns w w' p
theorem Turns.alloc {w w' : World} {p : Nat} (h : Turns w w' p) (o : Obj) : Turns w (w'.alloc o) p := h.trans (Turns.ofBelow ((Below.refl _ _).alloc (Nat.le_refl _) o) p)
theorem numRes_le (l : List UInt8) (at_ : Nat) (low high : Int) (h : at_ ≤ l.length) : (numRes l at_ low high).2.1 ≤ l.length := by
  unfold numRes
  split
  · rename_i u k hd
    have := (dec_lt _ 0 0 u k (by omega) (by omega) hd).2.1
    rw [List.length_drop] at this
    split
    · exact Nat.zero_le _
    · show at_ + k ≤ _; omega
  · exact Nat.zero_le _
  · exact Nat.zero_le _
theorem stop_yes {p : Nat} {l : List UInt8} {at_ : Nat} {why fat : Int} {w : World} (h : Rdr w p l at_ why fat) (hw : ¬ why = 0) :
    Calls Try.prog 63 #[.pointer (some ⟨p, 0, none⟩)] w fun e w' => e = .returned (.bool true) ∧ Below w.heap.size w w' := by
  obtain ⟨A, cap, h1, _⟩ := h
  exact stopped_yes _ why fat w hw (Fault_any p _ _ why fat w h1)
theorem stop_no {p : Nat} {l : List UInt8} {at_ : Nat} {fat : Int} {w : World} (h : Rdr w p l at_ 0 fat) :
    Calls Try.prog 63 #[.pointer (some ⟨p, 0, none⟩)] w fun e w' => e = .returned (.bool false) ∧ Below w.heap.size w w' := by
  obtain ⟨A, cap, h1, _⟩ := h
  exact stopped_no p _ _ fat w h1
theorem num_of {p : Nat} {l : List UInt8} {at_ : Nat} {why fat : Int} {w : World} (h : Rdr w p l at_ why fat) (low high : Int) :
    Calls Try.prog 64 #[.pointer (some ⟨p, 0, none⟩), .int .i64 low, .int .i64 high] w (NumPost w (numRes l at_ low high)) := by
  obtain ⟨A, cap, h1, h2, h3, _, h5, h6⟩ := h
  exact number_any p cap A l at_ low high why fat w h1 h2 h3 h6 h5
set_option maxHeartbeats 400000 in
theorem in_stop (p : Nat) (l : List UInt8) (at_ : Nat) (why fat low high : Int) (w : World) (h : Rdr w p l at_ why fat) (hw : ¬ why = 0) :
    Calls Try.prog 47 #[.pointer (some ⟨p, 0, none⟩), .int .i64 low, .int .i64 high] w (InPost w p l (0, at_, why, fat)) := by
  have st := stop_yes h hw
  replace h := fhid h
  go_enter Try.func47, Try.ntmps47
  go_wp2_with (go_at_call 63; (with_reducible refine st.mono ?_); rintro e w1 ⟨rfl, b1⟩)
  go_ret
  exact ⟨rfl, h.out.below b1, Turns.ofBelow b1 p⟩
set_option maxRecDepth 100000 in
set_option maxHeartbeats 1000000 in
theorem in_fault (p : Nat) (l : List UInt8) (at_ : Nat) (fat low high n why' : Int) (en fat' : Nat) (w : World) (h : Rdr w p l at_ 0 fat) (hr : numRes l at_ low high = (n, en, why', fat')) (hw : ¬ why' = 0) :
    Calls Try.prog 47 #[.pointer (some ⟨p, 0, none⟩), .int .i64 low, .int .i64 high] w (InPost w p l (0, at_, why', fat')) := by
  have st := stop_no h
  have nm := fun w' (hb : Below w.heap.size w w') => num_of (h.below hb) low high
  rw [hr] at nm
  have hne : (why' != 0) = true := by simpa using hw
  clear hr hw
  replace h := fhid h
  go_enter Try.func47, Try.ntmps47
  go_wp2_with (first
    | (go_at_call 63; (with_reducible refine st.mono ?_); rintro e w1 ⟨rfl, b1⟩)
    | (go_at_call 64; (with_reducible refine (nm w1 b1).mono ?_); rintro e w2 ⟨rfl, b2⟩
       have x2 := b1.trans (b2.mono b1.size)
       obtain ⟨A, cap, g1, g2, g3, g4, g5, g6⟩ := h.out.below x2
       obtain ⟨c0, c1, c2, c3, hp⟩ := g1.facts
       have f2 := g1.f2
       have f3 := g1.f3
       have g1 := fhid g1
       have hpn := Nat.ne_of_lt hp))
  go_ret
  exact ⟨rfl, Rdr.mk' (((g1.out.set2 _).set3 _).alloc _) g2 g3 g4 g5 g6 ((((Turns.refl _ _).set _ _).set _ _).alloc _), (((Turns.ofBelow x2 p).set _ _).set _ _).alloc _⟩
set_option maxRecDepth 100000 in
set_option maxHeartbeats 1000000 in
theorem in_ok (p : Nat) (l : List UInt8) (at_ : Nat) (fat low high n : Int) (en fat' : Nat) (w : World) (h : Rdr w p l at_ 0 fat) (hr : numRes l at_ low high = (n, en, 0, fat')) :
    Calls Try.prog 47 #[.pointer (some ⟨p, 0, none⟩), .int .i64 low, .int .i64 high] w (InPost w p l (n, en, 0, fat)) := by
  have st := stop_no h
  have nm := fun w' (hb : Below w.heap.size w w') => num_of (h.below hb) low high
  rw [hr] at nm
  have hen := numRes_le l at_ low high
  rw [hr] at hen
  replace hen := fhid hen
  clear hr
  replace h := fhid h
  go_enter Try.func47, Try.ntmps47
  go_wp2_with (first
    | (go_at_call 63; (with_reducible refine st.mono ?_); rintro e w1 ⟨rfl, b1⟩)
    | (go_at_call 64; (with_reducible refine (nm w1 b1).mono ?_); rintro e w2 ⟨rfl, b2⟩
       have x2 := b1.trans (b2.mono b1.size)
       obtain ⟨A, cap, g1, g2, g3, g4, g5, g6⟩ := h.out.below x2
       obtain ⟨c0, c1, c2, c3, hp⟩ := g1.facts
       have f1 := g1.f1
       have g1 := fhid g1
       have hpn := Nat.ne_of_lt hp))
  go_ret
  exact ⟨rfl, Rdr.mk' ((g1.out.set1 _).alloc _) g2 g3 g4 (hen.out g5) g6 (((Turns.refl _ _).set _ _).alloc _), ((Turns.ofBelow x2 p).set _ _).alloc _⟩
theorem in_any (p : Nat) (l : List UInt8) (at_ : Nat) (why fat low high : Int) (w : World) (h : Rdr w p l at_ why fat) :
    Calls Try.prog 47 #[.pointer (some ⟨p, 0, none⟩), .int .i64 low, .int .i64 high] w (InPost w p l (inStep l at_ why fat low high)) := by
  unfold inStep
  by_cases hw : why = 0
  · subst hw
    rw [if_neg (by simp)]
    obtain ⟨n, en, why', fat', hr⟩ : ∃ n en why' fat', numRes l at_ low high = (n, en, why', fat') := ⟨_, _, _, _, rfl⟩
    rw [hr]
    by_cases hw' : why' = 0
    · subst hw'
      rw [if_neg (by simp)]
      exact in_ok p l at_ fat low high n en fat' w h hr
    · rw [if_pos hw']
      exact in_fault p l at_ fat low high n why' en fat' w h hr hw'
  · rw [if_pos hw]
    exact in_stop p l at_ why fat low high w h hw
end Go.Proofs.Ytmbgcphiigmdjaa.Cs
