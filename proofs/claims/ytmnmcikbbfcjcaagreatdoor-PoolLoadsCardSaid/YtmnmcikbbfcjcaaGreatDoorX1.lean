/-
  Parts: DMath DText DBase EMath EBase ENext EAlive EEvents ERef ELate EShut.
-/
import Derived.Lib.ItoaNum
import Derived.Lib.Join
import Derived.Test.YtmnmcikbbfcjcaaGreatDoorProg
import Derived.WalkKit
import Derived.Below
import Derived.IntWalk
import Derived.Laws.DeepStrings4
import Derived.Outline
import Derived.Deep.Draws
import Derived.Sort.Grow
import Derived.Lib.Hide
import Derived.MapKept
import Derived.ChangeMaps5
import Derived.Maps.Own
import Derived.Maps.OwnOps
import Derived.Maps.AppendAt
import Derived.Laws.AppendOwnNone
import Derived.OwnWalk
import Derived.Maps.RangeWalk
import Derived.Deep.QuietTactic
import Derived.BigQuiet
import Derived.Deep.DeepCutAuto
import Derived.Deep.CutBlock
import Derived.Deep.RegionHeld3
import Derived.ChangeKeysEq
import Derived.Test.YtmnmcikbbfcjcaaGreatDoorRows
import Derived.Test.YtmnmcikbbfcjcaaGreatDoorCards
import Derived.Test.YtmnmcikbbfcjcaaGreatDoorTie
import Derived.ProofKit
import Derived.OpenShut
import Derived.LaidMore
import Derived.Lay
import Derived.Stop.Joined
import Derived.Stop.LaidErr
import Derived.Lib.LaidTab
import Derived.LaidLaws
import Derived.Laws.IdiomArrays
import Derived.SliceStrings
import Derived.SevenTiedAt
import Derived.Lib.SmallJoins
import Derived.Deep.Slices
import Derived.Deep.Strs
set_option linter.unusedSimpArgs false
set_option linter.unusedVariables false
/-
  Plain mathematics: what items, and dependencies, are at; which order they stand in does not count. No model in it.
-/
namespace Go.Proofs.YtmnmcikbbfcjcaaGreatDoor.Ds

/-- An item: its kind, its jobs. -/
abbrev Itm := Int × List Int
end Go.Proofs.YtmnmcikbbfcjcaaGreatDoor.Ds
/-
  Plain mathematics: a dependency's text, and what reading one comes to. No model in it.
-/
namespace Go.Proofs.YtmnmcikbbfcjcaaGreatDoor.Ds

def isDig (c : UInt8) : Bool := 48 ≤ c && c ≤ 57
/-- A byte that is a digit, as a number. -/
def dv (c : UInt8) : Nat := c.toNat - 48
/-- The number of digits. -/
def dval (l : List UInt8) : Nat := l.foldl (fun n c => 10 * n + dv c) 0
theorem dval_snoc (l : List UInt8) (c : UInt8) : dval (l ++ [c]) = 10 * dval l + dv c := by simp [dval, List.foldl_append]
theorem isDig_iff (c : UInt8) : isDig c = true ↔ 48 ≤ c.toNat ∧ c.toNat ≤ 57 := by
  unfold isDig
  simp [UInt8.le_iff_toNat_le]
theorem dv_lt {c : UInt8} (h : isDig c = true) : dv c ≤ 9 := by
  have := (isDig_iff c).1 h
  unfold dv; omega
theorem all_snoc {p : UInt8 → Bool} {l : List UInt8} {c : UInt8} : (l ++ [c]).all p = true ↔ l.all p = true ∧ p c = true := by simp
theorem dval_lt : ∀ (k : Nat) (l : List UInt8), l.length = k → l.all isDig = true → dval l < 10 ^ k
  | 0, l, h, _ => by
    have := List.eq_nil_of_length_eq_zero h
    subst this; decide
  | k + 1, l, h, ha => by
    rcases List.eq_nil_or_concat l with rfl | ⟨m, c, rfl⟩
    · simp at h
    · rw [List.concat_eq_append] at *
      rw [dval_snoc, Nat.pow_succ]
      obtain ⟨a1, a2⟩ := all_snoc.1 ha
      have := dval_lt k m (by simpa using h) a1
      have := dv_lt a2
      omega
/-- The decimal digits of a number. -/
abbrev dec (u : Nat) : List UInt8 := Go.Lib.decDigits u
theorem dec_small {u : Nat} (h : u < 10) : dec u = [UInt8.ofNat (48 + u)] := by unfold dec; rw [Go.Lib.decDigits, dif_pos h]
theorem dec_big {u : Nat} (h : ¬ u < 10) : dec u = dec (u / 10) ++ [UInt8.ofNat (48 + u % 10)] := by unfold dec; rw [Go.Lib.decDigits, dif_neg h]
theorem byte_of {c : UInt8} (h : isDig c = true) : UInt8.ofNat (48 + dv c) = c := by
  have := (isDig_iff c).1 h
  apply UInt8.toNat_inj.1
  rw [UInt8.toNat_ofNat']
  unfold dv
  omega
/-- The words of the kinds. -/
def word (k : Int) : List UInt8 :=
  if k = 1 then [97, 102, 116, 101, 114] else if k = 2 then [97, 102, 116, 101, 114, 111, 107] else if k = 3 then [97, 102, 116, 101, 114, 110, 111, 116, 111, 107]
  else if k = 4 then [97, 102, 116, 101, 114, 97, 110, 121] else if k = 5 then [115, 105, 110, 103, 108, 101, 116, 111, 110] else [63]
end Go.Proofs.YtmnmcikbbfcjcaaGreatDoor.Ds
/-
  Strings as bytes; worlds that only grow; rows of cells; maps by whole numbers.
-/
namespace Go.Proofs.YtmnmcikbbfcjcaaGreatDoor.Ds
open Go.RowKit

theorem fhid {p : Prop} (h : p) : Hid p := h
theorem fret1 {k : IntKind} {a b : Int} (h : a = b) : Ending.returned (.int k a) = .returned (.int k b) := by rw [h]
theorem fretb {a b : Bool} (h : a = b) : Ending.returned (.bool a) = .returned (.bool b) := by rw [h]
theorem frets {a b : ByteArray} (h : a = b) : Ending.returned (.string a) = .returned (.string b) := by rw [h]
theorem below_drewN {B : Nat} {a w : World} (h : Below B a w) (n : Nat) : Below B a (w.drewN n) := ⟨h.os, h.tape, h.output, h.size, h.block⟩
/-- Bytes, as a string; a string, as bytes. -/
def str (l : List UInt8) : ByteArray := ⟨l.toArray⟩
def bl (s : ByteArray) : List UInt8 := s.data.toList
theorem bl_str (l : List UInt8) : bl (str l) = l := by simp [bl, str]
theorem str_bl (s : ByteArray) : str (bl s) = s := by unfold str bl; simp
theorem bl_len (s : ByteArray) : (bl s).length = s.size := by unfold bl; rw [Array.length_toList]; rfl
theorem str_size (l : List UInt8) : (str l).size = l.length := by simp [str, ByteArray.size]
theorem bl_get (s : ByteArray) (k : Nat) (h : k < s.size) (h' : k < (bl s).length) : (bl s)[k] = s[k]'h := by
  unfold bl; rfl
theorem ext_str (s : ByteArray) (a b : Nat) : s.extract a b = str (((bl s).drop a).take (b - a)) := by
  obtain ⟨⟨l⟩⟩ := s
  rw [show (⟨⟨l⟩⟩ : ByteArray) = ByteArray.mk l.toArray from rfl, ByteArray.extract_mk]
  rfl
theorem str_eq (s t : ByteArray) : (s.toList == t.toList) = decide (bl s = bl t) := by
  rw [ByteArray.toList_eq, ByteArray.toList_eq, Bool.eq_iff_iff]
  simp [bl]
theorem str_app (a b : List UInt8) : str a ++ str b = str (a ++ b) := by
  apply ByteArray.ext
  simp [str]
theorem heap_alloc_new (w : World) (o : Obj) : (w.alloc o).heap[w.heap.size]? = some o := by
  show (w.heap.push o)[w.heap.size]? = _
  simp
theorem lt_of_block {w : World} {b : Nat} {o : Obj} (h : w.heap[b]? = some o) : b < w.heap.size := (Array.getElem?_eq_some_iff.1 h).1
theorem below_grow (w : World) (k : Nat) (os : Array Obj) : Below w.heap.size w (Go.Sort.grow (w.drewN k) os) :=
  ⟨rfl, rfl, rfl, by show _ ≤ (w.heap ++ os).size; rw [Array.size_append]; omega, fun j hj => by
    show (w.heap ++ os)[j]? = _
    rw [Array.getElem?_append_left hj]⟩

/-- The cells at address A are these; the block they lie in is one of ok's. -/
def SegP (w : World) (ok : Nat → Prop) (A : Option Addr) (vs : List Value) : Prop :=
  0 < vs.length → ∃ b o, A = some ⟨b, o, none⟩ ∧ ok b ∧ ∀ j (h : j < vs.length), w.cell? ⟨b, o + j, none⟩ = some vs[j]
/-- The slice at address A holds these cells, in a block below B. -/
abbrev SegC (w : World) (B : Nat) (A : Option Addr) (vs : List Value) : Prop := SegP w (fun b => b < B) A vs
section
variable {w w' : World} {B B' : Nat} {ok ok' : Nat → Prop} {A : Option Addr} {vs : List Value}
theorem SegP.nil (w : World) (ok : Nat → Prop) (A : Option Addr) : SegP w ok A [] := fun h => absurd h (Nat.lt_irrefl 0)
theorem SegP.keep (h : SegP w ok A vs) (hk : ∀ b, ok b → w'.heap[b]? = w.heap[b]?) : SegP w' ok A vs := fun h0 => by
  obtain ⟨b, o, e, hb, hc⟩ := h h0
  refine ⟨b, o, e, hb, fun j hj => ?_⟩
  rw [← hc j hj]
  unfold World.cell?
  rw [hk b hb]
theorem SegP.imp (h : SegP w ok A vs) (hi : ∀ b, b < w.heap.size → ok b → ok' b) : SegP w ok' A vs := fun h0 => by
  obtain ⟨b, o, e, hb, hc⟩ := h h0
  refine ⟨b, o, e, hi b ?_ hb, hc⟩
  have := hc 0 h0
  by_cases hl : b < w.heap.size
  · exact hl
  · simp only [World.cell?] at this
    rw [Array.getElem?_eq_none (by omega)] at this
    cases this
theorem SegC.more (h : SegC w B A vs) (hB : B ≤ B') : SegC w B' A vs := h.imp fun b _ hb => by omega
theorem SegC.below (h : SegC w B A vs) (hb : Below B w w') : SegC w' B A vs := h.keep fun b h => hb.block b h
theorem SegC.take (h : SegC w B A vs) (k : Nat) : SegC w B A (vs.take k) := fun h0 => by
  rw [List.length_take] at h0
  obtain ⟨b, o, e, hb, hc⟩ := h (by omega)
  refine ⟨b, o, e, hb, fun j hj => ?_⟩
  rw [List.length_take] at hj
  rw [List.getElem_take]
  exact hc j (by omega)
theorem SegC.drop (h : SegC w B A vs) {k cap : Nat} (hk : k ≤ vs.length) (hc : vs.length ≤ cap) : SegC w B (if cap = k then A else A.map (·.add k)) (vs.drop k) := fun h0 => by
  rw [List.length_drop] at h0
  obtain ⟨b, o, rfl, hb, hcell⟩ := h (by omega)
  rw [if_neg (by omega)]
  refine ⟨b, o + k, ?_, hb, fun j hj => ?_⟩
  · show some (Addr.add _ _) = _
    unfold Addr.add
    by_cases h0 : k = 0
    · rw [if_pos h0, h0, Nat.add_zero]
    · rw [if_neg h0]
  · rw [List.getElem_drop, Nat.add_assoc]
    exact hcell (k + j) (by rw [List.length_drop] at hj; omega)
end
theorem ownsRow_below {w w' : World} {base : Nat} {e : TypeId} {size n : Nat} {v : Value} {xs : List Value} (h : w.ownsRow base e size v n xs) (hb : Below w.heap.size w w') : w'.ownsRow base e size v n xs := by
  refine ⟨h.1, ?_⟩
  rcases h.2 with ⟨rfl, hn⟩ | ⟨g, cap, cur, rfl, hg, hh, rest⟩
  · exact .inl ⟨rfl, hn⟩
  · exact .inr ⟨g, cap, cur, rfl, hg, (hb.block g (Array.getElem?_eq_some_iff.1 hh).1).trans hh, rest⟩
theorem ownsRow_base {w : World} {base base' : Nat} {e : TypeId} {size n : Nat} {v : Value} {xs : List Value} (h : w.ownsRow base e size v n xs) (hb : base' ≤ base) : w.ownsRow base' e size v n xs := by
  refine ⟨h.1, ?_⟩
  rcases h.2 with ⟨rfl, hn⟩ | ⟨g, cap, cur, rfl, hg, hh, rest⟩
  · exact .inl ⟨rfl, hn⟩
  · exact .inr ⟨g, cap, cur, rfl, by omega, hh, rest⟩
theorem ownsRow_shape {w : World} {base : Nat} {e : TypeId} {size n : Nat} {v : Value} {xs : List Value} (h : w.ownsRow base e size v n xs) : ∃ A cap, v = .slice A n cap ∧ n ≤ cap ∧ cap ≤ maxLen ∧ SegC w w.heap.size A xs := by
  obtain ⟨hl, ⟨rfl, rfl⟩ | ⟨g, cap, cur, rfl, _, hg, hle, hcm, hsz, ht⟩⟩ := h
  · rw [Nat.zero_mul] at hl
    rw [List.eq_nil_of_length_eq_zero hl]
    exact ⟨none, 0, rfl, Nat.le_refl _, by unfold maxLen; omega, SegP.nil _ _ _⟩
  · refine ⟨some ⟨g, 0, none⟩, cap, rfl, hle, hcm, fun h0 => ⟨g, 0, rfl, (Array.getElem?_eq_some_iff.1 hg).1, fun j hj => ?_⟩⟩
    have e : (cur.toList.take (n * size))[j]? = some xs[j] := by rw [ht, List.getElem?_eq_getElem hj]
    rw [List.getElem?_take, if_pos (by omega), Array.getElem?_toList] at e
    simp only [World.cell?, hg, Nat.zero_add]
    simpa using e
theorem ownsRow_ge {w : World} {base : Nat} {e : TypeId} {size n : Nat} {v : Value} {xs : List Value} (h : w.ownsRow base e size v n xs) (k : Nat) (hk : v.ownBlock = some k) : base ≤ k := by
  obtain ⟨_, ⟨rfl, _⟩ | ⟨g, cap, cur, rfl, hg, _⟩⟩ := h
  · simp [Value.ownBlock] at hk
  · simp [Value.ownBlock] at hk; omega
theorem ownsRow_nil (w : World) (base : Nat) (e : TypeId) (size : Nat) : w.ownsRow base e size (.slice none 0 0) 0 [] := ⟨by simp, .inl ⟨rfl, rfl⟩⟩
/-- A block with another tag than the row's is not the row's. -/
theorem own_tag {w : World} {base b : Nat} {e T : TypeId} {size n : Nat} {v : Value} {xs : List Value} {cs : Array Value} {fr : Nat × Nat} (h : w.ownsRow base e size v n xs) (hb : w.heap[b]? = some (.cells cs T fr)) (hT : T ≠ e) : some b ≠ v.ownBlock := by
  obtain ⟨_, ⟨rfl, _⟩ | ⟨g, cap, cur, rfl, _, hg, _⟩⟩ := h
  · simp [Value.ownBlock]
  · intro he
    have : b = g := by simpa [Value.ownBlock] using he
    subst this
    rw [hb] at hg
    injection hg with hg
    injection hg with _ ht
    exact hT ht
theorem one_cells (w : World) (cs : List Value) (T : TypeId) : SegC (w.alloc (.cells cs.toArray T)) (w.heap.size + 1) (some ⟨w.heap.size, 0, none⟩) cs := fun _ => by
  refine ⟨w.heap.size, 0, rfl, Nat.lt_succ_self _, fun j hj => ?_⟩
  have h := heap_alloc_new w (.cells cs.toArray T)
  simp only [World.cell?, h, Nat.zero_add]
  simp [List.getElem?_eq_getElem hj]

/-- Values put behind a row of the call's own. -/
theorem app_own {w : World} {ops : Array Oper} {rest : List Oper} {o : Oper} {a : Act} {Q : Exit → Act → World → Prop} (T e : TypeId) (z : Value) (size bytes : Nat)
    (hT : Tryz.prog.underlying T = some (.slice e)) (hinfo : (Tryz.prog.info? e).map (fun i => (i.zero, i.size, i.bytes)) = some (some z, size, bytes)) (hzs : z.cells.size = size) (hsz : 0 < size)
    (hgd : o.guard = none) (s x : Operand) (ho : o.op = .call { callee := .builtin .append, args := #[s, x], argTypes := #[T, T] })
    (base : Nat) (v : Value) (n : Nat) (xs : List Value) (hs : a.eval s = v) (hown : w.ownsRow base e size v n xs)
    (B : Nat) (A : Option Addr) (m c : Nat) (us : List Value) (hx : a.eval x = .slice A m c) (hr : SegC w B A us) (hl : us.length = m * size) (h1 : ∀ u ∈ us, u.oneCell' = true) (hA : A = none → m = 0)
    (hlen : (n + m) * bytes ≤ 140737488355328) (hnm : n + m ≤ 140737488355328) (hbase : base ≤ w.heap.size)
    (h : ∀ v' w', w'.ownsRow base e size v' (n + m) (xs ++ us) → w.grownBy w' v.ownBlock → Below base w w' → (v'.ownBlock = v.ownBlock ∨ v'.ownBlock = some w.heap.size) → wpList Tryz.prog ops Q rest (a.put o.dst v') w') : wpList Tryz.prog ops Q (o :: rest) a w := by
  obtain ⟨i0, hi, hz0, hz1, hz2⟩ := info_parts hinfo
  have hrun : ∃ v' w', (Builtin.append_ #[T, T] o.type #[v, .slice A m c]).run Tryz.prog w = .ok v' w' ∧ w'.ownsRow base e size v' (n + m) (xs ++ us) ∧ w.grownBy w' v.ownBlock ∧ (v'.ownBlock = v.ownBlock ∨ v'.ownBlock = some w.heap.size) := by
    by_cases h0 : 0 < m
    · obtain ⟨b, of, rfl, _, hc⟩ := hr (by rw [hl]; exact Nat.mul_pos h0 hsz)
      obtain ⟨v', w', hrun, h2, h3, _, h5⟩ := run_append_own_at (P := Tryz.prog) w base T o.type e i0 z size bytes hT hi hz0 hz1 hz2 hzs hsz v n xs hown ⟨b, of, none⟩ m c us hl (fun j u hu => by
          obtain ⟨hj, rfl⟩ := List.getElem?_eq_some_iff.1 hu
          have := hc j hj
          unfold Addr.add
          by_cases hz : j = 0
          · subst hz; rw [if_pos rfl]; exact this
          · rw [if_neg hz]; exact this) h1 (by unfold maxLen; omega) hlen hbase
      exact ⟨v', w', hrun, h2, h3, h5⟩
    · have hm : m = 0 := by omega
      subst hm
      have hu : us = [] := List.eq_nil_of_length_eq_zero (by omega)
      subst hu
      cases A with
      | none =>
        refine ⟨v, w, ?_, by simpa using hown, ⟨rfl, rfl, rfl, Nat.le_refl _, fun _ _ _ => rfl⟩, .inl rfl⟩
        rcases hown.2 with ⟨rfl, rfl⟩ | ⟨g, cap, cur, rfl, _, _, hnc, _⟩
        · simp [Builtin.append_, run_underlying hT, sizeOf, typeInfo, hi, Builtin.lenOf, Builtin.firstCells]
        · simp [Builtin.append_, run_underlying hT, sizeOf, typeInfo, hi, Builtin.lenOf, Builtin.firstCells, hnc, storeCells]
      | some ad =>
        obtain ⟨v', w', hrun, h2, h3, _, h5⟩ := run_append_own_at (P := Tryz.prog) w base T o.type e i0 z size bytes hT hi hz0 hz1 hz2 hzs hsz v n xs hown ad 0 c [] (by simp) (fun j u hu => by simp at hu) (fun u hu => by simp at hu) (by unfold maxLen; omega) hlen hbase
        exact ⟨v', w', hrun, h2, h3, h5⟩
  obtain ⟨v', w', hrun, h2, h3, h4⟩ := hrun
  refine wpList_plain hgd fun K hK => ?_
  unfold Oper.wp execOp
  simp only [ho, resolve, invoke, builtin, Sem.run_bind, Sem.run_pure, Result.andThen_ok, List.map_toArray, List.map_cons, List.map_nil, hs, hx, hrun]
  exact hK _ _ (h v' w' h2 h3 ((Below.refl _ _).grown h3 hbase (fun k hk => ownsRow_ge hown k hk)) h4)

/-- Whole numbers, as cells. -/
def IV (ns : List Int) : List Value := ns.map fun n => .int .i64 n
theorem IV_len (ns : List Int) : (IV ns).length = ns.length := List.length_map _
theorem IV_get (ns : List Int) (j : Nat) (h : j < ns.length) (h' : j < (IV ns).length) : (IV ns)[j] = .int .i64 ns[j] := by simp [IV]
theorem IV_app (a b : List Int) : IV (a ++ b) = IV a ++ IV b := List.map_append
theorem infoInt : (Tryz.prog.info? 3).map (fun i => (i.zero, i.size, i.bytes)) = some (some (.int .i64 0), 1, 8) := by kernel_rfl
/-- The slice at address A reads as these numbers. -/
abbrev Ints (w : World) (B : Nat) (A : Option Addr) (ns : List Int) : Prop := SegC w B A (IV ns)
theorem Ints.at_ {w : World} {ok : Nat → Prop} {A : Option Addr} {ns : List Int} (h : SegP w ok A (IV ns)) {k : Nat} (hk : k < ns.length) : ∃ b o, A = some ⟨b, o, none⟩ ∧ ok b ∧ w.cell? ⟨b, o + k, none⟩ = some (.int .i64 ns[k]) := by
  obtain ⟨b, o, e, hb, hc⟩ := h (by rw [IV_len]; omega)
  refine ⟨b, o, e, hb, ?_⟩
  have := hc k (by rw [IV_len]; exact hk)
  rwa [IV_get ns k hk] at this
/-- A slice of the call's own holds these numbers. -/
def OwnI (w : World) (base : Nat) (v : Value) (ns : List Int) : Prop := w.ownsRow base 3 1 v ns.length (IV ns)
section
variable {w : World} {ops : Array Oper} {rest : List Oper} {o : Oper} {a : Act} {Q : Exit → Act → World → Prop}
theorem app_int (hgd : o.guard = none) (s x : Operand) (ho : o.op = .call { callee := .builtin .append, args := #[s, x], argTypes := #[106, 106] })
    (base : Nat) (v : Value) (ns : List Int) (n : Int) (w0 : World) (hs : a.eval s = v) (hown : OwnI w0 base v ns)
    (hw : w = w0.alloc (.cells #[.int .i64 n] 3)) (g : Nat) (hg : g = w0.heap.size) (hx : a.eval x = .slice (some ⟨g, 0, none⟩) 1 1) (hlen : ns.length ≤ 1048576) (hbase : base ≤ w0.heap.size)
    (h : ∀ v' w', OwnI w' base v' (ns ++ [n]) → w0.grownBy w' v.ownBlock → Below base w0 w' → wpList Tryz.prog ops Q rest (a.put o.dst v') w') : wpList Tryz.prog ops Q (o :: rest) a w := by
  subst hw
  subst hg
  refine app_own 106 3 (.int .i64 0) 1 8 Tryz.underlying106 infoInt rfl (by decide) hgd s x ho base v ns.length (IV ns) hs (World.ownsRow.alloc hown _) (w0.heap.size + 1) (some ⟨w0.heap.size, 0, none⟩) 1 1 [.int .i64 n] hx (one_cells w0 _ _) rfl (fun u hu => by simp at hu; rcases hu with rfl; rfl) (fun h => by cases h) (by omega) (by omega) (by rw [World.size_alloc]; omega) ?_
  intro v' w' h1 h2 h3 _
  refine h v' w' ?_ ⟨h2.os, h2.tape, h2.output, Nat.le_trans (by rw [World.size_alloc]; omega) h2.size, fun k hk hne => (h2.block k (by rw [World.size_alloc]; omega) hne).trans (Below.heap_alloc _ _ _ hk)⟩ (((Below.refl _ _).alloc hbase _).trans h3)
  unfold OwnI
  rw [IV_app, List.length_append]
  exact h1
end
theorem OwnI.below {w w' : World} {base : Nat} {v : Value} {ns : List Int} (h : OwnI w base v ns) (hb : Below w.heap.size w w') : OwnI w' base v ns := ownsRow_below h hb
theorem OwnI.base {w : World} {base base' : Nat} {v : Value} {ns : List Int} (h : OwnI w base v ns) (hb : base' ≤ base) : OwnI w base' v ns := ownsRow_base h hb
theorem OwnI.nil (w : World) (base : Nat) : OwnI w base (.slice none 0 0) [] := ownsRow_nil _ _ _ _
theorem OwnI.shape {w : World} {base : Nat} {v : Value} {ns : List Int} (h : OwnI w base v ns) : ∃ A cap, v = .slice A ns.length cap ∧ ns.length ≤ cap ∧ cap ≤ maxLen ∧ Ints w w.heap.size A ns := ownsRow_shape h

/-- Items, as cells: a kind, and a slice of jobs in blocks of ok. -/
def ItC (w : World) (ok : Nat → Prop) (xs : List Value) (l : List Itm) : Prop :=
  xs.length = l.length * 2 ∧ ∀ k (h : k < l.length), xs[k * 2]? = some (.int .i64 l[k].1) ∧ ∃ A c, xs[k * 2 + 1]? = some (.slice A l[k].2.length c) ∧ l[k].2.length ≤ c ∧ c ≤ maxLen ∧ SegP w ok A (IV l[k].2)
section
variable {w w' : World} {ok ok' : Nat → Prop} {xs ys : List Value} {l m : List Itm}
theorem ItC.nil (w : World) (ok : Nat → Prop) : ItC w ok [] [] := ⟨rfl, fun _ h => absurd h (Nat.not_lt_zero _)⟩
theorem ItC.keep (h : ItC w ok xs l) (hk : ∀ b, ok b → w'.heap[b]? = w.heap[b]?) : ItC w' ok xs l :=
  ⟨h.1, fun k hl => by
    obtain ⟨a, A, c, b, d, e, f⟩ := h.2 k hl
    exact ⟨a, A, c, b, d, e, f.keep hk⟩⟩
theorem ItC.imp (h : ItC w ok xs l) (hi : ∀ b, b < w.heap.size → ok b → ok' b) : ItC w ok' xs l :=
  ⟨h.1, fun k hl => by
    obtain ⟨a, A, c, b, d, e, f⟩ := h.2 k hl
    exact ⟨a, A, c, b, d, e, f.imp hi⟩⟩
theorem ItC.one {A : Option Addr} {c : Nat} {kd : Int} {js : List Int} (h1 : js.length ≤ c) (h2 : c ≤ maxLen) (h : SegP w ok A (IV js)) : ItC w ok [.int .i64 kd, .slice A js.length c] [(kd, js)] :=
  ⟨rfl, fun k hk => by
    have : k = 0 := by simpa using hk
    subst this
    exact ⟨rfl, A, c, rfl, h1, h2, h⟩⟩
theorem ItC.one_cells (h : ItC w ok xs l) : ∀ u ∈ xs, u.oneCell' = true := by
  intro u hu
  obtain ⟨j, hj, rfl⟩ := List.getElem_of_mem hu
  have hl := h.1
  obtain ⟨a, A, c, b, _⟩ := h.2 (j / 2) (by omega)
  rcases Nat.mod_two_eq_zero_or_one j with e | e
  · rw [show j / 2 * 2 = j by omega, List.getElem?_eq_getElem hj] at a
    injection a with a
    rw [a]; rfl
  · rw [show j / 2 * 2 + 1 = j by omega, List.getElem?_eq_getElem hj] at b
    injection b with b
    rw [b]; rfl
end
/-- The slice at address A reads as these items, all below block B. -/
def Its (w : World) (B : Nat) (A : Option Addr) (l : List Itm) : Prop := ∃ xs, SegC w B A xs ∧ ItC w (fun b => b < B) xs l
section
variable {w w' : World} {B B' : Nat} {A : Option Addr} {l : List Itm}
theorem Its.below (h : Its w B A l) (hb : Below B w w') : Its w' B A l := by
  obtain ⟨xs, h1, h2⟩ := h
  exact ⟨xs, h1.below hb, h2.keep fun b h => hb.block b h⟩
theorem Its.more (h : Its w B A l) (hB : B ≤ B') : Its w B' A l := by
  obtain ⟨xs, h1, h2⟩ := h
  exact ⟨xs, h1.more hB, h2.imp fun b _ hb => by omega⟩
theorem Its.nil (w : World) (B : Nat) (A : Option Addr) : Its w B A [] := ⟨[], SegP.nil _ _ _, ItC.nil _ _⟩
theorem Its.none_ (h : Its w B none l) : l.length = 0 := by
  obtain ⟨xs, h1, h2⟩ := h
  by_cases h0 : 0 < l.length
  · obtain ⟨b, o, e, _⟩ := h1 (by rw [h2.1]; omega)
    cases e
  · omega
theorem Its.at_ (h : Its w B A l) {k : Nat} (hk : k < l.length) : ∃ b o, A = some ⟨b, o, none⟩ ∧ b < B ∧ w.cell? ⟨b, o + k * 2, none⟩ = some (.int .i64 l[k].1) ∧
    ∃ A' c, w.cell? ⟨b, o + k * 2 + 1, none⟩ = some (.slice A' l[k].2.length c) ∧ l[k].2.length ≤ c ∧ c ≤ maxLen ∧ Ints w B A' l[k].2 := by
  obtain ⟨xs, h1, h2⟩ := h
  have hl := h2.1
  obtain ⟨b, o, rfl, hb, hc⟩ := h1 (by omega)
  obtain ⟨a, A', c, e, d, f, g⟩ := h2.2 k hk
  refine ⟨b, o, rfl, hb, ?_, A', c, ?_, d, f, g⟩
  · obtain ⟨hj, e0⟩ := List.getElem?_eq_some_iff.1 a
    rw [hc _ hj, e0]
  · obtain ⟨hj, e0⟩ := List.getElem?_eq_some_iff.1 e
    rw [Nat.add_assoc, hc _ hj, e0]
end
/-- A slice of the call's own holds these items; their jobs lie in blocks of ok. -/
def OwnIt (w : World) (T : TypeId) (base : Nat) (ok : Nat → Prop) (v : Value) (l : List Itm) : Prop := ∃ xs, w.ownsRow base T 2 v l.length xs ∧ ItC w ok xs l
theorem OwnIt.nil (w : World) (T : TypeId) (base : Nat) (ok : Nat → Prop) : OwnIt w T base ok (.slice none 0 0) [] := ⟨[], ownsRow_nil _ _ _ _, ItC.nil _ _⟩
theorem OwnIt.shape {w : World} {T : TypeId} {base : Nat} {ok : Nat → Prop} {v : Value} {l : List Itm} (h : OwnIt w T base ok v l) : ∃ A cap, v = .slice A l.length cap ∧ l.length ≤ cap ∧ cap ≤ maxLen ∧ Its w w.heap.size A l := by
  obtain ⟨xs, h1, h2⟩ := h
  obtain ⟨A, cap, e, a, b, c⟩ := ownsRow_shape h1
  exact ⟨A, cap, e, a, b, xs, c, h2.imp fun b hb _ => hb⟩

/-! Maps by whole numbers. -/
/-- The map in block b has these entries, each key once, in the order in which they came. -/
def IMap (w : World) (b : Nat) (l : List (Int × Value)) : Prop := ∃ es clock, w.heap[b]? = some (.map es clock) ∧ es.toList.map (fun e => (e.key, e.val)) = l.map fun x => (Value.int .i64 x.1, x.2)
theorem IMap.new (w : World) : IMap (w.alloc (.map #[] 0)) w.heap.size [] := ⟨#[], 0, heap_alloc_new w _, rfl⟩
theorem IMap.keep {w w' : World} {b : Nat} {l : List (Int × Value)} (h : IMap w b l) (hk : w'.heap[b]? = w.heap[b]?) : IMap w' b l := by
  obtain ⟨es, c, a, e⟩ := h
  exact ⟨es, c, hk.trans a, e⟩
theorem IMap.lt {w : World} {b : Nat} {l : List (Int × Value)} (h : IMap w b l) : b < w.heap.size := by
  obtain ⟨es, c, a, _⟩ := h
  exact lt_of_block a
theorem IMap.below {w w' : World} {b B : Nat} {l : List (Int × Value)} (h : IMap w b l) (hb : Below B w w') (hB : b < B) : IMap w' b l := h.keep (hb.block b hB)
section
variable {w : World} {ops : Array Oper} {rest : List Oper} {o : Oper} {a : Act} {Q : Exit → Act → World → Prop}
end
end Go.Proofs.YtmnmcikbbfcjcaaGreatDoor.Ds
/-
  What a node is at behind an event, as plain functions; the table.
-/
namespace Go.Proofs.YtmnmcikbbfcjcaaGreatDoor.Ns
open Go.Proofs.YtmnmcikbbfcjcaaGreatDoor.Ds
open Go.RowKit

/-- A node: its state, since when, how often it has not booted in time. -/
abbrev N3 := Int × Int × Int
def rowsT : List (List Int) := [[0, 2, 0, 0, 0, 0, 6, 0, 7, 0, 0, 0], [0, 0, 3, 1, 0, 0, 0, 0, 7, 0, 0, 0], [0, 0, 0, 0, 4, 0, 6, 0, 7, 0, 8, 0], [0, 0, 0, 0, 0, 3, 5, 0, 7, 0, 0, 0], [0, 0, 0, 0, 0, 6, 0, 4, 7, 0, 0, 0], [0, 0, 0, 0, 0, 0, 0, 3, 7, 0, 0, 0], [0, 0, 0, 0, 0, 0, 0, 0, 0, 1, 0, 0], [0, 0, 0, 0, 0, 0, 0, 0, 7, 0, 0, 1]]
/-- The state behind an event, and one more; 0: the table has it not. -/
def tabN (s e : Nat) : Int := (rowsT.getD s []).getD e 0
def tabE (s e : Int) : Int := tabN s.toNat e.toNat
def stOk (s : Int) : Bool := decide (0 ≤ s ∧ s ≤ 7)
def evOk (e : Int) : Bool := decide (1 ≤ e ∧ e ≤ 11)
def moreT (t : Int) : Int := if 4611686018427387904 ≤ t then t else t + 1
/-- What is asked of a call: the state is one, the event too, no tries below 0, no time below the node's. -/
def askOk (n : N3) (ev now : Int) : Bool := stOk n.1 && evOk ev && decide (0 ≤ n.2.2) && decide (n.2.1 ≤ now)
def nextN (n : N3) (ev now retry : Int) : N3 × Int :=
  if askOk n ev now = false then ((0, 0, 0), 1)
  else if tabE n.1 ev = 0 then ((0, 0, 0), 11)
  else if ev = 3 then ((if retry < moreT n.2.2 then 6 else tabE n.1 ev - 1, now, moreT n.2.2), 0)
  else if ev = 2 ∨ ev = 9 then ((tabE n.1 ev - 1, now, 0), 0)
  else ((tabE n.1 ev - 1, now, n.2.2), 0)
def upB (s : Int) : Bool := decide (2 ≤ s ∧ s ≤ 5)
def powB (s : Int) : Bool := upB s || decide (s = 1) || decide (s = 7)
def lateB (n : N3) (now boot : Int) : Bool := decide (n.1 = 1 ∧ n.2.1 ≤ now ∧ 0 ≤ boot ∧ 2 * boot < now - n.2.1)
theorem tab_le : ∀ s < 8, ∀ e < 12, 0 ≤ tabN s e ∧ tabN s e ≤ 8 := by decide
theorem st_nat {s : Int} (h : stOk s = true) : ∃ n : Nat, s = n ∧ n < 8 := by
  have := of_decide_eq_true h
  exact ⟨s.toNat, by omega, by omega⟩
theorem ev_nat {s : Int} (h : evOk s = true) : ∃ n : Nat, s = n ∧ 1 ≤ n ∧ n < 12 := by
  have := of_decide_eq_true h
  exact ⟨s.toNat, by omega, by omega, by omega⟩
theorem ask_iff {n : N3} {ev now : Int} : askOk n ev now = true ↔ stOk n.1 = true ∧ evOk ev = true ∧ 0 ≤ n.2.2 ∧ n.2.1 ≤ now := by
  unfold askOk
  simp only [Bool.and_eq_true, decide_eq_true_eq, and_assoc]
section
variable {n : N3} {ev now retry : Int}
theorem next_arg (h : askOk n ev now = false) : nextN n ev now retry = ((0, 0, 0), 1) := if_pos h
theorem next_state (h : askOk n ev now = true) (h0 : tabE n.1 ev = 0) : nextN n ev now retry = ((0, 0, 0), 11) := by
  unfold nextN
  rw [if_neg (by rw [h]; decide), if_pos h0]
theorem next_late (h : askOk n ev now = true) (h0 : tabE n.1 ev ≠ 0) (h3 : ev = 3) : nextN n ev now retry = ((if retry < moreT n.2.2 then 6 else tabE n.1 ev - 1, now, moreT n.2.2), 0) := by
  unfold nextN
  rw [if_neg (by rw [h]; decide), if_neg h0, if_pos h3]
theorem next_zero (h : askOk n ev now = true) (h0 : tabE n.1 ev ≠ 0) (h2 : ev = 2 ∨ ev = 9) : nextN n ev now retry = ((tabE n.1 ev - 1, now, 0), 0) := by
  unfold nextN
  rw [if_neg (by rw [h]; decide), if_neg h0, if_neg (by omega), if_pos h2]
theorem next_else (h : askOk n ev now = true) (h0 : tabE n.1 ev ≠ 0) (h3 : ev ≠ 3) (h2 : ev ≠ 2) (h9 : ev ≠ 9) : nextN n ev now retry = ((tabE n.1 ev - 1, now, n.2.2), 0) := by
  unfold nextN
  rw [if_neg (by rw [h]; decide), if_neg h0, if_neg h3, if_neg (by omega)]
end
/-- What a node is at behind an event that may come. -/
theorem next_ok {n : N3} {ev now retry : Int} {x : N3} (h : nextN n ev now retry = (x, 0)) :
    askOk n ev now = true ∧ tabE n.1 ev ≠ 0 ∧ x.2.1 = now ∧ 0 ≤ x.2.2 ∧ (x.1 = tabE n.1 ev - 1 ∨ ev = 3 ∧ x.1 = 6) := by
  by_cases ha : askOk n ev now = true
  · by_cases h0 : tabE n.1 ev = 0
    · rw [next_state ha h0] at h
      simp at h
    · have ht := (ask_iff.1 ha).2.2.1
      refine ⟨ha, h0, ?_⟩
      by_cases h3 : ev = 3
      · rw [next_late ha h0 h3] at h
        injection h with h _
        subst h
        refine ⟨rfl, by show 0 ≤ moreT n.2.2; unfold moreT; split <;> omega, ?_⟩
        show (if retry < moreT n.2.2 then 6 else _) = _ ∨ _
        by_cases hr : retry < moreT n.2.2
        · exact .inr ⟨h3, if_pos hr⟩
        · exact .inl (if_neg hr)
      · by_cases h2 : ev = 2 ∨ ev = 9
        · rw [next_zero ha h0 h2] at h
          injection h with h _
          subst h
          exact ⟨rfl, by show (0 : Int) ≤ 0; omega, .inl rfl⟩
        · rw [next_else ha h0 h3 (by omega) (by omega)] at h
          injection h with h _
          subst h
          exact ⟨rfl, ht, .inl rfl⟩
  · rw [next_arg (by simpa using ha)] at h
    simp at h
theorem tab_turn : ∀ s < 8, ∀ e < 12, tabN s e ≠ 0 → tabN s e - 1 ≠ (s : Int) := by decide
theorem tab_stop1 : ∀ s < 8, ∀ e < 12, tabN s e = 8 → s = 2 := by decide
theorem tab_stop2 : ∀ s < 8, ∀ e < 12, tabN s e = 4 → s = 2 ∨ s = 4 := by decide
theorem tab_stop3 : ∀ s < 8, tabN s 8 ≠ 0 → tabN s 8 = 7 := by decide
theorem tab_stop4 : ∀ s < 8, ∀ e < 12, s = 6 → tabN s e ≠ 0 → e = 9 := by decide
theorem tab_stop5 : ∀ s < 8, ∀ e < 12, e = 3 → tabN s e ≠ 0 → s = 1 := by decide
theorem tab_stop (s : Nat) (hs : s < 8) (e : Nat) (he : e < 12) : (tabN s e = 8 → s = 2) ∧ (tabN s e = 4 → s = 2 ∨ s = 4) ∧ (tabN s 8 ≠ 0 → tabN s 8 = 7) ∧ (s = 6 → tabN s e ≠ 0 → e = 9) ∧ (e = 3 → tabN s e ≠ 0 → s = 1) :=
  ⟨tab_stop1 s hs e he, tab_stop2 s hs e he, tab_stop3 s hs, tab_stop4 s hs e he, tab_stop5 s hs e he⟩
/-- What the laws ask of an event that has come. -/
theorem next_facts {n : N3} {ev now retry : Int} {x : N3} (h : nextN n ev now retry = (x, 0)) :
    0 ≤ x.1 ∧ x.1 ≤ 7 ∧ x.1 ≠ n.1 ∧ (x.1 = 7 → n.1 = 2) ∧ (x.1 = 3 → n.1 = 2 ∨ n.1 = 4) ∧ (ev = 8 → x.1 = 6) ∧ (n.1 = 6 → ev = 9) := by
  obtain ⟨ha, h0, _, _, hx⟩ := next_ok h
  obtain ⟨hs, he, _, _⟩ := ask_iff.1 ha
  obtain ⟨s, es, hs8⟩ := st_nat hs
  obtain ⟨e, ee, he1, he12⟩ := ev_nat he
  obtain ⟨x1, _⟩ := x
  simp only at hx ⊢
  rw [es, ee] at hx h0
  rw [es, ee]
  have h1 := tab_le s hs8 e he12
  have h2 := tab_turn s hs8 e he12
  obtain ⟨h3, h4, h5, h6, h7⟩ := tab_stop s hs8 e he12
  unfold tabE at h0 hx
  rw [Int.toNat_natCast, Int.toNat_natCast] at h0 hx
  have h2 := h2 h0
  have h6 := fun h => h6 h h0
  have h7 := fun h => h7 h h0
  by_cases e8 : e = 8
  · subst e8
    have h5 := h5 h0
    rcases hx with hx | ⟨hx, _⟩
    · refine ⟨by omega, by omega, by omega, fun h => by have := h3 (by omega); omega, fun h => by omega, fun _ => by omega, fun h => by have := h6 (by omega); omega⟩
    · omega
  · rcases hx with hx | ⟨hx, hx6⟩
    · refine ⟨by omega, by omega, by omega, fun h => by have := h3 (by omega); omega, fun h => by have := h4 (by omega); omega, fun h => by omega, fun h => by have := h6 (by omega); omega⟩
    · have h7 := h7 (by omega)
      refine ⟨by omega, by omega, by omega, fun h => by omega, fun h => by omega, fun h => by omega, fun h => by omega⟩
end Go.Proofs.YtmnmcikbbfcjcaaGreatDoor.Ns
/-
  The table, as it lies in memory; a node in a block; the smallest calls.
-/
namespace Go.Proofs.YtmnmcikbbfcjcaaGreatDoor.Ns
open Go.Proofs.YtmnmcikbbfcjcaaGreatDoor.Ds
open Go.RowKit

abbrev TNd : TypeId := 55
def nv (n : N3) : Value := .agg #[.int .i64 n.1, .int .i64 n.2.1, .int .i64 n.2.2]
/-- The table, as the program's text lays it. -/
def TabW (w : World) : Prop := ∀ s e : Nat, s < 8 → e < 12 → w.cell? ⟨0, s * 12 + e, none⟩ = some (.int .i64 (tabN s e))
theorem TabW.lt {w : World} (h : TabW w) : 0 < w.heap.size := by
  have h0 := h 0 0 (by omega) (by omega)
  by_cases hb : 0 < w.heap.size
  · exact hb
  · simp only [World.cell?] at h0
    rw [Array.getElem?_eq_none (by omega)] at h0
    cases h0
theorem TabW.below {w w' : World} (h : TabW w) (hb : Below w.heap.size w w') : TabW w' := fun s e hs he => by
  have h0 := h s e hs he
  have hk := hb.block _ h.lt
  unfold World.cell? at h0 ⊢
  rw [hk]
  exact h0
/-- A node, in a block of its own. -/
def NB (w : World) (b : Nat) (T : TypeId) (n : N3) : Prop := w.heap[b]? = some (.cells #[.int .i64 n.1, .int .i64 n.2.1, .int .i64 n.2.2] T (0, 0))
theorem NB.facts {w : World} {b : Nat} {T : TypeId} {n : N3} (h : NB w b T n) : w.cell? ⟨b, 0, none⟩ = some (.int .i64 n.1) ∧ w.cell? ⟨b, 1, none⟩ = some (.int .i64 n.2.1) ∧ w.cell? ⟨b, 2, none⟩ = some (.int .i64 n.2.2) ∧ w.frozen? ⟨b, 0, none⟩ = false ∧ w.frozen? ⟨b, 1, none⟩ = false ∧ w.frozen? ⟨b, 2, none⟩ = false ∧ b < w.heap.size := by
  unfold NB at h
  exact ⟨by simp [World.cell?, h], by simp [World.cell?, h], by simp [World.cell?, h], by simp [World.frozen?, h], by simp [World.frozen?, h], by simp [World.frozen?, h], lt_of_block h⟩
theorem NB.below {w w' : World} {B b : Nat} {T : TypeId} {n : N3} (h : NB w b T n) (hb : Below B w w') (hB : b < B) : NB w' b T n := (hb.block b hB).trans h
theorem NB.new (w : World) (T : TypeId) (n : N3) : NB (w.alloc (.cells #[.int .i64 n.1, .int .i64 n.2.1, .int .i64 n.2.2] T)) w.heap.size T n := heap_alloc_new w _
theorem NB.alloc {w : World} {b : Nat} {T : TypeId} {n : N3} (h : NB w b T n) (o : Obj) : NB (w.alloc o) b T n := (Below.heap_alloc w o b (lt_of_block h)).trans h
theorem block_set {w : World} {b : Nat} {cs : Array Value} {t : TypeId} (i : Nat) (u : Value) (h : w.heap[b]? = some (.cells cs t (0, 0))) : (w.setCell ⟨b, i, none⟩ u).heap[b]? = some (.cells (cs.setIfInBounds i u) t (0, 0)) := by
  unfold World.setCell
  simp [Array.getElem?_modify, h]
theorem NB.other {w : World} {b c : Nat} {T : TypeId} {n : N3} (h : NB w b T n) (i : Nat) (u : Value) (hne : b ≠ c) : NB (w.setCell ⟨c, i, none⟩ u) b T n := (Below.heap_setCell _ _ _ _ hne).trans h
theorem NB.set0 {w : World} {b : Nat} {T : TypeId} {n : N3} (h : NB w b T n) (x : Int) : NB (w.setCell ⟨b, 0, none⟩ (.int .i64 x)) b T (x, n.2) := block_set 0 (.int .i64 x) h
theorem NB.set1 {w : World} {b : Nat} {T : TypeId} {n : N3} (h : NB w b T n) (x : Int) : NB (w.setCell ⟨b, 1, none⟩ (.int .i64 x)) b T (n.1, x, n.2.2) := block_set 1 (.int .i64 x) h
theorem NB.set2 {w : World} {b : Nat} {T : TypeId} {n : N3} (h : NB w b T n) (x : Int) : NB (w.setCell ⟨b, 2, none⟩ (.int .i64 x)) b T (n.1, n.2.1, x) := block_set 2 (.int .i64 x) h
/-- What a call that gives a truth hands back. -/
def BoolPost (w : World) (b : Bool) (e : Ending) (w' : World) : Prop := e = .returned (.bool b) ∧ Below w.heap.size w w'
theorem isState_any (n : Int) (w : World) : Calls Tryz.prog 86 #[.int .i64 n] w fun e w' => e = .returned (.bool (stOk n)) ∧ w' = w := by
  obtain ⟨b, hb⟩ : ∃ b, stOk n = b := ⟨_, rfl⟩
  rw [hb]
  by_cases h1 : 0 ≤ n
  · by_cases h2 : n ≤ 7
    · have hb : b = true := by rw [← hb]; exact decide_eq_true ⟨h1, h2⟩
      subst hb
      go_enter Tryz.func86, Tryz.ntmps86
      go_wp2
      go_ret
      exact ⟨rfl, rfl⟩
    · have hb : b = false := by rw [← hb]; exact decide_eq_false fun h => h2 h.2
      subst hb
      go_enter Tryz.func86, Tryz.ntmps86
      go_wp2
      go_ret
      exact ⟨rfl, rfl⟩
  · have hb : b = false := by rw [← hb]; exact decide_eq_false fun h => h1 h.1
    subst hb
    go_enter Tryz.func86, Tryz.ntmps86
    go_wp2
    go_ret
    exact ⟨rfl, rfl⟩
theorem isEvent_any (n : Int) (w : World) : Calls Tryz.prog 87 #[.int .i64 n] w fun e w' => e = .returned (.bool (evOk n)) ∧ w' = w := by
  obtain ⟨b, hb⟩ : ∃ b, evOk n = b := ⟨_, rfl⟩
  rw [hb]
  by_cases h1 : 1 ≤ n
  · by_cases h2 : n ≤ 11
    · have hb : b = true := by rw [← hb]; exact decide_eq_true ⟨h1, h2⟩
      subst hb
      go_enter Tryz.func87, Tryz.ntmps87
      go_wp2
      go_ret
      exact ⟨rfl, rfl⟩
    · have hb : b = false := by rw [← hb]; exact decide_eq_false fun h => h2 h.2
      subst hb
      go_enter Tryz.func87, Tryz.ntmps87
      go_wp2
      go_ret
      exact ⟨rfl, rfl⟩
  · have hb : b = false := by rw [← hb]; exact decide_eq_false fun h => h1 h.1
    subst hb
    go_enter Tryz.func87, Tryz.ntmps87
    go_wp2
    go_ret
    exact ⟨rfl, rfl⟩
theorem more_any (t : Int) (w : World) (h0 : 0 ≤ t) : Calls Tryz.prog 88 #[.int .i64 t] w fun e w' => e = .returned (.int .i64 (moreT t)) ∧ w' = w := by
  unfold moreT
  by_cases h : 4611686018427387904 ≤ t
  · rw [if_pos h]
    go_enter Tryz.func88, Tryz.ntmps88
    go_wp2
    go_ret
    exact ⟨rfl, rfl⟩
  · rw [if_neg h]
    go_enter Tryz.func88, Tryz.ntmps88
    go_wp2
    go_ret
    exact ⟨rfl, rfl⟩
end Go.Proofs.YtmnmcikbbfcjcaaGreatDoor.Ns
/-
  Next, walked.
-/
namespace Go.Proofs.YtmnmcikbbfcjcaaGreatDoor.Ns
open Go.Proofs.YtmnmcikbbfcjcaaGreatDoor.Ds
open Go.RowKit

/-- What Next hands back. -/
def NextPost (w : World) (r : N3 × Int) (e : Ending) (w' : World) : Prop := e = .returned (.tuple #[nv r.1, .int .i64 r.2]) ∧ Below w.heap.size w w'
/-- The two blocks that Next makes. -/
theorem next_start (w : World) (n : N3) : NB ((w.alloc (.cells #[.int .i64 n.1, .int .i64 n.2.1, .int .i64 n.2.2] TNd)).alloc (.cells #[.int .i64 0, .int .i64 0, .int .i64 0] TNd)) w.heap.size TNd n ∧ NB ((w.alloc (.cells #[.int .i64 n.1, .int .i64 n.2.1, .int .i64 n.2.2] TNd)).alloc (.cells #[.int .i64 0, .int .i64 0, .int .i64 0] TNd)) (w.heap.size + 1) TNd (0, 0, 0) ∧
    Below w.heap.size w ((w.alloc (.cells #[.int .i64 n.1, .int .i64 n.2.1, .int .i64 n.2.2] TNd)).alloc (.cells #[.int .i64 0, .int .i64 0, .int .i64 0] TNd)) ∧ ((w.alloc (.cells #[.int .i64 n.1, .int .i64 n.2.1, .int .i64 n.2.2] TNd)).alloc (.cells #[.int .i64 0, .int .i64 0, .int .i64 0] TNd)).heap.size = w.heap.size + 2 := by
  refine ⟨(NB.new w TNd n).alloc _, ?_, ((Below.refl _ _).alloc (Nat.le_refl _) _).alloc (by rw [World.size_alloc]; omega) _, by rw [World.size_alloc, World.size_alloc]⟩
  have h := NB.new (w.alloc (.cells #[.int .i64 n.1, .int .i64 n.2.1, .int .i64 n.2.2] TNd)) TNd (0, 0, 0)
  rw [World.size_alloc] at h
  exact h
theorem set3 {B : Nat} {a w : World} (h : Below B a w) {b : Nat} (hb : B ≤ b) (x y z : Value) : Below B a (((w.setCell ⟨b, 0, none⟩ x).setCell ⟨b, 1, none⟩ y).setCell ⟨b, 2, none⟩ z) :=
  ((h.setCell (p := ⟨b, 0, none⟩) hb _).setCell (p := ⟨b, 1, none⟩) hb _).setCell (p := ⟨b, 2, none⟩) hb _
theorem NB.over {w : World} {b : Nat} {T : TypeId} {n : N3} (h : NB w b T n) (x y z : Int) : NB (((w.setCell ⟨b, 0, none⟩ (.int .i64 x)).setCell ⟨b, 1, none⟩ (.int .i64 y)).setCell ⟨b, 2, none⟩ (.int .i64 z)) b T (x, y, z) := ((h.set0 x).set1 y).set2 z
set_option maxRecDepth 100000 in
/-- What a call hands back whose result lies in a block. -/
theorem ret_next {W : World} {P : Ending → World → Prop} {a : Act} {r : Nat} {n : N3} {e : Int} (hd : a.defers = []) (h8 : a.tmps[8]? = some (.pointer (some ⟨r, 0, none⟩))) (h9 : a.tmps[9]? = some (.int .i64 e)) (hb : NB W r TNd n)
    (hp : P (.returned (.tuple #[nv n, .int .i64 e])) W) : bodyPost Tryz.prog Tryz.f52 P .ret a W := by
  obtain ⟨k0, k1, k2, _⟩ := hb.facts
  exact bodyPost_ret (v := .tuple #[nv n, .int .i64 e]) (by simp [results, Tryz.results52, go_sem, h8, h9, k0, k1, k2, nv]) hd hp
set_option maxRecDepth 100000 in
set_option maxHeartbeats 4000000 in
/-- What is refused. -/
theorem Next_arg (n : N3) (ev now retry : Int) (w : World) (h : askOk n ev now = false) :
    Calls Tryz.prog 52 #[nv n, .int .i64 ev, .int .i64 now, .int .i64 retry] w (NextPost w ((0, 0, 0), 1)) := by
  obtain ⟨t0, t1, t2, t3⟩ := next_start w n
  obtain ⟨s, si, t⟩ := n
  unfold nv
  simp only at t0 t1 t2 t3 ⊢
  have hS := fun W => isState_any s W
  have hE := fun W => isEvent_any ev W
  have hc : stOk s = false ∨ (stOk s = true ∧ evOk ev = false) ∨ (stOk s = true ∧ evOk ev = true ∧ t < 0) ∨ (stOk s = true ∧ evOk ev = true ∧ ¬ t < 0 ∧ now < si) := by
    unfold askOk at h
    simp only at h
    cases h1 : stOk s with
    | false => exact .inl rfl
    | true =>
      cases h2 : evOk ev with
      | false => exact .inr (.inl ⟨rfl, rfl⟩)
      | true =>
        rw [h1, h2] at h
        simp at h
        by_cases h3 : t < 0
        · exact .inr (.inr (.inl ⟨rfl, rfl, h3⟩))
        · exact .inr (.inr (.inr ⟨rfl, rfl, h3, by have := h (by omega); omega⟩))
  clear h
  obtain ⟨c0, c1, c2, f0, f1, f2, hlt⟩ := t0.facts
  obtain ⟨d0, d1, d2, g0, g1, g2, hlt2⟩ := t1.facts
  simp only at c0 c1 c2 d0 d1 d2
  rcases hc with h1 | ⟨h1, h2⟩ | ⟨h1, h2, h3⟩ | ⟨h1, h2, h3, h4⟩
  all_goals
    first | rw [h1] at hS | skip
    first | rw [h2] at hE | skip
    replace t0 := fhid t0
    replace t1 := fhid t1
    replace t2 := fhid t2
    replace t3 := fhid t3
    go_enter Tryz.func52, Tryz.ntmps52
    go_upto_region 1 with fail
    generalize ((w.alloc _).alloc _) = W at *
    go_wp2_with (first | (go_at_call 86; (with_reducible refine (hS _).mono ?_); rintro e w3 ⟨rfl, rfl⟩) | (go_at_call 87; (with_reducible refine (hE _).mono ?_); rintro e w3 ⟨rfl, rfl⟩) | fail)
    exact ret_next rfl rfl rfl (t1.out.over 0 0 0) ⟨rfl, set3 t2.out (by omega) _ _ _⟩
set_option maxRecDepth 100000 in
set_option maxHeartbeats 8000000 in
/-- What the table has not; what it has. -/
theorem Next_yes (n : N3) (ev now retry : Int) (w : World) (hT : TabW w) (h : askOk n ev now = true) :
    Calls Tryz.prog 52 #[nv n, .int .i64 ev, .int .i64 now, .int .i64 retry] w (NextPost w (nextN n ev now retry)) := by
  obtain ⟨t0, t1, t2, t3⟩ := next_start w n
  obtain ⟨h1, h2, h3, h4⟩ := ask_iff.1 h
  obtain ⟨s, hs, hs8⟩ := st_nat h1
  obtain ⟨e, he, he1, he12⟩ := ev_nat h2
  have hS := fun W => isState_any n.1 W
  have hE := fun W => isEvent_any ev W
  have hM := fun W => more_any n.2.2 W h3
  rw [h1] at hS
  rw [h2] at hE
  have hTc := hT.below t2 s e hs8 he12
  have hte : tabN s e = tabE n.1 ev := by unfold tabE; rw [hs, he, Int.toNat_natCast, Int.toNat_natCast]
  rw [hte] at hTc
  obtain ⟨hx0, hx8⟩ : 0 ≤ tabE n.1 ev ∧ tabE n.1 ev ≤ 8 := by rw [← hte]; exact tab_le s hs8 e he12
  have n0 := fun h0 => next_state (retry := retry) h h0
  have n3 := fun h0 h3 => next_late (retry := retry) h h0 h3
  have n2 := fun h0 h2 => next_zero (retry := retry) h h0 h2
  have n1 := fun h0 h3 h2 h9 => next_else (retry := retry) h h0 h3 h2 h9
  generalize nextN n ev now retry = R at *
  generalize tabE n.1 ev = x at *
  obtain ⟨st, si, t⟩ := n
  unfold nv
  simp only at *
  clear h h1 h2 hT hte
  subst hs
  subst he
  obtain ⟨c0, c1, c2, f0, f1, f2, hlt⟩ := t0.facts
  obtain ⟨d0, d1, d2, g0, g1, g2, hlt2⟩ := t1.facts
  simp only at c0 c1 c2 d0 d1 d2
  have i3 : ¬ t < 0 := by omega
  have i4 : ¬ now < si := by omega
  have i5 : (s : Int) < 8 := by omega
  have i6 : (e : Int) < 12 := by omega
  have i7 : ¬ (s : Int) < 0 := by omega
  have i8 : ¬ (e : Int) < 0 := by omega
  by_cases hx : x = 0
  · subst hx
    obtain rfl := n0 rfl
    clear n0 n1 n2 n3
    replace t0 := fhid t0
    replace t1 := fhid t1
    replace t2 := fhid t2
    replace t3 := fhid t3
    go_enter Tryz.func52, Tryz.ntmps52
    go_upto_region 1 with fail
    generalize ((w.alloc _).alloc _) = W at *
    go_upto_region 3 with (first | (go_at_call 86; (with_reducible refine (hS _).mono ?_); rintro e w3 ⟨rfl, rfl⟩) | (go_at_call 87; (with_reducible refine (hE _).mono ?_); rintro e w3 ⟨rfl, rfl⟩) | fail)
    go_wp2_with fail
    exact ret_next rfl rfl rfl (t1.out.over 0 0 0) ⟨rfl, set3 t2.out (by omega) _ _ _⟩
  · have bx : (x == 0) = false := by simpa using hx
    have xw : -9223372036854775808 ≤ x - 1 ∧ x - 1 ≤ 9223372036854775807 := by omega
    clear n0
    have n1 := n1 hx
    have n2 := n2 hx
    have n3 := n3 hx
    replace t0 := fhid t0
    replace t1 := fhid t1
    replace t2 := fhid t2
    replace t3 := fhid t3
    replace n1 := fhid n1
    replace n2 := fhid n2
    replace n3 := fhid n3
    clear hx
    go_enter Tryz.func52, Tryz.ntmps52
    go_upto_region 1 with fail
    generalize ((w.alloc _).alloc _) = W at *
    go_upto_region 7 with (first | (go_at_call 86; (with_reducible refine (hS _).mono ?_); rintro e w3 ⟨rfl, rfl⟩) | (go_at_call 87; (with_reducible refine (hE _).mono ?_); rintro e w3 ⟨rfl, rfl⟩) | fail)
    have q0 : NB ((w3.setCell ⟨w.heap.size, 0, none⟩ (.int .i64 (x - 1))).setCell ⟨w.heap.size, 1, none⟩ (.int .i64 now)) w.heap.size TNd (x - 1, now, t) := (NB.set0 t0.out (x - 1)).set1 now
    have q1 : NB ((w3.setCell ⟨w.heap.size, 0, none⟩ (.int .i64 (x - 1))).setCell ⟨w.heap.size, 1, none⟩ (.int .i64 now)) (w.heap.size + 1) TNd (0, 0, 0) := (NB.other t1.out 0 _ (by omega)).other 1 _ (by omega)
    have q2 : Below w.heap.size w ((w3.setCell ⟨w.heap.size, 0, none⟩ (.int .i64 (x - 1))).setCell ⟨w.heap.size, 1, none⟩ (.int .i64 now)) := (t2.out.setCell (p := ⟨w.heap.size, 0, none⟩) (Nat.le_refl _) _).setCell (p := ⟨w.heap.size, 1, none⟩) (Nat.le_refl _) _
    clear c0 c1 c2 d0 d1 d2 f0 f1 f2 g0 g1 g2 hlt hlt2 t0 t1 t2 t3 hTc hS hE
    generalize ((w3.setCell ⟨w.heap.size, 0, none⟩ (.int .i64 (x - 1))).setCell ⟨w.heap.size, 1, none⟩ (.int .i64 now)) = V at *
    obtain ⟨c0, c1, c2, f0, f1, f2, hlt⟩ := q0.facts
    obtain ⟨d0, d1, d2, g0, g1, g2, hlt2⟩ := q1.facts
    simp only at c0 c1 c2 d0 d1 d2
    replace q0 := fhid q0
    replace q1 := fhid q1
    replace q2 := fhid q2
    by_cases e3 : e = 3
    · subst e3
      have n3 := n3.out rfl
      clear n1 n2
      go_upto_region 10 with (go_at_call 88; (with_reducible refine (hM _).mono ?_); rintro e w4 ⟨rfl, rfl⟩)
      have r0 : NB (w4.setCell ⟨w.heap.size, 2, none⟩ (.int .i64 (moreT t))) w.heap.size TNd (x - 1, now, moreT t) := NB.set2 q0.out (moreT t)
      have r1 : NB (w4.setCell ⟨w.heap.size, 2, none⟩ (.int .i64 (moreT t))) (w.heap.size + 1) TNd (0, 0, 0) := NB.other q1.out 2 _ (by omega)
      have r2 : Below w.heap.size w (w4.setCell ⟨w.heap.size, 2, none⟩ (.int .i64 (moreT t))) := q2.out.setCell (p := ⟨w.heap.size, 2, none⟩) (Nat.le_refl _) _
      clear c0 c1 c2 d0 d1 d2 f0 f1 f2 g0 g1 g2 hlt hlt2 q0 q1 q2 hM
      generalize w4.setCell ⟨w.heap.size, 2, none⟩ (.int .i64 (moreT t)) = V at *
      generalize moreT t = m at *
      obtain ⟨c0, c1, c2, f0, f1, f2, hlt⟩ := r0.facts
      obtain ⟨d0, d1, d2, g0, g1, g2, hlt2⟩ := r1.facts
      simp only at c0 c1 c2 d0 d1 d2
      replace r0 := fhid r0
      replace r1 := fhid r1
      replace r2 := fhid r2
      by_cases hm : retry < m
      · rw [if_pos hm] at n3
        subst n3
        have i9 : m > retry := hm
        go_upto_region 15 with fail
        have s1 : NB (V.setCell ⟨w.heap.size, 0, none⟩ (.int .i64 6)) w.heap.size TNd (6, now, m) := NB.set0 r0.out 6
        have s2 : NB (V.setCell ⟨w.heap.size, 0, none⟩ (.int .i64 6)) (w.heap.size + 1) TNd (0, 0, 0) := NB.other r1.out 0 _ (by omega)
        have s3 : Below w.heap.size w (V.setCell ⟨w.heap.size, 0, none⟩ (.int .i64 6)) := r2.out.setCell (p := ⟨w.heap.size, 0, none⟩) (Nat.le_refl _) _
        clear c0 c1 c2 d0 d1 d2 f0 f1 f2 g0 g1 g2 hlt hlt2 r0 r1 r2
        generalize V.setCell ⟨w.heap.size, 0, none⟩ (.int .i64 6) = U at *
        obtain ⟨c0, c1, c2, f0, f1, f2, hlt⟩ := s1.facts
        obtain ⟨d0, d1, d2, g0, g1, g2, hlt2⟩ := s2.facts
        simp only at c0 c1 c2 d0 d1 d2
        replace s1 := fhid s1
        replace s2 := fhid s2
        replace s3 := fhid s3
        go_wp2_with fail
        exact ret_next rfl rfl rfl (s2.out.over 6 now m) ⟨rfl, set3 s3.out (by omega) _ _ _⟩
      · rw [if_neg hm] at n3
        subst n3
        have i9 : ¬ m > retry := hm
        go_wp2_with fail
        exact ret_next rfl rfl rfl (r1.out.over (x - 1) now m) ⟨rfl, set3 r2.out (by omega) _ _ _⟩
    · by_cases e2 : e = 2 ∨ e = 9
      · have n2 := n2.out (by omega)
        subst n2
        have b3 : ((e : Int) == 3) = false := by simpa using (show ¬ (e : Int) = 3 by omega)
        clear n1 n3
        rcases e2 with rfl | rfl
        all_goals
          go_upto_region 15 with fail
          have r0 : NB (V.setCell ⟨w.heap.size, 2, none⟩ (.int .i64 0)) w.heap.size TNd (x - 1, now, 0) := NB.set2 q0.out 0
          have r1 : NB (V.setCell ⟨w.heap.size, 2, none⟩ (.int .i64 0)) (w.heap.size + 1) TNd (0, 0, 0) := NB.other q1.out 2 _ (by omega)
          have r2 : Below w.heap.size w (V.setCell ⟨w.heap.size, 2, none⟩ (.int .i64 0)) := q2.out.setCell (p := ⟨w.heap.size, 2, none⟩) (Nat.le_refl _) _
          clear c0 c1 c2 d0 d1 d2 f0 f1 f2 g0 g1 g2 hlt hlt2 q0 q1 q2 hM
          generalize V.setCell ⟨w.heap.size, 2, none⟩ (.int .i64 0) = U at *
          obtain ⟨c0, c1, c2, f0, f1, f2, hlt⟩ := r0.facts
          obtain ⟨d0, d1, d2, g0, g1, g2, hlt2⟩ := r1.facts
          simp only at c0 c1 c2 d0 d1 d2
          replace r0 := fhid r0
          replace r1 := fhid r1
          replace r2 := fhid r2
          go_wp2_with fail
          exact ret_next rfl rfl rfl (r1.out.over (x - 1) now 0) ⟨rfl, set3 r2.out (by omega) _ _ _⟩
      · have n1 := n1.out (by omega) (by omega) (by omega)
        subst n1
        have b3 : ((e : Int) == 3) = false := by simpa using (show ¬ (e : Int) = 3 by omega)
        have b2 : ((e : Int) == 2) = false := by simpa using (show ¬ (e : Int) = 2 by omega)
        have b9 : ((e : Int) == 9) = false := by simpa using (show ¬ (e : Int) = 9 by omega)
        clear n2 n3
        go_wp2_with fail
        exact ret_next rfl rfl rfl (q1.out.over (x - 1) now t) ⟨rfl, set3 q2.out (by omega) _ _ _⟩
/-- A node behind an event. -/
theorem Next_any (n : N3) (ev now retry : Int) (w : World) (hT : TabW w) :
    Calls Tryz.prog 52 #[nv n, .int .i64 ev, .int .i64 now, .int .i64 retry] w (NextPost w (nextN n ev now retry)) := by
  by_cases h : askOk n ev now = true
  · exact Next_yes n ev now retry w hT h
  · have h : askOk n ev now = false := by simpa using h
    rw [next_arg h]
    exact Next_arg n ev now retry w h
end Go.Proofs.YtmnmcikbbfcjcaaGreatDoor.Ns
/-
  What each statement asks beside: a node boots; the document's node as the program's.
-/
namespace Go.Proofs.YtmnmcikbbfcjcaaGreatDoor.Ns
open Go.Proofs.YtmnmcikbbfcjcaaGreatDoor.Ds
open Go.RowKit

theorem up_any (s : Int) (w : World) : Calls Tryz.prog 60 #[.int .i64 s] w fun e w' => e = .returned (.bool (upB s)) ∧ w' = w := by
  obtain ⟨b, hb⟩ : ∃ b, upB s = b := ⟨_, rfl⟩
  rw [hb]
  by_cases h2 : s = 2
  · subst h2
    obtain rfl : true = b := hb
    go_enter Tryz.func60, Tryz.ntmps60
    go_wp2
    go_ret
    exact ⟨rfl, rfl⟩
  · by_cases h3 : s = 3
    · subst h3
      obtain rfl : true = b := hb
      go_enter Tryz.func60, Tryz.ntmps60
      go_wp2
      go_ret
      exact ⟨rfl, rfl⟩
    · by_cases h4 : s = 4
      · subst h4
        obtain rfl : true = b := hb
        go_enter Tryz.func60, Tryz.ntmps60
        go_wp2
        go_ret
        exact ⟨rfl, rfl⟩
      · by_cases h5 : s = 5
        · subst h5
          obtain rfl : true = b := hb
          go_enter Tryz.func60, Tryz.ntmps60
          go_wp2
          go_ret
          exact ⟨rfl, rfl⟩
        · have hb : b = false := by rw [← hb]; exact decide_eq_false (by omega)
          subst hb
          have b2 : (s == 2) = false := by simpa using h2
          have b3 : (s == 3) = false := by simpa using h3
          have b4 : (s == 4) = false := by simpa using h4
          have b5 : (s == 5) = false := by simpa using h5
          go_enter Tryz.func60, Tryz.ntmps60
          go_wp2
          go_ret
          exact ⟨rfl, rfl⟩
end Go.Proofs.YtmnmcikbbfcjcaaGreatDoor.Ns
/-
  Events, the program's and the document's.
-/
namespace Go.Proofs.YtmnmcikbbfcjcaaGreatDoor.Ns
open Go.Proofs.YtmnmcikbbfcjcaaGreatDoor.Ds
open Go.RowKit

end Go.Proofs.YtmnmcikbbfcjcaaGreatDoor.Ns
/-
  The document's own table and Events; Up, Powered and Late of both.
-/
namespace Go.Proofs.YtmnmcikbbfcjcaaGreatDoor.Ns
open Go.Proofs.YtmnmcikbbfcjcaaGreatDoor.Ds
open Go.RowKit

theorem powered_any (s : Int) (w : World) : Calls Tryz.prog 32 #[.int .i64 s] w fun e w' => e = .returned (.bool (powB s)) ∧ w' = w := by
  have hu := fun W => up_any s W
  unfold powB
  cases h : upB s with
  | true =>
    rw [h] at hu
    clear h
    go_enter Tryz.func32, Tryz.ntmps32
    go_wp2_with (go_at_call 60; (with_reducible refine (hu _).mono ?_); rintro e w3 ⟨rfl, rfl⟩)
    go_ret
    exact ⟨rfl, rfl⟩
  | false =>
    rw [h] at hu
    clear h
    by_cases h1 : s = 1
    · subst h1
      go_enter Tryz.func32, Tryz.ntmps32
      go_wp2_with (go_at_call 60; (with_reducible refine (hu _).mono ?_); rintro e w3 ⟨rfl, rfl⟩)
      go_ret
      exact ⟨rfl, rfl⟩
    · have b1 : (s == 1) = false := by simpa using h1
      rw [decide_eq_false h1]
      by_cases h7 : s = 7
      · subst h7
        go_enter Tryz.func32, Tryz.ntmps32
        go_wp2_with (go_at_call 60; (with_reducible refine (hu _).mono ?_); rintro e w3 ⟨rfl, rfl⟩)
        go_ret
        exact ⟨rfl, rfl⟩
      · have b7 : (s == 7) = false := by simpa using h7
        rw [decide_eq_false h7]
        go_enter Tryz.func32, Tryz.ntmps32
        go_wp2_with (go_at_call 60; (with_reducible refine (hu _).mono ?_); rintro e w3 ⟨rfl, rfl⟩)
        go_ret
        exact ⟨rfl, rfl⟩
end Go.Proofs.YtmnmcikbbfcjcaaGreatDoor.Ns
/-
  Late, of both.
-/
namespace Go.Proofs.YtmnmcikbbfcjcaaGreatDoor.Ns
open Go.Proofs.YtmnmcikbbfcjcaaGreatDoor.Ds
open Go.RowKit

theorem late_wraps {now si boot : Int} (h1 : -9223372036854775808 ≤ now ∧ now ≤ 9223372036854775807) (h2 : -9223372036854775808 ≤ si ∧ si ≤ 9223372036854775807) (h3 : 0 ≤ boot ∧ boot ≤ 9223372036854775807) (hle : si ≤ now) :
    IntKind.u64.wrap (IntKind.u64.wrap now - IntKind.u64.wrap si) = now - si ∧ IntKind.u64.wrap boot = boot ∧ IntKind.u64.wrap (2 * boot) = 2 * boot := by
  rw [IntKind.wrap_u64, IntKind.wrap_u64, IntKind.wrap_u64, IntKind.wrap_u64, IntKind.wrap_u64]
  omega
set_option maxRecDepth 100000 in
set_option maxHeartbeats 4000000 in
theorem late_any (n : N3) (now boot : Int) (w : World) (h1 : -9223372036854775808 ≤ now ∧ now ≤ 9223372036854775807) (h2 : -9223372036854775808 ≤ n.2.1 ∧ n.2.1 ≤ 9223372036854775807) (h3 : -9223372036854775808 ≤ boot ∧ boot ≤ 9223372036854775807) :
    Calls Tryz.prog 34 #[nv n, .int .i64 now, .int .i64 boot] w (BoolPost w (lateB n now boot)) := by
  obtain ⟨s, si, t⟩ := n
  unfold nv lateB
  simp only at h2 ⊢
  have t0 := NB.new w TNd (s, si, t)
  have t2 : Below w.heap.size w (w.alloc (.cells #[.int .i64 s, .int .i64 si, .int .i64 t] TNd)) := (Below.refl _ _).alloc (Nat.le_refl _) _
  simp only at t0
  obtain ⟨R, hR⟩ : ∃ R, decide (s = 1 ∧ si ≤ now ∧ 0 ≤ boot ∧ 2 * boot < now - si) = R := ⟨_, rfl⟩
  rw [hR]
  by_cases hs : s = 1
  · by_cases hle : si ≤ now
    · by_cases hb : 0 ≤ boot
      · obtain ⟨e1, e2, e3⟩ := late_wraps h1 h2 ⟨hb, h3.2⟩ hle
        have hR2 : R = decide (now - si > 2 * boot) := by rw [← hR]; congr 1; simp [hs, hle, hb]
        subst hR2
        subst hs
        have i1 : ¬ now < si := by omega
        have i2 : ¬ boot < 0 := by omega
        clear hR h1 h2 h3
        replace t2 := fhid t2
        go_enter Tryz.func34, Tryz.ntmps34
        go_upto_region 1 with fail
        generalize w.alloc _ = W at *
        obtain ⟨c0, c1, c2, f0, f1, f2, hlt⟩ := t0.facts
        replace t0 := fhid t0
        go_wp2_with fail
        go_ret
        exact ⟨rfl, t2.out⟩
      · have hR2 : R = false := by rw [← hR]; exact decide_eq_false fun h => hb h.2.2.1
        subst hR2
        subst hs
        have i1 : ¬ now < si := by omega
        have i2 : boot < 0 := by omega
        clear hR h1 h2 h3
        replace t2 := fhid t2
        go_enter Tryz.func34, Tryz.ntmps34
        go_upto_region 1 with fail
        generalize w.alloc _ = W at *
        obtain ⟨c0, c1, c2, f0, f1, f2, hlt⟩ := t0.facts
        replace t0 := fhid t0
        go_wp2_with fail
        go_ret
        exact ⟨rfl, t2.out⟩
    · have hR2 : R = false := by rw [← hR]; exact decide_eq_false fun h => hle h.2.1
      subst hR2
      subst hs
      have i1 : now < si := by omega
      clear hR h1 h2 h3
      replace t2 := fhid t2
      go_enter Tryz.func34, Tryz.ntmps34
      go_upto_region 1 with fail
      generalize w.alloc _ = W at *
      obtain ⟨c0, c1, c2, f0, f1, f2, hlt⟩ := t0.facts
      replace t0 := fhid t0
      go_wp2_with fail
      go_ret
      exact ⟨rfl, t2.out⟩
  · have hR2 : R = false := by rw [← hR]; exact decide_eq_false fun h => hs h.1
    subst hR2
    have b1 : (s != 1) = true := by simpa using hs
    clear hR h1 h2 h3
    replace t2 := fhid t2
    go_enter Tryz.func34, Tryz.ntmps34
    go_upto_region 1 with fail
    generalize w.alloc _ = W at *
    obtain ⟨c0, c1, c2, f0, f1, f2, hlt⟩ := t0.facts
    replace t0 := fhid t0
    go_wp2_with fail
    go_ret
    exact ⟨rfl, t2.out⟩
end Go.Proofs.YtmnmcikbbfcjcaaGreatDoor.Ns
/-
  What all rows of this seat share: the table, the start that fits; nodes, pairs, numbers that came in.
-/
namespace Go.Proofs.YtmnmcikbbfcjcaaGreatDoor.Ns
open Go.Proofs.YtmnmcikbbfcjcaaGreatDoor.Ds
open Go.Joins Go.ChangeShapes Go.WideShapes Go.ChangeAt Go.WideMaps Go.WideElems Go.RowKit Go.Deep

theorem own : ownKnob Tryz.prog.godebug = none := by kernel_rfl
theorem laidOut : laidOutB Tryz.prog = true := by kernel_rfl
theorem gTab : Tryz.prog.globalNamed "marlinspike/node.table" = some 0 := by kernel_rfl
theorem tyTab : (Tryz.prog.globals[0]?).map (·.type) = some 143 := by kernel_rfl
theorem cellsInt : Tryz.prog.cellsOf 3 = 1 := by kernel_rfl
theorem cellsRow : Tryz.prog.cellsOf 142 = 12 := by kernel_rfl
theorem cellsTab : Tryz.prog.cellsOf 143 = 96 := by kernel_rfl
/-- What the rows list. -/
abbrev laidList : List (String × DataW Unit) := [("marlinspike/node.table", Rows.laid_marlinspike_node_table)]
/-- Rows of numbers, as they lie. -/
theorem cells_of_rows {H : Type} {enc : TypeId × Value → H} {P : Program} {w : World} {base : Nat} {sp : Nat → Bool} {held : Bool} {fuel : Nat} {t e e2 : TypeId} {n m : Nat} {k : IntKind} {cs : List Value} {rows : List (List Int)} {p : List MemPlace}
    (ht : P.underlying t = some (.array n e)) (he : P.underlying e = some (.array m e2)) (he2 : P.underlying e2 = some (.int k)) (hc2 : P.cellsOf e2 = 1) (hce : P.cellsOf e = m) (hct : P.cellsOf t = n * m)
    (h : DataW.trod enc P w base sp held fuel t cs = some (.agg (rows.map fun zs => Lib.tabData k zs), p)) (i j : Nat) (hi : i < n) (hj : j < m) : cs[i * m + j]? = some (.int k ((rows.getD i []).getD j 0)) := by
  cases fuel with
  | zero => simp [DataW.trod] at h
  | succ fuel =>
    simp only [DataW.trod, ht, hce, hct] at h
    split at h
    · rename_i hl
      obtain ⟨xs, hm, hx⟩ := Option.map_eq_some_iff.1 h
      have hxs : xs.map (·.1) = rows.map fun zs => (Lib.tabData k zs : DataW H) := by
        have := congrArg Prod.fst hx
        simpa using this
      obtain ⟨b, hb, hf⟩ := Lib.mapM_at hm i i (by simp [hi])
      have h2 : (xs.map (·.1))[i]? = some b.1 := by simp [hb]
      rw [hxs, List.getElem?_map, Option.map_eq_some_iff] at h2
      obtain ⟨zs, hz, hz2⟩ := h2
      obtain ⟨b1, b2⟩ := b
      simp only at hz2
      subst hz2
      have h3 := Lib.cells_of_tab he he2 hc2 hce hf
      have h4 := congrArg (·[j]?) h3
      simp only [List.getElem?_take, List.getElem?_drop, hj, if_true, List.getElem?_map] at h4
      have hlen : zs.length = m := by
        have h5 := congrArg List.length h3
        rw [List.length_map, List.length_take, List.length_drop] at h5
        have h6 : i * m + m ≤ cs.length := by
          have : cs.length = n * m := by simpa using hl
          rw [this]
          calc i * m + m = (i + 1) * m := by rw [Nat.add_mul, Nat.one_mul]
            _ ≤ n * m := Nat.mul_le_mul_right _ hi
        omega
      have h7 : rows.getD i [] = zs := by rw [List.getD_eq_getElem?_getD, hz]; rfl
      rw [h4, h7, List.getD_eq_getElem?_getD, List.getElem?_eq_getElem (by omega)]
      rfl
    · cases h
set_option maxRecDepth 100000 in
theorem tab_of {W : World} (h : laidMetH Tryz.prog laidList W) : TabW W := by
  rw [MakeChecks.laidMetH_plain _ _ _ (by kernel_rfl)] at h
  have h' : laidMet Tryz.prog (("marlinspike/node.table", .agg (rowsT.map fun zs => Lib.tabData .i64 zs)) :: []) W := h
  obtain ⟨ps, ⟨g', t', cs, fuel, p, q, hg', ht', hvar, hd, _, _⟩, _⟩ := h'
  obtain rfl := Option.some.inj (gTab.symm.trans hg')
  obtain rfl := Option.some.inj (tyTab.symm.trans ht')
  intro s e hs he
  have h1 := World.var?_cell gTab hvar (s * 12 + e)
  have h2 := cells_of_rows Tryz.underlying143 Tryz.underlying142 Tryz.underlying3 cellsInt cellsRow cellsTab hd s e hs he
  rw [h1]
  unfold tabN
  simpa using h2
set_option maxRecDepth 100000 in
theorem lay_met (os : Os) (args : Array Value) : laidMetH Tryz.prog laidList ((World.laidAll Tryz.prog os laidList).forCall (fun _ _ => 0) ⟨#[], args, []⟩).memory := by
  rw [MakeChecks.laidMetH_plain _ _ _ (by kernel_rfl)]
  exact laidMet_laidAll _ (by kernel_rfl) (by kernel_rfl)
/-- A whole number of 64 bits. -/
def I64 (n : Int) : Prop := -9223372036854775808 ≤ n ∧ n ≤ 9223372036854775807
theorem wf_I64 {n : Int} (h : (Lit.int .i64 n).wf = true) : I64 n := by
  have : -9223372036854775808 ≤ n ∧ n ≤ 9223372036854775807 := by simpa [Lit.wf, IntKind.min, IntKind.max, IntKind.signed, IntKind.bits] using h
  exact this
/-- An array of two. -/
theorem trod_two {H : Type} {enc : TypeId × Value → H} {P : Program} {w : World} {base : Nat} {spare : Nat → Bool} {held : Bool} {t e : TypeId} {fuel : Nat} {c0 c1 : Value} {x : DataW H × List MemPlace} (ht : P.underlying t = some (.array 2 e)) (hce : P.cellsOf e = 1)
    (h : DataW.trod enc P w base spare held fuel t [c0, c1] = some x) :
    ∃ y0 y1 n, x = (.agg [y0.1, y1.1], y0.2 ++ y1.2) ∧ DataW.trod enc P w base spare held n e [c0] = some y0 ∧ DataW.trod enc P w base spare held n e [c1] = some y1 := by
  cases fuel with
  | zero => simp [DataW.trod] at h
  | succ n =>
    unfold DataW.trod at h
    rw [ht] at h
    have r2 : List.range 2 = [0, 1] := rfl
    simp [r2, hce] at h
    obtain ⟨_, h⟩ := h
    cases h0 : DataW.trod enc P w base spare held n e [c0] with
    | none => simp [h0] at h
    | some y0 =>
      cases h1 : DataW.trod enc P w base spare held n e [c1] with
      | none => simp [h0, h1] at h
      | some y1 =>
        simp [h0, h1] at h
        exact ⟨y0, y1, n, h.symm, h0, h1⟩
end Go.Proofs.YtmnmcikbbfcjcaaGreatDoor.Ns
