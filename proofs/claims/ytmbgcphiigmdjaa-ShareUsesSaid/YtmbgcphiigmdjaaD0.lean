/-
  Parts: DMath DText DBase.
-/
import Derived.Lib.ItoaNum
import Derived.Lib.Join
import Derived.Test.YtmbgcphiigmdjaaProg
import Derived.WalkKit
import Derived.Below
import Derived.IntWalk
import Derived.Laws.DeepStrings4
import Derived.Outline
import Derived.Deep.Draws
import Derived.Sort.Grow
import Derived.Lib.Hide
import Derived.MapKept
import Derived.ChangeMaps5
import Derived.Maps.Own
import Derived.Maps.OwnOps
import Derived.Maps.AppendAt
import Derived.Laws.AppendOwnNone
import Derived.OwnWalk
set_option linter.unusedSimpArgs false
set_option linter.unusedVariables false
/-
  Plain mathematics: what items, and dependencies, are at; which order they stand in does not count. No model in it.
-/
namespace Go.Proofs.Ytmbgcphiigmdjaa.Ds

/-- An item: its kind, its jobs. -/
abbrev Itm := Int × List Int
/-- What stands first in a list at a key. -/
def look {α : Type} : List (Int × α) → Int → Option α
  | [], _ => none
  | x :: r, k => if x.1 = k then some x.2 else look r k
end Go.Proofs.Ytmbgcphiigmdjaa.Ds
/-
  Plain mathematics: a dependency's text, and what reading one comes to. No model in it.
-/
namespace Go.Proofs.Ytmbgcphiigmdjaa.Ds

/-- The words of the kinds. -/
def word (k : Int) : List UInt8 :=
  if k = 1 then [97, 102, 116, 101, 114] else if k = 2 then [97, 102, 116, 101, 114, 111, 107] else if k = 3 then [97, 102, 116, 101, 114, 110, 111, 116, 111, 107]
  else if k = 4 then [97, 102, 116, 101, 114, 97, 110, 121] else if k = 5 then [115, 105, 110, 103, 108, 101, 116, 111, 110] else [63]
end Go.Proofs.Ytmbgcphiigmdjaa.Ds
/-
  Strings as bytes; worlds that only grow; rows of cells; maps by whole numbers.
-/
namespace Go.Proofs.Ytmbgcphiigmdjaa.Ds
open Go.RowKit

theorem fhid {p : Prop} (h : p) : Hid p := h
theorem below_drewN {B : Nat} {a w : World} (h : Below B a w) (n : Nat) : Below B a (w.drewN n) := ⟨h.os, h.tape, h.output, h.size, h.block⟩
/-- Bytes, as a string; a string, as bytes. -/
def str (l : List UInt8) : ByteArray := ⟨l.toArray⟩
def bl (s : ByteArray) : List UInt8 := s.data.toList
theorem bl_str (l : List UInt8) : bl (str l) = l := by simp [bl, str]
theorem str_bl (s : ByteArray) : str (bl s) = s := by unfold str bl; simp
theorem str_size (l : List UInt8) : (str l).size = l.length := by simp [str, ByteArray.size]
theorem heap_alloc_new (w : World) (o : Obj) : (w.alloc o).heap[w.heap.size]? = some o := by
  show (w.heap.push o)[w.heap.size]? = _
  simp
theorem lt_of_block {w : World} {b : Nat} {o : Obj} (h : w.heap[b]? = some o) : b < w.heap.size := (Array.getElem?_eq_some_iff.1 h).1
/-- The cells at address A are these; the block they lie in is one of ok's. -/
def SegP (w : World) (ok : Nat → Prop) (A : Option Addr) (vs : List Value) : Prop :=
  0 < vs.length → ∃ b o, A = some ⟨b, o, none⟩ ∧ ok b ∧ ∀ j (h : j < vs.length), w.cell? ⟨b, o + j, none⟩ = some vs[j]
/-- The slice at address A holds these cells, in a block below B. -/
abbrev SegC (w : World) (B : Nat) (A : Option Addr) (vs : List Value) : Prop := SegP w (fun b => b < B) A vs
section
variable {w w' : World} {B B' : Nat} {ok ok' : Nat → Prop} {A : Option Addr} {vs : List Value}
theorem SegP.nil (w : World) (ok : Nat → Prop) (A : Option Addr) : SegP w ok A [] := fun h => absurd h (Nat.lt_irrefl 0)
theorem SegP.keep (h : SegP w ok A vs) (hk : ∀ b, ok b → w'.heap[b]? = w.heap[b]?) : SegP w' ok A vs := fun h0 => by
  obtain ⟨b, o, e, hb, hc⟩ := h h0
  refine ⟨b, o, e, hb, fun j hj => ?_⟩
  rw [← hc j hj]
  unfold World.cell?
  rw [hk b hb]
theorem SegP.imp (h : SegP w ok A vs) (hi : ∀ b, b < w.heap.size → ok b → ok' b) : SegP w ok' A vs := fun h0 => by
  obtain ⟨b, o, e, hb, hc⟩ := h h0
  refine ⟨b, o, e, hi b ?_ hb, hc⟩
  have := hc 0 h0
  by_cases hl : b < w.heap.size
  · exact hl
  · simp only [World.cell?] at this
    rw [Array.getElem?_eq_none (by omega)] at this
    cases this
theorem SegC.more (h : SegC w B A vs) (hB : B ≤ B') : SegC w B' A vs := h.imp fun b _ hb => by omega
theorem SegC.below (h : SegC w B A vs) (hb : Below B w w') : SegC w' B A vs := h.keep fun b h => hb.block b h
theorem SegC.take (h : SegC w B A vs) (k : Nat) : SegC w B A (vs.take k) := fun h0 => by
  rw [List.length_take] at h0
  obtain ⟨b, o, e, hb, hc⟩ := h (by omega)
  refine ⟨b, o, e, hb, fun j hj => ?_⟩
  rw [List.length_take] at hj
  rw [List.getElem_take]
  exact hc j (by omega)
theorem SegC.drop (h : SegC w B A vs) {k cap : Nat} (hk : k ≤ vs.length) (hc : vs.length ≤ cap) : SegC w B (if cap = k then A else A.map (·.add k)) (vs.drop k) := fun h0 => by
  rw [List.length_drop] at h0
  obtain ⟨b, o, rfl, hb, hcell⟩ := h (by omega)
  rw [if_neg (by omega)]
  refine ⟨b, o + k, ?_, hb, fun j hj => ?_⟩
  · show some (Addr.add _ _) = _
    unfold Addr.add
    by_cases h0 : k = 0
    · rw [if_pos h0, h0, Nat.add_zero]
    · rw [if_neg h0]
  · rw [List.getElem_drop, Nat.add_assoc]
    exact hcell (k + j) (by rw [List.length_drop] at hj; omega)
end
theorem ownsRow_below {w w' : World} {base : Nat} {e : TypeId} {size n : Nat} {v : Value} {xs : List Value} (h : w.ownsRow base e size v n xs) (hb : Below w.heap.size w w') : w'.ownsRow base e size v n xs := by
  refine ⟨h.1, ?_⟩
  rcases h.2 with ⟨rfl, hn⟩ | ⟨g, cap, cur, rfl, hg, hh, rest⟩
  · exact .inl ⟨rfl, hn⟩
  · exact .inr ⟨g, cap, cur, rfl, hg, (hb.block g (Array.getElem?_eq_some_iff.1 hh).1).trans hh, rest⟩
theorem ownsRow_base {w : World} {base base' : Nat} {e : TypeId} {size n : Nat} {v : Value} {xs : List Value} (h : w.ownsRow base e size v n xs) (hb : base' ≤ base) : w.ownsRow base' e size v n xs := by
  refine ⟨h.1, ?_⟩
  rcases h.2 with ⟨rfl, hn⟩ | ⟨g, cap, cur, rfl, hg, hh, rest⟩
  · exact .inl ⟨rfl, hn⟩
  · exact .inr ⟨g, cap, cur, rfl, by omega, hh, rest⟩
theorem ownsRow_shape {w : World} {base : Nat} {e : TypeId} {size n : Nat} {v : Value} {xs : List Value} (h : w.ownsRow base e size v n xs) : ∃ A cap, v = .slice A n cap ∧ n ≤ cap ∧ cap ≤ maxLen ∧ SegC w w.heap.size A xs := by
  obtain ⟨hl, ⟨rfl, rfl⟩ | ⟨g, cap, cur, rfl, _, hg, hle, hcm, hsz, ht⟩⟩ := h
  · rw [Nat.zero_mul] at hl
    rw [List.eq_nil_of_length_eq_zero hl]
    exact ⟨none, 0, rfl, Nat.le_refl _, by unfold maxLen; omega, SegP.nil _ _ _⟩
  · refine ⟨some ⟨g, 0, none⟩, cap, rfl, hle, hcm, fun h0 => ⟨g, 0, rfl, (Array.getElem?_eq_some_iff.1 hg).1, fun j hj => ?_⟩⟩
    have e : (cur.toList.take (n * size))[j]? = some xs[j] := by rw [ht, List.getElem?_eq_getElem hj]
    rw [List.getElem?_take, if_pos (by omega), Array.getElem?_toList] at e
    simp only [World.cell?, hg, Nat.zero_add]
    simpa using e
theorem ownsRow_ge {w : World} {base : Nat} {e : TypeId} {size n : Nat} {v : Value} {xs : List Value} (h : w.ownsRow base e size v n xs) (k : Nat) (hk : v.ownBlock = some k) : base ≤ k := by
  obtain ⟨_, ⟨rfl, _⟩ | ⟨g, cap, cur, rfl, hg, _⟩⟩ := h
  · simp [Value.ownBlock] at hk
  · simp [Value.ownBlock] at hk; omega
theorem ownsRow_nil (w : World) (base : Nat) (e : TypeId) (size : Nat) : w.ownsRow base e size (.slice none 0 0) 0 [] := ⟨by simp, .inl ⟨rfl, rfl⟩⟩
theorem one_cells (w : World) (cs : List Value) (T : TypeId) : SegC (w.alloc (.cells cs.toArray T)) (w.heap.size + 1) (some ⟨w.heap.size, 0, none⟩) cs := fun _ => by
  refine ⟨w.heap.size, 0, rfl, Nat.lt_succ_self _, fun j hj => ?_⟩
  have h := heap_alloc_new w (.cells cs.toArray T)
  simp only [World.cell?, h, Nat.zero_add]
  simp [List.getElem?_eq_getElem hj]

/-- Values put behind a row of the call's own. -/
theorem app_own {w : World} {ops : Array Oper} {rest : List Oper} {o : Oper} {a : Act} {Q : Exit → Act → World → Prop} (T e : TypeId) (z : Value) (size bytes : Nat)
    (hT : Try.prog.underlying T = some (.slice e)) (hinfo : (Try.prog.info? e).map (fun i => (i.zero, i.size, i.bytes)) = some (some z, size, bytes)) (hzs : z.cells.size = size) (hsz : 0 < size)
    (hgd : o.guard = none) (s x : Operand) (ho : o.op = .call { callee := .builtin .append, args := #[s, x], argTypes := #[T, T] })
    (base : Nat) (v : Value) (n : Nat) (xs : List Value) (hs : a.eval s = v) (hown : w.ownsRow base e size v n xs)
    (B : Nat) (A : Option Addr) (m c : Nat) (us : List Value) (hx : a.eval x = .slice A m c) (hr : SegC w B A us) (hl : us.length = m * size) (h1 : ∀ u ∈ us, u.oneCell' = true) (hA : A = none → m = 0)
    (hlen : (n + m) * bytes ≤ 140737488355328) (hnm : n + m ≤ 140737488355328) (hbase : base ≤ w.heap.size)
    (h : ∀ v' w', w'.ownsRow base e size v' (n + m) (xs ++ us) → w.grownBy w' v.ownBlock → Below base w w' → (v'.ownBlock = v.ownBlock ∨ v'.ownBlock = some w.heap.size) → wpList Try.prog ops Q rest (a.put o.dst v') w') : wpList Try.prog ops Q (o :: rest) a w := by
  obtain ⟨i0, hi, hz0, hz1, hz2⟩ := info_parts hinfo
  have hrun : ∃ v' w', (Builtin.append_ #[T, T] o.type #[v, .slice A m c]).run Try.prog w = .ok v' w' ∧ w'.ownsRow base e size v' (n + m) (xs ++ us) ∧ w.grownBy w' v.ownBlock ∧ (v'.ownBlock = v.ownBlock ∨ v'.ownBlock = some w.heap.size) := by
    by_cases h0 : 0 < m
    · obtain ⟨b, of, rfl, _, hc⟩ := hr (by rw [hl]; exact Nat.mul_pos h0 hsz)
      obtain ⟨v', w', hrun, h2, h3, _, h5⟩ := run_append_own_at (P := Try.prog) w base T o.type e i0 z size bytes hT hi hz0 hz1 hz2 hzs hsz v n xs hown ⟨b, of, none⟩ m c us hl (fun j u hu => by
          obtain ⟨hj, rfl⟩ := List.getElem?_eq_some_iff.1 hu
          have := hc j hj
          unfold Addr.add
          by_cases hz : j = 0
          · subst hz; rw [if_pos rfl]; exact this
          · rw [if_neg hz]; exact this) h1 (by unfold maxLen; omega) hlen hbase
      exact ⟨v', w', hrun, h2, h3, h5⟩
    · have hm : m = 0 := by omega
      subst hm
      have hu : us = [] := List.eq_nil_of_length_eq_zero (by omega)
      subst hu
      cases A with
      | none =>
        refine ⟨v, w, ?_, by simpa using hown, ⟨rfl, rfl, rfl, Nat.le_refl _, fun _ _ _ => rfl⟩, .inl rfl⟩
        rcases hown.2 with ⟨rfl, rfl⟩ | ⟨g, cap, cur, rfl, _, _, hnc, _⟩
        · simp [Builtin.append_, run_underlying hT, sizeOf, typeInfo, hi, Builtin.lenOf, Builtin.firstCells]
        · simp [Builtin.append_, run_underlying hT, sizeOf, typeInfo, hi, Builtin.lenOf, Builtin.firstCells, hnc, storeCells]
      | some ad =>
        obtain ⟨v', w', hrun, h2, h3, _, h5⟩ := run_append_own_at (P := Try.prog) w base T o.type e i0 z size bytes hT hi hz0 hz1 hz2 hzs hsz v n xs hown ad 0 c [] (by simp) (fun j u hu => by simp at hu) (fun u hu => by simp at hu) (by unfold maxLen; omega) hlen hbase
        exact ⟨v', w', hrun, h2, h3, h5⟩
  obtain ⟨v', w', hrun, h2, h3, h4⟩ := hrun
  refine wpList_plain hgd fun K hK => ?_
  unfold Oper.wp execOp
  simp only [ho, resolve, invoke, builtin, Sem.run_bind, Sem.run_pure, Result.andThen_ok, List.map_toArray, List.map_cons, List.map_nil, hs, hx, hrun]
  exact hK _ _ (h v' w' h2 h3 ((Below.refl _ _).grown h3 hbase (fun k hk => ownsRow_ge hown k hk)) h4)

/-- Whole numbers, as cells. -/
def IV (ns : List Int) : List Value := ns.map fun n => .int .i64 n
theorem IV_len (ns : List Int) : (IV ns).length = ns.length := List.length_map _
theorem IV_get (ns : List Int) (j : Nat) (h : j < ns.length) (h' : j < (IV ns).length) : (IV ns)[j] = .int .i64 ns[j] := by simp [IV]
/-- The slice at address A reads as these numbers. -/
abbrev Ints (w : World) (B : Nat) (A : Option Addr) (ns : List Int) : Prop := SegC w B A (IV ns)
theorem Ints.at_ {w : World} {ok : Nat → Prop} {A : Option Addr} {ns : List Int} (h : SegP w ok A (IV ns)) {k : Nat} (hk : k < ns.length) : ∃ b o, A = some ⟨b, o, none⟩ ∧ ok b ∧ w.cell? ⟨b, o + k, none⟩ = some (.int .i64 ns[k]) := by
  obtain ⟨b, o, e, hb, hc⟩ := h (by rw [IV_len]; omega)
  refine ⟨b, o, e, hb, ?_⟩
  have := hc k (by rw [IV_len]; exact hk)
  rwa [IV_get ns k hk] at this
/-- A slice of the call's own holds these numbers. -/
def OwnI (w : World) (base : Nat) (v : Value) (ns : List Int) : Prop := w.ownsRow base 3 1 v ns.length (IV ns)
section
variable {w : World} {ops : Array Oper} {rest : List Oper} {o : Oper} {a : Act} {Q : Exit → Act → World → Prop}
end
theorem OwnI.below {w w' : World} {base : Nat} {v : Value} {ns : List Int} (h : OwnI w base v ns) (hb : Below w.heap.size w w') : OwnI w' base v ns := ownsRow_below h hb
theorem OwnI.base {w : World} {base base' : Nat} {v : Value} {ns : List Int} (h : OwnI w base v ns) (hb : base' ≤ base) : OwnI w base' v ns := ownsRow_base h hb
theorem OwnI.nil (w : World) (base : Nat) : OwnI w base (.slice none 0 0) [] := ownsRow_nil _ _ _ _
theorem OwnI.shape {w : World} {base : Nat} {v : Value} {ns : List Int} (h : OwnI w base v ns) : ∃ A cap, v = .slice A ns.length cap ∧ ns.length ≤ cap ∧ cap ≤ maxLen ∧ Ints w w.heap.size A ns := ownsRow_shape h

/-- Items, as cells: a kind, and a slice of jobs in blocks of ok. -/
def ItC (w : World) (ok : Nat → Prop) (xs : List Value) (l : List Itm) : Prop :=
  xs.length = l.length * 2 ∧ ∀ k (h : k < l.length), xs[k * 2]? = some (.int .i64 l[k].1) ∧ ∃ A c, xs[k * 2 + 1]? = some (.slice A l[k].2.length c) ∧ l[k].2.length ≤ c ∧ c ≤ maxLen ∧ SegP w ok A (IV l[k].2)
section
variable {w w' : World} {ok ok' : Nat → Prop} {xs ys : List Value} {l m : List Itm}
theorem ItC.nil (w : World) (ok : Nat → Prop) : ItC w ok [] [] := ⟨rfl, fun _ h => absurd h (Nat.not_lt_zero _)⟩
theorem ItC.keep (h : ItC w ok xs l) (hk : ∀ b, ok b → w'.heap[b]? = w.heap[b]?) : ItC w' ok xs l :=
  ⟨h.1, fun k hl => by
    obtain ⟨a, A, c, b, d, e, f⟩ := h.2 k hl
    exact ⟨a, A, c, b, d, e, f.keep hk⟩⟩
theorem ItC.imp (h : ItC w ok xs l) (hi : ∀ b, b < w.heap.size → ok b → ok' b) : ItC w ok' xs l :=
  ⟨h.1, fun k hl => by
    obtain ⟨a, A, c, b, d, e, f⟩ := h.2 k hl
    exact ⟨a, A, c, b, d, e, f.imp hi⟩⟩
theorem ItC.one {A : Option Addr} {c : Nat} {kd : Int} {js : List Int} (h1 : js.length ≤ c) (h2 : c ≤ maxLen) (h : SegP w ok A (IV js)) : ItC w ok [.int .i64 kd, .slice A js.length c] [(kd, js)] :=
  ⟨rfl, fun k hk => by
    have : k = 0 := by simpa using hk
    subst this
    exact ⟨rfl, A, c, rfl, h1, h2, h⟩⟩
theorem ItC.one_cells (h : ItC w ok xs l) : ∀ u ∈ xs, u.oneCell' = true := by
  intro u hu
  obtain ⟨j, hj, rfl⟩ := List.getElem_of_mem hu
  have hl := h.1
  obtain ⟨a, A, c, b, _⟩ := h.2 (j / 2) (by omega)
  rcases Nat.mod_two_eq_zero_or_one j with e | e
  · rw [show j / 2 * 2 = j by omega, List.getElem?_eq_getElem hj] at a
    injection a with a
    rw [a]; rfl
  · rw [show j / 2 * 2 + 1 = j by omega, List.getElem?_eq_getElem hj] at b
    injection b with b
    rw [b]; rfl
end
/-- The slice at address A reads as these items, all below block B. -/
def Its (w : World) (B : Nat) (A : Option Addr) (l : List Itm) : Prop := ∃ xs, SegC w B A xs ∧ ItC w (fun b => b < B) xs l
section
variable {w w' : World} {B B' : Nat} {A : Option Addr} {l : List Itm}
theorem Its.below (h : Its w B A l) (hb : Below B w w') : Its w' B A l := by
  obtain ⟨xs, h1, h2⟩ := h
  exact ⟨xs, h1.below hb, h2.keep fun b h => hb.block b h⟩
theorem Its.more (h : Its w B A l) (hB : B ≤ B') : Its w B' A l := by
  obtain ⟨xs, h1, h2⟩ := h
  exact ⟨xs, h1.more hB, h2.imp fun b _ hb => by omega⟩
theorem Its.nil (w : World) (B : Nat) (A : Option Addr) : Its w B A [] := ⟨[], SegP.nil _ _ _, ItC.nil _ _⟩
theorem Its.none_ (h : Its w B none l) : l.length = 0 := by
  obtain ⟨xs, h1, h2⟩ := h
  by_cases h0 : 0 < l.length
  · obtain ⟨b, o, e, _⟩ := h1 (by rw [h2.1]; omega)
    cases e
  · omega
theorem Its.at_ (h : Its w B A l) {k : Nat} (hk : k < l.length) : ∃ b o, A = some ⟨b, o, none⟩ ∧ b < B ∧ w.cell? ⟨b, o + k * 2, none⟩ = some (.int .i64 l[k].1) ∧
    ∃ A' c, w.cell? ⟨b, o + k * 2 + 1, none⟩ = some (.slice A' l[k].2.length c) ∧ l[k].2.length ≤ c ∧ c ≤ maxLen ∧ Ints w B A' l[k].2 := by
  obtain ⟨xs, h1, h2⟩ := h
  have hl := h2.1
  obtain ⟨b, o, rfl, hb, hc⟩ := h1 (by omega)
  obtain ⟨a, A', c, e, d, f, g⟩ := h2.2 k hk
  refine ⟨b, o, rfl, hb, ?_, A', c, ?_, d, f, g⟩
  · obtain ⟨hj, e0⟩ := List.getElem?_eq_some_iff.1 a
    rw [hc _ hj, e0]
  · obtain ⟨hj, e0⟩ := List.getElem?_eq_some_iff.1 e
    rw [Nat.add_assoc, hc _ hj, e0]
end
/-- A slice of the call's own holds these items; their jobs lie in blocks of ok. -/
def OwnIt (w : World) (T : TypeId) (base : Nat) (ok : Nat → Prop) (v : Value) (l : List Itm) : Prop := ∃ xs, w.ownsRow base T 2 v l.length xs ∧ ItC w ok xs l
theorem OwnIt.nil (w : World) (T : TypeId) (base : Nat) (ok : Nat → Prop) : OwnIt w T base ok (.slice none 0 0) [] := ⟨[], ownsRow_nil _ _ _ _, ItC.nil _ _⟩
theorem OwnIt.shape {w : World} {T : TypeId} {base : Nat} {ok : Nat → Prop} {v : Value} {l : List Itm} (h : OwnIt w T base ok v l) : ∃ A cap, v = .slice A l.length cap ∧ l.length ≤ cap ∧ cap ≤ maxLen ∧ Its w w.heap.size A l := by
  obtain ⟨xs, h1, h2⟩ := h
  obtain ⟨A, cap, e, a, b, c⟩ := ownsRow_shape h1
  exact ⟨A, cap, e, a, b, xs, c, h2.imp fun b hb _ => hb⟩

/-! Maps by whole numbers. -/
/-- The map in block b has these entries, each key once, in the order in which they came. -/
def IMap (w : World) (b : Nat) (l : List (Int × Value)) : Prop := ∃ es clock, w.heap[b]? = some (.map es clock) ∧ es.toList.map (fun e => (e.key, e.val)) = l.map fun x => (Value.int .i64 x.1, x.2)
theorem IMap.new (w : World) : IMap (w.alloc (.map #[] 0)) w.heap.size [] := ⟨#[], 0, heap_alloc_new w _, rfl⟩
theorem IMap.keep {w w' : World} {b : Nat} {l : List (Int × Value)} (h : IMap w b l) (hk : w'.heap[b]? = w.heap[b]?) : IMap w' b l := by
  obtain ⟨es, c, a, e⟩ := h
  exact ⟨es, c, hk.trans a, e⟩
theorem IMap.lt {w : World} {b : Nat} {l : List (Int × Value)} (h : IMap w b l) : b < w.heap.size := by
  obtain ⟨es, c, a, _⟩ := h
  exact lt_of_block a
theorem IMap.below {w w' : World} {b B : Nat} {l : List (Int × Value)} (h : IMap w b l) (hb : Below B w w') (hB : b < B) : IMap w' b l := h.keep (hb.block b hB)
section
variable {w : World} {ops : Array Oper} {rest : List Oper} {o : Oper} {a : Act} {Q : Exit → Act → World → Prop}
end
end Go.Proofs.Ytmbgcphiigmdjaa.Ds
