/-
  Bytes of the call's own that grow: where they lie behind it, and what else is as it was.
-/
import Derived.Test.YtbclmgakifmgfaaCNew
import Derived.Test.YtbclmgakifmgfaaFSame
import Derived.Lib.AppendStr
namespace Go.Proofs.Ytbclmgakifmgfaa
open Go.RowKit

/-- v has become v': all blocks that were there are as they were, but p and v's own; v' lies in v's block or in a new one. -/
structure Ext (p : Option Nat) (v : Value) (w : World) (v' : Value) (w' : World) : Prop where
  os : w'.os = w.os
  tape : w'.tape = w.tape
  output : w'.output = w.output
  size : w.heap.size ≤ w'.heap.size
  block : ∀ k, k < w.heap.size → some k ≠ p → some k ≠ v.ownBlock → w'.heap[k]? = w.heap[k]?
  at_ : v'.ownBlock = v.ownBlock ∨ v'.ownBlock = none ∨ ∃ g, v'.ownBlock = some g ∧ w.heap.size ≤ g
section
variable {p : Option Nat} {v v' v'' : Value} {w w' w'' : World}
theorem Ext.refl (p : Option Nat) (v : Value) (w : World) : Ext p v w v w := ⟨rfl, rfl, rfl, Nat.le_refl _, fun _ _ _ _ => rfl, .inl rfl⟩
theorem Ext.trans (h : Ext p v w v' w') (k : Ext p v' w' v'' w'') : Ext p v w v'' w'' := by
  refine ⟨k.os.trans h.os, k.tape.trans h.tape, k.output.trans h.output, Nat.le_trans h.size k.size, fun i hi hp hv => ?_, ?_⟩
  · refine (k.block i (Nat.lt_of_lt_of_le hi h.size) hp ?_).trans (h.block i hi hp hv)
    rcases h.at_ with e | e | ⟨g, e, hg⟩
    · rw [e]; exact hv
    · rw [e]; simp
    · rw [e]; intro e2; injection e2 with e2; omega
  · rcases k.at_ with e | e | ⟨g, e, hg⟩
    · rw [e]; exact h.at_
    · exact .inr (.inl e)
    · exact .inr (.inr ⟨g, e, Nat.le_trans h.size hg⟩)
theorem Ext.ofBelow (p : Option Nat) (v : Value) (h : Below w.heap.size w w') : Ext p v w v w' := ⟨h.os, h.tape, h.output, h.size, fun k hk _ _ => h.block k hk, .inl rfl⟩
theorem Ext.alloc (h : Ext p v w v' w') (o : Obj) : Ext p v w v' (w'.alloc o) := h.trans (Ext.ofBelow p v' ((Below.refl _ _).alloc (Nat.le_refl _) o))
theorem Ext.weak (h : Ext none v w v' w') (p : Option Nat) : Ext p v w v' w' := ⟨h.os, h.tape, h.output, h.size, fun k hk _ hv => h.block k hk (by simp) hv, h.at_⟩
theorem Ext.set {b : Nat} (h : Ext (some b) v w v' w') (i : Nat) (u : Value) : Ext (some b) v w v' (w'.setCell ⟨b, i, none⟩ u) :=
  ⟨h.os, h.tape, h.output, by simpa [World.setCell] using h.size, fun k hk hp hv => (Below.heap_setCell _ _ _ _ (fun e => hp (by rw [e]))).trans (h.block k hk hp hv), h.at_⟩
/-- From below all that the value or the block could have turned. -/
theorem Ext.below {B : Nat} (h : Ext p v w v' w') (hB : B ≤ w.heap.size) (hp : ∀ b, p = some b → B ≤ b) (hv : ∀ b, v.ownBlock = some b → B ≤ b) : Below B w w' :=
  ⟨h.os, h.tape, h.output, h.size, fun k hk => h.block k (by omega) (fun e => by have := hp k e.symm; omega) (fun e => by have := hv k e.symm; omega)⟩
theorem Ext.cell (h : Ext p v w v' w') {a : Addr} (ha : a.block < w.heap.size) (hp : some a.block ≠ p) (hv : some a.block ≠ v.ownBlock) : w'.cell? a = w.cell? a := World.cell?_of_block (h.block a.block ha hp hv)
end
theorem run_app_str_at (w : World) (t u ty e : TypeId) {P : Program} (i : TypeInfo) (ht : P.underlying t = some (.slice e)) (hu : P.underlying u = some .string) (hi : P.info? e = some i) (hz : i.zero = some (.int .u8 0))
    (hsize : i.size = 1) (hby : i.bytes = 1) (v : Value) (n : Nat) (xs : List Value) (hown : w.ownsRow 0 e 1 v n xs) (s : ByteArray) (hb : n + s.size ≤ 140737488355328) :
    ∃ v' w', (Builtin.append_ #[t, u] ty #[v, .string s]).run P w = .ok v' w' ∧ w'.ownsRow 0 e 1 v' (n + s.size) (xs ++ Lib.strCells s) ∧ w.grownBy w' v.ownBlock ∧ (v'.ownBlock = v.ownBlock ∨ v'.ownBlock = none ∨ ∃ g, v'.ownBlock = some g ∧ w.heap.size ≤ g) := by
  obtain ⟨v', w', hr, h2, h3, _⟩ := Lib.run_append_own_string w 0 t u ty e i ht hu hi hz hsize hby v n xs hown s (by unfold maxLen; omega) hb (Nat.zero_le _)
  refine ⟨v', w', hr, h2, h3, ?_⟩
  rcases hown.2 with ⟨rfl, rfl⟩ | ⟨g, cap, cur, rfl, _, hg, hnc, hcm, hcs, htake⟩
  · obtain ⟨v2, w2, hr2, k2, _, _⟩ := Lib.run_append_own_string (P := P) w w.heap.size t u ty e i ht hu hi hz hsize hby (.slice none 0 0) 0 xs ⟨hown.1, .inl ⟨rfl, rfl⟩⟩ s (by unfold maxLen; omega) hb (Nat.le_refl _)
    rw [hr2] at hr
    injection hr with e1 e2
    subst e1; subst e2
    rcases k2.2 with ⟨rfl, _⟩ | ⟨g, _, _, rfl, hg, _⟩
    · exact .inl rfl
    · exact .inr (.inr ⟨g, rfl, hg⟩)
  · by_cases hroom : n + s.size ≤ cap
    · have hr2 := Lib.run_append_room_string (P := P) w t u ty e i ht hu hi hsize g n cap cur hg s hroom (by omega)
      rw [hr2] at hr
      injection hr with e1 e2
      subst e1
      exact .inl rfl
    · have holds : ∀ j u, xs[j]? = some u → w.cell? ((⟨g, 0, none⟩ : Addr).add j) = some u := World.ownsRow.cells (base := 0) (e := e) (size := 1) (n := n) (v := .slice (some ⟨g, 0, none⟩) n cap) ⟨hown.1, .inr ⟨g, cap, cur, rfl, Nat.zero_le _, hg, hnc, hcm, hcs, htake⟩⟩ rfl
      have hr2 := Lib.run_append_grow_string (P := P) w t u ty e i (.int .u8 0) ht hu hi hz ⟨g, 0, none⟩ n cap xs (by rw [hsize]; exact hown.1) holds s (by omega) (by omega) (by rw [hby]; exact growslice_fits (by omega) (by omega))
      rw [hr2] at hr
      injection hr with e1 e2
      subst e1
      exact .inr (.inr ⟨w.heap.size, rfl, Nat.le_refl _⟩)
theorem strCells_str (l : List UInt8) : Lib.strCells (str l) = BV l := by
  simp [Lib.strCells, BV, str]
theorem str_size (l : List UInt8) : (str l).size = l.length := by simp [str, ByteArray.size]
/-- A string's bytes, put behind. -/
theorem app_str {w : World} {ops : Array Oper} {rest : List Oper} {o : Oper} {a : Act} {Q : Exit → Act → World → Prop} (hgd : o.guard = none) (s x : Operand)
    (ho : o.op = .call { callee := .builtin .append, args := #[s, x], argTypes := #[27, 9] })
    (v : Value) (l : List UInt8) (hs : a.eval s = v) (hown : Own w 0 v l) (m : List UInt8) (hx : a.eval x = .string (str m)) (hlen : l.length + m.length ≤ 140737488355328)
    (h : ∀ v' w', Own w' 0 v' (l ++ m) → Ext none v w v' w' → wpList Try.prog ops Q rest (a.put o.dst v') w') : wpList Try.prog ops Q (o :: rest) a w := by
  obtain ⟨i0, hi, hz0, hz1, hz2⟩ := info_parts infoByte
  obtain ⟨v', w', hrun, h2, h3, h4⟩ := run_app_str_at w 27 9 o.type 5 (P := Try.prog) i0 Try.underlying27 Try.underlying9 hi hz0 hz1 hz2 v l.length (BV l) hown (str m) (by rw [str_size]; exact hlen)
  rw [str_size, strCells_str] at h2
  refine wpList_plain hgd fun K hK => ?_
  unfold Oper.wp execOp
  simp only [ho, resolve, invoke, builtin, Sem.run_bind, Sem.run_pure, Result.andThen_ok, List.map_toArray, List.map_cons, List.map_nil, hs, hx, hrun]
  refine hK _ _ (h v' w' ?_ ⟨h3.os, h3.tape, h3.output, h3.size, fun k hk _ hv => h3.block k hk hv, h4⟩)
  unfold Own
  rw [List.length_append, BV_append]
  exact h2
/-- A slice's bytes, put behind. -/
theorem app_ext {w : World} {ops : Array Oper} {rest : List Oper} {o : Oper} {a : Act} {Q : Exit → Act → World → Prop} (hgd : o.guard = none) (s x : Operand)
    (ho : o.op = .call { callee := .builtin .append, args := #[s, x], argTypes := #[27, 27] })
    (v : Value) (l : List UInt8) (hs : a.eval s = v) (hown : Own w 0 v l) (B : Nat) (A : Option Addr) (m : List UInt8) (c : Nat) (hx : a.eval x = .slice A m.length c) (hr : Seg w B A m)
    (hlen : l.length + m.length ≤ 140737488355328)
    (h : ∀ v' w', Own w' 0 v' (l ++ m) → Ext none v w v' w' → wpList Try.prog ops Q rest (a.put o.dst v') w') : wpList Try.prog ops Q (o :: rest) a w := by
  obtain ⟨i0, hi, hz0, hz1, hz2⟩ := info_parts infoByte
  have hrun : ∃ v' w', (Builtin.append_ #[27, 27] o.type #[v, .slice A m.length c]).run Try.prog w = .ok v' w' ∧ Own w' 0 v' (l ++ m) ∧ Ext none v w v' w' := by
    by_cases h0 : 0 < m.length
    · obtain ⟨b, of, rfl, _, hc⟩ := hr h0
      obtain ⟨v', w', hrun, h2, h3, _, h5⟩ := run_append_own_at (P := Try.prog) w 0 27 o.type 5 i0 (.int .u8 0) 1 1 Try.underlying27 hi hz0 hz1 hz2 rfl (by decide) v l.length (BV l) hown ⟨b, of, none⟩ m.length c (BV m)
        (by rw [BV_len]; omega) (fun j u hu => by
          obtain ⟨hj, rfl⟩ := BV_get m j u hu
          have := hc j hj
          unfold Addr.add
          by_cases hz : j = 0
          · subst hz; simpa using this
          · rw [if_neg hz]; exact this) (BV_one m) (by unfold maxLen; omega) (by omega) (Nat.zero_le _)
      refine ⟨v', w', hrun, ?_, ⟨h3.os, h3.tape, h3.output, h3.size, fun k hk _ hv => h3.block k hk hv, ?_⟩⟩
      · unfold Own
        rw [List.length_append, BV_append]
        exact h2
      · rcases h5 with e | e
        · exact .inl e
        · exact .inr (.inr ⟨_, e, Nat.le_refl _⟩)
    · have hm : m = [] := List.eq_nil_of_length_eq_zero (by omega)
      subst hm
      cases A with
      | none => exact ⟨v, w, run_app_nil w 0 o.type v l hown c, by rw [List.append_nil]; exact hown, Ext.refl _ _ _⟩
      | some ad =>
        obtain ⟨v', w', hrun, h2, h3, _, h5⟩ := run_append_own_at (P := Try.prog) w 0 27 o.type 5 i0 (.int .u8 0) 1 1 Try.underlying27 hi hz0 hz1 hz2 rfl (by decide) v l.length (BV l) hown ad 0 c [] rfl (fun j u hu => by simp at hu) (fun u hu => by simp at hu) (by unfold maxLen; omega) (by omega) (Nat.zero_le _)
        refine ⟨v', w', hrun, ?_, ⟨h3.os, h3.tape, h3.output, h3.size, fun k hk _ hv => h3.block k hk hv, ?_⟩⟩
        · rw [List.append_nil]
          unfold Own
          simpa using h2
        · rcases h5 with e | e
          · exact .inl e
          · exact .inr (.inr ⟨_, e, Nat.le_refl _⟩)
  obtain ⟨v', w', hrun, h2, h3⟩ := hrun
  refine wpList_plain hgd fun K hK => ?_
  unfold Oper.wp execOp
  simp only [ho, resolve, invoke, builtin, Sem.run_bind, Sem.run_pure, Result.andThen_ok, List.map_toArray, List.map_cons, List.map_nil, hs, hx, hrun]
  exact hK _ _ (h v' w' h2 h3)
end Go.Proofs.Ytbclmgakifmgfaa
