/-
  Parts: HRExp.
-/
import Derived.Test.YtmnmcikbbfcjcaaGreatDoorH3
import Derived.Test.YtmnmcikbbfcjcaaGreatDoorH2
set_option linter.unusedSimpArgs false
set_option linter.unusedVariables false
/-
  The document's Expand: what it answers are names that may be.
-/
namespace Go.Proofs.YtmnmcikbbfcjcaaGreatDoor.Hs
open Go.RowKit

/-- One name more, and where its row lies. -/
theorem app_name_at {w : World} {ops : Array Oper} {rest : List Oper} {o : Oper} {a : Act} {Q : Exit → Act → World → Prop} (hgd : o.guard = none) (s x : Operand) (ho : o.op = .call { callee := .builtin .append, args := #[s, x], argTypes := #[22, 22] })
    (base : Nat) (v : Value) (ns : List (List UInt8)) (n : List UInt8) (S : ByteArray) (hS : S = str n) (w0 : World) (hs : a.eval s = v) (hown : OwnS w0 base v ns)
    (hw : w = w0.alloc (.cells #[.string S] 9)) (g : Nat) (hg : g = w0.heap.size) (hx : a.eval x = .slice (some ⟨g, 0, none⟩) 1 1) (hlen : ns.length ≤ 1048576) (hbase : base ≤ w0.heap.size)
    (h : ∀ v' w', OwnS w' base v' (ns ++ [n]) → w0.grownBy w' v.ownBlock → Below base w0 w' → (v'.ownBlock = v.ownBlock ∨ v'.ownBlock = some (w0.heap.size + 1)) → wpList Tryz.prog ops Q rest (a.put o.dst v') w') : wpList Tryz.prog ops Q (o :: rest) a w := by
  subst hS
  subst hw
  subst hg
  obtain ⟨i0, hi, hz0, hz1, hz2⟩ := info_parts infoString
  obtain ⟨v', w', hrun, h2, h3, _, h5⟩ := run_append_own_at (P := Tryz.prog) (w0.alloc (.cells #[.string (str n)] 9)) base 22 o.type 9 i0 (.string ⟨#[]⟩) 1 16 Tryz.underlying22 hi hz0 hz1 hz2 rfl (by decide) v ns.length (SV ns) (World.ownsRow.alloc hown _) ⟨w0.heap.size, 0, none⟩ 1 1 [.string (str n)] rfl
    (fun j u hj => by
      cases j with
      | zero =>
        have : u = .string (str n) := by simpa using hj.symm
        subst this
        show (w0.alloc _).cell? ⟨w0.heap.size, 0, none⟩ = _
        simp
      | succ j => simp at hj)
    (fun u hu => by simp at hu; subst hu; rfl) (by unfold maxLen; omega) (by omega) (by rw [World.size_alloc]; omega)
  have hb : Below base w0 w' := ((Below.refl _ _).alloc hbase _).trans ((Below.refl _ _).grown h3 (by rw [World.size_alloc]; omega) (fun k hk => ownsRow_ge hown k hk))
  refine wpList_plain hgd fun K hK => ?_
  unfold Oper.wp execOp
  simp only [ho, resolve, invoke, builtin, Sem.run_bind, Sem.run_pure, Result.andThen_ok, List.map_toArray, List.map_cons, List.map_nil, hs, hx, hrun]
  refine hK _ _ (h v' w' ?_ ⟨h3.os, h3.tape, h3.output, Nat.le_trans (by rw [World.size_alloc]; omega) h3.size, fun k hk hne => (h3.block k (by rw [World.size_alloc]; omega) hne).trans (Below.heap_alloc _ _ _ hk)⟩ hb (by rw [World.size_alloc] at h5; exact h5))
  unfold OwnS
  rw [SV_app, List.length_append]
  exact h2
def AllB (r : List UInt8) (j : Nat) : Prop := ∀ i (h : i < r.length), i < j → isBare r[i] = true
theorem AllB.succ {r : List UInt8} {j : Nat} (h : AllB r j) (hj : j < r.length) (hd : isBare r[j] = true) : AllB r (j + 1) := fun i hi hlt => by
  by_cases he : i = j
  · subst he; exact hd
  · exact h i hi (by omega)
theorem bare_take {r : List UInt8} {j : Nat} (h : AllB r j) (hj : j ≤ r.length) : (r.take j).all isBare = true := by
  rw [List.all_eq_true]
  intro x hx
  obtain ⟨i, hi, rfl⟩ := List.getElem_of_mem hx
  rw [List.length_take] at hi
  rw [List.getElem_take]
  exact h i (by omega) (by omega)
theorem pk_bare {s : ByteArray} {a : Nat} {y : Int} (h : isBare (pk s a y) = true) : ∃ h : a < s.size, pk s a y = s[a] := by
  unfold pk at h ⊢
  split at h
  · rename_i h1
    exact ⟨h1.1, by rw [dif_pos h1]⟩
  · cases h
/-- A row that is another's beside the one that grows. -/
theorem OwnS.grown {w w' : World} {base : Nat} {v v0 : Value} {ns : List (List UInt8)} (h : OwnS w base v ns) (g : w.grownBy w' v0.ownBlock) (hne : ∀ k, v.ownBlock = some k → v0.ownBlock ≠ some k) : OwnS w' base v ns := by
  refine ⟨h.1, ?_⟩
  rcases h.2 with ⟨rfl, hn⟩ | ⟨k, cap, cur, rfl, hk, hh, rest⟩
  · exact .inl ⟨rfl, hn⟩
  · exact .inr ⟨k, cap, cur, rfl, hk, (g.block k (lt_of_block hh) (fun e => hne k (by simp [Value.ownBlock]) e.symm)).trans hh, rest⟩
theorem OwnS.lt {w : World} {base : Nat} {v : Value} {ns : List (List UInt8)} (h : OwnS w base v ns) (k : Nat) (hk : v.ownBlock = some k) : k < w.heap.size := by
  rcases h.2 with ⟨h2, _⟩ | ⟨g', c', cur, h2, _, hh, _⟩
  · rw [h2] at hk
    cases hk
  · rw [h2] at hk
    have : g' = k := by simpa [Value.ownBlock] using hk
    subst this
    exact lt_of_block hh
theorem map_snoc (f : List UInt8 → List UInt8) (ns ls : List (List UInt8)) (k : Nat) (h : k < ls.length) : ns ++ (ls.map f).take (k + 1) = (ns ++ (ls.map f).take k) ++ [f ls[k]] := by
  rw [List.take_succ_eq_append_getElem (by simpa using h), List.append_assoc, List.getElem_map]
end Go.Proofs.YtmnmcikbbfcjcaaGreatDoor.Hs
