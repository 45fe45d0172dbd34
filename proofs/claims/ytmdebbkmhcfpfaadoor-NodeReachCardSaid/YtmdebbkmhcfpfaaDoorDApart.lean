/-
  A number put behind a row of the call's own: what lies elsewhere stays, and stays elsewhere.
-/
import Derived.Test.YtmdebbkmhcfpfaaDoorDBase
namespace Go.Proofs.YtmdebbkmhcfpfaaDoor
open Go.RowKit

theorem app_apart {w : World} {ops : Array Oper} {rest : List Oper} {o : Oper} {a : Act} {Q : Exit → Act → World → Prop} (hgd : o.guard = none) (s x : Operand) (ho : o.op = .call { callee := .builtin .append, args := #[s, x], argTypes := #[26, 26] })
    (base : Nat) (v : Value) (ns : List Int) (n : Int) (w0 : World) (hs : a.eval s = v) (hown : OwnI w0 base v ns)
    (hw : w = w0.alloc (.cells #[.int .i64 n] 3)) (g : Nat) (hg : g = w0.heap.size) (hx : a.eval x = .slice (some ⟨g, 0, none⟩) 1 1) (hlen : ns.length ≤ 1048576) (hbase : base ≤ w0.heap.size)
    (ok : Nat → Prop) (hok : ∀ k, ok k → k < w0.heap.size ∧ some k ≠ v.ownBlock)
    (h : ∀ v' w', OwnI w' base v' (ns ++ [n]) → (∀ k, ok k → w'.heap[k]? = w0.heap[k]? ∧ some k ≠ v'.ownBlock) → Below base w0 w' → wpList Tryd.prog ops Q rest (a.put o.dst v') w') : wpList Tryd.prog ops Q (o :: rest) a w := by
  subst hw
  subst hg
  refine app_own 26 3 (.int .i64 0) 1 8 Tryd.underlying26 infoInt rfl (by decide) hgd s x ho base v ns.length (IV ns) hs (World.ownsRow.alloc hown _) (w0.heap.size + 1) (some ⟨w0.heap.size, 0, none⟩) 1 1 [.int .i64 n] hx (one_cells w0 _ _) rfl (fun u hu => by simp at hu; rcases hu with rfl; rfl) (fun h => by cases h) (by omega) (by omega) (by rw [World.size_alloc]; omega) ?_
  intro v' w' h1 h2 h3 h4
  refine h v' w' ?_ (fun k hk => ?_) (((Below.refl _ _).alloc hbase _).trans h3)
  · unfold OwnI
    rw [IV_app, List.length_append]
    exact h1
  · obtain ⟨k1, k2⟩ := hok k hk
    refine ⟨(h2.block k (by rw [World.size_alloc]; omega) k2).trans (Below.heap_alloc _ _ _ k1), ?_⟩
    rcases h4 with h4 | h4
    · rw [h4]; exact k2
    · rw [h4, World.size_alloc]
      intro e
      injection e with e
      omega
end Go.Proofs.YtmdebbkmhcfpfaaDoor
