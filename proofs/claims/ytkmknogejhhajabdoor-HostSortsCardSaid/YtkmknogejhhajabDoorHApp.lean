/-
  One range more, one name more, many names more.
-/
import Derived.Test.YtkmknogejhhajabDoorHStr
namespace Go.Proofs.YtkmknogejhhajabDoor
open Go.RowKit

theorem RV_app (a b : List (Nat × Nat × Nat)) : RV (a ++ b) = RV a ++ RV b := List.flatMap_append
theorem one_cells (w : World) (cs : List Value) (T : TypeId) : SegC (w.alloc (.cells cs.toArray T)) (w.heap.size + 1) (some ⟨w.heap.size, 0, none⟩) cs := fun _ => by
  refine ⟨w.heap.size, 0, rfl, Nat.lt_succ_self _, fun j hj => ?_⟩
  have h := heap_alloc_new w (.cells cs.toArray T)
  simp only [World.cell?, h, Nat.zero_add]
  simp [List.getElem?_eq_getElem hj]
section
variable {w : World} {ops : Array Oper} {rest : List Oper} {o : Oper} {a : Act} {Q : Exit → Act → World → Prop}
theorem app_span (hgd : o.guard = none) (s x : Operand) (ho : o.op = .call { callee := .builtin .append, args := #[s, x], argTypes := #[49, 49] })
    (base : Nat) (v : Value) (rs : List (Nat × Nat × Nat)) (p q r : Nat) (w0 : World) (hs : a.eval s = v) (hown : OwnR w0 base v rs)
    (hw : w = w0.alloc (.cells #[.int .i64 p, .int .i64 q, .int .i64 r] 77)) (g : Nat) (hg : g = w0.heap.size) (hx : a.eval x = .slice (some ⟨g, 0, none⟩) 1 1) (hlen : rs.length ≤ 1048576) (hbase : base ≤ w0.heap.size)
    (h : ∀ v' w', OwnR w' base v' (rs ++ [(p, q, r)]) → Below base w0 w' → wpList Tryd.prog ops Q rest (a.put o.dst v') w') : wpList Tryd.prog ops Q (o :: rest) a w := by
  subst hw
  subst hg
  refine app_own 49 77 (.agg #[.int .i64 0, .int .i64 0, .int .i64 0]) 3 24 Tryd.underlying49 infoSpan rfl (by decide) hgd s x ho base v rs.length (RV rs) hs (World.ownsRow.alloc hown _) (w0.heap.size + 1) (some ⟨w0.heap.size, 0, none⟩) 1 1 [.int .i64 p, .int .i64 q, .int .i64 r] hx (one_cells w0 _ _) rfl (fun u hu => by simp at hu; rcases hu with rfl | rfl | rfl <;> rfl) (fun h => by cases h) (by omega) (by omega) (by rw [World.size_alloc]; omega) ?_
  intro v' w' h1 _ h3
  refine h v' w' ?_ (((Below.refl _ _).alloc hbase _).trans h3)
  unfold OwnR
  rw [RV_app, List.length_append]
  exact h1
theorem app_name (hgd : o.guard = none) (s x : Operand) (ho : o.op = .call { callee := .builtin .append, args := #[s, x], argTypes := #[22, 22] })
    (base : Nat) (v : Value) (ns : List (List UInt8)) (n : List UInt8) (S : ByteArray) (hS : S = str n) (w0 : World) (hs : a.eval s = v) (hown : OwnS w0 base v ns)
    (hw : w = w0.alloc (.cells #[.string S] 9)) (g : Nat) (hg : g = w0.heap.size) (hx : a.eval x = .slice (some ⟨g, 0, none⟩) 1 1) (hlen : ns.length ≤ 1048576) (hbase : base ≤ w0.heap.size)
    (h : ∀ v' w', OwnS w' base v' (ns ++ [n]) → w0.grownBy w' v.ownBlock → Below base w0 w' → wpList Tryd.prog ops Q rest (a.put o.dst v') w') : wpList Tryd.prog ops Q (o :: rest) a w := by
  subst hS
  subst hw
  subst hg
  refine app_own 22 9 (.string ⟨#[]⟩) 1 16 Tryd.underlying22 infoString rfl (by decide) hgd s x ho base v ns.length (SV ns) hs (World.ownsRow.alloc hown _) (w0.heap.size + 1) (some ⟨w0.heap.size, 0, none⟩) 1 1 [.string (str n)] hx (one_cells w0 _ _) rfl (fun u hu => by simp at hu; rcases hu with rfl; rfl) (fun h => by cases h) (by omega) (by omega) (by rw [World.size_alloc]; omega) ?_
  intro v' w' h1 h2 h3
  refine h v' w' ?_ ⟨h2.os, h2.tape, h2.output, Nat.le_trans (by rw [World.size_alloc]; omega) h2.size, fun k hk hne => (h2.block k (by rw [World.size_alloc]; omega) hne).trans (Below.heap_alloc _ _ _ hk)⟩ (((Below.refl _ _).alloc hbase _).trans h3)
  unfold OwnS
  rw [SV_app, List.length_append]
  exact h1
theorem app_names (hgd : o.guard = none) (s x : Operand) (ho : o.op = .call { callee := .builtin .append, args := #[s, x], argTypes := #[22, 22] })
    (base : Nat) (v : Value) (ns : List (List UInt8)) (hs : a.eval s = v) (hown : OwnS w base v ns) (B : Nat) (A : Option Addr) (ms : List (List UInt8)) (c : Nat) (hx : a.eval x = .slice A ms.length c) (hr : Strs w B A ms) (hA : A = none → ms.length = 0)
    (hlen : ns.length + ms.length ≤ 1048576) (hbase : base ≤ w.heap.size)
    (h : ∀ v' w', OwnS w' base v' (ns ++ ms) → w.grownBy w' v.ownBlock → Below base w w' → wpList Tryd.prog ops Q rest (a.put o.dst v') w') : wpList Tryd.prog ops Q (o :: rest) a w := by
  refine app_own 22 9 (.string ⟨#[]⟩) 1 16 Tryd.underlying22 infoString rfl (by decide) hgd s x ho base v ns.length (SV ns) hs hown B A ms.length c (SV ms) hx hr (by rw [SV_len, Nat.mul_one]) (SV_one ms) hA (by omega) (by omega) hbase ?_
  intro v' w' h1 h2 h3
  refine h v' w' ?_ h2 h3
  unfold OwnS
  rw [SV_app, List.length_append]
  exact h1
end
theorem OwnS.shape {w : World} {base : Nat} {v : Value} {ns : List (List UInt8)} (h : OwnS w base v ns) : ∃ A cap, v = .slice A ns.length cap ∧ ns.length ≤ cap ∧ cap ≤ maxLen ∧ Strs w w.heap.size A ns := ownsRow_shape h
theorem OwnS.below {w w' : World} {base : Nat} {v : Value} {ns : List (List UInt8)} (h : OwnS w base v ns) (hb : Below w.heap.size w w') : OwnS w' base v ns := ownsRow_below h hb
theorem OwnS.base {w : World} {base base' : Nat} {v : Value} {ns : List (List UInt8)} (h : OwnS w base v ns) (hb : base' ≤ base) : OwnS w base' v ns := ownsRow_base h hb
theorem OwnS.nil (w : World) (base : Nat) : OwnS w base (.slice none 0 0) [] := ownsRow_nil w base _ _
theorem OwnR.below {w w' : World} {base : Nat} {v : Value} {ns : List (Nat × Nat × Nat)} (h : OwnR w base v ns) (hb : Below w.heap.size w w') : OwnR w' base v ns := ownsRow_below h hb
theorem OwnR.base {w : World} {base base' : Nat} {v : Value} {ns : List (Nat × Nat × Nat)} (h : OwnR w base v ns) (hb : base' ≤ base) : OwnR w base' v ns := ownsRow_base h hb
theorem OwnR.nil (w : World) (base : Nat) : OwnR w base (.slice none 0 0) [] := ownsRow_nil w base _ _
theorem OwnR.shape {w : World} {base : Nat} {v : Value} {rs : List (Nat × Nat × Nat)} (h : OwnR w base v rs) : ∃ A cap, v = .slice A rs.length cap ∧ rs.length ≤ cap ∧ cap ≤ maxLen ∧ SegC w w.heap.size A (RV rs) := ownsRow_shape h
theorem Strs.none_ {w : World} {B : Nat} {ns : List (List UInt8)} (h : Strs w B none ns) : ns.length = 0 := by
  by_cases h0 : 0 < ns.length
  · obtain ⟨b, o, e, _⟩ := h (by rw [SV_len]; exact h0)
    cases e
  · omega
end Go.Proofs.YtkmknogejhhajabDoor
