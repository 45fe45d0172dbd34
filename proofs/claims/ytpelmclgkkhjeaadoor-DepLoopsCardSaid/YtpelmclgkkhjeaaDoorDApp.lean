/-
  Rows of items: one put behind them; a store elsewhere.
-/
import Derived.Test.YtpelmclgkkhjeaaDoorDItem2
namespace Go.Proofs.YtpelmclgkkhjeaaDoor
open Go.RowKit

abbrev TDep : TypeId := 33
abbrev TRIt : TypeId := 40
abbrev TRDep : TypeId := 26
theorem infoIt : (Tryd.prog.info? TIt).map (fun i => (i.zero, i.size, i.bytes)) = some (some (.agg #[.int .i64 0, .slice none 0 0]), 2, 32) := by kernel_rfl
theorem infoRIt : (Tryd.prog.info? TRIt).map (fun i => (i.zero, i.size, i.bytes)) = some (some (.agg #[.int .i64 0, .slice none 0 0]), 2, 32) := by kernel_rfl
/-- One item put behind a row of the call's own. -/
theorem app_it {w : World} {ops : Array Oper} {rest : List Oper} {o : Oper} {a : Act} {Q : Exit → Act → World → Prop} (T e : TypeId)
    (hT : Tryd.prog.underlying T = some (.slice e)) (hinfo : (Tryd.prog.info? e).map (fun i => (i.zero, i.size, i.bytes)) = some (some (.agg #[.int .i64 0, .slice none 0 0]), 2, 32))
    (hgd : o.guard = none) (s x : Operand) (ho : o.op = .call { callee := .builtin .append, args := #[s, x], argTypes := #[T, T] })
    (base : Nat) (ok : Nat → Prop) (v : Value) (l : List Itm) (k : Int) (js : List Int) (A : Option Addr) (c : Nat) (h1 : js.length ≤ c) (h2 : c ≤ maxLen) (w0 : World) (hs : a.eval s = v) (hown : OwnIt w0 e base ok v l)
    (hok : ∀ b, ok b → b < w0.heap.size ∧ some b ≠ v.ownBlock) (hj : SegP w0 ok A (IV js))
    (hw : w = w0.alloc (.cells #[.int .i64 k, .slice A js.length c] e)) (g : Nat) (hg : g = w0.heap.size) (hx : a.eval x = .slice (some ⟨g, 0, none⟩) 1 1) (hlen : l.length ≤ 1048576) (hbase : base ≤ w0.heap.size)
    (h : ∀ v' w', OwnIt w' e base ok v' (l ++ [(k, js)]) → (∀ b, ok b → w'.heap[b]? = w0.heap[b]?) → Below base w0 w' → wpList Tryd.prog ops Q rest (a.put o.dst v') w') : wpList Tryd.prog ops Q (o :: rest) a w := by
  subst hw
  subst hg
  obtain ⟨xs, hr, hi⟩ := hown
  refine app_own T e _ 2 32 hT hinfo rfl (by decide) hgd s x ho base v l.length xs hs (World.ownsRow.alloc hr _) (w0.heap.size + 1) (some ⟨w0.heap.size, 0, none⟩) 1 1 [.int .i64 k, .slice A js.length c] hx (one_cells w0 _ _) rfl (fun u hu => by simp at hu; rcases hu with rfl | rfl <;> rfl) (fun h => by cases h) (by omega) (by omega) (by rw [World.size_alloc]; omega) ?_
  intro v' w' a1 a2 a3 _
  have hk : ∀ b, ok b → w'.heap[b]? = w0.heap[b]? := fun b hb => by
    obtain ⟨p, q⟩ := hok b hb
    exact (a2.block b (by rw [World.size_alloc]; omega) q).trans (Below.heap_alloc _ _ _ p)
  refine h v' w' ⟨xs ++ [.int .i64 k, .slice A js.length c], ?_, (hi.keep hk).app (ItC.one h1 h2 (hj.keep hk))⟩ hk (((Below.refl _ _).alloc hbase _).trans a3)
  rw [List.length_append, List.length_singleton]
  exact a1
/-- Items of the call's own, whose jobs lie in blocks of whole numbers. -/
abbrev OwnT (w : World) (e : TypeId) (base : Nat) (v : Value) (l : List Itm) : Prop := OwnIt w e base (TagI w) v l
theorem OwnIt.tags {w : World} {e : TypeId} {base : Nat} {ok : Nat → Prop} {v : Value} {l : List Itm} (h : OwnIt w e base ok v l) (hk : ∀ b, b < w.heap.size → ok b → TagI w b) : OwnT w e base v l := by
  obtain ⟨xs, h1, h2⟩ := h
  exact ⟨xs, h1, h2.imp hk⟩
theorem OwnIt.ne {w : World} {e : TypeId} {base b : Nat} {v : Value} {l : List Itm} (h : OwnT w e base v l) (he : e ≠ 3) (hb : TagI w b) : some b ≠ v.ownBlock := by
  obtain ⟨xs, h1, _⟩ := h
  obtain ⟨cs, fr, hb⟩ := hb
  exact own_tag h1 hb he.symm
theorem OwnIt.below {w w' : World} {e : TypeId} {base : Nat} {v : Value} {l : List Itm} (h : OwnT w e base v l) (hb : Below w.heap.size w w') : OwnT w' e base v l := by
  obtain ⟨xs, h1, h2⟩ := h
  have k := h2.keep (w' := w') (fun b h => hb.block b h.lt)
  exact ⟨xs, ownsRow_below h1 hb, k.imp fun b _ h => h.same (hb.block b h.lt)⟩
theorem OwnIt.set {w : World} {e : TypeId} {base b : Nat} {v : Value} {l : List Itm} (h : OwnT w e base v l) {cs : Array Value} {T : TypeId} {fr : Nat × Nat} (hb : w.heap[b]? = some (.cells cs T fr)) (hT : T ≠ 3) (hTe : T ≠ e) (i : Nat) (u : Value) : OwnT (w.setCell ⟨b, i, none⟩ u) e base v l := by
  obtain ⟨xs, h1, h2⟩ := h
  have hne := own_tag h1 hb hTe
  have k := h2.keep (w' := w.setCell ⟨b, i, none⟩ u) (fun c hc => (tagI_set i u hb hT hc).2)
  refine ⟨xs, ⟨h1.1, ?_⟩, k.imp fun c _ hc => (tagI_set i u hb hT hc).1⟩
  rcases h1.2 with ⟨rfl, hn⟩ | ⟨g, cap, cur, rfl, hg, hh, rest⟩
  · exact .inl ⟨rfl, hn⟩
  · exact .inr ⟨g, cap, cur, rfl, hg, block_other _ _ hh (fun e => hne (by rw [e]; rfl)), rest⟩
theorem tag_It_int : TIt ≠ 3 := by decide
theorem tag_RIt_int : TRIt ≠ 3 := by decide
theorem tag_Dep_int : TDep ≠ 3 := by decide
theorem tag_Dep_It : TDep ≠ TIt := by decide
theorem tag_Fa_It : TFa ≠ TIt := by decide
end Go.Proofs.YtpelmclgkkhjeaaDoor
