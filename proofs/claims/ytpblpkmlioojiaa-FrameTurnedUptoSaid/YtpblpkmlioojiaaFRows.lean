/-
  Lists of bytes: as they read, and as the call itself lays them.
-/
import Derived.Test.YtpblpkmlioojiaaFApp
namespace Go.Proofs.Ytpblpkmlioojiaa
open Go.RowKit

/-- The slice at address A reads as these lists of bytes, each in a block below B. -/
def SegRows (w : World) (B : Nat) (A : Option Addr) (ps : List (List UInt8)) : Prop :=
  0 < ps.length → ∃ b o, A = some ⟨b, o, none⟩ ∧ b < B ∧ ∀ j (h : j < ps.length), ∃ Aj cj, w.cell? ⟨b, o + j, none⟩ = some (.slice Aj ps[j].length cj) ∧ ps[j].length ≤ cj ∧ Seg w B Aj ps[j]
theorem SegRows.nil (w : World) (B : Nat) (A : Option Addr) : SegRows w B A [] := fun h => absurd h (Nat.lt_irrefl 0)
theorem SegRows.keep {w w' : World} {B : Nat} {A : Option Addr} {ps : List (List UInt8)} (h : SegRows w B A ps) (hk : ∀ p : Addr, p.block < B → w'.cell? p = w.cell? p) : SegRows w' B A ps := fun h0 => by
  obtain ⟨b, o, e, hb, hc⟩ := h h0
  refine ⟨b, o, e, hb, fun j hj => ?_⟩
  obtain ⟨Aj, cj, h1, h2, h3⟩ := hc j hj
  exact ⟨Aj, cj, (hk _ hb).trans h1, h2, h3.keep hk⟩
theorem SegRows.below {w w' : World} {B : Nat} {A : Option Addr} {ps : List (List UInt8)} (h : SegRows w B A ps) (hb : Below B w w') : SegRows w' B A ps := h.keep fun _ hp => hb.cell hp
theorem SegRows.more {w : World} {B B' : Nat} {A : Option Addr} {ps : List (List UInt8)} (h : SegRows w B A ps) (hB : B ≤ B') : SegRows w B' A ps := fun h0 => by
  obtain ⟨b, o, e, hb, hc⟩ := h h0
  refine ⟨b, o, e, by omega, fun j hj => ?_⟩
  obtain ⟨Aj, cj, h1, h2, h3⟩ := hc j hj
  exact ⟨Aj, cj, h1, h2, h3.more hB⟩
theorem SegRows.take {w : World} {B : Nat} {A : Option Addr} {ps : List (List UInt8)} (h : SegRows w B A ps) (k : Nat) : SegRows w B A (ps.take k) := fun h0 => by
  rw [List.length_take] at h0
  obtain ⟨b, o, e, hb, hc⟩ := h (by omega)
  refine ⟨b, o, e, hb, fun j hj => ?_⟩
  rw [List.length_take] at hj
  rw [List.getElem_take]
  exact hc j (by omega)

/-- A slice of the call's own holds these lists of bytes, each of the call's own. -/
def Rowz (w : World) (base : Nat) (v : Value) (ps : List (List UInt8)) : Prop :=
  ∃ vs : List Value, w.ownsRow base 22 1 v ps.length vs ∧ ∀ j (h : j < ps.length), ∃ u, vs[j]? = some u ∧ Own w base u ps[j]
theorem infoSlice : (Try.prog.info? 22).map (fun i => (i.zero, i.size, i.bytes)) = some (some (.slice none 0 0), 1, 24) := by kernel_rfl
theorem Rowz.none_ (w : World) (base : Nat) : Rowz w base (.slice none 0 0) [] := ⟨[], ⟨rfl, .inl ⟨rfl, rfl⟩⟩, fun j h => absurd h (Nat.not_lt_zero j)⟩
theorem Own.one {w : World} {base : Nat} {v : Value} {l : List UInt8} (h : Own w base v l) : v.oneCell' = true := by
  obtain ⟨A, c, rfl, _⟩ := h.shape
  rfl
theorem ownsRow_below {w w' : World} {base : Nat} {e : TypeId} {size n : Nat} {v : Value} {xs : List Value} (h : w.ownsRow base e size v n xs) (hb : Below w.heap.size w w') : w'.ownsRow base e size v n xs := by
  refine ⟨h.1, ?_⟩
  rcases h.2 with ⟨rfl, hn⟩ | ⟨g, cap, cur, rfl, hg, hh, rest⟩
  · exact .inl ⟨rfl, hn⟩
  · exact .inr ⟨g, cap, cur, rfl, hg, (hb.block g (Array.getElem?_eq_some_iff.1 hh).1).trans hh, rest⟩
theorem Rowz.below {w w' : World} {base : Nat} {v : Value} {ps : List (List UInt8)} (h : Rowz w base v ps) (hb : Below w.heap.size w w') : Rowz w' base v ps := by
  obtain ⟨vs, h1, h2⟩ := h
  refine ⟨vs, ownsRow_below h1 hb, fun j hj => ?_⟩
  obtain ⟨u, hu, ho⟩ := h2 j hj
  exact ⟨u, hu, ho.below hb⟩
theorem Rowz.shape {w : World} {base : Nat} {v : Value} {ps : List (List UInt8)} (h : Rowz w base v ps) : ∃ A cap, v = .slice A ps.length cap ∧ ps.length ≤ cap ∧ SegRows w w.heap.size A ps := by
  obtain ⟨vs, ⟨hl, ⟨rfl, hn⟩ | ⟨g, cap, cur, rfl, _, hg, hle, hcm, hsz, ht⟩⟩, h2⟩ := h
  · have hl : ps = [] := List.eq_nil_of_length_eq_zero hn
    subst hl
    exact ⟨none, 0, rfl, Nat.le_refl _, SegRows.nil _ _ _⟩
  · refine ⟨some ⟨g, 0, none⟩, cap, rfl, hle, fun h0 => ⟨g, 0, rfl, (Array.getElem?_eq_some_iff.1 hg).1, fun j hj => ?_⟩⟩
    obtain ⟨u, hu, ho⟩ := h2 j hj
    obtain ⟨Aj, cj, rfl, hc, _, hs⟩ := ho.shape
    refine ⟨Aj, cj, ?_, hc, hs⟩
    rw [← ht, List.getElem?_take, if_pos (by omega), Array.getElem?_toList] at hu
    simp only [World.cell?, hg, Nat.zero_add]
    simpa using hu
theorem own_ne {w : World} {base base' n : Nat} {u v : Value} {l : List UInt8} {vs : List Value} (hu : Own w base u l) (hv : w.ownsRow base' 22 1 v n vs) : u.ownBlock = none ∨ u.ownBlock ≠ v.ownBlock := by
  rcases hu.2 with ⟨rfl, _⟩ | ⟨g, cap, cur, rfl, _, hg, _⟩
  · exact .inl rfl
  · right
    rcases hv.2 with ⟨rfl, _⟩ | ⟨g', cap', cur', rfl, _, hg', _⟩
    · simp [Value.ownBlock]
    · intro he
      have : g = g' := by simpa [Value.ownBlock] using he
      subst this
      rw [hg] at hg'
      injection hg' with hg'
      injection hg' with _ ht
      exact absurd ht (by decide)
/-- One list more, put behind the others. -/
theorem app_rows {w : World} {ops : Array Oper} {rest : List Oper} {o : Oper} {a : Act} {Q : Exit → Act → World → Prop} (hgd : o.guard = none) (s x : Operand)
    (ho : o.op = .call { callee := .builtin .append, args := #[s, x], argTypes := #[37, 37] })
    (base : Nat) (v u : Value) (ps : List (List UInt8)) (p : List UInt8) (w0 : World) (hs : a.eval s = v) (hown : Rowz w0 base v ps) (hu : Own w0 base u p)
    (hw : w = w0.alloc (.cells #[u] 22)) (hx : a.eval x = .slice (some ⟨w0.heap.size, 0, none⟩) 1 1)
    (hlen : ps.length ≤ 1048576) (hbase : base ≤ w0.heap.size)
    (h : ∀ v' w', Rowz w' base v' (ps ++ [p]) → Below base w0 w' → wpList Try.prog ops Q rest (a.put o.dst v') w') : wpList Try.prog ops Q (o :: rest) a w := by
  subst hw
  obtain ⟨i0, hi, hz0, hz1, hz2⟩ := info_parts infoSlice
  obtain ⟨vs, h1, h2⟩ := hown
  have h1' := World.ownsRow.alloc h1 (.cells #[u] 22)
  obtain ⟨v', w', hrun, g2, g3, _, _⟩ := run_append_own_at (P := Try.prog) (w0.alloc (.cells #[u] 22)) base 37 o.type 22 i0 (.slice none 0 0) 1 24 Try.underlying37 hi hz0 hz1 hz2 rfl (by decide) v ps.length vs h1' ⟨w0.heap.size, 0, none⟩ 1 1 [u] rfl
    (fun j x hj => by
      cases j with
      | zero =>
        have : x = u := by simpa using hj.symm
        subst this
        show (w0.alloc (.cells #[x] 22)).cell? ⟨w0.heap.size, 0, none⟩ = some x
        simp
      | succ j => simp at hj)
    (fun x hx => by simp at hx; subst hx; exact hu.one) (by unfold maxLen; omega) (by omega) (by rw [World.size_alloc]; omega)
  have hb : Below base w0 w' := ((Below.refl _ _).alloc hbase _).trans ((Below.refl _ _).grown g3 (by rw [World.size_alloc]; omega) (fun k hk => (World.ownsRow.lt h1' k hk).1))
  refine wpList_plain hgd fun K hK => ?_
  unfold Oper.wp execOp
  simp only [ho, resolve, invoke, builtin, Sem.run_bind, Sem.run_pure, Result.andThen_ok, List.map_toArray, List.map_cons, List.map_nil, hs, hx, hrun]
  refine hK _ _ (h v' w' ⟨vs ++ [u], by rw [List.length_append]; exact g2, fun j hj => ?_⟩ hb)
  have hvl : vs.length = ps.length := by have := h1.1; omega
  by_cases hlt : j < ps.length
  · obtain ⟨y, hy, hO⟩ := h2 j hlt
    refine ⟨y, by rw [List.getElem?_append_left (by omega)]; exact hy, ?_⟩
    rw [List.getElem_append_left hlt]
    exact World.ownsRow.kept (hO.alloc _) g3 (own_ne (hO.alloc _) h1')
  · have hj' : j = ps.length := by rw [List.length_append, List.length_singleton] at hj; omega
    subst hj'
    refine ⟨u, by rw [List.getElem?_append_right (by omega), hvl]; simp, ?_⟩
    rw [List.getElem_append_right (by omega)]
    simp only [Nat.sub_self, List.getElem_cons_zero]
    exact World.ownsRow.kept (hu.alloc _) g3 (own_ne (hu.alloc _) h1')
end Go.Proofs.Ytpblpkmlioojiaa
