/-
  What DepLoops gathers: the jobs kept, as a row and as a map; how many there are.
-/
import Derived.Test.YtpelmclgkkhjeaaDoorDTheirs
import Derived.Test.YtpelmclgkkhjeaaDoorDPLoop
namespace Go.Proofs.YtpelmclgkkhjeaaDoor
open Go.RowKit

abbrev TEd : TypeId := 28
theorem infoEd : (Tryd.prog.info? TEd).map (fun i => (i.zero, i.size, i.bytes)) = some (some (.agg #[.int .i64 0, .bool false, .slice none 0 0]), 3, 40) := by kernel_rfl
theorem tag_Ed_It : TEd ≠ TIt := by decide
/-- A block that was there, or a row of items. -/
def okT (B : Nat) (w : World) (b : Nat) : Prop := b < B ∨ ∃ cs fr, w.heap[b]? = some (.cells cs TIt fr)
/-- Items in such blocks. -/
def ItsT (w : World) (B : Nat) (A : Option Addr) (l : List Itm) : Prop := ∃ xs, SegP w (okT B w) A xs ∧ ItC w (okT B w) xs l
section
variable {w w' : World} {B b base : Nat} {A : Option Addr} {l : List Itm} {v : Value}
theorem okT.same (h : okT B w b) (hk : w'.heap[b]? = w.heap[b]?) : okT B w' b := h.imp id fun ⟨cs, fr, e⟩ => ⟨cs, fr, hk.trans e⟩
theorem okT.lt (h : okT B w b) (hB : B ≤ w.heap.size) : b < w.heap.size := by
  rcases h with h | ⟨cs, fr, e⟩
  · omega
  · exact lt_of_block e
theorem ItsT.keep (h : ItsT w B A l) (hk : ∀ b, okT B w b → w'.heap[b]? = w.heap[b]?) : ItsT w' B A l := by
  obtain ⟨xs, h1, h2⟩ := h
  exact ⟨xs, fun h0 => by
    obtain ⟨c, o, e, hc, hcell⟩ := h1.keep hk h0
    exact ⟨c, o, e, hc.same (hk c hc), hcell⟩, ⟨h2.1, fun k hl => by
    obtain ⟨a, A, c, b, d, e, f⟩ := h2.2 k hl
    refine ⟨a, A, c, b, d, e, fun h0 => ?_⟩
    obtain ⟨c, o, e, hc, hcell⟩ := f.keep hk h0
    exact ⟨c, o, e, hc.same (hk c hc), hcell⟩⟩⟩
theorem ItsT.its (h : ItsT w B A l) : Its w w.heap.size A l := by
  obtain ⟨xs, h1, h2⟩ := h
  exact ⟨xs, h1.imp fun b hb _ => hb, h2.imp fun b hb _ => hb⟩
theorem ItsT.own (h : OwnIt w TIt base (fun b => b < B) v l) : ∃ A c, v = .slice A l.length c ∧ ItsT w B A l := by
  obtain ⟨xs, h1, h2⟩ := h
  have h3 : ItC w (okT B w) xs l := h2.imp fun b _ h => .inl h
  obtain ⟨hl, ⟨rfl, hn⟩ | ⟨g, cap, cur, rfl, hg, hh, hle, hcm, hsz, ht⟩⟩ := h1
  · exact ⟨none, 0, by rw [hn], xs, fun h0 => by rw [hl, hn] at h0; omega, h3⟩
  · refine ⟨some ⟨g, 0, none⟩, cap, rfl, xs, fun h0 => ⟨g, 0, rfl, .inr ⟨_, _, hh⟩, fun j hj => ?_⟩, h3⟩
    have e : (cur.toList.take (l.length * 2))[j]? = some xs[j] := by rw [ht, List.getElem?_eq_getElem hj]
    rw [List.getElem?_take, if_pos (by omega), Array.getElem?_toList] at e
    simp only [World.cell?, hh, Nat.zero_add]
    simpa using e
end
/-- Jobs with what they wait for, as cells. -/
def EdC (w : World) (B : Nat) (xs : List Value) (l : List Dp) : Prop := xs.length = l.length * 3 ∧ ∀ k (h : k < l.length), xs[k * 3]? = some (.int .i64 l[k].1) ∧ xs[k * 3 + 1]? = some (.bool l[k].2.1) ∧
  ∃ A' c, xs[k * 3 + 2]? = some (.slice A' l[k].2.2.length c) ∧ l[k].2.2.length ≤ c ∧ c ≤ maxLen ∧ Its w B A' l[k].2.2
/-- A row of the call's own that holds them. -/
def OwnE (w : World) (base B : Nat) (v : Value) (l : List Dp) : Prop := ∃ xs, w.ownsRow base TEd 3 v l.length xs ∧ EdC w B xs l
section
variable {w w' : World} {B base : Nat} {xs : List Value} {l : List Dp} {v : Value}
theorem EdC.below (h : EdC w B xs l) (hb : Below B w w') : EdC w' B xs l := by
  refine ⟨h.1, fun k hk => ?_⟩
  obtain ⟨a, b, A', c, d, e, f, g⟩ := h.2 k hk
  exact ⟨a, b, A', c, d, e, f, g.below hb⟩
theorem EdC.snoc (h : EdC w B xs l) {id : Int} {any : Bool} {its : List Itm} {A : Option Addr} {c : Nat} (h1 : its.length ≤ c) (h2 : c ≤ maxLen) (hI : Its w B A its) : EdC w B (xs ++ [.int .i64 id, .bool any, .slice A its.length c]) (l ++ [(id, any, its)]) := by
  obtain ⟨hl, hk⟩ := h
  refine ⟨by rw [List.length_append, List.length_append, hl]; simp only [List.length_cons, List.length_nil]; omega, fun k h => ?_⟩
  by_cases hlt : k < l.length
  · rw [List.getElem_append_left hlt, List.getElem?_append_left (by omega), List.getElem?_append_left (by omega), List.getElem?_append_left (by omega)]
    exact hk k hlt
  · have e : k = l.length := by rw [List.length_append, List.length_singleton] at h; omega
    subst e
    rw [List.getElem_append_right (Nat.le_refl _), List.getElem?_append_right (by omega), List.getElem?_append_right (by omega), List.getElem?_append_right (by omega), hl]
    simp only [Nat.sub_self, show l.length * 3 + 1 - l.length * 3 = 1 by omega, show l.length * 3 + 2 - l.length * 3 = 2 by omega]
    exact ⟨rfl, rfl, A, c, rfl, h1, h2, hI⟩
theorem OwnE.nil (w : World) (base B : Nat) : OwnE w base B (.slice none 0 0) [] := ⟨[], ownsRow_nil _ _ _ _, rfl, fun _ h => absurd h (Nat.not_lt_zero _)⟩
theorem OwnE.shape (h : OwnE w base B v l) (hB : B ≤ w.heap.size) : ∃ A cap, v = .slice A l.length cap ∧ Deps w w.heap.size A l := by
  obtain ⟨xs, h1, h2⟩ := h
  obtain ⟨A, cap, e, _, _, hS⟩ := ownsRow_shape h1
  refine ⟨A, cap, e, xs, hS, h2.1, fun k hk => ?_⟩
  obtain ⟨a, b, A', c, d, e, f, g⟩ := h2.2 k hk
  exact ⟨a, b, A', c, d, e, f, g.more hB⟩
theorem OwnE.keep (h : OwnE w base B v l) (hb : Below B w w') (hk : ∀ g, base ≤ g → g < w.heap.size → w'.heap[g]? = w.heap[g]?) : OwnE w' base B v l := by
  obtain ⟨xs, h1, h2⟩ := h
  refine ⟨xs, ⟨h1.1, ?_⟩, h2.below hb⟩
  rcases h1.2 with ⟨rfl, hn⟩ | ⟨g, cap, cur, rfl, hg, hh, rest⟩
  · exact .inl ⟨rfl, hn⟩
  · exact .inr ⟨g, cap, cur, rfl, hg, (hk g hg (lt_of_block hh)).trans hh, rest⟩
theorem OwnE.below (h : OwnE w base B v l) (hB : B ≤ w.heap.size) (hb : Below w.heap.size w w') : OwnE w' base B v l :=
  h.keep (hb.mono hB) fun g _ hg => hb.block g hg
end
/-- One put behind the row. -/
theorem app_ed {w : World} {ops : Array Oper} {rest : List Oper} {o : Oper} {a : Act} {Q : Exit → Act → World → Prop} (hgd : o.guard = none) (s x : Operand) (ho : o.op = .call { callee := .builtin .append, args := #[s, x], argTypes := #[22, 22] })
    (base B : Nat) (v : Value) (l : List Dp) (id : Int) (any : Bool) (its : List Itm) (A : Option Addr) (c : Nat) (h1 : its.length ≤ c) (h2 : c ≤ maxLen) (w0 : World) (hs : a.eval s = v) (hown : OwnE w0 base B v l) (hBb : B ≤ base) (hI : Its w0 B A its)
    (hw : w = w0.alloc (.cells #[.int .i64 id, .bool any, .slice A its.length c] TEd)) (g : Nat) (hg : g = w0.heap.size) (hx : a.eval x = .slice (some ⟨g, 0, none⟩) 1 1) (hlen : l.length ≤ 1048576) (hbase : base ≤ w0.heap.size)
    (h : ∀ v' w', OwnE w' base B v' (l ++ [(id, any, its)]) → (∀ b, okT B w0 b → w'.heap[b]? = w0.heap[b]?) → Below base w0 w' → wpList Tryd.prog ops Q rest (a.put o.dst v') w') : wpList Tryd.prog ops Q (o :: rest) a w := by
  subst hw
  subst hg
  obtain ⟨xs, hr, hi⟩ := hown
  refine app_own 22 TEd _ 3 40 Tryd.underlying22 infoEd rfl (by decide) hgd s x ho base v l.length xs hs (World.ownsRow.alloc hr _) (w0.heap.size + 1) (some ⟨w0.heap.size, 0, none⟩) 1 1 [.int .i64 id, .bool any, .slice A its.length c] hx (one_cells w0 _ _) rfl (fun u hu => by simp at hu; rcases hu with rfl | rfl | rfl <;> rfl) (fun h => by cases h) (by omega) (by omega) (by rw [World.size_alloc]; omega) ?_
  intro v' w' a1 a2 a3 _
  have hb : Below base w0 w' := ((Below.refl _ _).alloc hbase _).trans a3
  have hk : ∀ b, okT B w0 b → w'.heap[b]? = w0.heap[b]? := fun b hb => by
    have hlt := hb.lt (Nat.le_trans hBb hbase)
    refine (a2.block b (by rw [World.size_alloc]; omega) ?_).trans (Below.heap_alloc _ _ _ hlt)
    rcases hb with hb | ⟨cs, fr, e⟩
    · intro e
      have := ownsRow_ge hr b e.symm
      omega
    · exact own_tag hr e tag_Ed_It.symm
  refine h v' w' ⟨xs ++ [.int .i64 id, .bool any, .slice A its.length c], ?_, (hi.below (hb.mono hBb)).snoc h1 h2 (hI.below (hb.mono hBb))⟩ hk hb
  rw [List.length_append, List.length_singleton]
  exact a1
/-- The map has each of these jobs, with what it waits for. -/
def MapT (w : World) (b : Nat) (vs : List (Int × Value)) (l : List Dp) : Prop := IMap w b vs ∧ vs.length = l.length ∧ ∀ k (h : k < l.length), ∃ A c, vs[k]? = some (l[k].1, .agg #[.bool l[k].2.1, .slice A l[k].2.2.length c]) ∧ ItsT w b A l[k].2.2
section
variable {w w' : World} {b : Nat} {vs : List (Int × Value)} {l : List Dp}
theorem MapT.nil (h : IMap w b []) : MapT w b [] [] := ⟨h, rfl, fun _ h => absurd h (Nat.not_lt_zero _)⟩
theorem MapT.dm (h : MapT w b vs l) : DM w b w.heap.size vs l := by
  obtain ⟨h1, h2, h3⟩ := h
  refine ⟨h1, h2, fun k hk => ?_⟩
  obtain ⟨A, c, e, i⟩ := h3 k hk
  exact ⟨A, c, e, i.its⟩
theorem MapT.keep (h : MapT w b vs l) (hb : w'.heap[b]? = w.heap[b]?) (hk : ∀ c, okT b w c → w'.heap[c]? = w.heap[c]?) : MapT w' b vs l := by
  obtain ⟨h1, h2, h3⟩ := h
  refine ⟨h1.keep hb, h2, fun k hl => ?_⟩
  obtain ⟨A, c, e, i⟩ := h3 k hl
  exact ⟨A, c, e, i.keep hk⟩
theorem MapT.below (h : MapT w b vs l) (hb : Below w.heap.size w w') : MapT w' b vs l :=
  h.keep (hb.block b h.1.lt) fun c hc => hb.block c (hc.lt (Nat.le_of_lt h.1.lt))
theorem look_not {vs : List (Int × Value)} {x : Int} (h : look vs x = none) : ∀ e ∈ vs, e.1 ≠ x := by
  induction vs with
  | nil => intro e he; cases he
  | cons y r ih =>
    by_cases hy : y.1 = x
    · rw [show look (y :: r) x = some y.2 from if_pos hy] at h
      cases h
    · rw [show look (y :: r) x = look r x from if_neg hy] at h
      intro e he
      rcases List.mem_cons.1 he with rfl | he
      · exact hy
      · exact ih h e he
theorem MapT.look (h : MapT w b vs l) (x : Int) : ∃ (any : Bool) (A : Option Addr) (n c : Nat) (r : Bool), (Go.Proofs.YtpelmclgkkhjeaaDoor.look vs x).getD zeroDep = .agg #[.bool any, .slice A n c] ∧ (Go.Proofs.YtpelmclgkkhjeaaDoor.look vs x).isSome = r ∧ (r = false → Go.Proofs.YtpelmclgkkhjeaaDoor.look vs x = none ∧ ∀ d ∈ l, d.1 ≠ x) := by
  obtain ⟨_, h2, h3⟩ := h
  cases hl : Go.Proofs.YtpelmclgkkhjeaaDoor.look vs x with
  | none =>
    refine ⟨false, none, 0, 0, false, rfl, rfl, fun _ => ⟨rfl, fun d hd e => ?_⟩⟩
    obtain ⟨k, hk, rfl⟩ := List.getElem_of_mem hd
    obtain ⟨A, c, e2, _⟩ := h3 k hk
    exact look_not hl _ (List.mem_of_getElem? e2) e
  | some v =>
    obtain ⟨k, hk, e⟩ := List.getElem_of_mem (look_mem hl)
    obtain ⟨A, c, e2, _⟩ := h3 k (by omega)
    rw [List.getElem?_eq_getElem hk, e] at e2
    injection e2 with e2
    injection e2 with _ e2
    exact ⟨_, A, _, c, true, e2, rfl, fun h => by cases h⟩
theorem MapT.put (h : MapT w b vs l) {id : Int} {any : Bool} {its : List Itm} {A : Option Addr} {c : Nat} (hi : IMap w' b (vs ++ [(id, .agg #[.bool any, .slice A its.length c])])) (hg : w.grownBy w' (some b)) (hI : ItsT w b A its) : MapT w' b (vs ++ [(id, .agg #[.bool any, .slice A its.length c])]) (l ++ [(id, any, its)]) := by
  obtain ⟨h1, h2, h3⟩ := h
  have hlt := h1.lt
  have hk : ∀ c, okT b w c → w'.heap[c]? = w.heap[c]? := fun c hc => hg.block c (hc.lt (Nat.le_of_lt hlt)) fun e => by
    injection e with e
    subst e
    obtain ⟨es, clock, e1, _⟩ := h1
    rcases hc with hc | ⟨cs, fr, e2⟩
    · omega
    · rw [e1] at e2
      cases e2
  refine ⟨hi, by rw [List.length_append, List.length_append, h2]; rfl, fun k hkl => ?_⟩
  by_cases hl : k < l.length
  · obtain ⟨A', c', e, i⟩ := h3 k hl
    rw [List.getElem_append_left hl, List.getElem?_append_left (by omega)]
    exact ⟨A', c', e, i.keep hk⟩
  · have e : k = l.length := by rw [List.length_append, List.length_singleton] at hkl; omega
    subst e
    rw [List.getElem_append_right (Nat.le_refl _), List.getElem?_append_right (by omega), h2]
    simp only [Nat.sub_self]
    exact ⟨A, c, rfl, hI.keep hk⟩
end
/-- A new key, as an equation. -/
theorem run_put {w : World} {b : Nat} {l : List (Int × Value)} (h : IMap w b l) (k : Int) (u : Value) (hl : look l k = none) :
    ∃ w', (Instr.mapUpdate 23 (.map (some b)) (.int .i64 k) u).run Tryd.prog w = .ok () w' ∧ IMap w' b (l ++ [(k, u)]) ∧ w.grownBy w' (some b) ∧ w'.heap.size = w.heap.size := by
  obtain ⟨es, clock, hb, he⟩ := h
  obtain ⟨j, hj⟩ := findNow_look k es.toList l 0 he
  rw [hl] at hj
  have hf := MapKept.run_findKey (w := w) Tryd.underlying3 hj
  have hc := fun e => MapKept.run_checkKey (P := Tryd.prog) (w := w) Tryd.underlying3 (isKey_int k) e 9999
  have hrun : (Instr.mapUpdate 23 (.map (some b)) (.int .i64 k) u).run Tryd.prog w = .ok () (ChangeMaps.setBlock w b (.map (es.push ⟨.int .i64 k, u, clock⟩) (clock + 1))) := by
    simp [Instr.mapUpdate, run_underlying Tryd.underlying23, MapKept.run_getObj_map hb, hc, hf, MapKept.run_setObj_map _ hb, Result.andThen, ChangeMaps.setBlock]
  refine ⟨_, hrun, ⟨_, _, ChangeMaps.heap_setBlock_same hb _, ?_⟩, ⟨rfl, rfl, rfl, by simp [ChangeMaps.setBlock], fun i _ hi => ChangeMaps.heap_setBlock_other hb _ (fun e => hi (by rw [e]))⟩, by simp [ChangeMaps.setBlock]⟩
  rw [Array.toList_push, List.map_append, he, List.map_append]
  rfl
/-! How many. -/
theorem flat_total (l : List Itm) (h : ∀ x ∈ l, x.2.length ≤ 1000) : (l.flatMap fun x => x.2).length = total l := by
  induction l with
  | nil => rfl
  | cons x r ih =>
    have h1 := h x (by simp)
    have h2 := ih (fun y hy => h y (by simp [hy]))
    have h3 : total (x :: r) = min x.2.length 1000 + total r := by simp [total]
    rw [List.flatMap_cons, List.length_append, h2, h3]
    omega
theorem much_flat {l : List Itm} (h : muchB l = false) : (insAll (l.flatMap fun x => x.2)).length ≤ 300 := by
  have hs := much_small h
  unfold muchB at h
  rw [Bool.or_eq_false_iff] at h
  have h1 := of_decide_eq_false h.1
  have h2 := of_decide_eq_false h.2
  rw [List.take_of_length_le (by omega)] at h2
  refine Nat.le_trans (insAll_len _) ?_
  rw [flat_total l fun x hx => by have := hs.2 x hx; omega]
  omega
theorem grp_small (l : List Dp) (h : ∀ d ∈ l, muchB d.2.2 = false) : ((grp l).flatMap fun e => e.2).length ≤ 300 * l.length := by
  induction l with
  | nil => simp [grp]
  | cons d r ih =>
    have h1 := much_flat (h d (by simp))
    have h2 := ih (fun y hy => h y (by simp [hy]))
    have h3 : (grp (d :: r)).flatMap (fun e => e.2) = insAll (d.2.2.flatMap fun x => x.2) ++ (grp r).flatMap fun e => e.2 := by simp [grp]
    rw [h3, List.length_append, List.length_cons]
    omega
theorem edges_small (l : List Dp) (h : ∀ d ∈ l, muchB d.2.2 = false) (x : Int) : (edges (grp l) x).length ≤ 300 := by
  unfold edges
  cases e : look (grp l) x with
  | none => exact Nat.zero_le _
  | some js =>
    obtain ⟨d, hd, e2⟩ := List.mem_map.1 (look_mem e)
    have e3 : insAll (d.2.2.flatMap fun x => x.2) = js := congrArg Prod.snd e2
    show js.length ≤ 300
    rw [← e3]
    exact much_flat (h d hd)
end Go.Proofs.YtpelmclgkkhjeaaDoor
