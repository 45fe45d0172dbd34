/-
  Jobs with what they wait for, that came in.
-/
import Derived.Test.YtpelmclgkkhjeaaDoorDShut
import Derived.Test.YtpelmclgkkhjeaaDoorDKept
namespace Go.Proofs.YtpelmclgkkhjeaaDoor
open Go.Joins Go.ChangeShapes Go.WideShapes Go.ChangeAt Go.WideMaps Go.WideElems Go.RowKit Go.Deep

theorem cellsEd : Tryd.prog.cellsOf TEd = 3 := by kernel_rfl
theorem cellsBool : Tryd.prog.cellsOf 4 = 1 := by kernel_rfl
theorem cellsItems : Tryd.prog.cellsOf 24 = 1 := by kernel_rfl
set_option maxRecDepth 100000 in
/-- Three cells that read as a job with what it waits for. -/
theorem edge_cells {H : Type} {enc : TypeId × Value → H} {W : World} {n : Nat} {cs : List Value} {x : DataW H × List MemPlace}
    (h : DataW.trod enc Tryd.prog W 0 (fun _ => true) true n TEd cs = some x) (hl : cs.length = 3) : ∃ (id : Int) (any : Bool) (A : Option Addr) (its : List Itm) (cap : Nat), cs = [.int .i64 id, .bool any, .slice A its.length cap] ∧ its.length ≤ cap ∧ cap ≤ maxLen ∧ Its W W.heap.size A its := by
  obtain ⟨y0, y1, n', hx, _, h0, h1⟩ := trod_struct2 Tryd.underlying28 h
  match cs, hl with
  | [c0, c1, c2], _ =>
    simp only [cellsInt, cellsRDep, List.drop_zero, List.drop_succ_cons, List.take_succ_cons, List.take_zero] at h0 h1
    obtain ⟨a, ea, _, _⟩ := DataW.trod_int Tryd.underlying3 h0
    injection ea with ea _
    subst ea
    obtain ⟨z0, z1, n2, hx2, _, g0, g1⟩ := trod_struct2 Tryd.underlying26 h1
    simp only [cellsBool, cellsItems, List.drop_zero, List.drop_succ_cons, List.take_succ_cons, List.take_zero] at g0 g1
    obtain ⟨b, eb, _⟩ := DataW.trod_bool Tryd.underlying4 g0
    injection eb with eb _
    subst eb
    obtain ⟨A, its, cap, rfl, r1, r2, r3, _⟩ := its_cells g1
    exact ⟨a, b, A, its, cap, rfl, r1, r2, r3⟩
/-- One that lies at three cells. -/
def EdAt (W : World) (b o : Nat) (x : Dp) (A : Option Addr) (c : Nat) : Prop := W.cell? ⟨b, o, none⟩ = some (.int .i64 x.1) ∧ W.cell? ⟨b, o + 1, none⟩ = some (.bool x.2.1) ∧ W.cell? ⟨b, o + 2, none⟩ = some (.slice A x.2.2.length c) ∧ x.2.2.length ≤ c ∧ c ≤ maxLen ∧ Its W W.heap.size A x.2.2
theorem eds_of {W : World} {b o : Nat} (len : Nat) (hb : b < W.heap.size) (h : ∀ i, i < len → ∃ x A c, EdAt W b (o + i * 3) x A c) : ∃ l : List Dp, l.length = len ∧ Deps W W.heap.size (some ⟨b, o, none⟩) l := by
  suffices g : ∃ l : List Dp, l.length = len ∧ ∃ xs, SegC W W.heap.size (some ⟨b, o, none⟩) xs ∧ EdC W W.heap.size xs l by
    obtain ⟨l, hl, xs, h1, h2, h3⟩ := g
    exact ⟨l, hl, xs, h1, h2, h3⟩
  induction len with
  | zero => exact ⟨[], rfl, [], SegP.nil _ _ _, rfl, fun _ h => absurd h (Nat.not_lt_zero _)⟩
  | succ len ih =>
    obtain ⟨l, hl, xs, h1, h2⟩ := ih (fun i hi => h i (by omega))
    obtain ⟨x, A, c, a1, a2, a3, a4, a5, a6⟩ := h len (by omega)
    have hxl := h2.1
    refine ⟨l ++ [x], by rw [List.length_append, hl]; rfl, xs ++ [.int .i64 x.1, .bool x.2.1, .slice A x.2.2.length c], fun _ => ⟨b, o, rfl, hb, fun j hj => ?_⟩, h2.snoc a4 a5 a6⟩
    rw [List.length_append] at hj
    simp only [List.length_cons, List.length_nil] at hj
    by_cases hj' : j < xs.length
    · rw [List.getElem_append_left hj']
      obtain ⟨b', o', e, _, hc⟩ := h1 (by omega)
      injection e with e
      injection e with e1 e2 _
      subst e1 e2
      exact hc j hj'
    · rw [List.getElem_append_right (by omega)]
      rcases (show j = xs.length ∨ j = xs.length + 1 ∨ j = xs.length + 2 by omega) with e | e | e
      · have e2 : j - xs.length = 0 := by omega
        simp only [e2]
        rw [show o + j = o + len * 3 by omega]
        exact a1
      · have e2 : j - xs.length = 1 := by omega
        simp only [e2]
        rw [show o + j = o + len * 3 + 1 by omega]
        exact a2
      · have e2 : j - xs.length = 2 := by omega
        simp only [e2]
        rw [show o + j = o + len * 3 + 2 by omega]
        exact a3
set_option maxRecDepth 100000 in
theorem open_edges {H : Type} {enc : TypeId × Value → H} {W : World} {base : Nat} {v : Value} {d : DataW H} {ps : List MemPlace}
    (hv : Value.okWide Tryd.prog W .any base 22 v) (h : DataW.Trod enc Tryd.prog W 0 (fun _ => true) true 22 v d ps) :
    ∃ (A : Option Addr) (l : List Dp) (cap : Nat), v = .slice A l.length cap ∧ l.length ≤ cap ∧ cap ≤ maxLen ∧ Deps W W.heap.size A l := by
  obtain ⟨a0, len0, cap0, rfl⟩ := okWide_slice Tryd.underlying22 hv
  obtain ⟨fuel, hf⟩ := h
  rcases open_slice Tryd.underlying22 hf with ⟨hcs, _⟩ | ⟨a, len, cap, m, n, D, Pl, hcs, _, hlc, hcm, hm, _, hi⟩
  · simp [Value.cells] at hcs
    obtain ⟨rfl, rfl, rfl⟩ := hcs
    exact ⟨none, [], 0, rfl, Nat.le_refl _, by unfold maxLen; omega, [], SegP.nil _ _ _, rfl, fun _ h => absurd h (Nat.not_lt_zero _)⟩
  · simp [Value.cells] at hcs
    obtain ⟨rfl, rfl, rfl⟩ := hcs
    have hm' : m = cap0 := by simpa using hm
    clear hm
    by_cases h0 : len0 = 0
    · subst h0
      exact ⟨some a, [], cap0, rfl, Nat.zero_le _, hcm, [], SegP.nil _ _ _, rfl, fun _ h => absurd h (Nat.not_lt_zero _)⟩
    · have hcell : ∀ i, i < len0 → ∃ (id : Int) (any : Bool) (A : Option Addr) (its : List Itm) (c : Nat), W.cell? (a.add (i * 3)) = some (.int .i64 id) ∧ W.cell? ((a.add (i * 3)).add 1) = some (.bool any) ∧ W.cell? ((a.add (i * 3)).add 2) = some (.slice A its.length c) ∧ its.length ≤ c ∧ c ≤ maxLen ∧ Its W W.heap.size A its := by
        intro i hlt
        obtain ⟨cs', hc, ht⟩ := hi i (by omega)
        rw [show Tryd.prog.cellsOf _ = 3 from cellsEd] at hc
        obtain ⟨_, hcl, hat⟩ := World.cells?_some hc
        obtain ⟨id, any, A, its, c, rfl, r⟩ := edge_cells ht hcl
        refine ⟨id, any, A, its, c, ?_, hat 1 (by simp), hat 2 (by simp), r⟩
        have := hat 0 (by simp)
        simpa [Addr.add] using this
      obtain ⟨k0, _, _, _, _, hz, _⟩ := hcell 0 (by omega)
      have hz' : W.cell? a = some (.int .i64 k0) := by simpa [Addr.add] using hz
      obtain ⟨hsp, hb⟩ := plain_addr hz'
      obtain ⟨b, o, sp⟩ := a
      have hsp' : sp = none := hsp
      subst hsp'
      obtain ⟨l, hl, hI⟩ := eds_of (o := o) len0 hb (fun i hlt => by
        obtain ⟨id, any, A, its, c, h1, h2, h3, h4⟩ := hcell i hlt
        rw [add_off] at h1 h2 h3
        rw [add_off] at h2 h3
        exact ⟨(id, any, its), A, c, h1, h2, h3, h4⟩)
      exact ⟨some ⟨b, o, none⟩, l, cap0, by rw [hl], by rw [hl]; exact hlc, hcm, hI⟩
end Go.Proofs.YtpelmclgkkhjeaaDoor
