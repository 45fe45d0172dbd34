/-
  A list of vectors that came in.
-/
import Derived.Test.YtkmknogejhhajaaDoorVShut
import Derived.Deep.Slices
import Derived.Deep.Strs
namespace Go.Proofs.YtkmknogejhhajaaDoor
open Go.Joins Go.ChangeShapes Go.WideShapes Go.ChangeAt Go.WideMaps Go.WideElems Go.RowKit Go.Deep

theorem cellsInt : Tryd.prog.cellsOf 3 = 1 := by kernel_rfl
theorem plain_addr {w : World} {a : Addr} {v : Value} (h : w.cell? a = some v) : a.spot = none ∧ a.block < w.heap.size := by
  obtain ⟨b, off, sp⟩ := a
  refine ⟨World.cell?_spot h, ?_⟩
  by_cases hb : b < w.heap.size
  · exact hb
  · simp only [World.cell?] at h
    rw [Array.getElem?_eq_none (by omega)] at h
    cases h
theorem add_off (b o k : Nat) : (⟨b, o, none⟩ : Addr).add k = ⟨b, o + k, none⟩ := by
  unfold Addr.add
  by_cases hk : k = 0
  · subst hk; rfl
  · rw [if_neg hk]
set_option maxRecDepth 100000 in
/-- Three cells that read as a vector. -/
theorem vec_cells {H : Type} {enc : TypeId × Value → H} {W : World} {base : Nat} {sp : Nat → Bool} {held : Bool} {n : Nat} {cs : List Value} {x : DataW H × List MemPlace}
    (h : DataW.trod enc Tryd.prog W base sp held n 23 cs = some x) (hl : cs.length = 3) : ∃ a b c : Int, cs = [.int .i64 a, .int .i64 b, .int .i64 c] ∧ I64 a ∧ I64 b ∧ I64 c := by
  obtain ⟨y0, y1, y2, n', hx, _, h0, h1, h2⟩ := trod_struct3 Tryd.underlying23 h
  match cs, hl with
  | [c0, c1, c2], _ =>
    simp only [cellsInt, List.drop_zero, List.drop_succ_cons, List.take_succ_cons, List.take_zero] at h0 h1 h2
    obtain ⟨a, ea, _, wa⟩ := DataW.trod_int Tryd.underlying3 h0
    obtain ⟨b, eb, _, wb⟩ := DataW.trod_int Tryd.underlying3 h1
    obtain ⟨c, ec, _, wc⟩ := DataW.trod_int Tryd.underlying3 h2
    injection ea with ea _
    injection eb with eb _
    injection ec with ec _
    subst ea eb ec
    exact ⟨a, b, c, rfl, wf_I64 wa, wf_I64 wb, wf_I64 wc⟩
def rdInt (W : World) (b k : Nat) : Int := match W.cell? ⟨b, k, none⟩ with
  | some (.int _ n) => n
  | _ => 0
theorem rdInt_of {W : World} {b k : Nat} {n : Int} (h : W.cell? ⟨b, k, none⟩ = some (.int .i64 n)) : rdInt W b k = n := by unfold rdInt; rw [h]
set_option maxRecDepth 100000 in
theorem open_vecs {H : Type} {enc : TypeId × Value → H} {W : World} {base : Nat} {v : Value} {d : DataW H} {ps : List MemPlace}
    (hv : Value.okWide Tryd.prog W .any base 28 v) (h : DataW.Trod enc Tryd.prog W 0 (fun _ => true) true 28 v d ps) :
    ∃ (A : Option Addr) (l : List V3) (cap : Nat), v = .slice A l.length cap ∧ l.length ≤ cap ∧ l.length ≤ 9223372036854775807 ∧ SegV W W.heap.size A l ∧ ∀ x ∈ l, I64 x.1 ∧ I64 x.2.1 ∧ I64 x.2.2 := by
  obtain ⟨a0, len0, cap0, rfl⟩ := okWide_slice Tryd.underlying28 hv
  obtain ⟨fuel, hf⟩ := h
  rcases open_slice Tryd.underlying28 hf with ⟨hcs, _⟩ | ⟨a, len, cap, m, n, D, Pl, hcs, _, hlc, hcm, hm, _, hi⟩
  · simp [Value.cells] at hcs
    obtain ⟨rfl, rfl, rfl⟩ := hcs
    exact ⟨none, [], 0, rfl, Nat.le_refl _, by simp, fun h => absurd h (Nat.lt_irrefl 0), fun x hx => by simp at hx⟩
  · simp [Value.cells] at hcs
    obtain ⟨rfl, rfl, rfl⟩ := hcs
    have hm' : m = cap0 := by simpa using hm
    clear hm
    have hcell : ∀ i, i < len0 → ∃ x y z : Int, (W.cell? (a.add (i * 3)) = some (.int .i64 x) ∧ W.cell? ((a.add (i * 3)).add 1) = some (.int .i64 y) ∧ W.cell? ((a.add (i * 3)).add 2) = some (.int .i64 z)) ∧ I64 x ∧ I64 y ∧ I64 z := by
      intro i hlt
      obtain ⟨cs', hc, ht⟩ := hi i (by omega)
      rw [cellsVec] at hc
      obtain ⟨_, hcl, hat⟩ := World.cells?_some hc
      obtain ⟨x, y, z, rfl, wx, wy, wz⟩ := vec_cells ht hcl
      refine ⟨x, y, z, ⟨?_, ?_, ?_⟩, wx, wy, wz⟩
      · have := hat 0 (by omega)
        simpa [Addr.add] using this
      · exact hat 1 (by omega)
      · exact hat 2 (by omega)
    by_cases h0 : len0 = 0
    · subst h0
      exact ⟨some a, [], cap0, rfl, Nat.zero_le _, by simp, fun h => absurd h (Nat.lt_irrefl 0), fun x hx => by simp at hx⟩
    · obtain ⟨x0, _, _, ⟨hz, _⟩, _⟩ := hcell 0 (by omega)
      have hz' : W.cell? a = some (.int .i64 x0) := by simpa [Addr.add] using hz
      obtain ⟨hsp, hb⟩ := plain_addr hz'
      obtain ⟨b, o, sp⟩ := a
      have hsp' : sp = none := hsp
      subst hsp'
      have hcell' : ∀ i, i < len0 → ∃ x y z : Int, (W.cell? ⟨b, o + i * 3, none⟩ = some (.int .i64 x) ∧ W.cell? ⟨b, o + i * 3 + 1, none⟩ = some (.int .i64 y) ∧ W.cell? ⟨b, o + i * 3 + 2, none⟩ = some (.int .i64 z)) ∧ I64 x ∧ I64 y ∧ I64 z := by
        intro i hlt
        obtain ⟨x, y, z, ⟨h1, h2, h3⟩, k⟩ := hcell i hlt
        rw [add_off] at h1 h2 h3
        rw [add_off] at h2 h3
        exact ⟨x, y, z, ⟨h1, h2, h3⟩, k⟩
      have hlen : ((List.range len0).map fun i => ((rdInt W b (o + i * 3), rdInt W b (o + i * 3 + 1), rdInt W b (o + i * 3 + 2)) : V3)).length = len0 := by simp
      refine ⟨some ⟨b, o, none⟩, (List.range len0).map fun i => (rdInt W b (o + i * 3), rdInt W b (o + i * 3 + 1), rdInt W b (o + i * 3 + 2)), cap0, by rw [hlen], by rw [hlen]; exact hlc, by rw [hlen]; unfold maxLen at hcm; omega, fun _ => ⟨b, o, rfl, hb, fun j hj => ?_⟩, fun x hx => ?_⟩
      · rw [hlen] at hj
        obtain ⟨x, y, z, ⟨h1, h2, h3⟩, _⟩ := hcell' j hj
        simp only [List.getElem_map, List.getElem_range]
        rw [rdInt_of h1, rdInt_of h2, rdInt_of h3]
        exact ⟨h1, h2, h3⟩
      · obtain ⟨i, hi', rfl⟩ := List.mem_map.1 hx
        obtain ⟨x, y, z, ⟨h1, h2, h3⟩, k⟩ := hcell' i (List.mem_range.1 hi')
        simp only [rdInt_of h1, rdInt_of h2, rdInt_of h3]
        exact k
end Go.Proofs.YtkmknogejhhajaaDoor
