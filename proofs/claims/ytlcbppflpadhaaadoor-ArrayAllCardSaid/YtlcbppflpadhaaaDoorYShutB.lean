/-
  Bytes that came in.
-/
import Derived.Test.YtlcbppflpadhaaaDoorYShut
import Derived.Test.YtlcbppflpadhaaaDoorYLAll
namespace Go.Proofs.YtlcbppflpadhaaaDoor
open Go.Joins Go.ChangeShapes Go.WideShapes Go.ChangeAt Go.WideMaps Go.WideElems Go.RowKit Go.Deep

theorem cellsU8 : Tryd.prog.cellsOf 5 = 1 := by kernel_rfl
theorem wf_U8 {n : Int} (h : (Lit.int .u8 n).wf = true) : 0 ≤ n ∧ n ≤ 255 := by
  simpa [Lit.wf, IntKind.min, IntKind.max, IntKind.signed, IntKind.bits] using h
theorem byte_back {n : Int} (h : 0 ≤ n ∧ n ≤ 255) : ((UInt8.ofNat n.toNat).toNat : Int) = n := by
  rw [UInt8.toNat_ofNat']
  omega
set_option maxRecDepth 100000 in
theorem open_bytes {H : Type} {enc : TypeId × Value → H} {W : World} {base : Nat} {v : Value} {d : DataW H} {ps : List MemPlace}
    (hv : Value.okWide Tryd.prog W .any base 45 v) (h : DataW.Trod enc Tryd.prog W 0 (fun _ => true) true 45 v d ps) :
    ∃ (A : Option Addr) (l : List UInt8) (cap : Nat), v = .slice A l.length cap ∧ l.length ≤ cap ∧ cap ≤ maxLen ∧ Byt W W.heap.size A l := by
  obtain ⟨a0, len0, cap0, rfl⟩ := okWide_slice Tryd.underlying45 hv
  obtain ⟨fuel, hf⟩ := h
  rcases open_ints Tryd.underlying45 Tryd.underlying5 cellsU8 hf with ⟨hcs, _⟩ | ⟨a, len', cap', zs, hcs, _, hl, hm, hz, hd, hcell, hw⟩
  · simp [Value.cells] at hcs
    obtain ⟨rfl, rfl, rfl⟩ := hcs
    exact ⟨none, [], 0, rfl, Nat.le_refl _, by unfold maxLen; omega, SegP.nil _ _ _⟩
  · simp [Value.cells] at hcs
    obtain ⟨rfl, rfl, rfl⟩ := hcs
    simp at hz
    have hlen : ((zs.take len0).map fun n => UInt8.ofNat n.toNat).length = len0 := by rw [List.length_map, List.length_take]; omega
    have huv : UV ((zs.take len0).map fun n => UInt8.ofNat n.toNat) = (zs.take len0).map fun n => .int .u8 n := by
      unfold UV
      rw [List.map_map]
      refine List.map_congr_left fun n hn => ?_
      show Value.int .u8 ((UInt8.ofNat n.toNat).toNat : Int) = _
      rw [byte_back (wf_U8 (hw n (List.mem_of_mem_take hn)))]
    refine ⟨some a, (zs.take len0).map fun n => UInt8.ofNat n.toNat, cap0, by rw [hlen], by rw [hlen]; exact hl, hm, ?_⟩
    unfold Byt
    rw [huv]
    intro h0
    have hl2 : ((zs.take len0).map fun n => Value.int .u8 n).length = len0 := by rw [List.length_map, List.length_take]; omega
    rw [hl2] at h0
    obtain ⟨hsp, hb⟩ := plain_addr (hcell 0 (by omega))
    obtain ⟨b, off, sp⟩ := a
    have hsp : sp = none := by simpa [Addr.add] using hsp
    subst hsp
    rw [add_off] at hb
    refine ⟨b, off, rfl, hb, fun j hj => ?_⟩
    rw [hl2] at hj
    have := hcell j (by omega)
    rw [add_off] at this
    rw [this, List.getElem_map, List.getElem_take, List.getD_eq_getElem?_getD, List.getElem?_eq_getElem (by omega), Option.getD_some]
end Go.Proofs.YtlcbppflpadhaaaDoor
