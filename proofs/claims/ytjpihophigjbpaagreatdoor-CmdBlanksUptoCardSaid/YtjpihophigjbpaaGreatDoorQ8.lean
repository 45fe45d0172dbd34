/-
  Parts: QSame QEqF QSm0.
-/
import Derived.Test.YtjpihophigjbpaaGreatDoorQ1
import Derived.Test.YtjpihophigjbpaaGreatDoorQ7
set_option linter.unusedSimpArgs false
set_option linter.unusedVariables false
/-
  Lists compared, and commands.
-/
namespace Go.Proofs.YtjpihophigjbpaaGreatDoor
open Go.RowKit Go.Shelf Vs

set_option maxRecDepth 100000 in
set_option maxHeartbeats 1000000 in
theorem eqInts_any (l1 l2 : List Int) (A1 A2 : Option Addr) (c1 c2 : Nat) (w : World) (h1 : Ds.Ints w w.heap.size A1 l1) (h2 : Ds.Ints w w.heap.size A2 l2) (hl1 : l1.length ≤ maxLen) (hl2 : l2.length ≤ maxLen) :
    Calls Tryz.prog 23 #[.slice A1 l1.length c1, .slice A2 l2.length c2] w (BoolP w (decide (l1 = l2))) := by
  unfold maxLen at hl1 hl2
  by_cases hl : l1.length = l2.length
  · by_cases h0 : l1.length = 0
    · have e1 : l1 = [] := List.eq_nil_of_length_eq_zero h0
      have e2 : l2 = [] := List.eq_nil_of_length_eq_zero (hl ▸ h0)
      subst e1 e2
      refine (Tryz.slices_Equal_int_empty A1 A2 c1 0 c2 w (by decide)).mono ?_
      rintro e w' ⟨rfl, rfl⟩
      exact ⟨rfl, Below.refl _ _⟩
    · obtain ⟨b1, o1, rfl, _, k1⟩ := h1 (by rw [Ds.IV_len]; omega)
      obtain ⟨b2, o2, rfl, _, k2⟩ := h2 (by rw [Ds.IV_len]; omega)
      refine (Tryz.slices_Equal_int b1 o1 l1.length c1 b2 o2 l2.length c2 l1 l2 w (Nat.le_refl _) (Nat.le_refl _) (by omega) (by omega) (fun j hj => ?_) (fun j hj => ?_)).mono ?_
      · have := k1 j (by rw [Ds.IV_len]; exact hj)
        rw [Ds.IV_get _ _ hj] at this
        rw [this]; simp [hj]
      · have := k2 j (by rw [Ds.IV_len]; exact hj)
        rw [Ds.IV_get _ _ hj] at this
        rw [this]; simp [hj]
      · rintro e w' ⟨rfl, q, rfl⟩
        refine ⟨fretb ?_, Vs.below_drewN (Below.refl _ _) _⟩
        rw [List.take_length, List.take_length, Bool.eq_iff_iff]
        simp
  · have hne : decide (l1 = l2) = false := by simp; intro e; exact hl (by rw [e])
    rw [hne]
    have i1 : ((l1.length : Int) != l2.length) = true := by simp; omega
    have i2 : ¬ (l1.length : Int) = l2.length := by omega
    go_enter Tryz.func23, Tryz.ntmps23
    go_wp2
    go_ret
    exact ⟨rfl, Below.refl _ _⟩
abbrev itV (k : Int) (A : Option Addr) (n c : Nat) : Value := .agg #[.int .i64 k, .slice A n c]
abbrev TItm : TypeId := 57
set_option maxRecDepth 100000 in
set_option maxHeartbeats 2000000 in
theorem sameItem_any (x y : Ds.Itm) (A1 A2 : Option Addr) (c1 c2 : Nat) (w : World) (h1 : Ds.Ints w w.heap.size A1 x.2) (h2 : Ds.Ints w w.heap.size A2 y.2) (hl1 : x.2.length ≤ maxLen) (hl2 : y.2.length ≤ maxLen) :
    Calls Tryz.prog 22 #[itV x.1 A1 x.2.length c1, itV y.1 A2 y.2.length c2] w (BoolP w (decide (x = y))) := by
  obtain ⟨k, js⟩ := x
  obtain ⟨k2, js2⟩ := y
  simp only [itV] at *
  have hq : decide ((k, js) = (k2, js2)) = (decide (k = k2) && decide (js = js2)) := by rw [Bool.eq_iff_iff]; simp
  rw [hq]
  have b0 : Below w.heap.size w ((w.alloc (.cells #[.int .i64 k, .slice A1 js.length c1] TItm)).alloc (.cells #[.int .i64 k2, .slice A2 js2.length c2] TItm)) := ((Below.refl _ _).alloc (Nat.le_refl _) _).alloc (by simp) _
  have he := eqInts_any js js2 A1 A2 c1 c2 _ ((Ds.SegC.below h1 b0).more b0.size) ((Ds.SegC.below h2 b0).more b0.size) hl1 hl2
  have zz := World.size_alloc w (.cells #[.int .i64 k, .slice A1 js.length c1] TItm)
  have n1 : ((w.alloc (.cells #[.int .i64 k, .slice A1 js.length c1] TItm)).alloc (.cells #[.int .i64 k2, .slice A2 js2.length c2] TItm)).heap[w.heap.size]? = some (.cells #[.int .i64 k, .slice A1 js.length c1] TItm (0, 0)) := (Below.heap_alloc _ _ _ (by omega)).trans (heap_alloc_new w _)
  have n2 : ((w.alloc (.cells #[.int .i64 k, .slice A1 js.length c1] TItm)).alloc (.cells #[.int .i64 k2, .slice A2 js2.length c2] TItm)).heap[w.heap.size + 1]? = some (.cells #[.int .i64 k2, .slice A2 js2.length c2] TItm (0, 0)) := by rw [← zz]; exact heap_alloc_new _ _
  unfold BoolP at he ⊢
  generalize decide (js = js2) = D at *
  clear hq h1 h2 zz
  obtain ⟨E, hE⟩ : ∃ E, decide (k = k2) = E := ⟨_, rfl⟩
  rw [hE]
  replace hE := fhid hE
  go_enter Tryz.func22, Tryz.ntmps22
  go_upto_region 1 with fail
  generalize ((w.alloc _).alloc _) = w2 at *
  have m0 : w2.cell? ⟨w.heap.size, 0, none⟩ = some (.int .i64 k) := by simp [World.cell?, n1]
  have m1 : w2.cell? ⟨w.heap.size, 1, none⟩ = some (.slice A1 js.length c1) := by simp [World.cell?, n1]
  have m2 : w2.cell? ⟨w.heap.size + 1, 0, none⟩ = some (.int .i64 k2) := by simp [World.cell?, n2]
  have m3 : w2.cell? ⟨w.heap.size + 1, 1, none⟩ = some (.slice A2 js2.length c2) := by simp [World.cell?, n2]
  clear n1 n2
  by_cases hk : k = k2
  · obtain rfl : true = E := by rw [← hE.out]; exact (decide_eq_true hk).symm
    have e1 : (k == k2) = true := by simpa using hk
    replace hk := fhid hk
    go_wp2_with (go_at_call 23; (with_reducible refine he.mono ?_); rintro e w3 ⟨rfl, b3⟩)
    go_ret
    exact ⟨rfl, b0.trans (b3.mono b0.size)⟩
  · obtain rfl : false = E := by rw [← hE.out]; exact (decide_eq_false hk).symm
    have e1 : (k == k2) = false := by simpa using hk
    go_wp2_with fail
    go_ret
    exact ⟨rfl, b0⟩
end Go.Proofs.YtjpihophigjbpaaGreatDoor
/-
  Lists of things that are waited for, compared.
-/
namespace Go.Proofs.YtjpihophigjbpaaGreatDoor
open Go.RowKit Go.Shelf Vs

theorem take_ne {l1 l2 : List Ds.Itm} {k : Nat} (h1 : k < l1.length) (h2 : k < l2.length) (h : l1[k] ≠ l2[k]) : l1 ≠ l2 := by
  rintro rfl
  exact h rfl
theorem take_all {l1 l2 : List Ds.Itm} (hl : l1.length = l2.length) (h : l1.take l1.length = l2.take l1.length) : l1 = l2 := by
  rw [List.take_length] at h
  rw [h, hl, List.take_length]
set_option maxRecDepth 100000 in
set_option maxHeartbeats 4000000 in
theorem eqItems_any (l1 l2 : List Ds.Itm) (A1 A2 : Option Addr) (c1 c2 : Nat) (w : World) (h1 : Ds.Its w w.heap.size A1 l1) (h2 : Ds.Its w w.heap.size A2 l2) (hl1 : l1.length ≤ maxLen) (hl2 : l2.length ≤ maxLen) :
    Calls Tryz.prog 21 #[.slice A1 l1.length c1, .slice A2 l2.length c2, .func (.func 22) #[] #[]] w (BoolP w (decide (l1 = l2))) := by
  unfold maxLen at hl1 hl2
  by_cases hl : l1.length = l2.length
  · have i1 : ((l1.length : Int) != l2.length) = false := by simp [hl]
    have eg : ∀ args w, (callFunc 22 args).run Tryz.prog w = .ok (.enter 22 args) w := enters_of Tryz.func22 (by kernel_rfl) rfl
    have hsi := fun x y A1 A2 c1 c2 W => sameItem_any x y A1 A2 c1 c2 W
    unfold BoolP at hsi
    obtain ⟨E, hE⟩ : ∃ E, decide (l1 = l2) = E := ⟨_, rfl⟩
    rw [hE]
    unfold BoolP
    have hno := fhid (fun (k : Nat) (a : k < l1.length) (b : k < l2.length) (h : l1[k] ≠ l2[k]) => take_ne a b h)
    have hall := fhid (fun h => take_all (l1 := l1) (l2 := l2) hl h)
    replace hE := fhid hE
    replace hl := fhid hl
    replace h1 := fhid h1
    replace h2 := fhid h2
    go_enter Tryz.func21, Tryz.ntmps21
    go_wp2_with fail
    go_loopw [17] (fun i wr => ∃ k : Nat, k ≤ l1.length ∧ i = .int .i64 (k : Int) ∧ l1.take k = l2.take k ∧ Below w.heap.size w wr) (fun i _ => l1.length - (intOf i).toNat)
    case atStart => exact ⟨0, Nat.zero_le _, rfl, rfl, Below.refl _ _⟩
    case round =>
      obtain ⟨k, hk, rfl, hpre, hB⟩ := hrel
      by_cases hlt : k < l1.length
      · have hlt2 : k < l2.length := by have := hl.out; omega
        obtain ⟨b1, o1, rfl, hb1, p0, B1, n1, p1, q1, q2, q3⟩ := Ds.Its.at_ ((h1.out.below hB).more hB.size) hlt
        obtain ⟨b2, o2, rfl, hb2, r0, B2, n2, r1, s1, s2, s3⟩ := Ds.Its.at_ ((h2.out.below hB).more hB.size) hlt2
        have hse1 := List.take_succ_eq_append_getElem hlt
        have hse2 := List.take_succ_eq_append_getElem hlt2
        have hnk := hno.out k hlt hlt2
        have i2 : (k : Int) < l1.length := by omega
        have i3 : (k : Int) < l2.length := by omega
        have i0 : (0 : Int) ≤ k := by omega
        generalize l1[k] = x at *
        generalize l2[k] = y at *
        obtain ⟨xk, xj⟩ := x
        obtain ⟨yk, yj⟩ := y
        simp only at p0 p1 q1 q3 r0 r1 s1 s3
        have hb1' := hb1
        have hb2' := hb2
        replace hB := fhid hB
        replace hpre := fhid hpre
        replace hse1 := fhid hse1
        replace hse2 := fhid hse2
        replace hnk := fhid hnk
        go_upto_region 6 with fail
        have bA : Below wr.heap.size wr (wr.alloc (.cells #[.int .i64 xk, .slice B1 xj.length n1] TItm)) := (Below.refl _ _).alloc (Nat.le_refl _) _
        have nA : (wr.alloc (.cells #[.int .i64 xk, .slice B1 xj.length n1] TItm)).heap[wr.heap.size]? = some (.cells #[.int .i64 xk, .slice B1 xj.length n1] TItm (0, 0)) := heap_alloc_new _ _
        have r0' := (bA.cell (p := ⟨b2, o2 + k * 2, none⟩) hb2).trans r0
        have r1' := (bA.cell (p := ⟨b2, o2 + k * 2 + 1, none⟩) hb2).trans r1
        have zA := World.size_alloc wr (.cells #[.int .i64 xk, .slice B1 xj.length n1] TItm)
        have hlA : wr.heap.size < (wr.alloc (.cells #[.int .i64 xk, .slice B1 xj.length n1] TItm)).heap.size := by omega
        clear p0 p1 r0 r1 zA
        generalize wr.alloc _ = wA at *
        go_upto_region 7 with fail
        have bC : Below wA.heap.size wA (wA.alloc (.cells #[.int .i64 yk, .slice B2 yj.length n2] TItm)) := (Below.refl _ _).alloc (Nat.le_refl _) _
        have nC : (wA.alloc (.cells #[.int .i64 yk, .slice B2 yj.length n2] TItm)).heap[wA.heap.size]? = some (.cells #[.int .i64 yk, .slice B2 yj.length n2] TItm (0, 0)) := heap_alloc_new _ _
        have nA' := (bC.block _ hlA).trans nA
        have bAC := bA.trans (bC.mono bA.size)
        clear nA r0' r1'
        generalize wA.alloc _ = wC at *
        generalize wA.heap.size = cC at *
        have m0 : wC.cell? ⟨wr.heap.size, 0, none⟩ = some (.int .i64 xk) := by simp [World.cell?, nA']
        have m1 : wC.cell? ⟨wr.heap.size, 1, none⟩ = some (.slice B1 xj.length n1) := by simp [World.cell?, nA']
        have m2 : wC.cell? ⟨cC, 0, none⟩ = some (.int .i64 yk) := by simp [World.cell?, nC]
        have m3 : wC.cell? ⟨cC, 1, none⟩ = some (.slice B2 yj.length n2) := by simp [World.cell?, nC]
        have hcall := hsi (xk, xj) (yk, yj) B1 B2 n1 n2 wC ((Ds.SegC.below q3 bAC).more bAC.size) ((Ds.SegC.below s3 bAC).more bAC.size) (Nat.le_trans q1 q2) (Nat.le_trans s1 s2)
        simp only [itV] at hcall
        clear nA' nC bA bC q3 s3 hsi
        replace bAC := fhid bAC
        by_cases hxy : (xk, xj) = (yk, yj)
        · rw [decide_eq_true hxy] at hcall
          replace hxy := fhid hxy
          go_wp2_with (go_at_fn 22; (with_reducible refine hcall.mono ?_); rintro e w5 ⟨rfl, b5⟩)
          go_roundw
          case rel => exact ⟨k + 1, by omega, by go_num, by rw [hse1.out, hse2.out, hpre.out, hxy.out], hB.out.trans ((bAC.out.trans (b5.mono bAC.out.size)).mono hB.out.size)⟩
          case measure => simp [intOf]; omega
        · rw [decide_eq_false hxy] at hcall
          obtain rfl : false = E := by rw [← hE.out]; exact (decide_eq_false (hnk.out hxy)).symm
          go_wp2_with (go_at_fn 22; (with_reducible refine hcall.mono ?_); rintro e w5 ⟨rfl, b5⟩)
          go_ret
          exact ⟨rfl, hB.out.trans ((bAC.out.trans (b5.mono bAC.out.size)).mono hB.out.size)⟩
      · obtain rfl : k = l1.length := by omega
        have i2 : ¬ (l1.length : Int) < l1.length := by omega
        obtain rfl : true = E := by rw [← hE.out]; exact (decide_eq_true (hall.out hpre)).symm
        clear hpre
        go_wp2_with fail
        go_ret
        exact ⟨rfl, hB⟩
  · have hne : decide (l1 = l2) = false := by simp; intro e; exact hl (by rw [e])
    rw [hne]
    have i1 : ((l1.length : Int) != l2.length) = true := by simp; omega
    have i2 : ¬ (l1.length : Int) = l2.length := by omega
    go_enter Tryz.func21, Tryz.ntmps21
    go_wp2
    go_ret
    exact ⟨rfl, Below.refl _ _⟩
end Go.Proofs.YtjpihophigjbpaaGreatDoor
/-
  Whether two commands are the same.
-/
namespace Go.Proofs.YtjpihophigjbpaaGreatDoor
open Go.RowKit Go.Shelf Vs

set_option maxRecDepth 100000 in
set_option maxHeartbeats 16000000 in
theorem same_kind (a b : CmdC) (A1 A2 A3 A4 : Option Addr) (c1 c2 c3 c4 : Nat) (w : World) (h1 : HasI NoX w (.slice A1 a.items.length c1) a.items) (h2 : HasI NoX w (.slice A2 b.items.length c2) b.items) (h3 : HasA NoX w (.slice A3 a.idx.length c3) a.idx) (h4 : HasA NoX w (.slice A4 b.idx.length c4) b.idx)  (p0 : ¬ a.kind = b.kind) :
    Calls Tryz.prog 14 #[.agg #[.int .i64 a.kind, .string (str a.user), .string (str a.part), .string (str a.qos), .string (str a.name), .int .i64 a.nodes, .int .i64 a.time, .int .i64 a.run, .int .i64 a.req.1, .int .i64 a.req.2.1, .int .i64 a.req.2.2, .bool a.any, .slice A1 a.items.length c1, .slice A3 a.idx.length c3, .int .i64 a.lim, .int .i64 a.job, .string (str a.host)], .agg #[.int .i64 b.kind, .string (str b.user), .string (str b.part), .string (str b.qos), .string (str b.name), .int .i64 b.nodes, .int .i64 b.time, .int .i64 b.run, .int .i64 b.req.1, .int .i64 b.req.2.1, .int .i64 b.req.2.2, .bool b.any, .slice A2 b.items.length c2, .slice A4 b.idx.length c4, .int .i64 b.lim, .int .i64 b.job, .string (str b.host)]] w (BoolP w false) := by
  have q0 : Box ((w.alloc (.cells #[.int .i64 a.kind, .string (str a.user), .string (str a.part), .string (str a.qos), .string (str a.name), .int .i64 a.nodes, .int .i64 a.time, .int .i64 a.run, .int .i64 a.req.1, .int .i64 a.req.2.1, .int .i64 a.req.2.2, .bool a.any, .slice A1 a.items.length c1, .slice A3 a.idx.length c3, .int .i64 a.lim, .int .i64 a.job, .string (str a.host)] TCmd)).alloc (.cells #[.int .i64 b.kind, .string (str b.user), .string (str b.part), .string (str b.qos), .string (str b.name), .int .i64 b.nodes, .int .i64 b.time, .int .i64 b.run, .int .i64 b.req.1, .int .i64 b.req.2.1, .int .i64 b.req.2.2, .bool b.any, .slice A2 b.items.length c2, .slice A4 b.idx.length c4, .int .i64 b.lim, .int .i64 b.job, .string (str b.host)] TCmd)) w.heap.size TCmd [.int .i64 a.kind, .string (str a.user), .string (str a.part), .string (str a.qos), .string (str a.name), .int .i64 a.nodes, .int .i64 a.time, .int .i64 a.run, .int .i64 a.req.1, .int .i64 a.req.2.1, .int .i64 a.req.2.2, .bool a.any, .slice A1 a.items.length c1, .slice A3 a.idx.length c3, .int .i64 a.lim, .int .i64 a.job, .string (str a.host)] := Box.below (Box.new w TCmd [.int .i64 a.kind, .string (str a.user), .string (str a.part), .string (str a.qos), .string (str a.name), .int .i64 a.nodes, .int .i64 a.time, .int .i64 a.run, .int .i64 a.req.1, .int .i64 a.req.2.1, .int .i64 a.req.2.2, .bool a.any, .slice A1 a.items.length c1, .slice A3 a.idx.length c3, .int .i64 a.lim, .int .i64 a.job, .string (str a.host)]) ((Below.refl _ _).alloc (Nat.le_refl _) _) (by simp)
  have zz := World.size_alloc w (.cells #[.int .i64 a.kind, .string (str a.user), .string (str a.part), .string (str a.qos), .string (str a.name), .int .i64 a.nodes, .int .i64 a.time, .int .i64 a.run, .int .i64 a.req.1, .int .i64 a.req.2.1, .int .i64 a.req.2.2, .bool a.any, .slice A1 a.items.length c1, .slice A3 a.idx.length c3, .int .i64 a.lim, .int .i64 a.job, .string (str a.host)] TCmd)
  have q1 : Box ((w.alloc (.cells #[.int .i64 a.kind, .string (str a.user), .string (str a.part), .string (str a.qos), .string (str a.name), .int .i64 a.nodes, .int .i64 a.time, .int .i64 a.run, .int .i64 a.req.1, .int .i64 a.req.2.1, .int .i64 a.req.2.2, .bool a.any, .slice A1 a.items.length c1, .slice A3 a.idx.length c3, .int .i64 a.lim, .int .i64 a.job, .string (str a.host)] TCmd)).alloc (.cells #[.int .i64 b.kind, .string (str b.user), .string (str b.part), .string (str b.qos), .string (str b.name), .int .i64 b.nodes, .int .i64 b.time, .int .i64 b.run, .int .i64 b.req.1, .int .i64 b.req.2.1, .int .i64 b.req.2.2, .bool b.any, .slice A2 b.items.length c2, .slice A4 b.idx.length c4, .int .i64 b.lim, .int .i64 b.job, .string (str b.host)] TCmd)) (w.heap.size + 1) TCmd [.int .i64 b.kind, .string (str b.user), .string (str b.part), .string (str b.qos), .string (str b.name), .int .i64 b.nodes, .int .i64 b.time, .int .i64 b.run, .int .i64 b.req.1, .int .i64 b.req.2.1, .int .i64 b.req.2.2, .bool b.any, .slice A2 b.items.length c2, .slice A4 b.idx.length c4, .int .i64 b.lim, .int .i64 b.job, .string (str b.host)] := by
    have := Box.new (w.alloc (.cells #[.int .i64 a.kind, .string (str a.user), .string (str a.part), .string (str a.qos), .string (str a.name), .int .i64 a.nodes, .int .i64 a.time, .int .i64 a.run, .int .i64 a.req.1, .int .i64 a.req.2.1, .int .i64 a.req.2.2, .bool a.any, .slice A1 a.items.length c1, .slice A3 a.idx.length c3, .int .i64 a.lim, .int .i64 a.job, .string (str a.host)] TCmd)) TCmd [.int .i64 b.kind, .string (str b.user), .string (str b.part), .string (str b.qos), .string (str b.name), .int .i64 b.nodes, .int .i64 b.time, .int .i64 b.run, .int .i64 b.req.1, .int .i64 b.req.2.1, .int .i64 b.req.2.2, .bool b.any, .slice A2 b.items.length c2, .slice A4 b.idx.length c4, .int .i64 b.lim, .int .i64 b.job, .string (str b.host)]
    rw [zz] at this
    exact this
  have g0 : Below w.heap.size w ((w.alloc (.cells #[.int .i64 a.kind, .string (str a.user), .string (str a.part), .string (str a.qos), .string (str a.name), .int .i64 a.nodes, .int .i64 a.time, .int .i64 a.run, .int .i64 a.req.1, .int .i64 a.req.2.1, .int .i64 a.req.2.2, .bool a.any, .slice A1 a.items.length c1, .slice A3 a.idx.length c3, .int .i64 a.lim, .int .i64 a.job, .string (str a.host)] TCmd)).alloc (.cells #[.int .i64 b.kind, .string (str b.user), .string (str b.part), .string (str b.qos), .string (str b.name), .int .i64 b.nodes, .int .i64 b.time, .int .i64 b.run, .int .i64 b.req.1, .int .i64 b.req.2.1, .int .i64 b.req.2.2, .bool b.any, .slice A2 b.items.length c2, .slice A4 b.idx.length c4, .int .i64 b.lim, .int .i64 b.job, .string (str b.host)] TCmd)) := ((Below.refl _ _).alloc (Nat.le_refl _) _).alloc (by rw [zz]; omega) _
  obtain ⟨_, _, e1, l1, m1, s1⟩ := h1.its
  injection e1 with e1 _ e2
  subst e1 e2
  obtain ⟨_, _, e1, l2, m2, s2⟩ := h2.its
  injection e1 with e1 _ e2
  subst e1 e2
  obtain ⟨_, _, e1, l3, m3, s3⟩ := h3.ints
  injection e1 with e1 _ e2
  subst e1 e2
  obtain ⟨_, _, e1, l4, m4, s4⟩ := h4.ints
  injection e1 with e1 _ e2
  subst e1 e2
  have hei := fun W (hW : Below w.heap.size w W) => eqItems_any a.items b.items A1 A2 c1 c2 W ((s1.below hW).more hW.size) ((s2.below hW).more hW.size) (Nat.le_trans l1 m1) (Nat.le_trans l2 m2)
  have hen := fun W (hW : Below w.heap.size w W) => eqInts_any a.idx b.idx A3 A4 c3 c4 W ((Ds.SegC.below s3 hW).more hW.size) ((Ds.SegC.below s4 hW).more hW.size) (Nat.le_trans l3 m3) (Nat.le_trans l4 m4)
  have hev := Vs.eql_vec a.req.1 a.req.2.1 a.req.2.2 b.req.1 b.req.2.1 b.req.2.2
  unfold Vs.vec at hev
  unfold BoolP at hei hen ⊢
  have hse : ∀ l m : Str, ((str l).toList == (str m).toList) = decide (l = m) := fun l m => by rw [Vs.str_eq, bl_str, bl_str]
  have u1 := hse a.user b.user
  have u2 := hse a.part b.part
  have u3 := hse a.qos b.qos
  have u4 := hse a.name b.name
  have u5 := hse a.host b.host
  clear h1 h2 h3 h4 s1 s2 s3 s4 l1 l2 l3 l4 m1 m2 m3 m4 hse zz
  have x0 : (a.kind == b.kind) = false := by simpa using p0
  clear p0
  go_enter Tryz.func14, Tryz.ntmps14
  obtain ⟨⟨k0, k1, k2, k3, k4, k5, k6, k7, k8, k9, k10, k11, k12, k13, k14, k15, k16⟩, _, zk⟩ := Box.seventeen q0
  obtain ⟨⟨m0, m1, m2, m3, m4, m5, m6, m7, m8, m9, m10, m11, m12, m13, m14, m15, m16⟩, _, zm⟩ := Box.seventeen q1
  replace g0 := fhid g0
  clear q0 q1
  go_wp2_with (first
    | (go_at_call 21; (with_reducible refine (hei _ g0.out).mono ?_); rintro e w3 ⟨rfl, b3⟩; have g3 := g0.out.trans (b3.mono g0.out.size))
    | (go_at_call 23; (with_reducible refine (hen _ g3).mono ?_); rintro e w4 ⟨rfl, b4⟩; have g4 := g3.trans (b4.mono g3.size))
    | fail)
  go_ret
  exact ⟨rfl, g0.out⟩
set_option maxRecDepth 100000 in
set_option maxHeartbeats 16000000 in
theorem same_user (a b : CmdC) (A1 A2 A3 A4 : Option Addr) (c1 c2 c3 c4 : Nat) (w : World) (h1 : HasI NoX w (.slice A1 a.items.length c1) a.items) (h2 : HasI NoX w (.slice A2 b.items.length c2) b.items) (h3 : HasA NoX w (.slice A3 a.idx.length c3) a.idx) (h4 : HasA NoX w (.slice A4 b.idx.length c4) b.idx) (p0 : a.kind = b.kind) (p1 : ¬ a.user = b.user) :
    Calls Tryz.prog 14 #[.agg #[.int .i64 a.kind, .string (str a.user), .string (str a.part), .string (str a.qos), .string (str a.name), .int .i64 a.nodes, .int .i64 a.time, .int .i64 a.run, .int .i64 a.req.1, .int .i64 a.req.2.1, .int .i64 a.req.2.2, .bool a.any, .slice A1 a.items.length c1, .slice A3 a.idx.length c3, .int .i64 a.lim, .int .i64 a.job, .string (str a.host)], .agg #[.int .i64 b.kind, .string (str b.user), .string (str b.part), .string (str b.qos), .string (str b.name), .int .i64 b.nodes, .int .i64 b.time, .int .i64 b.run, .int .i64 b.req.1, .int .i64 b.req.2.1, .int .i64 b.req.2.2, .bool b.any, .slice A2 b.items.length c2, .slice A4 b.idx.length c4, .int .i64 b.lim, .int .i64 b.job, .string (str b.host)]] w (BoolP w false) := by
  have q0 : Box ((w.alloc (.cells #[.int .i64 a.kind, .string (str a.user), .string (str a.part), .string (str a.qos), .string (str a.name), .int .i64 a.nodes, .int .i64 a.time, .int .i64 a.run, .int .i64 a.req.1, .int .i64 a.req.2.1, .int .i64 a.req.2.2, .bool a.any, .slice A1 a.items.length c1, .slice A3 a.idx.length c3, .int .i64 a.lim, .int .i64 a.job, .string (str a.host)] TCmd)).alloc (.cells #[.int .i64 b.kind, .string (str b.user), .string (str b.part), .string (str b.qos), .string (str b.name), .int .i64 b.nodes, .int .i64 b.time, .int .i64 b.run, .int .i64 b.req.1, .int .i64 b.req.2.1, .int .i64 b.req.2.2, .bool b.any, .slice A2 b.items.length c2, .slice A4 b.idx.length c4, .int .i64 b.lim, .int .i64 b.job, .string (str b.host)] TCmd)) w.heap.size TCmd [.int .i64 a.kind, .string (str a.user), .string (str a.part), .string (str a.qos), .string (str a.name), .int .i64 a.nodes, .int .i64 a.time, .int .i64 a.run, .int .i64 a.req.1, .int .i64 a.req.2.1, .int .i64 a.req.2.2, .bool a.any, .slice A1 a.items.length c1, .slice A3 a.idx.length c3, .int .i64 a.lim, .int .i64 a.job, .string (str a.host)] := Box.below (Box.new w TCmd [.int .i64 a.kind, .string (str a.user), .string (str a.part), .string (str a.qos), .string (str a.name), .int .i64 a.nodes, .int .i64 a.time, .int .i64 a.run, .int .i64 a.req.1, .int .i64 a.req.2.1, .int .i64 a.req.2.2, .bool a.any, .slice A1 a.items.length c1, .slice A3 a.idx.length c3, .int .i64 a.lim, .int .i64 a.job, .string (str a.host)]) ((Below.refl _ _).alloc (Nat.le_refl _) _) (by simp)
  have zz := World.size_alloc w (.cells #[.int .i64 a.kind, .string (str a.user), .string (str a.part), .string (str a.qos), .string (str a.name), .int .i64 a.nodes, .int .i64 a.time, .int .i64 a.run, .int .i64 a.req.1, .int .i64 a.req.2.1, .int .i64 a.req.2.2, .bool a.any, .slice A1 a.items.length c1, .slice A3 a.idx.length c3, .int .i64 a.lim, .int .i64 a.job, .string (str a.host)] TCmd)
  have q1 : Box ((w.alloc (.cells #[.int .i64 a.kind, .string (str a.user), .string (str a.part), .string (str a.qos), .string (str a.name), .int .i64 a.nodes, .int .i64 a.time, .int .i64 a.run, .int .i64 a.req.1, .int .i64 a.req.2.1, .int .i64 a.req.2.2, .bool a.any, .slice A1 a.items.length c1, .slice A3 a.idx.length c3, .int .i64 a.lim, .int .i64 a.job, .string (str a.host)] TCmd)).alloc (.cells #[.int .i64 b.kind, .string (str b.user), .string (str b.part), .string (str b.qos), .string (str b.name), .int .i64 b.nodes, .int .i64 b.time, .int .i64 b.run, .int .i64 b.req.1, .int .i64 b.req.2.1, .int .i64 b.req.2.2, .bool b.any, .slice A2 b.items.length c2, .slice A4 b.idx.length c4, .int .i64 b.lim, .int .i64 b.job, .string (str b.host)] TCmd)) (w.heap.size + 1) TCmd [.int .i64 b.kind, .string (str b.user), .string (str b.part), .string (str b.qos), .string (str b.name), .int .i64 b.nodes, .int .i64 b.time, .int .i64 b.run, .int .i64 b.req.1, .int .i64 b.req.2.1, .int .i64 b.req.2.2, .bool b.any, .slice A2 b.items.length c2, .slice A4 b.idx.length c4, .int .i64 b.lim, .int .i64 b.job, .string (str b.host)] := by
    have := Box.new (w.alloc (.cells #[.int .i64 a.kind, .string (str a.user), .string (str a.part), .string (str a.qos), .string (str a.name), .int .i64 a.nodes, .int .i64 a.time, .int .i64 a.run, .int .i64 a.req.1, .int .i64 a.req.2.1, .int .i64 a.req.2.2, .bool a.any, .slice A1 a.items.length c1, .slice A3 a.idx.length c3, .int .i64 a.lim, .int .i64 a.job, .string (str a.host)] TCmd)) TCmd [.int .i64 b.kind, .string (str b.user), .string (str b.part), .string (str b.qos), .string (str b.name), .int .i64 b.nodes, .int .i64 b.time, .int .i64 b.run, .int .i64 b.req.1, .int .i64 b.req.2.1, .int .i64 b.req.2.2, .bool b.any, .slice A2 b.items.length c2, .slice A4 b.idx.length c4, .int .i64 b.lim, .int .i64 b.job, .string (str b.host)]
    rw [zz] at this
    exact this
  have g0 : Below w.heap.size w ((w.alloc (.cells #[.int .i64 a.kind, .string (str a.user), .string (str a.part), .string (str a.qos), .string (str a.name), .int .i64 a.nodes, .int .i64 a.time, .int .i64 a.run, .int .i64 a.req.1, .int .i64 a.req.2.1, .int .i64 a.req.2.2, .bool a.any, .slice A1 a.items.length c1, .slice A3 a.idx.length c3, .int .i64 a.lim, .int .i64 a.job, .string (str a.host)] TCmd)).alloc (.cells #[.int .i64 b.kind, .string (str b.user), .string (str b.part), .string (str b.qos), .string (str b.name), .int .i64 b.nodes, .int .i64 b.time, .int .i64 b.run, .int .i64 b.req.1, .int .i64 b.req.2.1, .int .i64 b.req.2.2, .bool b.any, .slice A2 b.items.length c2, .slice A4 b.idx.length c4, .int .i64 b.lim, .int .i64 b.job, .string (str b.host)] TCmd)) := ((Below.refl _ _).alloc (Nat.le_refl _) _).alloc (by rw [zz]; omega) _
  obtain ⟨_, _, e1, l1, m1, s1⟩ := h1.its
  injection e1 with e1 _ e2
  subst e1 e2
  obtain ⟨_, _, e1, l2, m2, s2⟩ := h2.its
  injection e1 with e1 _ e2
  subst e1 e2
  obtain ⟨_, _, e1, l3, m3, s3⟩ := h3.ints
  injection e1 with e1 _ e2
  subst e1 e2
  obtain ⟨_, _, e1, l4, m4, s4⟩ := h4.ints
  injection e1 with e1 _ e2
  subst e1 e2
  have hei := fun W (hW : Below w.heap.size w W) => eqItems_any a.items b.items A1 A2 c1 c2 W ((s1.below hW).more hW.size) ((s2.below hW).more hW.size) (Nat.le_trans l1 m1) (Nat.le_trans l2 m2)
  have hen := fun W (hW : Below w.heap.size w W) => eqInts_any a.idx b.idx A3 A4 c3 c4 W ((Ds.SegC.below s3 hW).more hW.size) ((Ds.SegC.below s4 hW).more hW.size) (Nat.le_trans l3 m3) (Nat.le_trans l4 m4)
  have hev := Vs.eql_vec a.req.1 a.req.2.1 a.req.2.2 b.req.1 b.req.2.1 b.req.2.2
  unfold Vs.vec at hev
  unfold BoolP at hei hen ⊢
  have hse : ∀ l m : Str, ((str l).toList == (str m).toList) = decide (l = m) := fun l m => by rw [Vs.str_eq, bl_str, bl_str]
  have u1 := hse a.user b.user
  have u2 := hse a.part b.part
  have u3 := hse a.qos b.qos
  have u4 := hse a.name b.name
  have u5 := hse a.host b.host
  clear h1 h2 h3 h4 s1 s2 s3 s4 l1 l2 l3 l4 m1 m2 m3 m4 hse zz
  have x0 : (a.kind == b.kind) = true := by simpa using p0
  rw [decide_eq_false p1] at u1
  clear p0 p1
  go_enter Tryz.func14, Tryz.ntmps14
  obtain ⟨⟨k0, k1, k2, k3, k4, k5, k6, k7, k8, k9, k10, k11, k12, k13, k14, k15, k16⟩, _, zk⟩ := Box.seventeen q0
  obtain ⟨⟨m0, m1, m2, m3, m4, m5, m6, m7, m8, m9, m10, m11, m12, m13, m14, m15, m16⟩, _, zm⟩ := Box.seventeen q1
  replace g0 := fhid g0
  clear q0 q1
  go_wp2_with (first
    | (go_at_call 21; (with_reducible refine (hei _ g0.out).mono ?_); rintro e w3 ⟨rfl, b3⟩; have g3 := g0.out.trans (b3.mono g0.out.size))
    | (go_at_call 23; (with_reducible refine (hen _ g3).mono ?_); rintro e w4 ⟨rfl, b4⟩; have g4 := g3.trans (b4.mono g3.size))
    | fail)
  go_ret
  exact ⟨rfl, g0.out⟩
set_option maxRecDepth 100000 in
set_option maxHeartbeats 16000000 in
theorem same_part (a b : CmdC) (A1 A2 A3 A4 : Option Addr) (c1 c2 c3 c4 : Nat) (w : World) (h1 : HasI NoX w (.slice A1 a.items.length c1) a.items) (h2 : HasI NoX w (.slice A2 b.items.length c2) b.items) (h3 : HasA NoX w (.slice A3 a.idx.length c3) a.idx) (h4 : HasA NoX w (.slice A4 b.idx.length c4) b.idx) (p0 : a.kind = b.kind) (p1 : a.user = b.user) (p2 : ¬ a.part = b.part) :
    Calls Tryz.prog 14 #[.agg #[.int .i64 a.kind, .string (str a.user), .string (str a.part), .string (str a.qos), .string (str a.name), .int .i64 a.nodes, .int .i64 a.time, .int .i64 a.run, .int .i64 a.req.1, .int .i64 a.req.2.1, .int .i64 a.req.2.2, .bool a.any, .slice A1 a.items.length c1, .slice A3 a.idx.length c3, .int .i64 a.lim, .int .i64 a.job, .string (str a.host)], .agg #[.int .i64 b.kind, .string (str b.user), .string (str b.part), .string (str b.qos), .string (str b.name), .int .i64 b.nodes, .int .i64 b.time, .int .i64 b.run, .int .i64 b.req.1, .int .i64 b.req.2.1, .int .i64 b.req.2.2, .bool b.any, .slice A2 b.items.length c2, .slice A4 b.idx.length c4, .int .i64 b.lim, .int .i64 b.job, .string (str b.host)]] w (BoolP w false) := by
  have q0 : Box ((w.alloc (.cells #[.int .i64 a.kind, .string (str a.user), .string (str a.part), .string (str a.qos), .string (str a.name), .int .i64 a.nodes, .int .i64 a.time, .int .i64 a.run, .int .i64 a.req.1, .int .i64 a.req.2.1, .int .i64 a.req.2.2, .bool a.any, .slice A1 a.items.length c1, .slice A3 a.idx.length c3, .int .i64 a.lim, .int .i64 a.job, .string (str a.host)] TCmd)).alloc (.cells #[.int .i64 b.kind, .string (str b.user), .string (str b.part), .string (str b.qos), .string (str b.name), .int .i64 b.nodes, .int .i64 b.time, .int .i64 b.run, .int .i64 b.req.1, .int .i64 b.req.2.1, .int .i64 b.req.2.2, .bool b.any, .slice A2 b.items.length c2, .slice A4 b.idx.length c4, .int .i64 b.lim, .int .i64 b.job, .string (str b.host)] TCmd)) w.heap.size TCmd [.int .i64 a.kind, .string (str a.user), .string (str a.part), .string (str a.qos), .string (str a.name), .int .i64 a.nodes, .int .i64 a.time, .int .i64 a.run, .int .i64 a.req.1, .int .i64 a.req.2.1, .int .i64 a.req.2.2, .bool a.any, .slice A1 a.items.length c1, .slice A3 a.idx.length c3, .int .i64 a.lim, .int .i64 a.job, .string (str a.host)] := Box.below (Box.new w TCmd [.int .i64 a.kind, .string (str a.user), .string (str a.part), .string (str a.qos), .string (str a.name), .int .i64 a.nodes, .int .i64 a.time, .int .i64 a.run, .int .i64 a.req.1, .int .i64 a.req.2.1, .int .i64 a.req.2.2, .bool a.any, .slice A1 a.items.length c1, .slice A3 a.idx.length c3, .int .i64 a.lim, .int .i64 a.job, .string (str a.host)]) ((Below.refl _ _).alloc (Nat.le_refl _) _) (by simp)
  have zz := World.size_alloc w (.cells #[.int .i64 a.kind, .string (str a.user), .string (str a.part), .string (str a.qos), .string (str a.name), .int .i64 a.nodes, .int .i64 a.time, .int .i64 a.run, .int .i64 a.req.1, .int .i64 a.req.2.1, .int .i64 a.req.2.2, .bool a.any, .slice A1 a.items.length c1, .slice A3 a.idx.length c3, .int .i64 a.lim, .int .i64 a.job, .string (str a.host)] TCmd)
  have q1 : Box ((w.alloc (.cells #[.int .i64 a.kind, .string (str a.user), .string (str a.part), .string (str a.qos), .string (str a.name), .int .i64 a.nodes, .int .i64 a.time, .int .i64 a.run, .int .i64 a.req.1, .int .i64 a.req.2.1, .int .i64 a.req.2.2, .bool a.any, .slice A1 a.items.length c1, .slice A3 a.idx.length c3, .int .i64 a.lim, .int .i64 a.job, .string (str a.host)] TCmd)).alloc (.cells #[.int .i64 b.kind, .string (str b.user), .string (str b.part), .string (str b.qos), .string (str b.name), .int .i64 b.nodes, .int .i64 b.time, .int .i64 b.run, .int .i64 b.req.1, .int .i64 b.req.2.1, .int .i64 b.req.2.2, .bool b.any, .slice A2 b.items.length c2, .slice A4 b.idx.length c4, .int .i64 b.lim, .int .i64 b.job, .string (str b.host)] TCmd)) (w.heap.size + 1) TCmd [.int .i64 b.kind, .string (str b.user), .string (str b.part), .string (str b.qos), .string (str b.name), .int .i64 b.nodes, .int .i64 b.time, .int .i64 b.run, .int .i64 b.req.1, .int .i64 b.req.2.1, .int .i64 b.req.2.2, .bool b.any, .slice A2 b.items.length c2, .slice A4 b.idx.length c4, .int .i64 b.lim, .int .i64 b.job, .string (str b.host)] := by
    have := Box.new (w.alloc (.cells #[.int .i64 a.kind, .string (str a.user), .string (str a.part), .string (str a.qos), .string (str a.name), .int .i64 a.nodes, .int .i64 a.time, .int .i64 a.run, .int .i64 a.req.1, .int .i64 a.req.2.1, .int .i64 a.req.2.2, .bool a.any, .slice A1 a.items.length c1, .slice A3 a.idx.length c3, .int .i64 a.lim, .int .i64 a.job, .string (str a.host)] TCmd)) TCmd [.int .i64 b.kind, .string (str b.user), .string (str b.part), .string (str b.qos), .string (str b.name), .int .i64 b.nodes, .int .i64 b.time, .int .i64 b.run, .int .i64 b.req.1, .int .i64 b.req.2.1, .int .i64 b.req.2.2, .bool b.any, .slice A2 b.items.length c2, .slice A4 b.idx.length c4, .int .i64 b.lim, .int .i64 b.job, .string (str b.host)]
    rw [zz] at this
    exact this
  have g0 : Below w.heap.size w ((w.alloc (.cells #[.int .i64 a.kind, .string (str a.user), .string (str a.part), .string (str a.qos), .string (str a.name), .int .i64 a.nodes, .int .i64 a.time, .int .i64 a.run, .int .i64 a.req.1, .int .i64 a.req.2.1, .int .i64 a.req.2.2, .bool a.any, .slice A1 a.items.length c1, .slice A3 a.idx.length c3, .int .i64 a.lim, .int .i64 a.job, .string (str a.host)] TCmd)).alloc (.cells #[.int .i64 b.kind, .string (str b.user), .string (str b.part), .string (str b.qos), .string (str b.name), .int .i64 b.nodes, .int .i64 b.time, .int .i64 b.run, .int .i64 b.req.1, .int .i64 b.req.2.1, .int .i64 b.req.2.2, .bool b.any, .slice A2 b.items.length c2, .slice A4 b.idx.length c4, .int .i64 b.lim, .int .i64 b.job, .string (str b.host)] TCmd)) := ((Below.refl _ _).alloc (Nat.le_refl _) _).alloc (by rw [zz]; omega) _
  obtain ⟨_, _, e1, l1, m1, s1⟩ := h1.its
  injection e1 with e1 _ e2
  subst e1 e2
  obtain ⟨_, _, e1, l2, m2, s2⟩ := h2.its
  injection e1 with e1 _ e2
  subst e1 e2
  obtain ⟨_, _, e1, l3, m3, s3⟩ := h3.ints
  injection e1 with e1 _ e2
  subst e1 e2
  obtain ⟨_, _, e1, l4, m4, s4⟩ := h4.ints
  injection e1 with e1 _ e2
  subst e1 e2
  have hei := fun W (hW : Below w.heap.size w W) => eqItems_any a.items b.items A1 A2 c1 c2 W ((s1.below hW).more hW.size) ((s2.below hW).more hW.size) (Nat.le_trans l1 m1) (Nat.le_trans l2 m2)
  have hen := fun W (hW : Below w.heap.size w W) => eqInts_any a.idx b.idx A3 A4 c3 c4 W ((Ds.SegC.below s3 hW).more hW.size) ((Ds.SegC.below s4 hW).more hW.size) (Nat.le_trans l3 m3) (Nat.le_trans l4 m4)
  have hev := Vs.eql_vec a.req.1 a.req.2.1 a.req.2.2 b.req.1 b.req.2.1 b.req.2.2
  unfold Vs.vec at hev
  unfold BoolP at hei hen ⊢
  have hse : ∀ l m : Str, ((str l).toList == (str m).toList) = decide (l = m) := fun l m => by rw [Vs.str_eq, bl_str, bl_str]
  have u1 := hse a.user b.user
  have u2 := hse a.part b.part
  have u3 := hse a.qos b.qos
  have u4 := hse a.name b.name
  have u5 := hse a.host b.host
  clear h1 h2 h3 h4 s1 s2 s3 s4 l1 l2 l3 l4 m1 m2 m3 m4 hse zz
  have x0 : (a.kind == b.kind) = true := by simpa using p0
  rw [decide_eq_true p1] at u1
  rw [decide_eq_false p2] at u2
  clear p0 p1 p2
  go_enter Tryz.func14, Tryz.ntmps14
  obtain ⟨⟨k0, k1, k2, k3, k4, k5, k6, k7, k8, k9, k10, k11, k12, k13, k14, k15, k16⟩, _, zk⟩ := Box.seventeen q0
  obtain ⟨⟨m0, m1, m2, m3, m4, m5, m6, m7, m8, m9, m10, m11, m12, m13, m14, m15, m16⟩, _, zm⟩ := Box.seventeen q1
  replace g0 := fhid g0
  clear q0 q1
  go_wp2_with (first
    | (go_at_call 21; (with_reducible refine (hei _ g0.out).mono ?_); rintro e w3 ⟨rfl, b3⟩; have g3 := g0.out.trans (b3.mono g0.out.size))
    | (go_at_call 23; (with_reducible refine (hen _ g3).mono ?_); rintro e w4 ⟨rfl, b4⟩; have g4 := g3.trans (b4.mono g3.size))
    | fail)
  go_ret
  exact ⟨rfl, g0.out⟩
set_option maxRecDepth 100000 in
set_option maxHeartbeats 16000000 in
theorem same_qos (a b : CmdC) (A1 A2 A3 A4 : Option Addr) (c1 c2 c3 c4 : Nat) (w : World) (h1 : HasI NoX w (.slice A1 a.items.length c1) a.items) (h2 : HasI NoX w (.slice A2 b.items.length c2) b.items) (h3 : HasA NoX w (.slice A3 a.idx.length c3) a.idx) (h4 : HasA NoX w (.slice A4 b.idx.length c4) b.idx) (p0 : a.kind = b.kind) (p1 : a.user = b.user) (p2 : a.part = b.part) (p3 : ¬ a.qos = b.qos) :
    Calls Tryz.prog 14 #[.agg #[.int .i64 a.kind, .string (str a.user), .string (str a.part), .string (str a.qos), .string (str a.name), .int .i64 a.nodes, .int .i64 a.time, .int .i64 a.run, .int .i64 a.req.1, .int .i64 a.req.2.1, .int .i64 a.req.2.2, .bool a.any, .slice A1 a.items.length c1, .slice A3 a.idx.length c3, .int .i64 a.lim, .int .i64 a.job, .string (str a.host)], .agg #[.int .i64 b.kind, .string (str b.user), .string (str b.part), .string (str b.qos), .string (str b.name), .int .i64 b.nodes, .int .i64 b.time, .int .i64 b.run, .int .i64 b.req.1, .int .i64 b.req.2.1, .int .i64 b.req.2.2, .bool b.any, .slice A2 b.items.length c2, .slice A4 b.idx.length c4, .int .i64 b.lim, .int .i64 b.job, .string (str b.host)]] w (BoolP w false) := by
  have q0 : Box ((w.alloc (.cells #[.int .i64 a.kind, .string (str a.user), .string (str a.part), .string (str a.qos), .string (str a.name), .int .i64 a.nodes, .int .i64 a.time, .int .i64 a.run, .int .i64 a.req.1, .int .i64 a.req.2.1, .int .i64 a.req.2.2, .bool a.any, .slice A1 a.items.length c1, .slice A3 a.idx.length c3, .int .i64 a.lim, .int .i64 a.job, .string (str a.host)] TCmd)).alloc (.cells #[.int .i64 b.kind, .string (str b.user), .string (str b.part), .string (str b.qos), .string (str b.name), .int .i64 b.nodes, .int .i64 b.time, .int .i64 b.run, .int .i64 b.req.1, .int .i64 b.req.2.1, .int .i64 b.req.2.2, .bool b.any, .slice A2 b.items.length c2, .slice A4 b.idx.length c4, .int .i64 b.lim, .int .i64 b.job, .string (str b.host)] TCmd)) w.heap.size TCmd [.int .i64 a.kind, .string (str a.user), .string (str a.part), .string (str a.qos), .string (str a.name), .int .i64 a.nodes, .int .i64 a.time, .int .i64 a.run, .int .i64 a.req.1, .int .i64 a.req.2.1, .int .i64 a.req.2.2, .bool a.any, .slice A1 a.items.length c1, .slice A3 a.idx.length c3, .int .i64 a.lim, .int .i64 a.job, .string (str a.host)] := Box.below (Box.new w TCmd [.int .i64 a.kind, .string (str a.user), .string (str a.part), .string (str a.qos), .string (str a.name), .int .i64 a.nodes, .int .i64 a.time, .int .i64 a.run, .int .i64 a.req.1, .int .i64 a.req.2.1, .int .i64 a.req.2.2, .bool a.any, .slice A1 a.items.length c1, .slice A3 a.idx.length c3, .int .i64 a.lim, .int .i64 a.job, .string (str a.host)]) ((Below.refl _ _).alloc (Nat.le_refl _) _) (by simp)
  have zz := World.size_alloc w (.cells #[.int .i64 a.kind, .string (str a.user), .string (str a.part), .string (str a.qos), .string (str a.name), .int .i64 a.nodes, .int .i64 a.time, .int .i64 a.run, .int .i64 a.req.1, .int .i64 a.req.2.1, .int .i64 a.req.2.2, .bool a.any, .slice A1 a.items.length c1, .slice A3 a.idx.length c3, .int .i64 a.lim, .int .i64 a.job, .string (str a.host)] TCmd)
  have q1 : Box ((w.alloc (.cells #[.int .i64 a.kind, .string (str a.user), .string (str a.part), .string (str a.qos), .string (str a.name), .int .i64 a.nodes, .int .i64 a.time, .int .i64 a.run, .int .i64 a.req.1, .int .i64 a.req.2.1, .int .i64 a.req.2.2, .bool a.any, .slice A1 a.items.length c1, .slice A3 a.idx.length c3, .int .i64 a.lim, .int .i64 a.job, .string (str a.host)] TCmd)).alloc (.cells #[.int .i64 b.kind, .string (str b.user), .string (str b.part), .string (str b.qos), .string (str b.name), .int .i64 b.nodes, .int .i64 b.time, .int .i64 b.run, .int .i64 b.req.1, .int .i64 b.req.2.1, .int .i64 b.req.2.2, .bool b.any, .slice A2 b.items.length c2, .slice A4 b.idx.length c4, .int .i64 b.lim, .int .i64 b.job, .string (str b.host)] TCmd)) (w.heap.size + 1) TCmd [.int .i64 b.kind, .string (str b.user), .string (str b.part), .string (str b.qos), .string (str b.name), .int .i64 b.nodes, .int .i64 b.time, .int .i64 b.run, .int .i64 b.req.1, .int .i64 b.req.2.1, .int .i64 b.req.2.2, .bool b.any, .slice A2 b.items.length c2, .slice A4 b.idx.length c4, .int .i64 b.lim, .int .i64 b.job, .string (str b.host)] := by
    have := Box.new (w.alloc (.cells #[.int .i64 a.kind, .string (str a.user), .string (str a.part), .string (str a.qos), .string (str a.name), .int .i64 a.nodes, .int .i64 a.time, .int .i64 a.run, .int .i64 a.req.1, .int .i64 a.req.2.1, .int .i64 a.req.2.2, .bool a.any, .slice A1 a.items.length c1, .slice A3 a.idx.length c3, .int .i64 a.lim, .int .i64 a.job, .string (str a.host)] TCmd)) TCmd [.int .i64 b.kind, .string (str b.user), .string (str b.part), .string (str b.qos), .string (str b.name), .int .i64 b.nodes, .int .i64 b.time, .int .i64 b.run, .int .i64 b.req.1, .int .i64 b.req.2.1, .int .i64 b.req.2.2, .bool b.any, .slice A2 b.items.length c2, .slice A4 b.idx.length c4, .int .i64 b.lim, .int .i64 b.job, .string (str b.host)]
    rw [zz] at this
    exact this
  have g0 : Below w.heap.size w ((w.alloc (.cells #[.int .i64 a.kind, .string (str a.user), .string (str a.part), .string (str a.qos), .string (str a.name), .int .i64 a.nodes, .int .i64 a.time, .int .i64 a.run, .int .i64 a.req.1, .int .i64 a.req.2.1, .int .i64 a.req.2.2, .bool a.any, .slice A1 a.items.length c1, .slice A3 a.idx.length c3, .int .i64 a.lim, .int .i64 a.job, .string (str a.host)] TCmd)).alloc (.cells #[.int .i64 b.kind, .string (str b.user), .string (str b.part), .string (str b.qos), .string (str b.name), .int .i64 b.nodes, .int .i64 b.time, .int .i64 b.run, .int .i64 b.req.1, .int .i64 b.req.2.1, .int .i64 b.req.2.2, .bool b.any, .slice A2 b.items.length c2, .slice A4 b.idx.length c4, .int .i64 b.lim, .int .i64 b.job, .string (str b.host)] TCmd)) := ((Below.refl _ _).alloc (Nat.le_refl _) _).alloc (by rw [zz]; omega) _
  obtain ⟨_, _, e1, l1, m1, s1⟩ := h1.its
  injection e1 with e1 _ e2
  subst e1 e2
  obtain ⟨_, _, e1, l2, m2, s2⟩ := h2.its
  injection e1 with e1 _ e2
  subst e1 e2
  obtain ⟨_, _, e1, l3, m3, s3⟩ := h3.ints
  injection e1 with e1 _ e2
  subst e1 e2
  obtain ⟨_, _, e1, l4, m4, s4⟩ := h4.ints
  injection e1 with e1 _ e2
  subst e1 e2
  have hei := fun W (hW : Below w.heap.size w W) => eqItems_any a.items b.items A1 A2 c1 c2 W ((s1.below hW).more hW.size) ((s2.below hW).more hW.size) (Nat.le_trans l1 m1) (Nat.le_trans l2 m2)
  have hen := fun W (hW : Below w.heap.size w W) => eqInts_any a.idx b.idx A3 A4 c3 c4 W ((Ds.SegC.below s3 hW).more hW.size) ((Ds.SegC.below s4 hW).more hW.size) (Nat.le_trans l3 m3) (Nat.le_trans l4 m4)
  have hev := Vs.eql_vec a.req.1 a.req.2.1 a.req.2.2 b.req.1 b.req.2.1 b.req.2.2
  unfold Vs.vec at hev
  unfold BoolP at hei hen ⊢
  have hse : ∀ l m : Str, ((str l).toList == (str m).toList) = decide (l = m) := fun l m => by rw [Vs.str_eq, bl_str, bl_str]
  have u1 := hse a.user b.user
  have u2 := hse a.part b.part
  have u3 := hse a.qos b.qos
  have u4 := hse a.name b.name
  have u5 := hse a.host b.host
  clear h1 h2 h3 h4 s1 s2 s3 s4 l1 l2 l3 l4 m1 m2 m3 m4 hse zz
  have x0 : (a.kind == b.kind) = true := by simpa using p0
  rw [decide_eq_true p1] at u1
  rw [decide_eq_true p2] at u2
  rw [decide_eq_false p3] at u3
  clear p0 p1 p2 p3
  go_enter Tryz.func14, Tryz.ntmps14
  obtain ⟨⟨k0, k1, k2, k3, k4, k5, k6, k7, k8, k9, k10, k11, k12, k13, k14, k15, k16⟩, _, zk⟩ := Box.seventeen q0
  obtain ⟨⟨m0, m1, m2, m3, m4, m5, m6, m7, m8, m9, m10, m11, m12, m13, m14, m15, m16⟩, _, zm⟩ := Box.seventeen q1
  replace g0 := fhid g0
  clear q0 q1
  go_wp2_with (first
    | (go_at_call 21; (with_reducible refine (hei _ g0.out).mono ?_); rintro e w3 ⟨rfl, b3⟩; have g3 := g0.out.trans (b3.mono g0.out.size))
    | (go_at_call 23; (with_reducible refine (hen _ g3).mono ?_); rintro e w4 ⟨rfl, b4⟩; have g4 := g3.trans (b4.mono g3.size))
    | fail)
  go_ret
  exact ⟨rfl, g0.out⟩
set_option maxRecDepth 100000 in
set_option maxHeartbeats 16000000 in
theorem same_name (a b : CmdC) (A1 A2 A3 A4 : Option Addr) (c1 c2 c3 c4 : Nat) (w : World) (h1 : HasI NoX w (.slice A1 a.items.length c1) a.items) (h2 : HasI NoX w (.slice A2 b.items.length c2) b.items) (h3 : HasA NoX w (.slice A3 a.idx.length c3) a.idx) (h4 : HasA NoX w (.slice A4 b.idx.length c4) b.idx) (p0 : a.kind = b.kind) (p1 : a.user = b.user) (p2 : a.part = b.part) (p3 : a.qos = b.qos) (p4 : ¬ a.name = b.name) :
    Calls Tryz.prog 14 #[.agg #[.int .i64 a.kind, .string (str a.user), .string (str a.part), .string (str a.qos), .string (str a.name), .int .i64 a.nodes, .int .i64 a.time, .int .i64 a.run, .int .i64 a.req.1, .int .i64 a.req.2.1, .int .i64 a.req.2.2, .bool a.any, .slice A1 a.items.length c1, .slice A3 a.idx.length c3, .int .i64 a.lim, .int .i64 a.job, .string (str a.host)], .agg #[.int .i64 b.kind, .string (str b.user), .string (str b.part), .string (str b.qos), .string (str b.name), .int .i64 b.nodes, .int .i64 b.time, .int .i64 b.run, .int .i64 b.req.1, .int .i64 b.req.2.1, .int .i64 b.req.2.2, .bool b.any, .slice A2 b.items.length c2, .slice A4 b.idx.length c4, .int .i64 b.lim, .int .i64 b.job, .string (str b.host)]] w (BoolP w false) := by
  have q0 : Box ((w.alloc (.cells #[.int .i64 a.kind, .string (str a.user), .string (str a.part), .string (str a.qos), .string (str a.name), .int .i64 a.nodes, .int .i64 a.time, .int .i64 a.run, .int .i64 a.req.1, .int .i64 a.req.2.1, .int .i64 a.req.2.2, .bool a.any, .slice A1 a.items.length c1, .slice A3 a.idx.length c3, .int .i64 a.lim, .int .i64 a.job, .string (str a.host)] TCmd)).alloc (.cells #[.int .i64 b.kind, .string (str b.user), .string (str b.part), .string (str b.qos), .string (str b.name), .int .i64 b.nodes, .int .i64 b.time, .int .i64 b.run, .int .i64 b.req.1, .int .i64 b.req.2.1, .int .i64 b.req.2.2, .bool b.any, .slice A2 b.items.length c2, .slice A4 b.idx.length c4, .int .i64 b.lim, .int .i64 b.job, .string (str b.host)] TCmd)) w.heap.size TCmd [.int .i64 a.kind, .string (str a.user), .string (str a.part), .string (str a.qos), .string (str a.name), .int .i64 a.nodes, .int .i64 a.time, .int .i64 a.run, .int .i64 a.req.1, .int .i64 a.req.2.1, .int .i64 a.req.2.2, .bool a.any, .slice A1 a.items.length c1, .slice A3 a.idx.length c3, .int .i64 a.lim, .int .i64 a.job, .string (str a.host)] := Box.below (Box.new w TCmd [.int .i64 a.kind, .string (str a.user), .string (str a.part), .string (str a.qos), .string (str a.name), .int .i64 a.nodes, .int .i64 a.time, .int .i64 a.run, .int .i64 a.req.1, .int .i64 a.req.2.1, .int .i64 a.req.2.2, .bool a.any, .slice A1 a.items.length c1, .slice A3 a.idx.length c3, .int .i64 a.lim, .int .i64 a.job, .string (str a.host)]) ((Below.refl _ _).alloc (Nat.le_refl _) _) (by simp)
  have zz := World.size_alloc w (.cells #[.int .i64 a.kind, .string (str a.user), .string (str a.part), .string (str a.qos), .string (str a.name), .int .i64 a.nodes, .int .i64 a.time, .int .i64 a.run, .int .i64 a.req.1, .int .i64 a.req.2.1, .int .i64 a.req.2.2, .bool a.any, .slice A1 a.items.length c1, .slice A3 a.idx.length c3, .int .i64 a.lim, .int .i64 a.job, .string (str a.host)] TCmd)
  have q1 : Box ((w.alloc (.cells #[.int .i64 a.kind, .string (str a.user), .string (str a.part), .string (str a.qos), .string (str a.name), .int .i64 a.nodes, .int .i64 a.time, .int .i64 a.run, .int .i64 a.req.1, .int .i64 a.req.2.1, .int .i64 a.req.2.2, .bool a.any, .slice A1 a.items.length c1, .slice A3 a.idx.length c3, .int .i64 a.lim, .int .i64 a.job, .string (str a.host)] TCmd)).alloc (.cells #[.int .i64 b.kind, .string (str b.user), .string (str b.part), .string (str b.qos), .string (str b.name), .int .i64 b.nodes, .int .i64 b.time, .int .i64 b.run, .int .i64 b.req.1, .int .i64 b.req.2.1, .int .i64 b.req.2.2, .bool b.any, .slice A2 b.items.length c2, .slice A4 b.idx.length c4, .int .i64 b.lim, .int .i64 b.job, .string (str b.host)] TCmd)) (w.heap.size + 1) TCmd [.int .i64 b.kind, .string (str b.user), .string (str b.part), .string (str b.qos), .string (str b.name), .int .i64 b.nodes, .int .i64 b.time, .int .i64 b.run, .int .i64 b.req.1, .int .i64 b.req.2.1, .int .i64 b.req.2.2, .bool b.any, .slice A2 b.items.length c2, .slice A4 b.idx.length c4, .int .i64 b.lim, .int .i64 b.job, .string (str b.host)] := by
    have := Box.new (w.alloc (.cells #[.int .i64 a.kind, .string (str a.user), .string (str a.part), .string (str a.qos), .string (str a.name), .int .i64 a.nodes, .int .i64 a.time, .int .i64 a.run, .int .i64 a.req.1, .int .i64 a.req.2.1, .int .i64 a.req.2.2, .bool a.any, .slice A1 a.items.length c1, .slice A3 a.idx.length c3, .int .i64 a.lim, .int .i64 a.job, .string (str a.host)] TCmd)) TCmd [.int .i64 b.kind, .string (str b.user), .string (str b.part), .string (str b.qos), .string (str b.name), .int .i64 b.nodes, .int .i64 b.time, .int .i64 b.run, .int .i64 b.req.1, .int .i64 b.req.2.1, .int .i64 b.req.2.2, .bool b.any, .slice A2 b.items.length c2, .slice A4 b.idx.length c4, .int .i64 b.lim, .int .i64 b.job, .string (str b.host)]
    rw [zz] at this
    exact this
  have g0 : Below w.heap.size w ((w.alloc (.cells #[.int .i64 a.kind, .string (str a.user), .string (str a.part), .string (str a.qos), .string (str a.name), .int .i64 a.nodes, .int .i64 a.time, .int .i64 a.run, .int .i64 a.req.1, .int .i64 a.req.2.1, .int .i64 a.req.2.2, .bool a.any, .slice A1 a.items.length c1, .slice A3 a.idx.length c3, .int .i64 a.lim, .int .i64 a.job, .string (str a.host)] TCmd)).alloc (.cells #[.int .i64 b.kind, .string (str b.user), .string (str b.part), .string (str b.qos), .string (str b.name), .int .i64 b.nodes, .int .i64 b.time, .int .i64 b.run, .int .i64 b.req.1, .int .i64 b.req.2.1, .int .i64 b.req.2.2, .bool b.any, .slice A2 b.items.length c2, .slice A4 b.idx.length c4, .int .i64 b.lim, .int .i64 b.job, .string (str b.host)] TCmd)) := ((Below.refl _ _).alloc (Nat.le_refl _) _).alloc (by rw [zz]; omega) _
  obtain ⟨_, _, e1, l1, m1, s1⟩ := h1.its
  injection e1 with e1 _ e2
  subst e1 e2
  obtain ⟨_, _, e1, l2, m2, s2⟩ := h2.its
  injection e1 with e1 _ e2
  subst e1 e2
  obtain ⟨_, _, e1, l3, m3, s3⟩ := h3.ints
  injection e1 with e1 _ e2
  subst e1 e2
  obtain ⟨_, _, e1, l4, m4, s4⟩ := h4.ints
  injection e1 with e1 _ e2
  subst e1 e2
  have hei := fun W (hW : Below w.heap.size w W) => eqItems_any a.items b.items A1 A2 c1 c2 W ((s1.below hW).more hW.size) ((s2.below hW).more hW.size) (Nat.le_trans l1 m1) (Nat.le_trans l2 m2)
  have hen := fun W (hW : Below w.heap.size w W) => eqInts_any a.idx b.idx A3 A4 c3 c4 W ((Ds.SegC.below s3 hW).more hW.size) ((Ds.SegC.below s4 hW).more hW.size) (Nat.le_trans l3 m3) (Nat.le_trans l4 m4)
  have hev := Vs.eql_vec a.req.1 a.req.2.1 a.req.2.2 b.req.1 b.req.2.1 b.req.2.2
  unfold Vs.vec at hev
  unfold BoolP at hei hen ⊢
  have hse : ∀ l m : Str, ((str l).toList == (str m).toList) = decide (l = m) := fun l m => by rw [Vs.str_eq, bl_str, bl_str]
  have u1 := hse a.user b.user
  have u2 := hse a.part b.part
  have u3 := hse a.qos b.qos
  have u4 := hse a.name b.name
  have u5 := hse a.host b.host
  clear h1 h2 h3 h4 s1 s2 s3 s4 l1 l2 l3 l4 m1 m2 m3 m4 hse zz
  have x0 : (a.kind == b.kind) = true := by simpa using p0
  rw [decide_eq_true p1] at u1
  rw [decide_eq_true p2] at u2
  rw [decide_eq_true p3] at u3
  rw [decide_eq_false p4] at u4
  clear p0 p1 p2 p3 p4
  go_enter Tryz.func14, Tryz.ntmps14
  obtain ⟨⟨k0, k1, k2, k3, k4, k5, k6, k7, k8, k9, k10, k11, k12, k13, k14, k15, k16⟩, _, zk⟩ := Box.seventeen q0
  obtain ⟨⟨m0, m1, m2, m3, m4, m5, m6, m7, m8, m9, m10, m11, m12, m13, m14, m15, m16⟩, _, zm⟩ := Box.seventeen q1
  replace g0 := fhid g0
  clear q0 q1
  go_wp2_with (first
    | (go_at_call 21; (with_reducible refine (hei _ g0.out).mono ?_); rintro e w3 ⟨rfl, b3⟩; have g3 := g0.out.trans (b3.mono g0.out.size))
    | (go_at_call 23; (with_reducible refine (hen _ g3).mono ?_); rintro e w4 ⟨rfl, b4⟩; have g4 := g3.trans (b4.mono g3.size))
    | fail)
  go_ret
  exact ⟨rfl, g0.out⟩
end Go.Proofs.YtjpihophigjbpaaGreatDoor
