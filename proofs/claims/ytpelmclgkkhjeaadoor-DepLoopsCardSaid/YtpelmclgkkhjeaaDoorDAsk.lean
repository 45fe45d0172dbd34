/-
  What a dependency is at, by the program and by the document.
-/
import Derived.Test.YtpelmclgkkhjeaaDoorDSettle
namespace Go.Proofs.YtpelmclgkkhjeaaDoor
open Go.RowKit

set_option maxRecDepth 100000 in
set_option maxHeartbeats 2000000 in
theorem Ask_any (any : Bool) (l : List Itm) (A : Option Addr) (cap b : Nat) (m : List (Int × Int)) (alone : Bool) (w : World) (hs : Its w w.heap.size A l) (hl : l.length ≤ 1000) (hj : ∀ x ∈ l, x.2.length ≤ 1048576) (hm : SMap w b m) :
    Calls Tryd.prog 11 #[.agg #[.bool any, .slice A l.length cap], .map (some b), .bool alone] w (NP w (askP any l (stOf m) alone)) := by
  have hbl := hm.lt
  have hE := fhid (show askP any l (stOf m) alone = if any = true then settleP 1 2 (l.map (itemP (stOf m) alone)) else settleP 2 1 (l.map (itemP (stOf m) alone)) from rfl)
  generalize askP any l (stOf m) alone = R at *
  replace hs := fhid hs
  replace hm := fhid hm
  replace hj := fhid hj
  go_enter Tryd.func11, Tryd.ntmps11
  go_upto_region 1 with fail
  have hi := heap_alloc_new w (.cells #[.bool any, .slice A l.length cap] 33)
  replace hi : DB _ w.heap.size 33 any (.slice A l.length cap) := hi
  have g0 : Below w.heap.size w (w.alloc (.cells #[.bool any, .slice A l.length cap] 33)) := (Below.refl _ _).alloc (Nat.le_refl _) _
  generalize w.alloc _ = w1 at *
  obtain ⟨c0, c1, _, _, hz⟩ := hi.facts
  go_wp2_with fail
  go_loopw [7, 13] (fun v i wr => ∃ j : Nat, j ≤ l.length ∧ i = .int .i64 (j : Int) ∧ OwnI wr w1.heap.size v ((l.take j).map (itemP (stOf m) alone)) ∧ Below w1.heap.size w1 wr) (fun _ i _ => l.length - (intOf i).toNat)
  case atStart => exact ⟨0, Nat.zero_le _, rfl, OwnI.nil _ _, Below.refl _ _⟩
  case round =>
    obtain ⟨j, hjl, rfl, hO, hB⟩ := hrel
    have hsz := hB.size
    have hI := hi.below hB hz
    clear c0 c1
    obtain ⟨c0, c1, _, _, _⟩ := hI.facts
    have gB := g0.trans (hB.mono g0.size)
    by_cases hlt : j < l.length
    · obtain ⟨bb, o, rfl, hbb, d0, A2, cp2, d1, _, _, hjs⟩ := (hs.out.below gB).at_ hlt
      have hM := hm.out.below gB hbl
      have hsn := fhid (show (l.take (j + 1)).map (itemP (stOf m) alone) = (l.take j).map (itemP (stOf m) alone) ++ [itemP (stOf m) alone l[j]] by rw [List.take_succ_eq_append_getElem hlt, List.map_append]; rfl)
      have hjx := hj.out l[j] (List.getElem_mem hlt)
      have i1 : (j : Int) < l.length := by omega
      have i0 : (0 : Int) ≤ j := by omega
      have hln : ((l.take j).map (itemP (stOf m) alone)).length ≤ 1048576 := by rw [List.length_map, List.length_take]; omega
      generalize l[j] = x at *
      obtain ⟨k, js⟩ := x
      simp only at d0 d1 hjs hjx
      have hai := fun W (h : Below wr.heap.size wr W) => askItem_any k js A2 cp2 b m alone W (SegC.more (hjs.below (h.mono gB.size)) (Nat.le_trans gB.size h.size)) hjx (hM.below h (Nat.lt_of_lt_of_le hbl gB.size))
      generalize itemP (stOf m) alone (k, js) = r at *
      generalize (l.take j).map (itemP (stOf m) alone) = pre at *
      replace hln := fhid hln
      replace hO := fhid hO
      replace hjs := fhid hjs
      have gq : Below wr.heap.size wr (wr.alloc (.cells #[.int .i64 k, .slice A2 js.length cp2] 50)) := (Below.refl _ _).alloc (Nat.le_refl _) _
      go_wp2_with (first
        | (go_at_call 21; (with_reducible refine (hai _ gq).mono ?_); rintro e w2 ⟨rfl, b2⟩
           have g2 := gq.trans (b2.mono gq.size))
        | (at_builtin; refine app_int rfl _ _ rfl w1.heap.size _ pre r w2 rfl (hO.out.below g2) rfl _ rfl rfl hln.out (Nat.le_trans hsz g2.size) ?_; intro v2 w3 o2 _ b3))
      go_roundw
      case rel => exact ⟨j + 1, by omega, by go_num, by rw [hsn.out]; exact o2, (hB.trans (g2.mono hsz)).trans b3⟩
      case measure => simp [intOf]; omega
    · obtain rfl : j = l.length := by omega
      rw [List.take_length] at hO
      obtain ⟨A', cap', rfl, _, _, hS⟩ := hO.shape
      have hl2 : (l.map (itemP (stOf m) alone)).length ≤ 9223372036854775807 := by rw [List.length_map]; omega
      have hst1 := fun W (h : wr = W) => settle_any 1 2 (by decide) (l.map (itemP (stOf m) alone)) _ A' cap' W (h ▸ hS) hl2
      have hst2 := fun W (h : wr = W) => settle_any 2 1 (by decide) (l.map (itemP (stOf m) alone)) _ A' cap' W (h ▸ hS) hl2
      replace hS := fhid hS
      clear hO
      generalize hLL : (l.map (itemP (stOf m) alone)).length = LL at *
      replace hLL := fhid hLL
      cases any with
      | true =>
        go_wp2_with (go_at_call 22; (with_reducible refine (hst1 _ rfl).mono ?_); rintro e w2 ⟨rfl, rfl⟩)
        go_ret
        exact ⟨fret1 (by rw [hE.out]; rfl), gB⟩
      | false =>
        go_wp2_with (go_at_call 22; (with_reducible refine (hst2 _ rfl).mono ?_); rintro e w2 ⟨rfl, rfl⟩)
        go_ret
        exact ⟨fret1 (by rw [hE.out]; rfl), gB⟩

theorem look_take {α : Type} (l : List (Int × α)) (k : Nat) (h : k < l.length) (i : Int) (hn : look (l.take k) i = none) : look (l.take (k + 1)) i = if l[k].1 = i then some l[k].2 else none := by
  rw [List.take_succ_eq_append_getElem h, look_app, hn]
  rfl
theorem look_first {α : Type} (l : List (Int × α)) (k : Nat) (h : k < l.length) (i : Int) (hn : look (l.take k) i = none) (he : l[k].1 = i) : look l i = some l[k].2 := by
  have h1 := look_take l k h i hn
  rw [if_pos he] at h1
  have h2 := look_app (l.take (k + 1)) (l.drop (k + 1)) i
  rw [List.take_append_drop, h1] at h2
  exact h2
end Go.Proofs.YtpelmclgkkhjeaaDoor
