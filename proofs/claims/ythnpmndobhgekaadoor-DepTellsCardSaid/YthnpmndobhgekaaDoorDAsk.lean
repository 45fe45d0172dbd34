/-
  What a dependency is at, by the program and by the document.
-/
import Derived.Test.YthnpmndobhgekaaDoorDSettle
namespace Go.Proofs.YthnpmndobhgekaaDoor
open Go.RowKit

set_option maxRecDepth 100000 in
set_option maxHeartbeats 2000000 in
theorem Ask_any (any : Bool) (l : List Itm) (A : Option Addr) (cap b : Nat) (m : List (Int × Int)) (alone : Bool) (w : World) (hs : Its w w.heap.size A l) (hl : l.length ≤ 1000) (hj : ∀ x ∈ l, x.2.length ≤ 1048576) (hm : SMap w b m) :
    Calls Tryd.prog 22 #[.agg #[.bool any, .slice A l.length cap], .map (some b), .bool alone] w (NP w (askP any l (stOf m) alone)) := by
  have hbl := hm.lt
  have hE := fhid (show askP any l (stOf m) alone = if any = true then settleP 1 2 (l.map (itemP (stOf m) alone)) else settleP 2 1 (l.map (itemP (stOf m) alone)) from rfl)
  generalize askP any l (stOf m) alone = R at *
  replace hs := fhid hs
  replace hm := fhid hm
  replace hj := fhid hj
  go_enter Tryd.func22, Tryd.ntmps22
  go_upto_region 1 with fail
  have hi := heap_alloc_new w (.cells #[.bool any, .slice A l.length cap] 30)
  replace hi : DB _ w.heap.size 30 any (.slice A l.length cap) := hi
  have g0 : Below w.heap.size w (w.alloc (.cells #[.bool any, .slice A l.length cap] 30)) := (Below.refl _ _).alloc (Nat.le_refl _) _
  generalize w.alloc _ = w1 at *
  obtain ⟨c0, c1, _, _, hz⟩ := hi.facts
  go_wp2_with fail
  go_loopw [7, 13] (fun v i wr => ∃ j : Nat, j ≤ l.length ∧ i = .int .i64 (j : Int) ∧ OwnI wr w1.heap.size v ((l.take j).map (itemP (stOf m) alone)) ∧ Below w1.heap.size w1 wr) (fun _ i _ => l.length - (intOf i).toNat)
  case atStart => exact ⟨0, Nat.zero_le _, rfl, OwnI.nil _ _, Below.refl _ _⟩
  case round =>
    obtain ⟨j, hjl, rfl, hO, hB⟩ := hrel
    have hsz := hB.size
    have hI := hi.below hB hz
    clear c0 c1
    obtain ⟨c0, c1, _, _, _⟩ := hI.facts
    have gB := g0.trans (hB.mono g0.size)
    by_cases hlt : j < l.length
    · obtain ⟨bb, o, rfl, hbb, d0, A2, cp2, d1, _, _, hjs⟩ := (hs.out.below gB).at_ hlt
      have hM := hm.out.below gB hbl
      have hsn := fhid (show (l.take (j + 1)).map (itemP (stOf m) alone) = (l.take j).map (itemP (stOf m) alone) ++ [itemP (stOf m) alone l[j]] by rw [List.take_succ_eq_append_getElem hlt, List.map_append]; rfl)
      have hjx := hj.out l[j] (List.getElem_mem hlt)
      have i1 : (j : Int) < l.length := by omega
      have i0 : (0 : Int) ≤ j := by omega
      have hln : ((l.take j).map (itemP (stOf m) alone)).length ≤ 1048576 := by rw [List.length_map, List.length_take]; omega
      generalize l[j] = x at *
      obtain ⟨k, js⟩ := x
      simp only at d0 d1 hjs hjx
      have hai := fun W (h : Below wr.heap.size wr W) => askItem_any k js A2 cp2 b m alone W (SegC.more (hjs.below (h.mono gB.size)) (Nat.le_trans gB.size h.size)) hjx (hM.below h (Nat.lt_of_lt_of_le hbl gB.size))
      generalize itemP (stOf m) alone (k, js) = r at *
      generalize (l.take j).map (itemP (stOf m) alone) = pre at *
      replace hln := fhid hln
      replace hO := fhid hO
      replace hjs := fhid hjs
      have gq : Below wr.heap.size wr (wr.alloc (.cells #[.int .i64 k, .slice A2 js.length cp2] 65)) := (Below.refl _ _).alloc (Nat.le_refl _) _
      go_wp2_with (first
        | (go_at_call 37; (with_reducible refine (hai _ gq).mono ?_); rintro e w2 ⟨rfl, b2⟩
           have g2 := gq.trans (b2.mono gq.size))
        | (at_builtin; refine app_int rfl _ _ rfl w1.heap.size _ pre r w2 rfl (hO.out.below g2) rfl _ rfl rfl hln.out (Nat.le_trans hsz g2.size) ?_; intro v2 w3 o2 _ b3))
      go_roundw
      case rel => exact ⟨j + 1, by omega, by go_num, by rw [hsn.out]; exact o2, (hB.trans (g2.mono hsz)).trans b3⟩
      case measure => simp [intOf]; omega
    · obtain rfl : j = l.length := by omega
      rw [List.take_length] at hO
      obtain ⟨A', cap', rfl, _, _, hS⟩ := hO.shape
      have hl2 : (l.map (itemP (stOf m) alone)).length ≤ 9223372036854775807 := by rw [List.length_map]; omega
      have hst1 := fun W (h : wr = W) => settle_any 1 2 (by decide) (l.map (itemP (stOf m) alone)) _ A' cap' W (h ▸ hS) hl2
      have hst2 := fun W (h : wr = W) => settle_any 2 1 (by decide) (l.map (itemP (stOf m) alone)) _ A' cap' W (h ▸ hS) hl2
      replace hS := fhid hS
      clear hO
      generalize hLL : (l.map (itemP (stOf m) alone)).length = LL at *
      replace hLL := fhid hLL
      cases any with
      | true =>
        go_wp2_with (go_at_call 38; (with_reducible refine (hst1 _ rfl).mono ?_); rintro e w2 ⟨rfl, rfl⟩)
        go_ret
        exact ⟨fret1 (by rw [hE.out]; rfl), gB⟩
      | false =>
        go_wp2_with (go_at_call 38; (with_reducible refine (hst2 _ rfl).mono ?_); rintro e w2 ⟨rfl, rfl⟩)
        go_ret
        exact ⟨fret1 (by rw [hE.out]; rfl), gB⟩

/-- Jobs' numbers and states, as cells. -/
def PV (l : List (Int × Int)) : List Value := l.flatMap fun x => [.int .i64 x.1, .int .i64 x.2]
theorem PV_len (l : List (Int × Int)) : (PV l).length = l.length * 2 := by
  unfold PV
  induction l with
  | nil => rfl
  | cons x r ih => rw [List.flatMap_cons, List.length_append, ih, List.length_cons]; simp; omega
theorem PV_get : ∀ (l : List (Int × Int)) (j : Nat) (h : j < l.length), (PV l)[j * 2]? = some (.int .i64 l[j].1) ∧ (PV l)[j * 2 + 1]? = some (.int .i64 l[j].2)
  | [], j, h => absurd h (Nat.not_lt_zero _)
  | x :: l, 0, _ => ⟨rfl, rfl⟩
  | x :: l, j + 1, h => by
    have := PV_get l j (by simpa using h)
    have e : PV (x :: l) = [.int .i64 x.1, .int .i64 x.2] ++ PV l := rfl
    rw [e, List.getElem_cons_succ]
    refine ⟨?_, ?_⟩
    · rw [List.getElem?_append_right (by simp; omega), show (j + 1) * 2 - [Value.int .i64 x.1, .int .i64 x.2].length = j * 2 by simp; omega]; exact this.1
    · rw [List.getElem?_append_right (by simp; omega), show (j + 1) * 2 + 1 - [Value.int .i64 x.1, .int .i64 x.2].length = j * 2 + 1 by simp; omega]; exact this.2
abbrev Prs (w : World) (B : Nat) (A : Option Addr) (l : List (Int × Int)) : Prop := SegC w B A (PV l)
theorem Prs.at_ {w : World} {B : Nat} {A : Option Addr} {l : List (Int × Int)} (h : Prs w B A l) {k : Nat} (hk : k < l.length) : ∃ b o, A = some ⟨b, o, none⟩ ∧ b < B ∧ w.cell? ⟨b, o + k * 2, none⟩ = some (.int .i64 l[k].1) ∧ w.cell? ⟨b, o + k * 2 + 1, none⟩ = some (.int .i64 l[k].2) := by
  have hl := PV_len l
  obtain ⟨b, o, rfl, hb, hc⟩ := h (by omega)
  obtain ⟨p, q⟩ := PV_get l k hk
  refine ⟨b, o, rfl, hb, ?_, ?_⟩
  · obtain ⟨hj, e⟩ := List.getElem?_eq_some_iff.1 p
    rw [hc _ hj, e]
  · obtain ⟨hj, e⟩ := List.getElem?_eq_some_iff.1 q
    rw [Nat.add_assoc, hc _ hj, e]
theorem look_take {α : Type} (l : List (Int × α)) (k : Nat) (h : k < l.length) (i : Int) (hn : look (l.take k) i = none) : look (l.take (k + 1)) i = if l[k].1 = i then some l[k].2 else none := by
  rw [List.take_succ_eq_append_getElem h, look_app, hn]
  rfl
theorem look_first {α : Type} (l : List (Int × α)) (k : Nat) (h : k < l.length) (i : Int) (hn : look (l.take k) i = none) (he : l[k].1 = i) : look l i = some l[k].2 := by
  have h1 := look_take l k h i hn
  rw [if_pos he] at h1
  have h2 := look_app (l.take (k + 1)) (l.drop (k + 1)) i
  rw [List.take_append_drop, h1] at h2
  exact h2
set_option maxHeartbeats 1000000 in
theorem state_any (l : List (Int × Int)) (id : Int) (A : Option Addr) (cap B : Nat) (w : World) (hs : Prs w B A l) (hl : l.length ≤ 1000000) :
    Calls Tryd.prog 50 #[.slice A l.length cap, .int .i64 id] w fun e w' => e = .returned (.int .i64 (stOf l id)) ∧ w = w' := by
  replace hs := fhid hs
  go_enter Tryd.func50, Tryd.ntmps50
  go_wp2_with fail
  go_loop [5] (fun i => ∃ k : Nat, k ≤ l.length ∧ i = .int .i64 (k : Int) ∧ Hid (look (l.take k) id = none)) (fun i => l.length - (intOf i).toNat)
  case atStart => exact ⟨0, Nat.zero_le _, rfl, fhid rfl⟩
  case round =>
    obtain ⟨k, hk, rfl, hno⟩ := hrel
    by_cases hlt : k < l.length
    · obtain ⟨b, o, rfl, hb, c0, c1⟩ := hs.out.at_ hlt
      have h1 := look_take l k hlt id hno.out
      have h2 := look_first l k hlt id hno.out
      have i1 : (k : Int) < l.length := by omega
      have i0 : (0 : Int) ≤ k := by omega
      generalize l[k] = x at *
      obtain ⟨x0, x1⟩ := x
      simp only at c0 c1 h1 h2
      by_cases he : x0 = id
      · subst he
        have hE := fhid (show stOf l x0 = x1 by unfold stOf; rw [h2 rfl]; rfl)
        have b1 : (x0 == x0) = true := by simp
        clear h1 h2 hno
        go_wp2_with fail
        go_ret
        exact ⟨fret1 hE.out.symm, rfl⟩
      · rw [if_neg he] at h1
        replace h1 := fhid h1
        have b1 : (x0 == id) = false := by simpa using he
        clear h2 hno
        go_wp2_with fail
        go_round
        case rel => exact ⟨k + 1, by omega, by go_num, h1⟩
        case measure => simp [intOf]; omega
    · obtain rfl : k = l.length := by omega
      have hno' := hno.out
      rw [List.take_length] at hno'
      have hE := fhid (show stOf l id = 7 by unfold stOf; rw [hno']; rfl)
      clear hno hno'
      go_wp2_with fail
      go_ret
      exact ⟨fret1 hE.out.symm, rfl⟩
theorem state_at (l : List (Int × Int)) (id : Int) (A : Option Addr) (cap B : Nat) (w : World) (hs : Prs w B A l) (hl : l.length ≤ 1000000) :
    Calls Tryd.prog 50 #[.slice A l.length cap, .int .i64 id] w fun e w' => e = .returned (.int .i64 (stOf l id)) ∧ w' = w :=
  (state_any l id A cap B w hs hl).mono fun _ _ ⟨h, e⟩ => ⟨h, e.symm⟩
theorem rOne_at (k s : Int) (w : World) : Calls Tryd.prog 21 #[.int .i64 k, .int .i64 s] w fun e w' => e = .returned (.int .i64 (oneP k s)) ∧ w' = w :=
  (rOne_any k s w).mono fun _ _ ⟨h, e⟩ => ⟨h, e.symm⟩
set_option maxRecDepth 100000 in
set_option maxHeartbeats 2000000 in
theorem rItem_any (k : Int) (js : List Int) (A : Option Addr) (cap : Nat) (l : List (Int × Int)) (A2 : Option Addr) (cap2 : Nat) (alone : Bool) (w : World) (hs : Ints w w.heap.size A js) (hl : js.length ≤ 1048576) (hm : Prs w w.heap.size A2 l) (hll : l.length ≤ 1000000) :
    Calls Tryd.prog 39 #[.agg #[.int .i64 k, .slice A js.length cap], .slice A2 l.length cap2, .bool alone] w (NP w (itemP (stOf l) alone (k, js))) := by
  by_cases h5 : k = 5
  · subst h5
    have hE := fhid (show itemP (stOf l) alone (5, js) = if alone = true then 1 else 0 from if_pos rfl)
    replace hs := fhid hs
    replace hm := fhid hm
    cases alone
    all_goals
      go_enter Tryd.func39, Tryd.ntmps39
      go_wp2_with fail
      go_ret
      exact ⟨fret1 hE.out.symm, (Below.refl _ _).alloc (Nat.le_refl _) _⟩
  · have b5 : (k == 5) = false := by simpa using h5
    have hE := fhid (show itemP (stOf l) alone (k, js) = settleP 2 1 (js.map fun j => oneP k (stOf l j)) from if_neg h5)
    have hrg := fhid (fun j => one_range k (stOf l j))
    replace hs := fhid hs
    replace hm := fhid hm
    go_enter Tryd.func39, Tryd.ntmps39
    go_upto_region 1 with fail
    have hi := heap_alloc_new w (.cells #[.int .i64 k, .slice A js.length cap] 60)
    replace hi : IB _ w.heap.size 60 k (.slice A js.length cap) := hi
    have g0 : Below w.heap.size w (w.alloc (.cells #[.int .i64 k, .slice A js.length cap] 60)) := (Below.refl _ _).alloc (Nat.le_refl _) _
    generalize w.alloc _ = w1 at *
    obtain ⟨c0, c1, _, _, hz⟩ := hi.facts
    clear c0 c1
    have hi2 := fhid hi
    clear hi
    obtain ⟨c0, c1, _, _, _⟩ := hi2.out.facts
    go_wp2_with fail
    go_loopw [7, 8] (fun v i wr => ∃ (j : Nat), j ≤ js.length ∧ i = .int .i64 (j : Int) ∧ Hid (2 ∉ (js.take j).map fun j => oneP k (stOf l j)) ∧ v = .int .i64 (settleP 2 1 ((js.take j).map fun j => oneP k (stOf l j))) ∧ Below w1.heap.size w1 wr) (fun _ i _ => js.length - (intOf i).toNat)
    case atStart => exact ⟨0, Nat.zero_le _, rfl, fhid (by simp), by rw [List.take_zero, List.map_nil, settle_nil], Below.refl _ _⟩
    case round =>
      obtain ⟨j, hj, rfl, hno, rfl, hB⟩ := hrel
      have hsz := hB.size
      have hI := hi2.out.below hB hz
      clear c0 c1
      obtain ⟨c0, c1, _, _, _⟩ := hI.facts
      have gB := g0.trans (hB.mono g0.size)
      by_cases hlt : j < js.length
      · obtain ⟨bb, o, rfl, hbb, hc⟩ := Ints.at_ hs.out hlt
        replace hc := (gB.cell (p := ⟨bb, o + j, none⟩) hbb).trans hc
        have hsn : (js.take (j + 1)).map (fun j => oneP k (stOf l j)) = (js.take j).map (fun j => oneP k (stOf l j)) ++ [oneP k (stOf l js[j])] := by rw [List.take_succ_eq_append_getElem hlt, List.map_append]; rfl
        have hmem : oneP k (stOf l js[j]) ∈ js.map fun j => oneP k (stOf l j) := List.mem_map_of_mem (f := fun j => oneP k (stOf l j)) (List.getElem_mem hlt)
        have hr := hrg.out js[j]
        have i1 : (j : Int) < js.length := by omega
        have i0 : (0 : Int) ≤ j := by omega
        have hst := fun W (h : Below w.heap.size w W) => state_at l js[j] A2 cap2 w.heap.size W (hm.out.below h) hll
        have hon := fun W => rOne_at k (stOf l js[j]) W
        generalize stOf l js[j] = sx at *
        generalize js[j] = x at *
        generalize (js.take j).map (fun j => oneP k (stOf l j)) = pre at *
        generalize hnx : (js.take (j + 1)).map (fun j => oneP k (stOf l j)) = nxt at *
        replace hnx := fhid hnx
        generalize oneP k sx = r at *
        clear hI
        rcases hr with rfl | rfl | rfl
        · have hE2 := fhid (show settleP 2 1 nxt = 0 by rw [hsn]; exact settle_snoc_other hno.out (by decide) (by decide))
          have hN := fhid (show 2 ∉ nxt by rw [hsn]; simp [hno.out])
          clear hsn hmem
          go_wp2_with fail
          go_quiet ((first | (go_at_call 50; exact Calls.quiet_of_same (hst _ (below_drewN gB _))) | (go_at_call 21; exact Calls.quiet_of_same (hon _))))
          go_wp2_with fail
          go_roundw
          case rel => exact ⟨j + 1, by omega, by go_num, by rw [hnx.out]; exact hN, by rw [hnx.out, hE2.out], below_drewN hB _⟩
          case measure => simp [intOf]; omega
        · have hE2 := fhid (show settleP 2 1 nxt = settleP 2 1 pre by rw [hsn]; exact settle_snoc_all hno.out (by decide))
          have hN := fhid (show 2 ∉ nxt by rw [hsn]; simp [hno.out])
          clear hsn hmem
          go_wp2_with fail
          go_quiet ((first | (go_at_call 50; exact Calls.quiet_of_same (hst _ (below_drewN gB _))) | (go_at_call 21; exact Calls.quiet_of_same (hon _))))
          go_wp2_with fail
          go_roundw
          case rel => exact ⟨j + 1, by omega, by go_num, by rw [hnx.out]; exact hN, by rw [hnx.out, hE2.out], below_drewN hB _⟩
          case measure => simp [intOf]; omega
        · have hE2 := fhid (show settleP 2 1 (js.map fun j => oneP k (stOf l j)) = 2 from settle_one hmem)
          clear hsn hmem
          go_wp2_with fail
          go_quiet ((first | (go_at_call 50; exact Calls.quiet_of_same (hst _ (below_drewN gB _))) | (go_at_call 21; exact Calls.quiet_of_same (hon _))))
          go_wp2_with fail
          go_ret
          exact ⟨fret1 (by rw [hE.out, hE2.out]), below_drewN gB _⟩
      · obtain rfl : j = js.length := by omega
        have hE2 := fhid (show settleP 2 1 ((js.take js.length).map fun j => oneP k (stOf l j)) = settleP 2 1 (js.map fun j => oneP k (stOf l j)) by rw [List.take_length])
        generalize settleP 2 1 ((js.take js.length).map fun j => oneP k (stOf l j)) = r at *
        have i1 : ¬ (js.length : Int) < js.length := by omega
        go_wp2_with fail
        go_ret
        exact ⟨fret1 (by rw [hE.out, hE2.out]), gB⟩
end Go.Proofs.YthnpmndobhgekaaDoor
