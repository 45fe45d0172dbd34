/-
  Which indexes may be started.
-/
import Derived.Test.YtlcbppflpadhaaaDoorYLFmt
namespace Go.Proofs.YtlcbppflpadhaaaDoor
open Go.RowKit

def open_ (done : List Int) (x : Int) : Bool := decide (x ∉ done)
/-- How many may be started at most. -/
def roomP (l : List Int) (lim running : Int) : Nat := if lim = 0 then l.length else (lim - running).toNat
/-- Which may be started. -/
def stepP (l : List Int) (lim running : Int) (done : List Int) : List Int := if right l lim = true ∧ 0 ≤ running then (l.filter (open_ done)).take (roomP l lim running) else []
def pre (l done : List Int) (j : Nat) : List Int := (l.take j).filter (open_ done)
theorem pre_zero (l done : List Int) : pre l done 0 = [] := rfl
theorem pre_succ {l done : List Int} {j : Nat} (h : j < l.length) : pre l done (j + 1) = pre l done j ++ if open_ done (l.getD j 0) = true then [l.getD j 0] else [] := by
  unfold pre
  rw [List.take_succ_eq_append_getElem h, List.filter_append, getD_get h]
  congr 1
  by_cases k : open_ done l[j] = true
  · rw [if_pos k, List.filter_cons, if_pos k]; rfl
  · rw [if_neg k, List.filter_cons, if_neg k]; rfl
theorem pre_le (l done : List Int) (j : Nat) : (pre l done j).length ≤ j := by
  unfold pre
  have h1 := List.length_filter_le (open_ done) (l.take j)
  rw [List.length_take] at h1
  omega
theorem pre_all (l done : List Int) : pre l done l.length = l.filter (open_ done) := by unfold pre; rw [List.take_length]
theorem pre_more (l done : List Int) (j : Nat) : ∃ r, l.filter (open_ done) = pre l done j ++ r := by
  refine ⟨(l.drop j).filter (open_ done), ?_⟩
  unfold pre
  rw [← List.filter_append, List.take_append_drop]
theorem step_full {l done : List Int} {j R : Nat} (h : (pre l done j).length = R) : (l.filter (open_ done)).take R = pre l done j := by
  obtain ⟨r, e⟩ := pre_more l done j
  rw [e, ← h, List.take_left]
theorem step_end {l done : List Int} {R : Nat} (h : (pre l done l.length).length ≤ R) : (l.filter (open_ done)).take R = pre l done l.length := by
  rw [← pre_all, List.take_of_length_le h]
theorem stepP_no {l : List Int} {lim running : Int} {done : List Int} (h : ¬ (right l lim = true ∧ 0 ≤ running)) : stepP l lim running done = [] := if_neg h
theorem stepP_yes {l : List Int} {lim running : Int} {done : List Int} (h : right l lim = true) (h0 : 0 ≤ running) : stepP l lim running done = (l.filter (open_ done)).take (roomP l lim running) := if_pos ⟨h, h0⟩

/-! Maps of truths, all of them true. -/
def BS (l : List Int) : List (Int × Value) := l.map fun n => (n, .bool true)
theorem look_BS (l : List Int) (k : Int) : look (BS l) k = if k ∈ l then some (.bool true) else none := by
  induction l with
  | nil => rfl
  | cons x r ih =>
    show (if x = k then some (.bool true) else look (BS r) k) = _
    by_cases h : x = k
    · rw [if_pos h, if_pos (by simp [h])]
    · rw [if_neg h, ih]
      by_cases h2 : k ∈ r
      · rw [if_pos h2, if_pos (by simp [h2])]
      · rw [if_neg h2, if_neg (by simp [h2, Ne.symm h])]
/-- The map in block b is true for just these. -/
def BMap (w : World) (b : Nat) (l : List Int) : Prop := ∃ ks : List Int, IMap w b (BS ks) ∧ ∀ x, x ∈ ks ↔ x ∈ l
theorem BMap.keep {w w' : World} {b : Nat} {l : List Int} (h : BMap w b l) (hk : w'.heap[b]? = w.heap[b]?) : BMap w' b l := by
  obtain ⟨ks, h1, h2⟩ := h
  exact ⟨ks, h1.keep hk, h2⟩
theorem BMap.below {w w' : World} {b B : Nat} {l : List Int} (h : BMap w b l) (hb : Below B w w') (hB : b < B) : BMap w' b l := h.keep (hb.block b hB)
theorem BMap.lt {w : World} {b : Nat} {l : List Int} (h : BMap w b l) : b < w.heap.size := by
  obtain ⟨ks, h1, _⟩ := h
  exact h1.lt
theorem zeroBool (w : World) : (zeroValue 4).run Tryd.prog w = .ok (.bool false) w := by kernel_rfl
theorem bmap_look {w : World} {ops : Array Oper} {rest : List Oper} {o : Oper} {a : Act} {Q : Exit → Act → World → Prop} (hg : o.guard = none) (m x : Operand) (hop : o.op = Op.lookup 35 m x false) (b : Nat) (l : List Int) (hm : a.eval m = .map (some b)) (h : BMap w b l) (k : Int) (hx : a.eval x = .int .i64 k) (r : Bool) (hr : open_ l k = r)
    (hq : wpList Tryd.prog ops Q rest (a.put o.dst (.bool !r)) w) : wpList Tryd.prog ops Q (o :: rest) a w := by
  obtain ⟨ks, h1, h2⟩ := h
  refine imap_look hg m x 35 3 4 hop Tryd.underlying35 Tryd.underlying3 (.bool false) (zeroBool w) b (BS ks) hm h1 k hx ?_
  rw [look_BS]
  by_cases hk : k ∈ ks
  · rw [if_pos hk]
    have : r = false := by rw [← hr]; exact decide_eq_false (fun h => h ((h2 k).1 hk))
    subst this
    exact hq
  · rw [if_neg hk]
    have : r = true := by rw [← hr]; exact decide_eq_true (fun h => hk ((h2 k).2 h))
    subst this
    exact hq
set_option maxRecDepth 100000 in
set_option maxHeartbeats 8000000 in
theorem Step_no (l : List Int) (A : Option Addr) (cap : Nat) (lim running : Int) (mv : Option Nat) (w : World) (hs : Ints w w.heap.size A l) (hr : right l lim = false ∨ running < 0) :
    Calls Tryd.prog 15 #[.agg #[.slice A l.length cap, .int .i64 lim], .int .i64 running, .map mv] w (IntsPost w []) := by
  have p0 : AB (w.alloc (.cells #[.slice A l.length cap, .int .i64 lim] TAr)) w.heap.size TAr (.slice A l.length cap) lim := heap_alloc_new w _
  have b0 : Below w.heap.size w (w.alloc (.cells #[.slice A l.length cap, .int .i64 lim] TAr)) := (Below.refl _ _).alloc (Nat.le_refl _) _
  have hri := Right_any l A cap lim (w.alloc (.cells #[.slice A l.length cap, .int .i64 lim] TAr)) ((hs.below b0).more b0.size)
  clear hs
  have hr' : right l lim = false ∨ (right l lim = true ∧ running < 0) := by
    cases h : right l lim with
    | false => exact .inl rfl
    | true => rcases hr with hr | hr; · rw [h] at hr; cases hr
              · exact .inr ⟨rfl, hr⟩
  clear hr
  rcases hr' with hr | ⟨hr, h0⟩
  all_goals
    rw [hr] at hri
    clear hr
    go_enter Tryd.func15, Tryd.ntmps15
    go_upto_region 1 with fail
    generalize w.alloc _ = w1 at *
    obtain ⟨c0, c1, _, _, _⟩ := p0.facts
    replace p0 := fhid p0
    go_wp2_with (go_at_call 11; (with_reducible refine hri.mono ?_); rintro e w2 ⟨rfl, b2⟩)
    go_ret
    exact ⟨_, rfl, OwnI.nil _ _, b0.trans (b2.mono b0.size)⟩
set_option maxRecDepth 100000 in
set_option maxHeartbeats 8000000 in
theorem Step_yes (l : List Int) (A : Option Addr) (cap : Nat) (lim running : Int) (b : Nat) (done : List Int) (w : World) (hs : Ints w w.heap.size A l) (hr : right l lim = true) (h0 : 0 ≤ running) (h1 : running ≤ 9223372036854775807) (hm : BMap w b done) :
    Calls Tryd.prog 15 #[.agg #[.slice A l.length cap, .int .i64 lim], .int .i64 running, .map (some b)] w (IntsPost w ((l.filter (open_ done)).take (roomP l lim running))) := by
  have p0 : AB (w.alloc (.cells #[.slice A l.length cap, .int .i64 lim] TAr)) w.heap.size TAr (.slice A l.length cap) lim := heap_alloc_new w _
  have b0 : Below w.heap.size w (w.alloc (.cells #[.slice A l.length cap, .int .i64 lim] TAr)) := (Below.refl _ _).alloc (Nat.le_refl _) _
  have zz := World.size_alloc w (.cells #[.slice A l.length cap, .int .i64 lim] TAr)
  have hri := Right_any l A cap lim (w.alloc (.cells #[.slice A l.length cap, .int .i64 lim] TAr)) ((hs.below b0).more b0.size)
  rw [hr] at hri
  obtain ⟨⟨l1, l2⟩, _, m0, m1⟩ := (of_decide_eq_true hr : RightP l lim)
  obtain ⟨bb, o, rfl, hb, hcell⟩ := cells_of hs (by omega)
  have hmb := hm.lt
  have hfull := fun j => @step_full l done j (roomP l lim running)
  have hend := @step_end l done (roomP l lim running)
  obtain ⟨R, hR⟩ : ∃ R, roomP l lim running = R := ⟨_, rfl⟩
  have hRd : R = if lim = 0 then l.length else (lim - running).toNat := hR.symm
  rw [hR] at hfull hend ⊢
  obtain ⟨ANS, hANS⟩ : ∃ a, (l.filter (open_ done)).take R = a := ⟨_, rfl⟩
  rw [hANS] at hfull hend ⊢
  clear hANS hR hs hr
  replace hfull := fhid hfull
  replace hend := fhid hend
  replace hcell := fhid hcell
  replace hm := fhid hm
  obtain ⟨room, hroom, hrR⟩ : ∃ room : Int, room = (if lim = 0 then (l.length : Int) else lim - running) ∧ R = room.toNat := by
    refine ⟨_, rfl, ?_⟩
    rw [hRd]
    split
    · simp
    · rfl
  have hrb : -9223372036854775808 ≤ room ∧ room ≤ 999999 := by
    rw [hroom]
    split <;> omega
  clear hRd
  replace hroom := fhid hroom
  go_enter Tryd.func15, Tryd.ntmps15
  go_upto_region 1 with fail
  generalize w.alloc _ = w1 at *
  obtain ⟨c0, c1, _, _, _⟩ := p0.facts
  replace p0 := fhid p0
  go_upto_region 3 with (go_at_call 11; (with_reducible refine hri.mono ?_); rintro e w2 ⟨rfl, b2⟩)
  clear c0 c1 hri
  have q0 := AB.below p0.out b2 (by omega)
  have g2 := b0.trans (b2.mono b0.size)
  have hz2 := b2.size
  obtain ⟨c0, c1, _, _, _⟩ := q0.facts
  replace q0 := fhid q0
  clear b2
  have l1' : (l.length : Int) ≤ 256 := by omega
  go_upto_if 23 with fail
  go_cut [7] (fun rv wx => rv = .int .i64 room ∧ wx = w2)
  case first =>
    by_cases hz : lim = 0
    · have n0 : (lim != 0) = false := by rw [hz]; rfl
      have hE := fhid (show room = l.length by rw [hroom.out, if_pos hz])
      replace hz := fhid hz
      go_wp2_with fail
      go_meet
      exact ⟨by rw [hE.out], rfl⟩
    · have n0 : (lim != 0) = true := bne_iff_ne.2 hz
      have hE := fhid (show room = lim - running by rw [hroom.out, if_neg hz])
      go_wp2_with fail
      go_meet
      exact ⟨by rw [hE.out], rfl⟩
  case rest =>
    obtain ⟨rfl, hw⟩ := hcut
    subst hw
    rename World => w2
    go_wp2_with fail
    go_loopw [8, 31] (fun v i wr => ∃ j : Nat, j ≤ l.length ∧ i = .int .i64 (j : Int) ∧ OwnI wr (w.heap.size + 1) v (pre l done j) ∧ (pre l done j).length ≤ R ∧ Below (w.heap.size + 1) w2 wr) (fun _ i _ => l.length - (intOf i).toNat)
    case atStart => exact ⟨0, Nat.zero_le _, rfl, OwnI.nil _ _, Nat.zero_le _, Below.refl _ _⟩
    case round =>
      obtain ⟨j, hj, rfl, hO, hle, hB⟩ := hrel
      have hzB := hB.size
      have hpl := pre_le l done j
      obtain ⟨Av, cv, rfl, hv1, hv2, _⟩ := hO.shape
      by_cases hlt : j < l.length
      · have hc := (hB.cell (p := ⟨bb, o + j, none⟩) (show bb < w.heap.size + 1 by omega)).trans ((g2.cell (p := ⟨bb, o + j, none⟩) hb).trans (hcell.out j hlt))
        have hsn := pre_succ (done := done) hlt
        have hf := hfull.out j
        have j1 : (j : Int) < l.length := by omega
        have j0 : (0 : Int) ≤ j := by omega
        have hmw := fhid ((hm.out.below g2 hmb).below hB (by omega))
        generalize l.getD j 0 = x at *
        by_cases hfu : room ≤ ((pre l done j).length : Int)
        · have hEq := fhid (hf (by omega)).symm
          replace hO := fhid hO
          clear hf hsn
          go_wp2_with fail
          go_ret
          exact ⟨_, rfl, by rw [← hEq.out]; exact hO.out.base (by omega), g2.trans (hB.mono (by omega))⟩
        · have hnb : ¬ room ≤ ((pre l done j).length : Int) := hfu
          have hpj := fhid (show pre l done (j + 1) = pre l done j ++ if open_ done x = true then [x] else [] from hsn)
          clear hf hsn
          generalize pre l done j = P1 at *
          have hbz := hzB
          obtain ⟨eo, heo⟩ : ∃ e, open_ done x = e := ⟨_, rfl⟩
          rw [heo] at hpj
          cases eo with
          | true =>
            have hP := fhid (show pre l done (j + 1) = P1 ++ [x] from hpj.out)
            replace hO := fhid hO
            replace hB := fhid hB
            replace heo := fhid heo
            clear hpj
            go_wp2_with (first
              | (at_lookup; refine bmap_look rfl _ _ rfl b done rfl hmw.out x rfl true heo.out ?_)
              | (at_builtin; (refine app_int rfl _ _ rfl (w.heap.size + 1) _ P1 x wr rfl hO.out rfl wr.heap.size rfl rfl (by omega) (by omega) ?_; intro v3 w3 o3 _ b3)))
            go_roundw
            case rel => exact ⟨j + 1, by omega, by go_num, by rw [hP.out]; exact o3, by rw [hP.out, List.length_append, List.length_singleton]; omega, hB.out.trans b3⟩
            case measure => simp [intOf]; omega
          | false =>
            have hP := fhid (show pre l done (j + 1) = P1 from by have := hpj.out; simpa using this)
            replace hO := fhid hO
            replace hB := fhid hB
            replace heo := fhid heo
            clear hpj
            go_wp2_with (at_lookup; refine bmap_look rfl _ _ rfl b done rfl hmw.out x rfl false heo.out ?_)
            go_roundw
            case rel => exact ⟨j + 1, by omega, by go_num, by rw [hP.out]; exact hO.out, by rw [hP.out]; exact hle, hB.out⟩
            case measure => simp [intOf]; omega
      · obtain rfl : j = l.length := by omega
        have hEq := fhid (hend.out hle).symm
        have j1 : ¬ (l.length : Int) < l.length := by omega
        generalize pre l done l.length = P1 at *
        replace hO := fhid hO
        go_wp2_with fail
        go_ret
        exact ⟨_, rfl, by rw [← hEq.out]; exact hO.out.base (by omega), g2.trans (hB.mono (by omega))⟩
theorem Step_any (l : List Int) (A : Option Addr) (cap : Nat) (lim running : Int) (b : Nat) (done : List Int) (w : World) (hs : Ints w w.heap.size A l) (h1 : running ≤ 9223372036854775807) (hm : BMap w b done) :
    Calls Tryd.prog 15 #[.agg #[.slice A l.length cap, .int .i64 lim], .int .i64 running, .map (some b)] w (IntsPost w (stepP l lim running done)) := by
  by_cases h : right l lim = true ∧ 0 ≤ running
  · rw [stepP_yes h.1 h.2]
    exact Step_yes l A cap lim running b done w hs h.1 h.2 h1 hm
  · rw [stepP_no h]
    refine Step_no l A cap lim running (some b) w hs ?_
    by_cases hr : right l lim = true
    · exact .inr (by by_cases h0 : 0 ≤ running; exact absurd ⟨hr, h0⟩ h; omega)
    · exact .inl (by simpa using hr)
end Go.Proofs.YtlcbppflpadhaaaDoor
