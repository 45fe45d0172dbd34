/-
  What all statements ask: whether there is too much; the same dependency; the states of jobs.
-/
import Derived.Test.YtpelmclgkkhjeaaDoorDApp
import Derived.Test.YtpelmclgkkhjeaaDoorDAsk
namespace Go.Proofs.YtpelmclgkkhjeaaDoor
open Go.RowKit

theorem nat_min_int (a b : Nat) : min (a : Int) (b : Int) = ((min a b : Nat) : Int) := by omega
/-- How many jobs the first items have, each counted up to 1000. -/
def total (l : List Itm) : Nat := (l.map fun x => min x.2.length 1000).sum
theorem total_snoc (l : List Itm) (x : Itm) : total (l ++ [x]) = total l + min x.2.length 1000 := by simp [total]
theorem total_le (l : List Itm) : total l ≤ 1000 * l.length := by
  induction l with
  | nil => simp [total]
  | cons x r ih =>
    have : total (x :: r) = min x.2.length 1000 + total r := by simp [total]
    rw [this, List.length_cons]
    omega
theorem total_mem {l : List Itm} {x : Itm} (h : x ∈ l) : min x.2.length 1000 ≤ total l := by
  induction l with
  | nil => cases h
  | cons y r ih =>
    have : total (y :: r) = min y.2.length 1000 + total r := by simp [total]
    rcases List.mem_cons.1 h with rfl | h
    · omega
    · have := ih h; omega
/-- Not too much. -/
def Small (l : List Itm) : Prop := l.length ≤ 60 ∧ ∀ x ∈ l, x.2.length ≤ 300
/-- Too much, or not. -/
def muchB (l : List Itm) : Bool := decide (60 < l.length) || decide (300 < total (l.take 100))
theorem much_small {l : List Itm} (h : muchB l = false) : Small l := by
  unfold muchB at h
  rw [Bool.or_eq_false_iff] at h
  have h1 := of_decide_eq_false h.1
  have h2 := of_decide_eq_false h.2
  refine ⟨by omega, fun x hx => ?_⟩
  rw [List.take_of_length_le (by omega)] at h2
  have := total_mem hx
  omega
set_option maxRecDepth 100000 in
set_option maxHeartbeats 4000000 in
theorem much_any (any : Bool) (l : List Itm) (A : Option Addr) (cap : Nat) (w : World) (hs : Its w w.heap.size A l) (hl : l.length ≤ 9223372036854775807) (hcap : l.length ≤ cap) :
    Calls Tryd.prog 4 #[.agg #[.bool any, .slice A l.length cap]] w fun e w' => e = .returned (.bool (muchB l)) ∧ Below w.heap.size w w' := by
  have hE0 : ∀ M, min l.length 100 = M → muchB l = (decide (60 < l.length) || decide (300 < total (l.take M))) := fun M hM => by
    unfold muchB
    by_cases h : l.length ≤ 100
    · rw [List.take_of_length_le h, List.take_of_length_le (by omega)]
    · rw [show M = 100 by omega]
  generalize muchB l = R at *
  have i4 : (l.length : Int) ≤ cap := by omega
  have hMM : (∃ M, M = l.length ∧ (l.length : Int) ≤ 100) ∨ (∃ M, M = 100 ∧ (100 : Int) < l.length) := by
    by_cases h : l.length ≤ 100
    · exact .inl ⟨_, rfl, by omega⟩
    · exact .inr ⟨_, rfl, by omega⟩
  replace hs := fhid hs
  rcases hMM with ⟨M, hMe, hMc⟩ | ⟨M, hMe, hMc⟩
  · have hE := fhid (hE0 M (by omega))
    clear hE0
    have hMl : M ≤ l.length := by omega
    have hM1 : M ≤ 100 := by omega
    subst hMe
    go_enter Tryd.func4, Tryd.ntmps4
    go_upto_region 1 with fail
    have hi : DB (w.alloc (.cells #[.bool any, .slice A l.length cap] TRDep)) w.heap.size TRDep any (.slice A l.length cap) := heap_alloc_new w _
    have g0 : Below w.heap.size w (w.alloc (.cells #[.bool any, .slice A l.length cap] TRDep)) := (Below.refl _ _).alloc (Nat.le_refl _) _
    generalize w.alloc _ = w1 at *
    obtain ⟨c0, c1, _, _, hz⟩ := hi.facts
    replace hi := fhid hi
    go_wp2_with fail
    go_loopw [3, 14] (fun n i wr => ∃ j : Nat, j ≤ l.length ∧ i = .int .i64 (j : Int) ∧ n = .int .i64 (total (l.take j) : Nat) ∧ Below w1.heap.size w1 wr) (fun _ i _ => l.length - (intOf i).toNat)
    case atStart => exact ⟨0, Nat.zero_le _, rfl, rfl, Below.refl _ _⟩
    case round =>
      obtain ⟨j, hjl, rfl, rfl, hB⟩ := hrel
      have hsz := hB.size
      have gB := g0.trans (hB.mono g0.size)
      clear c0 c1
      obtain ⟨c0, c1, _, _, _⟩ := (hi.out.below hB hz).facts
      have ht := total_le (l.take j)
      rw [List.length_take] at ht
      have ht2 : total (l.take j) ≤ 100000 := by omega
      clear ht
      by_cases hlt : j < l.length
      · have hll : j < l.length := by omega
        have hsW := hs.out.below gB
        obtain ⟨bb, o, rfl, hbb, hc1, A', cp, hc2, hjc, hcm, hjs⟩ := hsW.at_ hll
        have hsn := fhid (show total (l.take (j + 1)) = total (l.take j) + min l[j].2.length 1000 by rw [List.take_succ_eq_append_getElem hll, total_snoc])
        have i6 : (j : Int) < l.length := by omega
        have i0 : (0 : Int) ≤ j := by omega
        clear hsW
        generalize l[j] = x at *
        obtain ⟨k, js⟩ := x
        simp only at hc1 hc2 hjc hjs hsn
        have hmj : min (js.length : Int) 1000 = ((min js.length 1000 : Nat) : Int) := by omega
        have hmk : min js.length 1000 ≤ 1000 := by omega
        generalize total (l.take j) = n at *
        generalize hmm : min js.length 1000 = m at *
        replace hmm := fhid hmm
        have i7 : (n : Int) ≤ 100000 := by omega
        have i8 : (0 : Int) ≤ n := by omega
        have i9 : (m : Int) ≤ 1000 := by omega
        have i10 : (0 : Int) ≤ m := by omega
        replace hjs := fhid hjs
        go_wp2_with fail
        go_roundw
        case rel => exact ⟨j + 1, by omega, by go_num, congrArg (Value.int .i64) (by rw [hsn.out]; push_cast; rw [← hmm.out]; split <;> omega), hB.alloc hsz _⟩
        case measure => simp [intOf]; omega
      · obtain hjM : j = l.length := by omega
        have i6 : ¬ (j : Int) < l.length := by omega
        have hE2 := hE.out
        rw [show total (l.take l.length) = total (l.take j) by rw [hjM]] at hE2
        clear hE hjM
        generalize total (l.take j) = n at *
        have hE := fhid hE2
        clear hE2
        have i8 : (0 : Int) ≤ n := by omega
        by_cases h60 : 60 < l.length
        · have j1 : (60 : Int) < l.length := by omega
          go_wp2_with fail
          go_ret
          exact ⟨fretb (by rw [hE.out]; simp [h60]), gB⟩
        · have j1 : ¬ (60 : Int) < l.length := by omega
          by_cases h300 : 300 < n
          · have j2 : (300 : Int) < n := by omega
            go_wp2_with fail
            go_ret
            exact ⟨fretb (by rw [hE.out]; simp [h300]), gB⟩
          · have j2 : ¬ (300 : Int) < n := by omega
            go_wp2_with fail
            go_ret
            exact ⟨fretb (by rw [hE.out]; simp [h60, h300]), gB⟩
  · have hE := fhid (hE0 M (by omega))
    clear hE0
    have hMl : M ≤ l.length := by omega
    have hM1 : M ≤ 100 := by omega
    subst hMe
    go_enter Tryd.func4, Tryd.ntmps4
    go_upto_region 1 with fail
    have hi : DB (w.alloc (.cells #[.bool any, .slice A l.length cap] TRDep)) w.heap.size TRDep any (.slice A l.length cap) := heap_alloc_new w _
    have g0 : Below w.heap.size w (w.alloc (.cells #[.bool any, .slice A l.length cap] TRDep)) := (Below.refl _ _).alloc (Nat.le_refl _) _
    generalize w.alloc _ = w1 at *
    obtain ⟨c0, c1, _, _, hz⟩ := hi.facts
    replace hi := fhid hi
    go_wp2_with fail
    go_loopw [3, 14] (fun n i wr => ∃ j : Nat, j ≤ 100 ∧ i = .int .i64 (j : Int) ∧ n = .int .i64 (total (l.take j) : Nat) ∧ Below w1.heap.size w1 wr) (fun _ i _ => 100 - (intOf i).toNat)
    case atStart => exact ⟨0, Nat.zero_le _, rfl, rfl, Below.refl _ _⟩
    case round =>
      obtain ⟨j, hjl, rfl, rfl, hB⟩ := hrel
      have hsz := hB.size
      have gB := g0.trans (hB.mono g0.size)
      clear c0 c1
      obtain ⟨c0, c1, _, _, _⟩ := (hi.out.below hB hz).facts
      have ht := total_le (l.take j)
      rw [List.length_take] at ht
      have ht2 : total (l.take j) ≤ 100000 := by omega
      clear ht
      by_cases hlt : j < 100
      · have hll : j < l.length := by omega
        have hsW := hs.out.below gB
        obtain ⟨bb, o, rfl, hbb, hc1, A', cp, hc2, hjc, hcm, hjs⟩ := hsW.at_ hll
        have hsn := fhid (show total (l.take (j + 1)) = total (l.take j) + min l[j].2.length 1000 by rw [List.take_succ_eq_append_getElem hll, total_snoc])
        have i6 : (j : Int) < 100 := by omega
        have i0 : (0 : Int) ≤ j := by omega
        clear hsW
        generalize l[j] = x at *
        obtain ⟨k, js⟩ := x
        simp only at hc1 hc2 hjc hjs hsn
        have hmj : min (js.length : Int) 1000 = ((min js.length 1000 : Nat) : Int) := by omega
        have hmk : min js.length 1000 ≤ 1000 := by omega
        generalize total (l.take j) = n at *
        generalize hmm : min js.length 1000 = m at *
        replace hmm := fhid hmm
        have i7 : (n : Int) ≤ 100000 := by omega
        have i8 : (0 : Int) ≤ n := by omega
        have i9 : (m : Int) ≤ 1000 := by omega
        have i10 : (0 : Int) ≤ m := by omega
        replace hjs := fhid hjs
        go_wp2_with fail
        go_roundw
        case rel => exact ⟨j + 1, by omega, by go_num, congrArg (Value.int .i64) (by rw [hsn.out]; push_cast; rw [← hmm.out]; split <;> omega), hB.alloc hsz _⟩
        case measure => simp [intOf]; omega
      · obtain hjM : j = 100 := by omega
        have i6 : ¬ (j : Int) < 100 := by omega
        have hE2 := hE.out
        rw [show total (l.take 100) = total (l.take j) by rw [hjM]] at hE2
        clear hE hjM
        generalize total (l.take j) = n at *
        have hE := fhid hE2
        clear hE2
        have i8 : (0 : Int) ≤ n := by omega
        by_cases h60 : 60 < l.length
        · have j1 : (60 : Int) < l.length := by omega
          go_wp2_with fail
          go_ret
          exact ⟨fretb (by rw [hE.out]; simp [h60]), gB⟩
        · exact absurd hMc (by omega)
/-- The same dependency, of the program's own types; its jobs are those that came in. -/
def TheirsPost (w : World) (any : Bool) (l : List Itm) (e : Ending) (w' : World) : Prop := ∃ v, e = .returned (.agg #[.bool any, v]) ∧ OwnIt w' TIt w.heap.size (fun b => b < w.heap.size) v l ∧ Below w.heap.size w w'
theorem OwnIt.keepB {w w' : World} {e : TypeId} {base B : Nat} {v : Value} {l : List Itm} (h : OwnIt w e base (fun b => b < B) v l) (hB : B ≤ w.heap.size) (hb : Below w.heap.size w w') : OwnIt w' e base (fun b => b < B) v l := by
  obtain ⟨xs, h1, h2⟩ := h
  exact ⟨xs, ownsRow_below h1 hb, h2.keep fun b h => hb.block b (by omega)⟩
theorem OwnIt.setB {w : World} {e : TypeId} {base B b : Nat} {v : Value} {l : List Itm} (h : OwnIt w e base (fun b => b < B) v l) {cs : Array Value} {T : TypeId} {fr : Nat × Nat} (hb : w.heap[b]? = some (.cells cs T fr)) (hB : B ≤ b) (hTe : T ≠ e) (i : Nat) (u : Value) : OwnIt (w.setCell ⟨b, i, none⟩ u) e base (fun b => b < B) v l := by
  obtain ⟨xs, h1, h2⟩ := h
  have hne := own_tag h1 hb hTe
  refine ⟨xs, ⟨h1.1, ?_⟩, h2.keep fun c hc => block_other i u rfl (by omega)⟩
  rcases h1.2 with ⟨rfl, hn⟩ | ⟨g, cap, cur, rfl, hg, hh, rest⟩
  · exact .inl ⟨rfl, hn⟩
  · exact .inr ⟨g, cap, cur, rfl, hg, block_other _ _ hh (fun e => hne (by rw [e]; rfl)), rest⟩
theorem OwnIt.ownB {w : World} {e : TypeId} {base B : Nat} {v : Value} {l : List Itm} (h : OwnIt w e base (fun b => b < B) v l) (hB : B ≤ base) (b : Nat) (hb : b < B) : some b ≠ v.ownBlock := by
  obtain ⟨xs, h1, _⟩ := h
  intro he
  have := ownsRow_ge h1 b he.symm
  omega
theorem theirs_start (w : World) (any : Bool) (v : Value) :
    let W := ((w.alloc (.cells #[.bool any, v] TRDep)).alloc (.cells #[.bool false, .slice none 0 0] TDep)).alloc (.cells #[.bool any, .slice none 0 0] TDep)
    DB W w.heap.size TRDep any v ∧ DB W (w.heap.size + 1) TDep false (.slice none 0 0) ∧ DB W (w.heap.size + 1 + 1) TDep any (.slice none 0 0) ∧ Below w.heap.size w W ∧ w.heap.size + 1 + 1 + 1 ≤ W.heap.size :=
  ⟨old_at _ _ _ (old_at _ _ _ (heap_alloc_new w _) (by simp)) (by simp; omega), old_at _ _ _ (new_at _ _ _ (by simp)) (by simp), new_at _ _ _ (by simp), (((Below.refl _ _).alloc (Nat.le_refl _) _).alloc (by simp) _).alloc (by simp; omega) _, by simp⟩
def TheirsRel (w : World) (any : Bool) (l : List Itm) (v0 i : Value) (wr : World) : Prop := ∃ (j : Nat) (v : Value), j ≤ l.length ∧ i = .int .i64 (j : Int) ∧ OwnIt wr TIt (w.heap.size + 1 + 1 + 1) (fun b => b < w.heap.size) v (l.take j) ∧
  DB wr (w.heap.size + 1 + 1) TDep any v ∧ DB wr (w.heap.size + 1) TDep false (.slice none 0 0) ∧ DB wr w.heap.size TRDep any v0 ∧ Below w.heap.size w wr
theorem ownsItBase {w : World} {e : TypeId} {B : Nat} {v : Value} {l : List Itm} (h : OwnIt w e (B + 1 + 1 + 1) (fun b => b < B) v l) : OwnIt w e B (fun b => b < B) v l := by
  obtain ⟨xs, h1, h2⟩ := h
  exact ⟨xs, ownsRow_base h1 (by omega), h2⟩
set_option maxRecDepth 100000 in
set_option maxHeartbeats 4000000 in
theorem theirs_any (any : Bool) (l : List Itm) (A : Option Addr) (cap : Nat) (w : World) (hs : Its w w.heap.size A l) (hl : l.length ≤ 1000) :
    Calls Tryd.prog 6 #[.agg #[.bool any, .slice A l.length cap]] w (TheirsPost w any l) := by
  obtain ⟨p0, p1, p2, g0, gz⟩ := theirs_start w any (.slice A l.length cap)
  replace hs := fhid hs
  replace p0 := fhid p0
  replace p1 := fhid p1
  replace p2 := fhid p2
  go_enter Tryd.func6, Tryd.ntmps6
  go_upto_region 2 with fail
  generalize World.alloc _ _ = W at *
  obtain ⟨c0, c1, _, _, _⟩ := p0.out.facts
  go_wp2_with fail
  go_loopw [12] (fun i wr => TheirsRel w any l (.slice A l.length cap) i wr) (fun i _ => l.length - (intOf i).toNat)
  case atStart => exact ⟨0, .slice none 0 0, Nat.zero_le _, rfl, OwnIt.nil _ _ _ _, p2.out, p1.out, p0.out, g0⟩
  case round =>
    obtain ⟨j, v, hjl, rfl, hO, q2, q1, q0, hB⟩ := hrel
    have hsz := hB.size
    clear c0 c1
    replace p0 := fhid True.intro
    replace p1 := fhid True.intro
    replace p2 := fhid True.intro
    have hlt2 := q2.facts.2.2.2.2
    by_cases hlt : j < l.length
    · have hsW := hs.out.below hB
      obtain ⟨bb, o, rfl, hbb, hc1, A', cp, hc2, hjc, hcm, hjs⟩ := hsW.at_ hlt
      have hsn := fhid (show l.take (j + 1) = l.take j ++ [l[j]] from List.take_succ_eq_append_getElem hlt)
      have i1 : (j : Int) < l.length := by omega
      have i0 : (0 : Int) ≤ j := by omega
      have hln : (l.take j).length ≤ 1000 := by rw [List.length_take]; omega
      clear hsW
      generalize l[j] = x at *
      obtain ⟨k, js⟩ := x
      simp only at hc1 hc2 hjc hjs
      generalize l.take j = pre at *
      have bA : Below wr.heap.size wr (wr.alloc (.cells #[.int .i64 k, .slice A' js.length cp] TRIt)) := (Below.refl _ _).alloc (Nat.le_refl _) _
      have zA : (wr.alloc (.cells #[.int .i64 k, .slice A' js.length cp] TRIt)).heap.size = wr.heap.size + 1 := World.size_alloc _ _
      have o2 := OwnIt.keepB hO hsz bA
      have hjs2 := hjs.below (bA.mono hsz)
      obtain ⟨c4, c5, f4, f5, _⟩ := q2.facts
      replace hln := fhid hln
      replace hO := fhid hO
      replace hjs := fhid hjs
      replace hjs2 := fhid hjs2
      replace o2 := fhid o2
      replace q0 := fhid q0
      replace q1 := fhid q1
      replace q2 := fhid q2
      obtain ⟨Av, nv, cv, rfl⟩ : ∃ A n c, v = .slice A n c := by obtain ⟨A, cap, e, _⟩ := hO.out.shape; exact ⟨A, _, cap, e⟩
      have h3 : w.heap.size + 1 + 1 + 1 ≤ wr.heap.size := by omega
      go_wp2_with (first
        | (at_builtin; (refine app_it 31 TIt Tryd.underlying31 infoIt rfl _ _ rfl (w.heap.size + 1 + 1 + 1) (fun b => b < w.heap.size) _ pre k js A' cp hjc hcm (wr.alloc (.cells #[.int .i64 k, .slice A' js.length cp] TRIt)) rfl o2.out (fun b hb => ⟨by rw [zA]; omega, OwnIt.ownB o2.out (by omega) b hb⟩) hjs2.out rfl (wr.heap.size + 1) (by rw [zA]) rfl (by have := hln.out; omega) (by omega) ?_; intro v3 w3 o3 hk3 b3)
           obtain ⟨A3, n3, cap3, rfl⟩ : ∃ A n c, v3 = .slice A n c := (by obtain ⟨A, cap, e, _⟩ := o3.shape; exact ⟨A, _, cap, e⟩)
           replace o3 := fhid o3
           have r2 := DB.below (DB.below q2.out bA (by omega)) b3 (by omega)
           obtain ⟨_, _, g4, g5, _⟩ := r2.facts))
      go_roundw
      case rel =>
        refine ⟨j + 1, _, by omega, by go_num, ?_, block_set 1 _ r2, block_other _ _ (DB.below (DB.below q1.out bA (by omega)) b3 (by omega)) (by omega), block_other _ _ (DB.below (DB.below q0.out bA (by omega)) b3 (by omega)) (by omega), ((hB.trans (bA.mono hsz)).trans (b3.mono (by omega))).setCell (show w.heap.size ≤ w.heap.size + 1 + 1 by omega) _⟩
        rw [hsn.out]
        exact OwnIt.setB o3.out r2 (by omega) tag_Dep_It _ _
      case measure => simp [intOf]; omega
    · obtain rfl : j = l.length := by omega
      rw [List.take_length] at hO
      have i1 : ¬ (l.length : Int) < l.length := by omega
      obtain ⟨A3, cap3, rfl, _, _, _⟩ := hO.shape
      obtain ⟨c4, c5, f4, f5, _⟩ := q2.facts
      obtain ⟨c2, c3, f2, f3, _⟩ := q1.facts
      have o3 := fhid (OwnIt.setB (OwnIt.setB hO q1 (by omega) tag_Dep_It 0 (.bool any)) (block_set 0 _ q1) (by omega) tag_Dep_It 1 (.slice A3 l.length cap3))
      replace hO := fhid hO
      replace q0 := fhid q0
      replace q1 := fhid q1
      replace q2 := fhid q2
      go_wp2_with fail
      exact bodyPost_ret (v := .agg #[.bool any, .slice A3 l.length cap3]) (by simp [results, Tryd.results6, go_sem, c2, c3]) rfl
        ⟨_, rfl, ownsItBase o3.out, set2 hB _ (by omega) _ _⟩
end Go.Proofs.YtpelmclgkkhjeaaDoor
