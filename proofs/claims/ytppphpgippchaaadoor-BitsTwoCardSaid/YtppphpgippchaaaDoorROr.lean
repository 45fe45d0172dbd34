/-
  The reference's Or: two lists, one behind the other, made a set.
-/
import Derived.Test.YtppphpgippchaaaDoorRFirst
import Derived.Deep.RegionLaw
import Derived.BigRegion
namespace Go.Proofs.YtppphpgippchaaaDoor
open Go.RowKit
/-- Append to a row of the call's own, inside a region. -/
theorem step_append_mine {P : Program} {ops : Array Oper} {o : Oper} {a : Act} {w : World} {K : Act → World → Prop} {Q : Exit → Act → World → Prop} {E : Prop} (hgd : o.guard = none) (s x : Operand) (t : TypeId)
    (ho : o.op = .call { callee := .builtin .append, args := #[s, x], argTypes := #[t, t] })
    (base : Nat) (e : TypeId) (i : TypeInfo) (z : Value) (size bytes : Nat) (ht : P.underlying t = some (.slice e)) (hi : P.info? e = some i) (hz : i.zero = some z)
    (hsize : i.size = size) (hby : i.bytes = bytes) (hzs : z.cells.size = size) (hsz : 0 < size)
    (v : Value) (n : Nat) (xs : List Value) (hs : a.eval s = v) (hown : w.ownsRow base e size v n xs)
    (ad : Addr) (m c : Nat) (news : List Value) (hx : a.eval x = .slice (some ad) m c) (hl : news.length = m * size) (hnews : ∀ j u, news[j]? = some u → w.cell? (ad.add j) = some u) (h1 : ∀ u ∈ news, u.oneCell' = true)
    (h63 : n + m ≤ maxLen) (hbytes : (n + m) * bytes ≤ 140737488355328) (hbase : base ≤ w.heap.size)
    (h : ∀ v' w', w'.ownsRow base e size v' (n + m) (xs ++ news) → w.grownBy w' v.ownBlock → K (a.put o.dst v') w') :
    if Region.wanted o (yielded ops a.tmps) = true then Oper.wp P o a w K Q else E := by
  have hw : Region.wanted o (yielded ops a.tmps) = true := by simp [Region.wanted, hgd]
  rw [if_pos hw]
  exact wp_append_own w s x t ho base e i z size bytes ht hi hz hsize hby hzs hsz v n xs hs hown ad m c news hx hl hnews h1 h63 hbytes hbase fun v' w' h2 h3 _ => h v' w' h2 h3
theorem step_append_nil {P : Program} {ops : Array Oper} {o : Oper} {a : Act} {w : World} {K : Act → World → Prop} {Q : Exit → Act → World → Prop} {E : Prop} (hgd : o.guard = none) (s x : Operand) (t : TypeId)
    (ho : o.op = .call { callee := .builtin .append, args := #[s, x], argTypes := #[t, t] })
    (base : Nat) (e : TypeId) (i : TypeInfo) (size : Nat) (ht : P.underlying t = some (.slice e)) (hi : P.info? e = some i)
    (v : Value) (n : Nat) (xs : List Value) (hs : a.eval s = v) (hown : w.ownsRow base e size v n xs) (hx : a.eval x = .slice none 0 0)
    (h : K (a.put o.dst v) w) :
    if Region.wanted o (yielded ops a.tmps) = true then Oper.wp P o a w K Q else E := by
  have hw : Region.wanted o (yielded ops a.tmps) = true := by simp [Region.wanted, hgd]
  rw [if_pos hw]
  have hrun := run_append_owned_none (P := P) (w := w) base t o.type e i size ht hi v n xs hown
  unfold Oper.wp
  simp [execOp, ho, resolve, invoke, builtin, hs, hx, hrun, Result.andThen]
  exact h
theorem or_list (p q : Nat → Bool) (j : Nat) (hj : j < 256) : memP ((lst p 256 ++ lst q 256).map fun n : Nat => (n : Int)) j = (p j || q j) := by
  unfold memP
  rw [Bool.eq_iff_iff, decide_eq_true_iff, List.mem_map, Bool.or_eq_true]
  constructor
  · rintro ⟨n, hn, e⟩
    obtain rfl : n = j := by omega
    rcases List.mem_append.1 hn with h | h
    · exact .inl ((mem_range_lst p n).1 h).2
    · exact .inr ((mem_range_lst q n).1 h).2
  · rintro (h | h)
    · exact ⟨j, List.mem_append_left _ ((mem_range_lst p j).2 ⟨hj, h⟩), rfl⟩
    · exact ⟨j, List.mem_append_right _ ((mem_range_lst q j).2 ⟨hj, h⟩), rfl⟩
theorem iv_one (l : List Nat) : ∀ u ∈ l.map iv, u.oneCell' = true := fun u hu => by
  obtain ⟨n, _, rfl⟩ := List.mem_map.1 hu
  rfl
/-- The second list: nil, or a row. -/
def SecondNil (w : World) (e : Ending) (w' : World) : Prop := e = .returned (.slice none 0 0) ∧ Below w.heap.size w w'
def SecondRow (q : Nat → Bool) (w : World) (e : Ending) (w' : World) : Prop :=
  ∃ g cap, e = .returned (.slice (some ⟨g, 0, none⟩) (lst q 256).length cap) ∧ w'.ownsRow w.heap.size 3 1 (.slice (some ⟨g, 0, none⟩) (lst q 256).length cap) (lst q 256).length ((lst q 256).map iv) ∧ Below w.heap.size w w'
set_option maxRecDepth 100000 in
set_option maxHeartbeats 3200000 in
theorem ror_row (p q : Nat → Bool) (w : World) (hq : ∀ w0, Calls Tryd.prog 28 #[nodes q] w0 (SecondRow q w0)) :
    Calls Tryd.prog 20 #[nodes p, nodes q] w fun e w' => e = .returned (nodes fun j => p j || q j) ∧ Below w.heap.size w w' := by
  obtain ⟨i0, hi, hz0, hz1, hz2⟩ := info_parts infoInt
  obtain ⟨s1, s2, s3, s4⟩ := three_start w p q
  have hq := hid hq
  have lp := lst_len p 256
  have lq := lst_len q 256
  have hor := hid (nodes_congr fun j hj => or_list p q j hj)
  have hlen : ((lst p 256 ++ lst q 256).map fun n : Nat => (n : Int)).length ≤ 140737488355328 := by simp; omega
  have hlen := hid hlen
  have h63 : (lst p 256).length + (lst q 256).length ≤ maxLen := by unfold maxLen; omega
  have h63 := hid h63
  have hby : ((lst p 256).length + (lst q 256).length) * 8 ≤ 140737488355328 := by omega
  have hby := hid hby
  have hnl : ((lst q 256).map iv).length = (lst q 256).length * 1 := by simp
  have hnl := hid hnl
  have hone := hid (iv_one (lst q 256))
  go_enter Tryd.func20, Tryd.ntmps20
  go_wp2_with fail
  have z : Held w [(w.heap.size, p), (w.heap.size + 1, q), (w.heap.size + 2, fun _ => false)] (((w.alloc (objOf p)).alloc (objOf q)).alloc (.cells #[.int .u64 0, .int .u64 0, .int .u64 0, .int .u64 0] 26)) := Held.cons s1 (Held.cons s2 (Held.one s3 s4))
  clear s1 s2 s3 s4
  generalize hw0 : ((w.alloc (objOf p)).alloc (objOf q)).alloc (.cells #[.int .u64 0, .int .u64 0, .int .u64 0, .int .u64 0] 26) = w0 at *
  clear hw0
  have hb0 : w.heap.size + 2 < w0.heap.size := z.tail.tail.head.lt
  obtain ⟨a0, a1, a2, a3⟩ := z.head.four
  obtain ⟨b0, b1, b2, b3⟩ := z.tail.head.four
  have z := z.drew
  go_region_law (first
    | (refine step_append_mine rfl (.tmp 6) (.tmp 8) 22 rfl w0.heap.size 3 i0 (.int .i64 0) 1 8 Tryd.underlying22 hi hz0 hz1 hz2 rfl (Nat.zero_lt_one) v1 (lst p 256).length ((lst p 256).map iv) rfl own1 ⟨g, 0, none⟩ (lst q 256).length cap ((lst q 256).map iv) rfl hnl.out (own2.cells rfl) hone.out h63.out hby.out hb2 ?_; intro v3 w3 hown3 hgrow; have hR := Reads.ofOwn (l := lst p 256 ++ lst q 256) (by simpa using hown3); have z3 : Blk w3 (w.heap.size + 2) (fun _ => false) := z.tail.tail.head.grown hgrow (fun h => by have := (own1.lt _ h.symm).1; omega); have b3 : Below w.heap.size w w3 := z.2.grown hgrow z.2.size (fun j hj => by have := (own1.lt j hj).1; omega); have y := Held.one z3 b3)
    | (go_simp; go_at_call 28; (with_reducible refine (rlist_any p _).mono ?_); rintro e w1 ⟨v1, rfl, own0, hx⟩; have own1 : w1.ownsRow w0.heap.size 3 1 v1 (lst p 256).length ((lst p 256).map iv) := own0; have hb1 : w0.heap.size ≤ w1.heap.size := hx.size; have z := Held.on z hx; obtain ⟨a0, a1, a2, a3⟩ := z.head.four; obtain ⟨b0, b1, b2, b3⟩ := z.tail.head.four)
    | (go_simp; go_at_call 28; (with_reducible refine (hq.out _).mono ?_); rintro e w2 ⟨g, cap, rfl, own2, hx⟩; have z := Held.on z hx; have hb2 : w0.heap.size ≤ w2.heap.size := Nat.le_trans hb1 hx.size; have own1 := own_below own1 hx)
    | (go_simp; go_at_call 12; refine (rof_any _ _ _ hR hlen.out).mono ?_; rintro e w4 ⟨rfl, hx⟩; rw [hor.out]; have y := Held.on y hx; obtain ⟨g0, g1, g2, g3⟩ := y.head.frees; obtain ⟨d0, d1, d2, d3⟩ := y.head.four))
  all_goals
    go_wp2
    obtain ⟨k0, k1, k2, k3⟩ := (y.head.stores fun j => p j || q j).four
    refine bodyPost_ret (v := nodes fun j => p j || q j) (by simp [results, Tryd.results20, go_sem, k0, k1, k2, k3]) rfl ⟨rfl, below_stores y.2 (by omega) _ _ _ _⟩
set_option maxRecDepth 100000 in
set_option maxHeartbeats 3200000 in
theorem ror_nil (p q : Nat → Bool) (w : World) (hne : lst q 256 = []) (hq : ∀ w0, Calls Tryd.prog 28 #[nodes q] w0 (SecondNil w0)) :
    Calls Tryd.prog 20 #[nodes p, nodes q] w fun e w' => e = .returned (nodes fun j => p j || q j) ∧ Below w.heap.size w w' := by
  obtain ⟨i0, hi, hz0, hz1, hz2⟩ := info_parts infoInt
  obtain ⟨s1, s2, s3, s4⟩ := three_start w p q
  have hq := hid hq
  have lp := lst_len p 256
  have hor : Hid (nodes (memP ((lst p 256).map fun n : Nat => (n : Int))) = nodes fun j => p j || q j) := nodes_congr fun j hj => by
    have := or_list p q j hj
    rw [hne, List.append_nil] at this
    exact this
  have hlen : ((lst p 256).map fun n : Nat => (n : Int)).length ≤ 140737488355328 := by simp; omega
  have hlen := hid hlen
  clear hne
  go_enter Tryd.func20, Tryd.ntmps20
  go_wp2_with fail
  have z : Held w [(w.heap.size, p), (w.heap.size + 1, q), (w.heap.size + 2, fun _ => false)] (((w.alloc (objOf p)).alloc (objOf q)).alloc (.cells #[.int .u64 0, .int .u64 0, .int .u64 0, .int .u64 0] 26)) := Held.cons s1 (Held.cons s2 (Held.one s3 s4))
  clear s1 s2 s3 s4
  generalize hw0 : ((w.alloc (objOf p)).alloc (objOf q)).alloc (.cells #[.int .u64 0, .int .u64 0, .int .u64 0, .int .u64 0] 26) = w0 at *
  clear hw0
  have hb0 : w.heap.size + 2 < w0.heap.size := z.tail.tail.head.lt
  obtain ⟨a0, a1, a2, a3⟩ := z.head.four
  obtain ⟨b0, b1, b2, b3⟩ := z.tail.head.four
  have z := z.drew
  go_region_law (first
    | (refine step_append_nil rfl (.tmp 6) (.tmp 8) 22 rfl w0.heap.size 3 i0 1 Tryd.underlying22 hi v1 (lst p 256).length ((lst p 256).map iv) rfl own1 rfl ?_; have hR := Reads.ofOwn (l := lst p 256) own1; have y := Held.one z.tail.tail.head z.2)
    | (go_simp; go_at_call 28; (with_reducible refine (rlist_any p _).mono ?_); rintro e w1 ⟨v1, rfl, own0, hx⟩; have own1 : w1.ownsRow w0.heap.size 3 1 v1 (lst p 256).length ((lst p 256).map iv) := own0; have hb1 : w0.heap.size ≤ w1.heap.size := hx.size; have z := Held.on z hx; obtain ⟨a0, a1, a2, a3⟩ := z.head.four; obtain ⟨b0, b1, b2, b3⟩ := z.tail.head.four)
    | (go_simp; go_at_call 28; (with_reducible refine (hq.out _).mono ?_); rintro e w2 ⟨rfl, hx⟩; have z := Held.on z hx; have hb2 : w0.heap.size ≤ w2.heap.size := Nat.le_trans hb1 hx.size; have own1 := own_below own1 hx)
    | (go_simp; go_at_call 12; refine (rof_any _ _ _ hR hlen.out).mono ?_; rintro e w4 ⟨rfl, hx⟩; rw [hor.out]; have y := Held.on y hx; obtain ⟨g0, g1, g2, g3⟩ := y.head.frees; obtain ⟨d0, d1, d2, d3⟩ := y.head.four))
  all_goals
    go_wp2
    obtain ⟨k0, k1, k2, k3⟩ := (y.head.stores fun j => p j || q j).four
    refine bodyPost_ret (v := nodes fun j => p j || q j) (by simp [results, Tryd.results20, go_sem, k0, k1, k2, k3]) rfl ⟨rfl, below_stores y.2 (by omega) _ _ _ _⟩
theorem empty_all (q : Nat → Bool) (h : lst q 256 = []) (j : Nat) (hj : j < 256) : q j = false := by
  cases hq : q j with
  | false => rfl
  | true =>
    have := (mem_range_lst q j).2 ⟨hj, hq⟩
    rw [h] at this; cases this
set_option maxRecDepth 100000 in
set_option maxHeartbeats 800000 in
theorem rlist_empty (q : Nat → Bool) (h : lst q 256 = []) (w : World) : Calls Tryd.prog 28 #[nodes q] w (SecondNil w) := by
  have he := hid (empty_all q h)
  clear h
  go_enter Tryd.func28, Tryd.ntmps28
  go_wp2
  go_loopw [3, 4] (fun v i wr => ∃ k : Nat, k ≤ 256 ∧ i = .int .i64 k ∧ v = .slice none 0 0 ∧ Blk wr w.heap.size q ∧ Below w.heap.size w wr) (fun _ i _ => 256 - (intOf i).toNat)
  case atStart => exact ⟨0, by omega, rfl, rfl, Blk.new w q, (Below.refl _ _).alloc (Nat.le_refl _) _⟩
  case round =>
    obtain ⟨k, hk, rfl, rfl, hb, hB⟩ := hrel
    by_cases hlt : k < 256
    · obtain ⟨c0, c1, c2, c3⟩ := hb.four
      go_wp2_with (go_at_call 16; refine (rhas_in q k _ hlt).mono ?_; rintro e w1 ⟨rfl, hx⟩; rw [he.out k hlt]; have hb1 := hb.below hx hb.lt; have hB1 := hB.trans (hx.mono (Nat.le_of_lt hb.lt)))
      go_roundw
      case rel => exact ⟨k + 1, by omega, by go_num, rfl, hb1, hB1⟩
      case measure => simp [intOf]; omega
    · obtain rfl : k = 256 := by omega
      go_wp2
      go_ret
      exact ⟨rfl, hB⟩
theorem rlist_row (q : Nat → Bool) (h : lst q 256 ≠ []) (w : World) : Calls Tryd.prog 28 #[nodes q] w (SecondRow q w) :=
  (rlist_any q w).mono fun e w' ⟨v, he, hown, hb⟩ => by
    have hown' := hown
    rcases hown.2 with ⟨_, h0⟩ | ⟨g, cap, cur, rfl, _⟩
    · exact absurd (List.length_eq_zero_iff.1 h0) h
    · exact ⟨g, cap, he, hown', hb⟩
theorem ror_any (p q : Nat → Bool) (w : World) :
    Calls Tryd.prog 20 #[nodes p, nodes q] w fun e w' => e = .returned (nodes fun j => p j || q j) ∧ Below w.heap.size w w' := by
  by_cases h : lst q 256 = []
  · exact ror_nil p q w h fun w0 => rlist_empty q h w0
  · exact ror_row p q w fun w0 => rlist_row q h w0
end Go.Proofs.YtppphpgippchaaaDoor
