/-
  All numbers of a dependency, rising, each once, by the program.
-/
import Derived.Test.YtpelmclgkkhjeaaDoorDApp
import Derived.Test.YtpelmclgkkhjeaaDoorSShelf
import Derived.Sort.OwnSortedInts
import Derived.Lib.OwnBridge
import Derived.Lib.RowBridge
import Derived.Shelf.Sort.Plain
namespace Go.Proofs.YtpelmclgkkhjeaaDoor
open Go.RowKit

/-- Rising, as the library's sort lays them. -/
abbrev srt (zs : List Int) : List Int := zs.mergeSort fun x y => decide (x ≤ y)
theorem srt_len (zs : List Int) : (srt zs).length = zs.length := List.length_mergeSort zs
theorem sort_own (base : Nat) (v : Value) (zs : List Int) (w : World) (h : OwnI w base v zs) (hb : base ≤ w.heap.size) (hl : zs.length ≤ 1000000000) :
    Calls Tryd.prog 26 #[v] w fun e w' => e = .returned (.tuple #[]) ∧ OwnI w' base v (srt zs) ∧ Below base w w' := by
  by_cases h0 : zs = []
  · subst h0
    obtain ⟨A, cap, rfl, _, _, _⟩ := h.shape
    refine (Tryd.slices_Sort_int_none A cap w).mono ?_
    rintro e w' ⟨rfl, rfl⟩
    exact ⟨rfl, by rw [show srt [] = [] from List.mergeSort_nil]; exact h, Below.refl _ _⟩
  · have hv : v ≠ .slice none 0 0 := by
      rintro rfl
      rcases h.2 with ⟨_, hn⟩ | ⟨g, cap, cur, e, _⟩
      · exact h0 (List.eq_nil_of_length_eq_zero hn)
      · cases e
    have h' := h
    obtain ⟨hll, ⟨rfl, _⟩ | ⟨g, cap, cur, rfl, hg, hh, hle, hcm, hsz, ht⟩⟩ := h
    · exact absurd rfl hv
    · have hH : Sort.Holds (Value.int .i64) w g 0 zs.toArray := holds_of_blockI hh (by rw [Nat.mul_one] at ht; exact ht)
      refine (show Calls Tryd.prog 26 #[.slice (some ⟨g, 0, none⟩) zs.length cap] w _ from Any.slices_Sort_int Tryd.lays189 g 0 cap zs w hH (lt_of_block hh) (by omega)).mono ?_
      rintro e w' ⟨rfl, n, os, rfl⟩
      refine ⟨rfl, ?_, (Below.refl _ _).grown (grownBy_sortedI _) hb (fun k hk => by injection hk with hk; omega)⟩
      have := ownsRow_sortedI (base := base) (n := n) (os := os) (ss := zs) (ts := srt zs) (srt_len zs) hg hh hle hcm hsz
      unfold OwnI
      rw [srt_len]
      exact this
theorem compact_own (base : Nat) (v : Value) (zs : List Int) (w : World) (h : OwnI w base v zs) (hb : base ≤ w.heap.size) (hl : zs.length ≤ 1000000000) :
    Calls Tryd.prog 27 #[v] w fun e w' => ∃ v', e = .returned v' ∧ OwnI w' base v' (Lib.compact zs) ∧ Below base w w' := by
  by_cases h0 : zs = []
  · subst h0
    obtain ⟨A, cap, rfl, _, _, _⟩ := h.shape
    refine (Tryd.slices_Compact_int_empty A cap w).mono ?_
    rintro e w' ⟨rfl, rfl⟩
    exact ⟨_, rfl, h, Below.refl _ _⟩
  · have hv : v ≠ .slice none 0 0 := by
      rintro rfl
      rcases h.2 with ⟨_, hn⟩ | ⟨g, cap, cur, e, _⟩
      · exact h0 (List.eq_nil_of_length_eq_zero hn)
      · cases e
    obtain ⟨g, cap, rfl, hg, hlt, hle, hcm, _, hH⟩ := Lib.holds_of_ownsRow (enc := Value.int .i64) (zs := zs) h hv
    refine (Tryd.slices_Compact_int g 0 cap zs w hH (by omega) hle).mono ?_
    rintro e w' ⟨rfl, q, rfl⟩
    have hcl := Lib.compact_length_le zs
    refine ⟨_, rfl, ?_, Lib.below_putRow (Below.refl _ _) hg⟩
    have := Lib.ownsRow_putRow (enc := Value.int .i64) (q := q) (k := (Lib.compact zs).length) (ys := Lib.compact zs ++ List.replicate (zs.length - (Lib.compact zs).length) 0) h (by rw [List.length_append, List.length_replicate]; omega) hcl
    rw [List.take_left] at this
    exact this
/-- Numbers put behind numbers. -/
theorem app_nums {w : World} {ops : Array Oper} {rest : List Oper} {o : Oper} {a : Act} {Q : Exit → Act → World → Prop} (hgd : o.guard = none) (s x : Operand) (ho : o.op = .call { callee := .builtin .append, args := #[s, x], argTypes := #[38, 38] })
    (base : Nat) (v : Value) (ns js : List Int) (hs : a.eval s = v) (hown : OwnI w base v ns) (B : Nat) (A : Option Addr) (c : Nat) (hx : a.eval x = .slice A js.length c) (hj : Ints w B A js) (hlen : ns.length + js.length ≤ 10000000) (hbase : base ≤ w.heap.size)
    (h : ∀ v' w', OwnI w' base v' (ns ++ js) → Below base w w' → wpList Tryd.prog ops Q rest (a.put o.dst v') w') : wpList Tryd.prog ops Q (o :: rest) a w := by
  refine app_own 38 3 (.int .i64 0) 1 8 Tryd.underlying38 infoInt rfl (by decide) hgd s x ho base v ns.length (IV ns) hs hown B A js.length c (IV js) hx hj (by rw [IV_len, Nat.mul_one]) (fun u hu => by
    obtain ⟨n, _, rfl⟩ := List.mem_map.1 hu
    rfl) (fun e => by
    subst e
    by_cases h0 : 0 < js.length
    · obtain ⟨b, o, e, _⟩ := hj (by rw [IV_len]; exact h0)
      cases e
    · omega) (by omega) (by omega) hbase ?_
  intro v' w' a1 _ a3 _
  refine h v' w' ?_ a3
  unfold OwnI
  rw [IV_app, List.length_append]
  exact a1
theorem flat_len (l : List Itm) (h : ∀ x ∈ l, x.2.length ≤ 1000) : (l.flatMap fun x => x.2).length ≤ 1000 * l.length := by
  induction l with
  | nil => simp
  | cons x r ih =>
    have h1 := h x (by simp)
    have h2 := ih (fun y hy => h y (by simp [hy]))
    rw [List.flatMap_cons, List.length_append, List.length_cons]
    omega
/-- All numbers, rising, each once. -/
abbrev uq (l : List Itm) : List Int := Lib.compact (srt (l.flatMap fun x => x.2))
set_option maxRecDepth 100000 in
set_option maxHeartbeats 4000000 in
theorem Jobs_any (any : Bool) (l : List Itm) (A : Option Addr) (cap : Nat) (w : World) (hs : Its w w.heap.size A l) (hl : l.length ≤ 1000) (hx : ∀ x ∈ l, x.2.length ≤ 1000) :
    Calls Tryd.prog 13 #[.agg #[.bool any, .slice A l.length cap]] w fun e w' => ∃ v, e = .returned v ∧ OwnI w' w.heap.size v (uq l) ∧ Below w.heap.size w w' := by
  have hfl := fun j => flat_len (l.take j) (fun x h => hx x (List.mem_of_mem_take h))
  replace hs := fhid hs
  replace hx := fhid hx
  replace hfl := fhid hfl
  go_enter Tryd.func13, Tryd.ntmps13
  go_upto_region 1 with fail
  have hi : DB (w.alloc (.cells #[.bool any, .slice A l.length cap] 33)) w.heap.size 33 any (.slice A l.length cap) := heap_alloc_new w _
  have g0 : Below w.heap.size w (w.alloc (.cells #[.bool any, .slice A l.length cap] 33)) := (Below.refl _ _).alloc (Nat.le_refl _) _
  generalize w.alloc _ = w1 at *
  obtain ⟨c0, c1, _, _, hz⟩ := hi.facts
  replace hi := fhid hi
  go_wp2_with fail
  go_loopw [3, 9] (fun v i wr => ∃ j : Nat, j ≤ l.length ∧ i = .int .i64 (j : Int) ∧ OwnI wr w1.heap.size v ((l.take j).flatMap fun x => x.2) ∧ Below w1.heap.size w1 wr) (fun _ i _ => l.length - (intOf i).toNat)
  case atStart => exact ⟨0, Nat.zero_le _, rfl, OwnI.nil _ _, Below.refl _ _⟩
  case round =>
    obtain ⟨j, hjl, rfl, hO, hB⟩ := hrel
    have hsz := hB.size
    have gB := g0.trans (hB.mono g0.size)
    clear c0 c1
    obtain ⟨c0, c1, _, _, _⟩ := (hi.out.below hB hz).facts
    have hln := hfl.out j
    rw [List.length_take] at hln
    have hln2 : ((l.take j).flatMap fun x => x.2).length ≤ 1000000 := by
      have : 1000 * min j l.length ≤ 1000 * 1000 := Nat.mul_le_mul_left _ (by omega)
      omega
    clear hln
    by_cases hlt : j < l.length
    · obtain ⟨bb, o, rfl, hbb, hc1, A', cp, hc2, hjc, hcm, hjs⟩ := (hs.out.below gB).at_ hlt
      have x1 := hx.out l[j] (List.getElem_mem hlt)
      have hsn := fhid (show (l.take (j + 1)).flatMap (fun x => x.2) = (l.take j).flatMap (fun x => x.2) ++ l[j].2 by rw [List.take_succ_eq_append_getElem hlt, List.flatMap_append]; simp)
      have i1 : (j : Int) < l.length := by omega
      have i0 : (0 : Int) ≤ j := by omega
      generalize l[j] = x at *
      obtain ⟨k, js⟩ := x
      simp only at hc1 hc2 hjc hjs x1 hsn
      generalize (l.take j).flatMap (fun x => x.2) = pre at *
      have bA : Below wr.heap.size wr (wr.alloc (.cells #[.int .i64 k, .slice A' js.length cp] 50)) := (Below.refl _ _).alloc (Nat.le_refl _) _
      have zA : (wr.alloc (.cells #[.int .i64 k, .slice A' js.length cp] 50)).heap.size = wr.heap.size + 1 := World.size_alloc _ _
      have o2 := fhid (OwnI.below hO bA)
      have hj2 := fhid (hjs.below (bA.mono gB.size))
      replace hO := fhid hO
      replace hjs := fhid hjs
      replace zA := fhid zA
      replace hln2 := fhid hln2
      go_wp2_with (at_builtin; (refine app_nums rfl _ _ rfl w1.heap.size _ pre js rfl o2.out w.heap.size A' cp rfl hj2.out (by have := hln2.out; omega) (by rw [zA.out]; omega) ?_; intro v4 w4 o4 b4))
      go_roundw
      case rel => exact ⟨j + 1, by omega, by go_num, by rw [hsn.out]; exact o4, hB.trans ((bA.mono hsz).trans b4)⟩
      case measure => simp [intOf]; omega
    · obtain rfl : j = l.length := by omega
      rw [List.take_length] at *
      have i1 : ¬ (l.length : Int) < l.length := by omega
      have hso := sort_own w1.heap.size _ _ wr hO hsz (by omega)
      have hco := fun v W h1 h2 => compact_own w1.heap.size v (srt (l.flatMap fun x => x.2)) W h1 h2 (by rw [srt_len]; omega)
      replace hO := fhid hO
      go_wp2_with (first
        | (go_at_call 26; (with_reducible refine hso.mono ?_); rintro e w3 ⟨rfl, o3, b3⟩)
        | (go_at_call 27; (with_reducible refine (hco _ _ o3 (Nat.le_trans hsz b3.size)).mono ?_); rintro e w4 ⟨v4, rfl, o4, b4⟩))
      go_ret
      exact ⟨_, rfl, OwnI.base o4 g0.size, g0.trans ((hB.trans (b3.trans b4)).mono g0.size)⟩
end Go.Proofs.YtpelmclgkkhjeaaDoor
