/-
  Parts: KFar.
-/
import Derived.Test.YtmnmcikbbfcjcaaGreatDoorK2
set_option linter.unusedSimpArgs false
set_option linter.unusedVariables false
/-
  Whether a config is too large.
-/
namespace Go.Proofs.YtmnmcikbbfcjcaaGreatDoor
open Go.RowKit Go.Shelf Vs

def longN (l : List Str) : Bool := l.any fun s => decide (100 < s.length)
def farP (c : Cfg) : Bool := longN (c.names.take 300) || (decide (300 < c.names.length) || (decide (300 < c.vecs.length) || (decide (60 < c.parts.length) || decide (60 < c.qos.length))))
theorem longN_yes {l : List Str} {k m : Nat} (hk : k < l.length) (hm : k < m) (h : 100 < l[k].length) : longN (l.take m) = true := by
  unfold longN
  rw [List.any_eq_true]
  exact ⟨l[k], by rw [List.mem_take_iff_getElem]; exact ⟨k, by omega, rfl⟩, by simpa using h⟩
theorem longN_next {l : List Str} {k : Nat} (hk : k < l.length) (h : ¬ 100 < l[k].length) (h0 : longN (l.take k) = false) : longN (l.take (k + 1)) = false := by
  unfold longN at *
  rw [List.take_succ_eq_append_getElem hk, List.any_append, h0]
  simp; omega
theorem far_small {c : Cfg} (h : farP c = false) : c.names.length ≤ 300 ∧ c.vecs.length ≤ 300 ∧ c.parts.length ≤ 60 ∧ c.qos.length ≤ 60 := by
  unfold farP at h
  simp only [Bool.or_eq_false_iff, decide_eq_false_iff_not] at h
  omega
set_option maxRecDepth 100000 in
set_option maxHeartbeats 4000000 in
theorem far_any (v : Value) (c : Cfg) (w : World) (h : CR w v c) : Calls Tryz.prog 4 #[v] w (BoolP w (farP c)) := by
  obtain ⟨AN, cN, AV, cV, AP, cP, AQ, cQ, a0, a1, a2, a3, a4, a5, a6, a7, rfl, ev, r1, r2, r3, r4⟩ := h
  have hz := r1.1
  have hz2 : cN ≤ 9223372036854775807 := by have := r1.2.1; unfold maxLen at this; omega
  have hvz : c.vecs.length ≤ 9223372036854775807 := by have := r2.1; have := r2.2.1; unfold maxLen at this; omega
  have hpz : c.parts.length ≤ 9223372036854775807 := by have := r3.1; have := r3.2.1; unfold maxLen at this; omega
  have hqz : c.qos.length ≤ 9223372036854775807 := by have := r4.1; have := r4.2.1; unfold maxLen at this; omega
  have hcell := fun k (hk : k < c.names.length) => RdS.name r1 hk
  have hfar : farP c = (longN (c.names.take 300) || (decide (300 < c.names.length) || (decide (300 < c.vecs.length) || (decide (60 < c.parts.length) || decide (60 < c.qos.length))))) := rfl
  unfold BoolP
  generalize farP c = R at *
  generalize c.vecs.length = nV at *
  generalize c.parts.length = nP at *
  generalize c.qos.length = nQ at *
  generalize c.names = ns at *
  have X0 : Box (w.alloc (.cells #[.slice AN ns.length cN, .slice AV nV cV, .slice AP nP cP, .slice AQ nQ cQ, .int .i64 a0, .int .i64 a1, .int .i64 a2, .int .i64 a3, .int .i64 a4, .int .i64 a5, .int .i64 a6, .int .i64 a7] 28)) w.heap.size 28 [.slice AN ns.length cN, .slice AV nV cV, .slice AP nP cP, .slice AQ nQ cQ, .int .i64 a0, .int .i64 a1, .int .i64 a2, .int .i64 a3, .int .i64 a4, .int .i64 a5, .int .i64 a6, .int .i64 a7] := Box.new w _ _
  have B0 : Below w.heap.size w (w.alloc (.cells #[.slice AN ns.length cN, .slice AV nV cV, .slice AP nP cP, .slice AQ nQ cQ, .int .i64 a0, .int .i64 a1, .int .i64 a2, .int .i64 a3, .int .i64 a4, .int .i64 a5, .int .i64 a6, .int .i64 a7] 28)) := (Below.refl _ _).alloc (Nat.le_refl _) _
  clear r1 r2 r3 r4 ev
  replace hcell := fhid hcell
  replace hfar := fhid hfar
  obtain ⟨m, hm⟩ : ∃ m : Nat, m = min ns.length 300 := ⟨_, rfl⟩
  have hmx : ns.take m = ns.take 300 := by
    by_cases h : ns.length ≤ 300
    · rw [List.take_of_length_le h, List.take_of_length_le (by omega)]
    · rw [show m = 300 by omega]
  have hmi : min (ns.length : Int) 300 = (m : Int) := by omega
  have hm0 : m ≤ ns.length := by omega
  have hm3 : m ≤ 300 := by omega
  replace hmx := fhid hmx
  clear hm
  go_enter Tryz.func4, Tryz.ntmps4
  go_upto_region 1 with fail
  generalize w.alloc _ = w1 at *
  obtain ⟨y0, y1, y2, y3, -⟩ := Box.twelve X0
  have xl := Box.lt X0
  clear X0
  go_wp2
  go_loopw [13] (fun i wr => ∃ k : Nat, k ≤ m ∧ i = .int .i64 k ∧ Hid (longN (ns.take k) = false) ∧ w1 = wr) (fun i _ => m - (intOf i).toNat)
  case atStart => exact ⟨0, Nat.zero_le _, rfl, fhid rfl, rfl⟩
  case round =>
    obtain ⟨k, hk, rfl, hno, rfl⟩ := hrel
    have i0 : (0 : Int) ≤ k := by omega
    by_cases hlt : k < m
    · have i1 : (k : Int) < m := by omega
      have hkn : k < ns.length := by omega
      obtain ⟨bb, oo, rfl, hbb, hc0⟩ := hcell.out k hkn
      have hc := (B0.cell (p := ⟨bb, oo + k, none⟩) hbb).trans hc0
      have hsz := str_size ns[k]
      have hyes := fun h => fhid (longN_yes (m := 300) hkn (by omega) h)
      have hnext := fun h => fhid (longN_next hkn h hno.out)
      clear hc0
      generalize str ns[k] = S at *
      generalize ns[k].length = L at *
      subst hsz
      by_cases hL : 100 < S.size
      · have j1 : (S.size : Int) > 100 := by omega
        have E := hyes hL
        clear hyes hnext
        go_wp2
        go_ret
        exact ⟨fretb (by rw [hfar.out, E.out]; rfl), B0⟩
      · have j1 : ¬ (S.size : Int) > 100 := by omega
        have E := hnext hL
        clear hyes hnext
        go_wp2
        go_roundw
        case rel => exact ⟨k + 1, by omega, by go_num, E, trivial⟩
        case measure => simp [intOf]; omega
    · obtain rfl : k = m := by omega
      have hno2 := fhid (hno.out)
      have E := fhid (hfar.out.trans (by rw [← hmx.out, hno.out, Bool.false_or]))
      by_cases d1 : 300 < ns.length
      · have j1 : (ns.length : Int) > 300 := by omega
        go_wp2
        go_ret
        exact ⟨fretb (by rw [E.out, decide_eq_true d1]; rfl), B0⟩
      · have j1 : ¬ (ns.length : Int) > 300 := by omega
        by_cases d2 : 300 < nV
        · have j2 : (nV : Int) > 300 := by omega
          go_wp2
          go_ret
          exact ⟨fretb (by rw [E.out, decide_eq_true d2]; simp), B0⟩
        · have j2 : ¬ (nV : Int) > 300 := by omega
          by_cases d3 : 60 < nP
          · have j3 : (nP : Int) > 60 := by omega
            go_wp2
            go_ret
            exact ⟨fretb (by rw [E.out, decide_eq_true d3]; simp), B0⟩
          · have j3 : ¬ (nP : Int) > 60 := by omega
            by_cases d4 : 60 < nQ
            · have j4 : (nQ : Int) > 60 := by omega
              go_wp2
              go_ret
              exact ⟨fretb (by rw [E.out, decide_eq_true d4]; simp), B0⟩
            · have j4 : ¬ (nQ : Int) > 60 := by omega
              go_wp2
              go_ret
              exact ⟨fretb (by rw [E.out, decide_eq_false d1, decide_eq_false d2, decide_eq_false d3, decide_eq_false d4]; rfl), B0⟩
end Go.Proofs.YtmnmcikbbfcjcaaGreatDoor
