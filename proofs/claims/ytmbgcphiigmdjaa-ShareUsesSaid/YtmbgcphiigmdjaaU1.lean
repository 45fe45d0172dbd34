/-
  Parts: UParts UAdd UPut UAlive UActs UPlay UUsers.
-/
import Derived.Test.YtmbgcphiigmdjaaU0
import Derived.Test.YtmbgcphiigmdjaaS1
import Derived.Test.YtmbgcphiigmdjaaSIterZ
import Derived.Test.YtmbgcphiigmdjaaSSortM
import Derived.Shelf.SlIter.Nil
import Derived.Shelf.SortM.Plain
import Derived.Shelf.SortM.SortNone
import Derived.WideKeyRuns
set_option linter.unusedSimpArgs false
set_option linter.unusedVariables false
/-
  The parts of 1000 that are used, and those that are not, by the program.
-/
namespace Go.Proofs.Ytmbgcphiigmdjaa
open Go.RowKit Ss Ds

set_option maxRecDepth 100000 in
set_option maxHeartbeats 4000000 in
theorem parts_any (u t : Int) (w : World) (hu : 0 ≤ u) (ht : u ≤ t) (h0 : t ≠ 0) (h1 : u ≤ 1152921504606846976) (h2 : t ≤ 9223372036854775807) :
    Calls Try.prog 33 #[.int .i64 u, .int .i64 t] w fun e w' => e = .returned (.int .i64 (partsP u t)) ∧ Below w.heap.size w w' := by
  obtain ⟨hp0, hp1⟩ := parts_facts hu ht h0
  obtain ⟨a, rfl⟩ : ∃ q : Nat, u = q := ⟨u.toNat, by omega⟩
  obtain ⟨b, rfl⟩ : ∃ q : Nat, t = q := ⟨t.toNat, by omega⟩
  have hb : 0 < b := by omega
  have M : ∀ w, Calls Try.prog 54 #[.int .u64 (a : Int), .int .u64 1000] w fun e w' => e = .returned (.tuple #[.int .u64 ((a * 1000 / 18446744073709551616 : Nat) : Int), .int .u64 ((a * 1000 % 18446744073709551616 : Nat) : Int)]) ∧ w' = w := fun w => Try.bits_Mul64 a 1000 (by omega) (by omega) w
  have hH : a * 1000 / 18446744073709551616 < b := by omega
  have D := fun w => Div64_any (a * 1000 / 18446744073709551616) (a * 1000 % 18446744073709551616) b hH (Nat.mod_lt _ (by omega)) (by omega) w
  have hj : a * 1000 / 18446744073709551616 * 18446744073709551616 + a * 1000 % 18446744073709551616 = a * 1000 := Nat.div_add_mod' _ _
  rw [hj] at D
  have hq : a * 1000 / b ≤ 1000 := Nat.div_le_of_le_mul (by omega)
  have hpp : partsP (a : Int) (b : Int) = ((a * 1000 / b + (if a * 1000 % b = 0 then 0 else 1) : Nat) : Int) := by unfold partsP; rw [Int.toNat_natCast, Int.toNat_natCast]
  rw [hpp] at hp0 hp1 ⊢
  generalize a * 1000 / 18446744073709551616 = H at *
  generalize a * 1000 % 18446744073709551616 = L at *
  generalize a * 1000 / b = q at *
  generalize a * 1000 % b = r at *
  have ea : IntKind.u64.wrap (a : Int) = a := by rw [IntKind.wrap_u64]; omega
  have eb : IntKind.u64.wrap (b : Int) = b := by rw [IntKind.wrap_u64]; omega
  clear hpp hj hu ht hb h0 h1
  by_cases hr : r = 0
  · subst hr
    rw [if_pos rfl] at hp1 ⊢
    rw [Nat.add_zero] at hp1 ⊢
    go_enter Try.func33, Try.ntmps33
    go_wp2_with (first
      | (go_at_call 54; (with_reducible refine (M _).mono ?_); rintro e w' ⟨rfl, rfl⟩)
      | (go_at_call 55; (with_reducible refine (D _).mono ?_); rintro e w' ⟨rfl, n, rfl⟩))
    go_ret
    exact ⟨rfl, below_drewN (Below.refl _ _) n⟩
  · rw [if_neg hr] at hp1 ⊢
    have r0 : (r : Int) > 0 := by omega
    have e1 : IntKind.u64.wrap ((q : Int) + 1) = ((q + 1 : Nat) : Int) := by rw [IntKind.wrap_u64]; omega
    go_enter Try.func33, Try.ntmps33
    go_wp2_with (first
      | (go_at_call 54; (with_reducible refine (M _).mono ?_); rintro e w' ⟨rfl, rfl⟩)
      | (go_at_call 55; (with_reducible refine (D _).mono ?_); rintro e w' ⟨rfl, n, rfl⟩))
    go_ret
    exact ⟨rfl, below_drewN (Below.refl _ _) n⟩
set_option maxRecDepth 100000 in
set_option maxHeartbeats 4000000 in
theorem Factor_any {w : World} {p m : Nat} {h : Int} {M : List Usr} (l : LB w p m h M) (hh : halfB h) (hg : Good M) (s : Str) (now : Int) :
    Calls Try.prog 18 #[.pointer (some ⟨p, 0, none⟩), .string (str s), .int .i64 now] w (IntP w (factorP h M s now)) := by
  have hu := Used_any l hh hg s now
  have hto := fun W (b : Below w.heap.size w W) => Total_any (l.below b) hh hg now
  have hpa := fun (he : (usedP h M s now).2 = 0) (ht : (totalP h M now).1 ≠ 0) W => parts_any (usedP h M s now).1 (totalP h M now).1 W (used_total hh.1 hg he).1 (used_total hh.1 hg he).2.2.2.1 ht (used_total hh.1 hg he).2.1 (used_total hh.1 hg he).2.2.2.2
  have hub := fun (he : (usedP h M s now).2 = 0) (ht : (totalP h M now).1 ≠ 0) => parts_facts (used_total hh.1 hg he).1 (used_total hh.1 hg he).2.2.2.1 ht
  unfold factorP
  unfold IntP at *
  generalize usedP h M s now = u at *
  generalize totalP h M now = t at *
  obtain ⟨u1, ue⟩ := u
  obtain ⟨t1, te⟩ := t
  simp only at *
  replace l := fhid l
  by_cases he : ue = 0
  · subst he
    rw [if_neg (by simp)]
    by_cases ht : t1 = 0
    · subst ht
      rw [if_pos rfl]
      clear hpa hub
      go_enter Try.func18, Try.ntmps18
      go_wp2_with (first
        | (go_at_call 16; (with_reducible refine hu.mono ?_); rintro e w1 ⟨rfl, b1⟩)
        | (go_at_call 20; (with_reducible refine (hto _ b1).mono ?_); rintro e w2 ⟨rfl, b2⟩))
      go_ret2
      exact ⟨rfl, b1.trans (b2.mono b1.size)⟩
    · rw [if_neg ht]
      have hpb := hpa rfl ht
      obtain ⟨k0, k1⟩ := hub rfl ht
      clear hub hpa
      generalize partsP u1 t1 = q at *
      have bt : (t1 == 0) = false := by simpa using ht
      go_enter Try.func18, Try.ntmps18
      go_wp2_with (first
        | (go_at_call 16; (with_reducible refine hu.mono ?_); rintro e w1 ⟨rfl, b1⟩)
        | (go_at_call 20; (with_reducible refine (hto _ b1).mono ?_); rintro e w2 ⟨rfl, b2⟩)
        | (go_at_call 33; (with_reducible refine (hpb _).mono ?_); rintro e w3 ⟨rfl, b3⟩))
      go_ret2
      exact ⟨rfl, (b1.trans (b2.mono b1.size)).trans (b3.mono (Nat.le_trans b1.size b2.size))⟩
  · rw [if_pos he]
    have bt : (ue != 0) = true := by simpa using he
    clear hpa hub hto
    go_enter Try.func18, Try.ntmps18
    go_wp2_with (go_at_call 16; (with_reducible refine hu.mono ?_); rintro e w1 ⟨rfl, b1⟩)
    go_ret2
    exact ⟨rfl, b1⟩
end Go.Proofs.Ytmbgcphiigmdjaa
/-
  One's use added to, by the program; a new ledger.
-/
namespace Go.Proofs.Ytmbgcphiigmdjaa
open Go.RowKit Ss Ds

/-- What a call of Add comes to. -/
def AddPost (w : World) (p m : Nat) (h : Int) (r : List Usr × Int) (e : Ending) (w' : World) : Prop := e = .returned (.int .i64 r.2) ∧ LB w' p m h r.1 ∧ w.grownBy w' (some m)
set_option maxRecDepth 100000 in
set_option maxHeartbeats 4000000 in
/-- Where the time, or the user, is refused. -/
theorem Add_bad {w : World} {pa : Option Addr} {s : Str} {am now : Int} {E : Int} {v : Value} (hE : E ≠ 0) (hv : ∃ a t : Int, v = .agg #[.int .i64 a, .int .i64 t]) (h : Calls Try.prog 29 #[.pointer pa, .string (str s), .int .i64 now] w fun e w' => e = .returned (.tuple #[v, .int .i64 E]) ∧ Below w.heap.size w w') :
    Calls Try.prog 14 #[.pointer pa, .string (str s), .int .i64 am, .int .i64 now] w fun e w' => e = .returned (.int .i64 E) ∧ Below w.heap.size w w' := by
  obtain ⟨a, t, rfl⟩ := hv
  have bE : (E != 0) = true := by simpa using hE
  go_enter Try.func14, Try.ntmps14
  go_wp2_with (go_at_call 29; (with_reducible refine h.mono ?_); rintro e w' ⟨rfl, b1⟩)
  go_ret
  exact ⟨rfl, b1.alloc b1.size _⟩
set_option maxRecDepth 100000 in
set_option maxHeartbeats 8000000 in
theorem Add_name {w : World} {p m : Nat} {h : Int} {M : List Usr} (l : LB w p m h M) {s : Str} {am now a t : Int} (hn : ¬ nameB s am) (hsl : s.length ≤ 9223372036854775807) (hat : Calls Try.prog 29 #[.pointer (some ⟨p, 0, none⟩), .string (str s), .int .i64 now] w fun e w' => e = .returned (.tuple #[.agg #[.int .i64 a, .int .i64 t], .int .i64 0]) ∧ Below w.heap.size w w') :
    Calls Try.prog 14 #[.pointer (some ⟨p, 0, none⟩), .string (str s), .int .i64 am, .int .i64 now] w fun e w' => e = .returned (.int .i64 1) ∧ Below w.heap.size w w' := by
  clear l
  have hz := str_size s
  by_cases h0 : s = []
  · subst h0
    have se : str [] = ⟨#[]⟩ := rfl
    rw [se] at hat ⊢
    go_enter Try.func14, Try.ntmps14
    go_wp2_with (go_at_call 29; (with_reducible refine hat.mono ?_); rintro e w' ⟨rfl, b1⟩)
    go_ret
    exact ⟨rfl, b1.alloc b1.size _⟩
  · have hemp : s.isEmpty = false := by simpa using h0
    have hne : (str s).toList = s := by rw [ByteArray.toList_eq]; rfl
    have hW : ((s.length : Int) > 16 ∨ (¬ (s.length : Int) > 16 ∧ am < 0) ∨ (¬ (s.length : Int) > 16 ∧ ¬ am < 0 ∧ am > 1099511627776)) := by
      unfold nameB at hn
      by_cases h1 : (s.length : Int) > 16
      · exact .inl h1
      · by_cases h2 : am < 0
        · exact .inr (.inl ⟨h1, h2⟩)
        · refine .inr (.inr ⟨h1, h2, ?_⟩)
          by_cases h3 : am > 1099511627776
          · exact h3
          · exact absurd ⟨h0, by omega, by omega, by omega⟩ hn
    clear hn h0
    obtain h1 | ⟨h1, h2⟩ | ⟨h1, h2, h3⟩ := hW
    all_goals
      go_enter Try.func14, Try.ntmps14
      go_wp2_with (go_at_call 29; (with_reducible refine hat.mono ?_); rintro e w' ⟨rfl, b1⟩)
      go_ret
      exact ⟨rfl, b1.alloc b1.size _⟩
set_option maxRecDepth 100000 in
set_option maxHeartbeats 8000000 in
theorem Add_full {w : World} {p m : Nat} {h : Int} {M : List Usr} (l : LB w p m h M) {s : Str} {am now a t : Int} (hn : nameB s am) (hl : lookG s M = none) (hM : M.length = 1024) (hat : Calls Try.prog 29 #[.pointer (some ⟨p, 0, none⟩), .string (str s), .int .i64 now] w fun e w' => e = .returned (.tuple #[.agg #[.int .i64 a, .int .i64 t], .int .i64 0]) ∧ Below w.heap.size w w') :
    Calls Try.prog 14 #[.pointer (some ⟨p, 0, none⟩), .string (str s), .int .i64 am, .int .i64 now] w fun e w' => e = .returned (.int .i64 5) ∧ Below w.heap.size w w' := by
  have hz := str_size s
  obtain ⟨n0, n1, n2, n3⟩ := hn
  have hemp : s.isEmpty = false := by simpa using n0
  have hne : (str s).toList = s := by rw [ByteArray.toList_eq]; rfl
  have h1 : ¬ (s.length : Int) > 16 := by omega
  have h2 : ¬ am < 0 := by omega
  have h3 : ¬ am > 1099511627776 := by omega
  clear n0
  go_enter Try.func14, Try.ntmps14
  go_upto_region 6 with (go_at_call 29; (with_reducible refine hat.mono ?_); rintro e w' ⟨rfl, b1⟩)
  have b2 := fhid (b1.alloc b1.size (.cells #[.int .i64 a, .int .i64 t] TUse))
  have l2 := l.below b2.out
  clear b1 l hat
  generalize w'.alloc _ = w2 at *
  have hlk := run_sm_look true Try.underlying59 Try.underlying9 (zeroUse w2) l2.2 s
  rw [look_UL, hl] at hlk
  simp only [Option.map_none, Option.getD_none, Option.isSome_none, if_true] at hlk
  unfold useV at hlk
  have b3 := fhid (b2.out.alloc b2.out.size (.cells #[.int .i64 0, .int .i64 0] TUse))
  have l3 := l2.alloc (.cells #[.int .i64 0, .int .i64 0] TUse)
  obtain ⟨c0, c1, _, _⟩ := l2.cells
  have hp2 := l2.lt.1
  replace l2 := fhid l2
  replace l3 := fhid l3
  go_upto_region 7 with fail
  generalize w2.alloc _ = w3 at *
  clear hlk c0 c1 l2
  obtain ⟨c0, c1, _, _⟩ := l3.out.cells
  have hlen := fun T => l3.out.2.len (M := TMap) (by kernel_rfl) T
  rw [UL_len, hM] at hlen
  have hp3 := l3.out.lt.1
  go_wp2_with fail
  go_ret
  exact ⟨rfl, b3.out⟩
end Go.Proofs.Ytmbgcphiigmdjaa
/-
  One's use added to, by the program: what is put; a new ledger.
-/
namespace Go.Proofs.Ytmbgcphiigmdjaa
open Go.RowKit Ss Ds

set_option maxRecDepth 100000 in
set_option maxHeartbeats 8000000 in
theorem Add_put {w : World} {p m : Nat} {h : Int} {M : List Usr} (l : LB w p m h M) {s : Str} {am now a t : Int} (hn : nameB s am) (ha : 0 ≤ a ∧ a ≤ 1152921504606846976) (hl : ¬ (lookG s M = none ∧ M.length = 1024)) (hat : Calls Try.prog 29 #[.pointer (some ⟨p, 0, none⟩), .string (str s), .int .i64 now] w fun e w' => e = .returned (.tuple #[.agg #[.int .i64 a, .int .i64 t], .int .i64 0]) ∧ Below w.heap.size w w') :
    Calls Try.prog 14 #[.pointer (some ⟨p, 0, none⟩), .string (str s), .int .i64 am, .int .i64 now] w (AddPost w p m h (putG s (capI (a + am), t) M, 0)) := by
  have hz := str_size s
  obtain ⟨n0, n1, n2, n3⟩ := hn
  obtain ⟨ha0, ha1⟩ := ha
  have hemp : s.isEmpty = false := by simpa using n0
  have hne : (str s).toList = s := by rw [ByteArray.toList_eq]; rfl
  have h1 : ¬ (s.length : Int) > 16 := by omega
  have h2 : ¬ am < 0 := by omega
  have h3 : ¬ am > 1099511627776 := by omega
  clear n0
  unfold AddPost
  simp only
  have hmin := fhid (show min (a + am) 1152921504606846976 = capI (a + am) by unfold capI; split <;> omega)
  generalize capI (a + am) = cp at *
  go_enter Try.func14, Try.ntmps14
  go_upto_region 6 with (go_at_call 29; (with_reducible refine hat.mono ?_); rintro e w' ⟨rfl, b1⟩)
  have b2 := fhid (b1.alloc b1.size (.cells #[.int .i64 a, .int .i64 t] TUse))
  have l2 := l.below b2.out
  have X2 : Box (w'.alloc (.cells #[.int .i64 a, .int .i64 t] TUse)) w'.heap.size TUse [.int .i64 a, .int .i64 t] := Box.new w' TUse _
  have hbp := fhid (show p ≠ w'.heap.size ∧ m ≠ w'.heap.size ∧ w.heap.size ≤ w'.heap.size from ⟨by have := l.lt.1; have := b1.size; omega, by have := l.lt.2; have := b1.size; omega, b1.size⟩)
  clear b1 hat
  replace l := fhid l
  generalize w'.alloc _ = w2 at *
  generalize w'.heap.size = g at *
  have hlk := run_sm_look (w := w2) true Try.underlying59 Try.underlying9 (zeroUse w2) l2.2 s
  rw [look_UL] at hlk
  have hU : ∃ (x y : Int) (th : Bool), (Instr.lookup TMap (.map (some m)) (.string (str s)) true).run Try.prog w2 = .ok (.tuple #[.agg #[.int .i64 x, .int .i64 y], .bool th]) w2 ∧ (th = true ∨ (th = false ∧ ((M.length : Int) == 1024) = false)) := by
    cases hlu : lookG s M with
    | none =>
      rw [hlu] at hlk
      refine ⟨0, 0, false, hlk, .inr ⟨rfl, ?_⟩⟩
      have : M.length ≠ 1024 := fun e => hl ⟨hlu, e⟩
      simp
      omega
    | some u =>
      rw [hlu] at hlk
      exact ⟨u.1, u.2, true, hlk, .inl rfl⟩
  clear hlk hl
  obtain ⟨x, y, th, hlk, hth⟩ := hU
  have b3 := fhid (b2.out.alloc b2.out.size (.cells #[.int .i64 x, .int .i64 y] TUse))
  have l3 := fhid (l2.alloc (.cells #[.int .i64 x, .int .i64 y] TUse))
  have X3 := fhid (box_alloc X2 (.cells #[.int .i64 x, .int .i64 y] TUse))
  obtain ⟨c0, c1, _, _⟩ := l2.cells
  have hp2 := l2.lt.1
  replace l2 := fhid l2
  replace X2 := fhid X2
  go_upto_region 7 with fail
  generalize w2.alloc _ = w3 at *
  clear hlk c0 c1 l2 X2 hp2 b2
  have hlen := fun T => l3.out.2.len (M := TMap) (by kernel_rfl) T
  rw [UL_len] at hlen
  obtain ⟨c0, c1, _, _⟩ := l3.out.cells
  have hp3 := l3.out.lt.1
  have x0 := X3.out.cell 0
  have x1 := X3.out.cell 1
  have z0 := X3.out.free 0
  have hx3 := X3.out.lt
  simp only [List.getElem?_cons_zero, List.getElem?_cons_succ] at x0 x1
  have hadd : IntKind.i64.wrap (a + am) = a + am := IntWalk.i64_in _ (by omega)
  have X4 := fhid (X3.out.set 0 (.int .i64 cp))
  have l4 := fhid (l3.out.set (b := g) (j := 0) hbp.out.1 hbp.out.2.1 (.int .i64 cp))
  have b4 := fhid (b3.out.setCell (p := ⟨g, 0, none⟩) hbp.out.2.2 (.int .i64 cp))
  rcases hth with rfl | ⟨rfl, hf⟩
  all_goals
    go_upto_region 10 with fail
    rw [hmin.out]
    clear x0 x1 z0 c0 c1 hp3 hx3 hlen l3 X3 b3
    generalize w3.setCell _ _ = w4 at *
    have l5 : LB w4.drew p m h M := l4.out.below ((Below.refl _ _).drew)
    have X5 := fhid (show Box w4.drew g TUse [.int .i64 cp, .int .i64 t] from X4.out)
    have b5 := fhid (show Below w.heap.size w w4.drew from b4.out.drew)
    clear l4 X4 b4
    obtain ⟨c0, c1, _, _⟩ := l5.cells
    have hp5 := l5.lt.1
    have x0 := X5.out.cell 0
    have x1 := X5.out.cell 1
    have hx5 := X5.out.lt
    simp only [List.getElem?_cons_zero, List.getElem?_cons_succ] at x0 x1
    obtain ⟨w6, hrun, hS, hg, hz6⟩ := run_sm_put Try.underlying59 Try.underlying9 l5.2 s (useV (cp, t))
    have hS6 := fhid hS
    have hg6 := fhid hg
    have hp6 := fhid (hg.block p l5.lt.1 (by intro e; injection e with e; exact l5.ne e))
    replace l5 := fhid l5
    unfold useV at hrun
    simp only at hrun
    clear hS hg hz6
    go_region
    all_goals
      go_wp2_with fail
      go_ret
      exact ⟨rfl, ⟨l5.out.1.keep hp6.out, by rw [← put_UL]; exact hS6.out⟩, grown_trans (below_grown b5.out) hg6.out⟩
set_option maxRecDepth 100000 in
set_option maxHeartbeats 4000000 in
theorem Add_any {w : World} {p m : Nat} {h : Int} {M : List Usr} (l : LB w p m h M) (hh : halfB h) (hg : Good M) (s : Str) (am now : Int) (hsl : s.length ≤ 9223372036854775807) :
    Calls Try.prog 14 #[.pointer (some ⟨p, 0, none⟩), .string (str s), .int .i64 am, .int .i64 now] w (AddPost w p m h (addP h M s am now)) := by
  have hat := at_any l hh hg s now
  have hf := at_facts (s := s) (now := now) hh.1 hg
  have he := at_err h M s now
  unfold addP
  unfold UseP at hat
  generalize atP h M s now = r at *
  obtain ⟨⟨a, t⟩, e⟩ := r
  simp only at *
  by_cases h0 : e = 0
  · subst h0
    obtain ⟨_, f0, f1, f2, f3⟩ := hf rfl
    rw [if_neg (by simp)]
    by_cases hn : nameB s am
    · rw [if_pos hn]
      by_cases hl : lookG s M = none ∧ M.length = 1024
      · rw [if_pos hl]
        exact (Add_full l hn hl.1 hl.2 hat).mono fun e w' ⟨h1, h2⟩ => ⟨h1, l.below h2, below_grown h2⟩
      · rw [if_neg hl]
        exact Add_put l hn ⟨f0, f1⟩ hl hat
    · rw [if_neg hn]
      exact (Add_name l hn hsl hat).mono fun e w' ⟨h1, h2⟩ => ⟨h1, l.below h2, below_grown h2⟩
  · rw [if_pos h0]
    exact (Add_bad h0 ⟨_, _, rfl⟩ hat).mono fun e w' ⟨h1, h2⟩ => ⟨h1, l.below h2, below_grown h2⟩
/-- What a call of New comes to. -/
def NewPost (w : World) (h : Int) (e : Ending) (w' : World) : Prop :=
  (halfB h ∧ ∃ p m, e = .returned (.tuple #[.pointer (some ⟨p, 0, none⟩), .int .i64 0]) ∧ w.heap.size ≤ p ∧ w.heap.size ≤ m ∧ LB w' p m h [] ∧ Below w.heap.size w w') ∨
  (¬ halfB h ∧ e = .returned (.tuple #[.pointer none, .int .i64 1]) ∧ w' = w)
set_option maxRecDepth 100000 in
set_option maxHeartbeats 4000000 in
theorem New_any (h : Int) (w : World) : Calls Try.prog 10 #[.int .i64 h] w (NewPost w h) := by
  by_cases h0 : h < 1
  · go_enter Try.func10, Try.ntmps10
    go_wp2
    go_ret2
    unfold NewPost
    exact .inr ⟨by unfold halfB; omega, rfl, rfl⟩
  · by_cases h1 : h > 1000000
    · go_enter Try.func10, Try.ntmps10
      go_wp2
      go_ret2
      unfold NewPost
      exact .inr ⟨by unfold halfB; omega, rfl, rfl⟩
    · have hh := fhid (show halfB h from ⟨by omega, by omega⟩)
      have hmm := @run_makeMap Try.prog
      have m0 := fhid (SM.new w)
      go_enter Try.func10, Try.ntmps10
      go_wp2
      go_ret2
      unfold NewPost
      exact .inl ⟨hh.out, w.heap.size + 1, w.heap.size, rfl, by omega, Nat.le_refl _, ⟨by have := Box.new (w.alloc (.map #[] 0)) TLed [.int .i64 h, .map (some w.heap.size)]; rwa [World.size_alloc] at this, m0.out.keep (Below.heap_alloc _ _ _ (by rw [World.size_alloc]; omega))⟩, ((Below.refl _ _).alloc (Nat.le_refl _) _).alloc (by rw [World.size_alloc]; omega) _⟩
end Go.Proofs.Ytmbgcphiigmdjaa
/-
  What each statement asks beside: what was used is halved; a ledger that nobody made.
-/
namespace Go.Proofs.Ytmbgcphiigmdjaa
open Go.RowKit Ss Ds

theorem New_yes (h : Int) (w : World) (hh : halfB h) : Calls Try.prog 10 #[.int .i64 h] w fun e w' => ∃ p m, e = .returned (.tuple #[.pointer (some ⟨p, 0, none⟩), .int .i64 0]) ∧ w.heap.size ≤ p ∧ w.heap.size ≤ m ∧ LB w' p m h [] ∧ Below w.heap.size w w' :=
  (New_any h w).mono fun e w' hP => by
    rcases hP with ⟨_, h1⟩ | ⟨h1, _⟩
    · exact h1
    · exact absurd hh h1
theorem New_no (h : Int) (w : World) (hh : ¬ halfB h) : Calls Try.prog 10 #[.int .i64 h] w fun e w' => e = .returned (.tuple #[.pointer none, .int .i64 1]) ∧ w' = w :=
  (New_any h w).mono fun e w' hP => by
    rcases hP with ⟨h1, _⟩ | ⟨_, h1⟩
    · exact absurd h1 hh
    · exact h1
def ann : Str := [97, 110, 110]
def bob : Str := [98, 111, 98]
def MA : List Usr := [(ann, 100, 0)]
theorem half10 : halfB 10 := by unfold halfB; decide
theorem alive_add : addP 10 [] ann 100 0 = (MA, 0) := by decide
theorem good_MA : Good MA := by
  have := add_good (h := 10) (M := []) (s := ann) (am := 100) (now := 0) (by decide) Good.nil
  rwa [alive_add] at this
theorem alive_u9 : usedP 10 MA ann 9 = (100, 0) := by decide
theorem alive_u25 : usedP 10 MA ann 25 = (25, 0) := by decide
theorem alive_f : factorP 10 MA bob 3 = (1000, 0) := by decide
set_option maxRecDepth 100000 in
set_option maxHeartbeats 4000000 in
theorem alive_any (w : World) : Calls Try.prog 12 #[] w fun e w' => e = .returned (.bool true) ∧ Below w.heap.size w w' := by
  have hnew := New_yes 10 w half10
  have hadd := fun W p m (l : LB W p m 10 []) => Add_any l half10 Good.nil ann 100 0 (by decide)
  have hu := fun W p m now (l : LB W p m 10 MA) => Used_any l half10 good_MA ann now
  have hf := fun W p m (l : LB W p m 10 MA) => Factor_any l half10 good_MA bob 3
  have sa : str ann = ⟨#[97, 110, 110]⟩ := rfl
  have sb : str bob = ⟨#[98, 111, 98]⟩ := rfl
  rw [alive_add] at hadd
  rw [alive_f] at hf
  have hu9 := fun W p m (l : LB W p m 10 MA) => hu W p m 9 l
  have hu25 := fun W p m (l : LB W p m 10 MA) => hu W p m 25 l
  rw [alive_u9] at hu9
  rw [alive_u25] at hu25
  rw [sa] at hadd hu9 hu25
  rw [sb] at hf
  unfold AddPost at hadd
  unfold IntP at hu9 hu25 hf
  simp only at hadd hu9 hu25 hf
  clear hu sa sb
  generalize MA = M at *
  go_enter Try.func12, Try.ntmps12
  go_wp2_with (first
    | (go_at_call 10; (with_reducible refine hnew.mono ?_); rintro e w1 ⟨p, m, rfl, p0, m0, l1, b1⟩)
    | (go_at_call 14; (with_reducible refine (hadd _ _ _ l1).mono ?_); rintro e w2 ⟨rfl, l2, g2⟩
       have b2 := fhid (b1.trans (grown_below (B := w.heap.size) g2 m0 b1.size)); clear l1 b1 g2; replace l2 := fhid l2)
    | (go_at_call 16; (with_reducible refine (hu9 _ _ _ l2.out).mono ?_); rintro e w3 ⟨rfl, b3⟩
       have l3 := fhid (l2.out.below b3); have b3 := fhid (b2.out.trans (b3.mono b2.out.size)); clear l2 b2)
    | (go_at_call 16; (with_reducible refine (hu25 _ _ _ l3.out).mono ?_); rintro e w4 ⟨rfl, b4⟩
       have l4 := fhid (l3.out.below b4); have b4 := fhid (b3.out.trans (b4.mono b3.out.size)); clear l3 b3)
    | (go_at_call 18; (with_reducible refine (hf _ _ _ l4.out).mono ?_); rintro e w5 ⟨rfl, b5⟩
       have b5 := fhid (b4.out.trans (b5.mono b4.out.size)); clear l4 b4))
  go_ret
  exact ⟨rfl, b5.out⟩
/-! A ledger that nobody made. -/
section
variable {pa : Option Addr}
/-- Nobody made it, and nobody does. -/
def NoM (w : World) (pa : Option Addr) : Prop := ∀ W, Below w.heap.size w W → NoMade W pa
theorem NoM.below {w w' : World} (h : NoM w pa) (hb : Below w.heap.size w w') : NoM w' pa := fun W hW => h W (hb.trans (hW.mono hb.size))
end
end Go.Proofs.Ytmbgcphiigmdjaa
/-
  Acts, and scripts of them, in memory.
-/
namespace Go.Proofs.Ytmbgcphiigmdjaa
open Go.RowKit Ss Ds

abbrev TAct : TypeId := 24
/-- An act: a name, an amount, a time. -/
abbrev Act3 := Str × Int × Int
def actV (a : Act3) : List Value := [.string (str a.1), .int .i64 a.2.1, .int .i64 a.2.2]
theorem actV_len (a : Act3) : (actV a).length = 3 := rfl
/-- Their cells, in a row. -/
def AVs (l : List Act3) : List Value := l.flatMap actV
theorem flat_len {α : Type} (f : α → List Value) (k : Nat) (hf : ∀ x, (f x).length = k) : ∀ l : List α, (l.flatMap f).length = l.length * k
  | [] => by simp
  | x :: l => by rw [List.flatMap_cons, List.length_append, hf, flat_len f k hf l, List.length_cons, Nat.succ_mul]; omega
theorem AVs_len (l : List Act3) : (AVs l).length = l.length * 3 := flat_len actV 3 actV_len l
theorem AVs_get : ∀ (l : List Act3) (j : Nat) (h : j < l.length) (i : Nat), i < 3 → (AVs l)[j * 3 + i]? = (actV l[j])[i]?
  | [], j, h, _, _ => absurd h (Nat.not_lt_zero j)
  | x :: l, 0, _, i, hi => by
    show (actV x ++ AVs l)[0 * 3 + i]? = _
    rw [Nat.zero_mul, Nat.zero_add, List.getElem?_append_left (by rw [actV_len]; exact hi)]
    rfl
  | x :: l, j + 1, h, i, hi => by
    show (actV x ++ AVs l)[(j + 1) * 3 + i]? = _
    rw [List.getElem?_append_right (by rw [actV_len]; omega), actV_len, show (j + 1) * 3 + i - 3 = j * 3 + i by omega, AVs_get l j (by simpa using h) i hi]
    rfl
/-- A row that reads so. -/
def RdS (w : World) (A : Option Addr) (n cap : Nat) (xs : List Value) : Prop := n ≤ cap ∧ cap ≤ maxLen ∧ SegC w w.heap.size A xs
theorem RdS.below {w w' : World} {A : Option Addr} {n cap : Nat} {xs : List Value} (h : RdS w A n cap xs) (hb : Below w.heap.size w w') : RdS w' A n cap xs := ⟨h.1, h.2.1, (h.2.2.below hb).more hb.size⟩
/-- One act of a script. -/
theorem act_at {w : World} {A : Option Addr} {cap : Nat} {l : List Act3} (h : RdS w A l.length cap (AVs l)) {j : Nat} (hj : j < l.length) :
    ∃ b o, A = some ⟨b, o, none⟩ ∧ b < w.heap.size ∧ w.cell? ⟨b, o + j * 3, none⟩ = some (.string (str l[j].1)) ∧ w.cell? ⟨b, o + j * 3 + 1, none⟩ = some (.int .i64 l[j].2.1) ∧ w.cell? ⟨b, o + j * 3 + 2, none⟩ = some (.int .i64 l[j].2.2) := by
  obtain ⟨b, o, e, hb, hc⟩ := h.2.2 (by rw [AVs_len]; omega)
  have hg : ∀ i, i < 3 → w.cell? ⟨b, o + (j * 3 + i), none⟩ = (actV l[j])[i]? := fun i hi => by
    have hlt : j * 3 + i < (AVs l).length := by rw [AVs_len]; omega
    rw [hc _ hlt, ← List.getElem?_eq_getElem hlt, AVs_get l j hj i hi]
  exact ⟨b, o, e, hb, hg 0 (by omega), hg 1 (by omega), hg 2 (by omega)⟩
/-- An act's name is not too long. -/
def okA (a : Act3) : Prop := a.1.length ≤ maxLen
end Go.Proofs.Ytmbgcphiigmdjaa
/-
  A script that is not too long; what a script comes to.
-/
namespace Go.Proofs.Ytmbgcphiigmdjaa
open Go.RowKit Ss Ds

def shortL (l : List Act3) : List Act3 := l.take 300
theorem short_mem {l : List Act3} {a : Act3} (h : a ∈ shortL l) : a ∈ l := List.mem_of_mem_take h
theorem short_len (l : List Act3) : (shortL l).length ≤ 300 := by unfold shortL; rw [List.length_take]; omega
set_option maxRecDepth 100000 in
set_option maxHeartbeats 1000000 in
theorem short_any (A : Option Addr) (l : List Act3) (cap : Nat) (w : World) (h : RdS w A l.length cap (AVs l)) :
    Calls Try.prog 13 #[.slice A l.length cap] w fun e w' => ∃ c', e = .returned (.slice A (shortL l).length c') ∧ RdS w A (shortL l).length c' (AVs (shortL l)) ∧ w' = w := by
  obtain ⟨h1, h2, h3⟩ := h
  have hl : (shortL l).length = min l.length 300 := by unfold shortL; rw [List.length_take]; omega
  have hp : RdS w A (shortL l).length cap (AVs (shortL l)) := by
    refine ⟨by omega, h2, fun h0 => ?_⟩
    have e : AVs l = AVs (shortL l) ++ AVs (l.drop 300) := by unfold AVs shortL; rw [← List.flatMap_append, List.take_append_drop]
    have hle : (AVs (shortL l)).length ≤ (AVs l).length := by rw [e, List.length_append]; omega
    obtain ⟨b, o, ea, hb, hc⟩ := h3 (by omega)
    refine ⟨b, o, ea, hb, fun j hj => ?_⟩
    rw [hc j (by omega)]
    congr 1
    simp only [e]
    exact List.getElem_append_left hj
  have hm : min (l.length : Int) 300 = ((shortL l).length : Nat) := by rw [hl]; omega
  have hm1 : (0 : Int) ≤ ((shortL l).length : Nat) := by omega
  have hm2 : (((shortL l).length : Nat) : Int) ≤ cap := by rw [hl]; omega
  have hcz : (cap : Int) ≤ 9223372036854775807 := by unfold maxLen at h2; omega
  generalize (shortL l).length = m at *
  generalize AVs (shortL l) = xs at *
  clear h3 hl
  replace hp := fhid hp
  go_enter Try.func13, Try.ntmps13
  go_wp2_with fail
  go_ret
  exact ⟨_, rfl, hp.out, rfl⟩
theorem short_rds {w : World} {A : Option Addr} {l : List Act3} {cp : Nat} (h : RdS w A l.length cp (AVs l)) : RdS w A (shortL l).length cp (AVs (shortL l)) := by
  obtain ⟨h1, h2, h3⟩ := h
  have hl : (shortL l).length = min l.length 300 := by unfold shortL; rw [List.length_take]; omega
  refine ⟨by omega, h2, fun h0 => ?_⟩
  have e : AVs l = AVs (shortL l) ++ AVs (l.drop 300) := by unfold AVs shortL; rw [← List.flatMap_append, List.take_append_drop]
  have hle : (AVs (shortL l)).length ≤ (AVs l).length := by rw [e, List.length_append]; omega
  obtain ⟨b, o, ea, hb, hc⟩ := h3 (by omega)
  refine ⟨b, o, ea, hb, fun j hj => ?_⟩
  rw [hc j (by omega)]
  congr 1
  simp only [e]
  exact List.getElem_append_left hj
/-- What holds behind a script. -/
structure Played (s : List Usr × Int) : Prop where
  good : Good s.1
  till : Till s.1 s.2
  t0 : 0 ≤ s.2
  t1 : s.2 ≤ 1099511627776
theorem Played.start : Played ([], 0) := ⟨Good.nil, (fun _ h => by cases h), Int.le_refl _, (show (0 : Int) ≤ 1099511627776 by decide)⟩
end Go.Proofs.Ytmbgcphiigmdjaa
/-
  All users, rising, by the program.
-/
namespace Go.Proofs.Ytmbgcphiigmdjaa
open Go.RowKit Go.Maps Go.MapKept Ss Ds

/-- All names, rising. -/
def namesS (M : List Usr) : List Str := (M.map Prod.fst).mergeSort fun x y => decide (x ≤ y)
theorem names_perm (M : List Usr) : (namesS M).Perm (M.map Prod.fst) := List.mergeSort_perm _ _
theorem names_len (M : List Usr) : (namesS M).length = M.length := by rw [(names_perm M).length_eq, List.length_map]
/-- Names, as cells. -/
def SV (ns : List Str) : List Value := ns.map fun s => .string (str s)
theorem SV_len (ns : List Str) : (SV ns).length = ns.length := List.length_map _
abbrev TStr : TypeId := 9
def OwnS (w : World) (base : Nat) (v : Value) (ns : List Str) : Prop := w.ownsRow base TStr 1 v ns.length (SV ns)
theorem OwnS.shape {w : World} {base : Nat} {v : Value} {ns : List Str} (h : OwnS w base v ns) : ∃ A cap, v = .slice A ns.length cap ∧ ns.length ≤ cap ∧ cap ≤ maxLen ∧ SegC w w.heap.size A (SV ns) := ownsRow_shape h
/-- How an entry's value reads: as anything. -/
def RAny : Value → Option (DataW Unit × List MemPlace) := fun _ => some (.lit (.bool true), [])
theorem keyOf_str {s : Str} (h : s.length ≤ maxLen) : keyOf Try.prog TStr (.string (str s)) = some (.string s) := by
  have hz : (str s).size ≤ maxLen := by rw [str_size]; exact h
  simp [keyOf, Try.underlying9, mapKey, hz]
  simp [str]
set_option maxRecDepth 100000 in
theorem SM.owns {w : World} {b : Nat} {L : List (Str × Value)} (h : SM w b L) (hl : L.length ≤ maxLen) (hx : ∀ x ∈ L, x.1.length ≤ maxLen) : ∃ D : DataW Unit, w.ownsMap Try.prog TStr RAny b L.length D ∧ (strKeys D).Perm (L.map Prod.fst) ∧ Maps.size D = L.length := by
  obtain ⟨es, clock, hb, hs, he⟩ := h
  have hlen := congrArg List.length he
  rw [List.length_map, List.length_map, Array.length_toList] at hlen
  have hkey : ∀ x ∈ es.toList, ∃ y, y ∈ L ∧ x.key = .string (str y.1) ∧ keyOf Try.prog TStr x.key = some (.string y.1) := fun x hx1 => by
    have hm := List.mem_map_of_mem (f := gE) hx1
    rw [he] at hm
    obtain ⟨y, hy, e2⟩ := List.mem_map.1 hm
    have e3 : Value.string (str y.1) = x.key := congrArg Prod.fst e2
    refine ⟨y, hy, e3.symm, ?_⟩
    rw [← e3]
    exact keyOf_str (hx y hy)
  have hread : ∀ x ∈ es.toList, ∀ y ∈ L, x.key = .string (str y.1) → WideElems.rd Try.prog TStr RAny x = some (.string y.1, .lit (.bool true)) := fun x hx1 y hy e => by
    obtain ⟨z, _, e1, e2⟩ := hkey x hx1
    have : z.1 = y.1 := by rw [e1] at e; injection e with e; exact str_inj e
    unfold WideElems.rd RAny
    rw [e2, this]; rfl
  have F : WideElems.Fit Try.prog TStr RAny es clock := ⟨by omega, hs, fun x hx1 => by
    obtain ⟨y, hy, e1, _⟩ := hkey x hx1
    exact ⟨_, hread x hx1 y hy e1⟩⟩
  refine ⟨_, ⟨es, clock, hb, F, by omega, rfl⟩, ?_, ?_⟩
  · show (((es.toList.map (WideElems.rg Try.prog TStr RAny)).foldr DataW.insert []).map fun p => strOf p.1).Perm (L.map Prod.fst)
    refine ((WideShapes.sorted_perm _).map _).trans ?_
    rw [List.map_map]
    have : es.toList.map ((fun p : Lit × DataW Unit => strOf p.1) ∘ WideElems.rg Try.prog TStr RAny) = L.map Prod.fst := by
      apply List.ext_getElem
      · rw [List.length_map, List.length_map, Array.length_toList, hlen]
      · intro j h1 h2
        rw [List.getElem_map, List.getElem_map]
        have h3 : j < es.toList.length := by simpa using h1
        have h4 : j < L.length := by simpa using h2
        have e4 : (es.toList.map gE)[j]'(by simpa using h3) = (L.map hE)[j]'(by simpa using h4) := by simp only [he]
        rw [List.getElem_map, List.getElem_map] at e4
        have e5 : es.toList[j].key = .string (str L[j].1) := congrArg Prod.fst e4
        have e6 := WideElems.rg_of (hread _ (List.getElem_mem h3) _ (List.getElem_mem h4) e5)
        rw [Function.comp, e6]
        rfl
    rw [this]
  · show ((es.toList.map (WideElems.rg Try.prog TStr RAny)).foldr DataW.insert []).length = _
    rw [length_sorted, List.length_map, Array.length_toList, hlen]
set_option maxRecDepth 100000 in
/-- slices.Sort's two contracts at this dump, at the fence that asks nothing. -/
theorem sortsZ (m : Nat) : AnyZ.SortsIn Try.prog Try.sortedZ_ren Fence.wide m :=
  ⟨fun blk off cap ss W hH hblk hsz => callsIn_wide.2 (Try.slices_Sort_string blk off cap ss W hH hblk hsz),
   fun p cap W => callsIn_wide.2 (Try.slices_Sort_string_none p cap W)⟩
abbrev keysV (w : World) : Value := .func (.func 60) #[] #[.pointer (some ⟨w.heap.size, 0, none⟩)]
set_option maxRecDepth 100000 in
theorem Keys_any (mb : Option Nat) (w : World) : Calls Try.prog 40 #[.map mb] w fun e w' => e = .returned (keysV w) ∧ w' = w.alloc (.cells #[.map mb] TMap) :=
  (callsIn_wide (n := 5)).1 (AnyZ.keys_in Try.keysZ Fence.wide 5 trivial rfl mb w)
/-- Names of the call's own, from a base on. -/
def NamesFrom (w : World) (B : Nat) (l : List Str) (e : Ending) (w' : World) : Prop := ∃ v, e = .returned v ∧ OwnS w' B v l ∧ Below w.heap.size w w'
set_option maxRecDepth 100000 in
/-- The keys, sorted: w is the world ahead of the call of maps.Keys. -/
theorem Sorted_any (b : Nat) (L : List (Str × Value)) (w : World) (h : SM w b L) (hl : L.length ≤ 1024) (hx : ∀ x ∈ L, x.1.length ≤ maxLen) :
    Calls Try.prog 39 #[keysV w] (w.alloc (.cells #[.map (some b)] TMap)) (NamesFrom (w.alloc (.cells #[.map (some b)] TMap)) (w.heap.size + 1) ((L.map Prod.fst).mergeSort fun x y => decide (x ≤ y))) := by
  have hbl := h.lt
  obtain ⟨D0, hown, hperm, hsize⟩ := h.owns (by unfold maxLen; omega) hx
  have hseq : SeqGives Fence.wide 2 Try.prog 60 #[.pointer (some ⟨w.heap.size, 0, none⟩)] encStr (fun ss => ss.Perm (strKeys D0)) (Maps.size D0) (w.alloc (.cells #[.map (some b)] TMap)) :=
    AnyZ.keys_gives (ρ := Try.keysZ_ren) { Try.keysZ with } Fence.wide _ trivial rfl (by omega) w.heap.size b L.length D0 _ (by simp) (by simp) (by
      obtain ⟨es, clock, hb, Ft, hs, hD⟩ := hown
      exact ⟨es, clock, (Below.heap_alloc _ _ b hbl).trans hb, Ft, hs, hD⟩)
  have cS := AnyZ.sorted_in Try.sortedZ Fence.wide 5 trivial trivial trivial trivial rfl (by omega) (sortsZ _) (enters_of Try.func59 (by kernel_rfl) rfl) 60 #[.pointer (some ⟨w.heap.size, 0, none⟩)] trivial (enters_of Try.func60 (by kernel_rfl) rfl) _ _ (by rw [hsize]; unfold maxLen; omega) (by rw [hsize]; omega) _ hseq
  change CallsIn _ _ Try.prog 39 _ _ _ at cS
  refine (callsIn_wide.1 cS).mono ?_
  rintro e w' ⟨v, ss, rfl, hS, hrow, hnil, hb⟩
  have hsl : ss.mergeSort (fun x y => decide (x ≤ y)) = (L.map Prod.fst).mergeSort fun x y => decide (x ≤ y) := mergeSort_of_perm (hS.trans hperm)
  refine ⟨v, rfl, ?_, hb⟩
  have hlen : ss.length = ((L.map Prod.fst).mergeSort fun x y => decide (x ≤ y)).length := by rw [← hsl, List.length_mergeSort]
  rw [hsl, hlen] at hrow
  unfold OwnS
  rw [← World.size_alloc w (.cells #[.map (some b)] TMap)]
  exact hrow
set_option maxRecDepth 100000 in
set_option maxHeartbeats 4000000 in
theorem Users_any {w : World} {p m : Nat} {h : Int} {M : List Usr} (l : LB w p m h M) (hh : halfB h) (hg : Good M) :
    Calls Try.prog 23 #[.pointer (some ⟨p, 0, none⟩)] w (NamesFrom w w.heap.size (namesS M)) := by
  have hr := made_any l hh
  have hk := Keys_any (some m) w
  have hs := Sorted_any m (UL M) w l.2 (by rw [UL_len]; exact hg.len) (fun x hx => by
    obtain ⟨y, hy, rfl⟩ := List.mem_map.1 hx
    have := (hg.each y hy).2.1
    show y.1.length ≤ maxLen
    unfold maxLen
    omega)
  have hm : (UL M).map Prod.fst = M.map Prod.fst := by unfold UL; rw [List.map_map]; rfl
  rw [hm] at hs
  obtain ⟨c0, c1, _, _⟩ := l.cells
  have hp := l.lt.1
  have hb := fhid ((Below.refl w.heap.size w).alloc (Nat.le_refl _) (.cells #[.map (some m)] TMap))
  clear l
  unfold namesS
  generalize ((M.map Prod.fst).mergeSort fun x y => decide (x ≤ y)) = ns at *
  go_enter Try.func23, Try.ntmps23
  go_wp2_with (first
    | (go_at_call 38; (with_reducible refine hr.mono ?_); rintro e w1 ⟨rfl, rfl⟩)
    | (go_at_call 40; (with_reducible refine hk.mono ?_); rintro e w2 ⟨rfl, rfl⟩)
    | (go_at_call 39; (with_reducible refine hs.mono ?_); rintro e w3 ⟨v, rfl, o3, b3⟩))
  go_ret
  exact ⟨_, rfl, ownsRow_base o3 (by omega), hb.out.trans (b3.mono (by rw [World.size_alloc]; omega))⟩
end Go.Proofs.Ytmbgcphiigmdjaa
