/-
  One's use added to, by the program: what is put; a new ledger.
-/
import Derived.Test.YtmbgcphiigmdjaaUAdd
namespace Go.Proofs.Ytmbgcphiigmdjaa
open Go.RowKit Ss Ds

set_option maxRecDepth 100000 in
set_option maxHeartbeats 8000000 in
theorem Add_put {w : World} {p m : Nat} {h : Int} {M : List Usr} (l : LB w p m h M) {s : Str} {am now a t : Int} (hn : nameB s am) (ha : 0 ≤ a ∧ a ≤ 1152921504606846976) (hl : ¬ (lookG s M = none ∧ M.length = 1024)) (hat : Calls Try.prog 29 #[.pointer (some ⟨p, 0, none⟩), .string (str s), .int .i64 now] w fun e w' => e = .returned (.tuple #[.agg #[.int .i64 a, .int .i64 t], .int .i64 0]) ∧ Below w.heap.size w w') :
    Calls Try.prog 14 #[.pointer (some ⟨p, 0, none⟩), .string (str s), .int .i64 am, .int .i64 now] w (AddPost w p m h (putG s (capI (a + am), t) M, 0)) := by
  have hz := str_size s
  obtain ⟨n0, n1, n2, n3⟩ := hn
  obtain ⟨ha0, ha1⟩ := ha
  have hemp : s.isEmpty = false := by simpa using n0
  have hne : (str s).toList = s := by rw [ByteArray.toList_eq]; rfl
  have h1 : ¬ (s.length : Int) > 16 := by omega
  have h2 : ¬ am < 0 := by omega
  have h3 : ¬ am > 1099511627776 := by omega
  clear n0
  unfold AddPost
  simp only
  have hmin := fhid (show min (a + am) 1152921504606846976 = capI (a + am) by unfold capI; split <;> omega)
  generalize capI (a + am) = cp at *
  go_enter Try.func14, Try.ntmps14
  go_upto_region 6 with (go_at_call 29; (with_reducible refine hat.mono ?_); rintro e w' ⟨rfl, b1⟩)
  have b2 := fhid (b1.alloc b1.size (.cells #[.int .i64 a, .int .i64 t] TUse))
  have l2 := l.below b2.out
  have X2 : Box (w'.alloc (.cells #[.int .i64 a, .int .i64 t] TUse)) w'.heap.size TUse [.int .i64 a, .int .i64 t] := Box.new w' TUse _
  have hbp := fhid (show p ≠ w'.heap.size ∧ m ≠ w'.heap.size ∧ w.heap.size ≤ w'.heap.size from ⟨by have := l.lt.1; have := b1.size; omega, by have := l.lt.2; have := b1.size; omega, b1.size⟩)
  clear b1 hat
  replace l := fhid l
  generalize w'.alloc _ = w2 at *
  generalize w'.heap.size = g at *
  have hlk := run_sm_look (w := w2) true Try.underlying59 Try.underlying9 (zeroUse w2) l2.2 s
  rw [look_UL] at hlk
  have hU : ∃ (x y : Int) (th : Bool), (Instr.lookup TMap (.map (some m)) (.string (str s)) true).run Try.prog w2 = .ok (.tuple #[.agg #[.int .i64 x, .int .i64 y], .bool th]) w2 ∧ (th = true ∨ (th = false ∧ ((M.length : Int) == 1024) = false)) := by
    cases hlu : lookG s M with
    | none =>
      rw [hlu] at hlk
      refine ⟨0, 0, false, hlk, .inr ⟨rfl, ?_⟩⟩
      have : M.length ≠ 1024 := fun e => hl ⟨hlu, e⟩
      simp
      omega
    | some u =>
      rw [hlu] at hlk
      exact ⟨u.1, u.2, true, hlk, .inl rfl⟩
  clear hlk hl
  obtain ⟨x, y, th, hlk, hth⟩ := hU
  have b3 := fhid (b2.out.alloc b2.out.size (.cells #[.int .i64 x, .int .i64 y] TUse))
  have l3 := fhid (l2.alloc (.cells #[.int .i64 x, .int .i64 y] TUse))
  have X3 := fhid (box_alloc X2 (.cells #[.int .i64 x, .int .i64 y] TUse))
  obtain ⟨c0, c1, _, _⟩ := l2.cells
  have hp2 := l2.lt.1
  replace l2 := fhid l2
  replace X2 := fhid X2
  go_upto_region 7 with fail
  generalize w2.alloc _ = w3 at *
  clear hlk c0 c1 l2 X2 hp2 b2
  have hlen := fun T => l3.out.2.len (M := TMap) (by kernel_rfl) T
  rw [UL_len] at hlen
  obtain ⟨c0, c1, _, _⟩ := l3.out.cells
  have hp3 := l3.out.lt.1
  have x0 := X3.out.cell 0
  have x1 := X3.out.cell 1
  have z0 := X3.out.free 0
  have hx3 := X3.out.lt
  simp only [List.getElem?_cons_zero, List.getElem?_cons_succ] at x0 x1
  have hadd : IntKind.i64.wrap (a + am) = a + am := IntWalk.i64_in _ (by omega)
  have X4 := fhid (X3.out.set 0 (.int .i64 cp))
  have l4 := fhid (l3.out.set (b := g) (j := 0) hbp.out.1 hbp.out.2.1 (.int .i64 cp))
  have b4 := fhid (b3.out.setCell (p := ⟨g, 0, none⟩) hbp.out.2.2 (.int .i64 cp))
  rcases hth with rfl | ⟨rfl, hf⟩
  all_goals
    go_upto_region 10 with fail
    rw [hmin.out]
    clear x0 x1 z0 c0 c1 hp3 hx3 hlen l3 X3 b3
    generalize w3.setCell _ _ = w4 at *
    have l5 : LB w4.drew p m h M := l4.out.below ((Below.refl _ _).drew)
    have X5 := fhid (show Box w4.drew g TUse [.int .i64 cp, .int .i64 t] from X4.out)
    have b5 := fhid (show Below w.heap.size w w4.drew from b4.out.drew)
    clear l4 X4 b4
    obtain ⟨c0, c1, _, _⟩ := l5.cells
    have hp5 := l5.lt.1
    have x0 := X5.out.cell 0
    have x1 := X5.out.cell 1
    have hx5 := X5.out.lt
    simp only [List.getElem?_cons_zero, List.getElem?_cons_succ] at x0 x1
    obtain ⟨w6, hrun, hS, hg, hz6⟩ := run_sm_put Try.underlying59 Try.underlying9 l5.2 s (useV (cp, t))
    have hS6 := fhid hS
    have hg6 := fhid hg
    have hp6 := fhid (hg.block p l5.lt.1 (by intro e; injection e with e; exact l5.ne e))
    replace l5 := fhid l5
    unfold useV at hrun
    simp only at hrun
    clear hS hg hz6
    go_region
    all_goals
      go_wp2_with fail
      go_ret
      exact ⟨rfl, ⟨l5.out.1.keep hp6.out, by rw [← put_UL]; exact hS6.out⟩, grown_trans (below_grown b5.out) hg6.out⟩
set_option maxRecDepth 100000 in
set_option maxHeartbeats 4000000 in
theorem Add_any {w : World} {p m : Nat} {h : Int} {M : List Usr} (l : LB w p m h M) (hh : halfB h) (hg : Good M) (s : Str) (am now : Int) (hsl : s.length ≤ 9223372036854775807) :
    Calls Try.prog 14 #[.pointer (some ⟨p, 0, none⟩), .string (str s), .int .i64 am, .int .i64 now] w (AddPost w p m h (addP h M s am now)) := by
  have hat := at_any l hh hg s now
  have hf := at_facts (s := s) (now := now) hh.1 hg
  have he := at_err h M s now
  unfold addP
  unfold UseP at hat
  generalize atP h M s now = r at *
  obtain ⟨⟨a, t⟩, e⟩ := r
  simp only at *
  by_cases h0 : e = 0
  · subst h0
    obtain ⟨_, f0, f1, f2, f3⟩ := hf rfl
    rw [if_neg (by simp)]
    by_cases hn : nameB s am
    · rw [if_pos hn]
      by_cases hl : lookG s M = none ∧ M.length = 1024
      · rw [if_pos hl]
        exact (Add_full l hn hl.1 hl.2 hat).mono fun e w' ⟨h1, h2⟩ => ⟨h1, l.below h2, below_grown h2⟩
      · rw [if_neg hl]
        exact Add_put l hn ⟨f0, f1⟩ hl hat
    · rw [if_neg hn]
      exact (Add_name l hn hsl hat).mono fun e w' ⟨h1, h2⟩ => ⟨h1, l.below h2, below_grown h2⟩
  · rw [if_pos h0]
    exact (Add_bad h0 ⟨_, _, rfl⟩ hat).mono fun e w' ⟨h1, h2⟩ => ⟨h1, l.below h2, below_grown h2⟩
/-- What a call of New comes to. -/
def NewPost (w : World) (h : Int) (e : Ending) (w' : World) : Prop :=
  (halfB h ∧ ∃ p m, e = .returned (.tuple #[.pointer (some ⟨p, 0, none⟩), .int .i64 0]) ∧ w.heap.size ≤ p ∧ w.heap.size ≤ m ∧ LB w' p m h [] ∧ Below w.heap.size w w') ∨
  (¬ halfB h ∧ e = .returned (.tuple #[.pointer none, .int .i64 1]) ∧ w' = w)
set_option maxRecDepth 100000 in
set_option maxHeartbeats 4000000 in
theorem New_any (h : Int) (w : World) : Calls Try.prog 10 #[.int .i64 h] w (NewPost w h) := by
  by_cases h0 : h < 1
  · go_enter Try.func10, Try.ntmps10
    go_wp2
    go_ret2
    unfold NewPost
    exact .inr ⟨by unfold halfB; omega, rfl, rfl⟩
  · by_cases h1 : h > 1000000
    · go_enter Try.func10, Try.ntmps10
      go_wp2
      go_ret2
      unfold NewPost
      exact .inr ⟨by unfold halfB; omega, rfl, rfl⟩
    · have hh := fhid (show halfB h from ⟨by omega, by omega⟩)
      have hmm := @run_makeMap Try.prog
      have m0 := fhid (SM.new w)
      go_enter Try.func10, Try.ntmps10
      go_wp2
      go_ret2
      unfold NewPost
      exact .inl ⟨hh.out, w.heap.size + 1, w.heap.size, rfl, by omega, Nat.le_refl _, ⟨by have := Box.new (w.alloc (.map #[] 0)) TLed [.int .i64 h, .map (some w.heap.size)]; rwa [World.size_alloc] at this, m0.out.keep (Below.heap_alloc _ _ _ (by rw [World.size_alloc]; omega))⟩, ((Below.refl _ _).alloc (Nat.le_refl _) _).alloc (by rw [World.size_alloc]; omega) _⟩
end Go.Proofs.Ytmbgcphiigmdjaa
