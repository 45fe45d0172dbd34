/-
  What each statement asks beside: what was used is halved; a ledger that nobody made.
-/
import Derived.Test.YtmbgcphiigmdjaaUPut
namespace Go.Proofs.Ytmbgcphiigmdjaa
open Go.RowKit Ss Ds

theorem New_yes (h : Int) (w : World) (hh : halfB h) : Calls Try.prog 10 #[.int .i64 h] w fun e w' => ∃ p m, e = .returned (.tuple #[.pointer (some ⟨p, 0, none⟩), .int .i64 0]) ∧ w.heap.size ≤ p ∧ w.heap.size ≤ m ∧ LB w' p m h [] ∧ Below w.heap.size w w' :=
  (New_any h w).mono fun e w' hP => by
    rcases hP with ⟨_, h1⟩ | ⟨h1, _⟩
    · exact h1
    · exact absurd hh h1
theorem New_no (h : Int) (w : World) (hh : ¬ halfB h) : Calls Try.prog 10 #[.int .i64 h] w fun e w' => e = .returned (.tuple #[.pointer none, .int .i64 1]) ∧ w' = w :=
  (New_any h w).mono fun e w' hP => by
    rcases hP with ⟨h1, _⟩ | ⟨_, h1⟩
    · exact absurd h1 hh
    · exact h1
def ann : Str := [97, 110, 110]
def bob : Str := [98, 111, 98]
def MA : List Usr := [(ann, 100, 0)]
theorem half10 : halfB 10 := by unfold halfB; decide
theorem alive_add : addP 10 [] ann 100 0 = (MA, 0) := by decide
theorem good_MA : Good MA := by
  have := add_good (h := 10) (M := []) (s := ann) (am := 100) (now := 0) (by decide) Good.nil
  rwa [alive_add] at this
theorem alive_u9 : usedP 10 MA ann 9 = (100, 0) := by decide
theorem alive_u25 : usedP 10 MA ann 25 = (25, 0) := by decide
theorem alive_f : factorP 10 MA bob 3 = (1000, 0) := by decide
set_option maxRecDepth 100000 in
set_option maxHeartbeats 4000000 in
theorem alive_any (w : World) : Calls Try.prog 12 #[] w fun e w' => e = .returned (.bool true) ∧ Below w.heap.size w w' := by
  have hnew := New_yes 10 w half10
  have hadd := fun W p m (l : LB W p m 10 []) => Add_any l half10 Good.nil ann 100 0 (by decide)
  have hu := fun W p m now (l : LB W p m 10 MA) => Used_any l half10 good_MA ann now
  have hf := fun W p m (l : LB W p m 10 MA) => Factor_any l half10 good_MA bob 3
  have sa : str ann = ⟨#[97, 110, 110]⟩ := rfl
  have sb : str bob = ⟨#[98, 111, 98]⟩ := rfl
  rw [alive_add] at hadd
  rw [alive_f] at hf
  have hu9 := fun W p m (l : LB W p m 10 MA) => hu W p m 9 l
  have hu25 := fun W p m (l : LB W p m 10 MA) => hu W p m 25 l
  rw [alive_u9] at hu9
  rw [alive_u25] at hu25
  rw [sa] at hadd hu9 hu25
  rw [sb] at hf
  unfold AddPost at hadd
  unfold IntP at hu9 hu25 hf
  simp only at hadd hu9 hu25 hf
  clear hu sa sb
  generalize MA = M at *
  go_enter Try.func12, Try.ntmps12
  go_wp2_with (first
    | (go_at_call 10; (with_reducible refine hnew.mono ?_); rintro e w1 ⟨p, m, rfl, p0, m0, l1, b1⟩)
    | (go_at_call 14; (with_reducible refine (hadd _ _ _ l1).mono ?_); rintro e w2 ⟨rfl, l2, g2⟩
       have b2 := fhid (b1.trans (grown_below (B := w.heap.size) g2 m0 b1.size)); clear l1 b1 g2; replace l2 := fhid l2)
    | (go_at_call 16; (with_reducible refine (hu9 _ _ _ l2.out).mono ?_); rintro e w3 ⟨rfl, b3⟩
       have l3 := fhid (l2.out.below b3); have b3 := fhid (b2.out.trans (b3.mono b2.out.size)); clear l2 b2)
    | (go_at_call 16; (with_reducible refine (hu25 _ _ _ l3.out).mono ?_); rintro e w4 ⟨rfl, b4⟩
       have l4 := fhid (l3.out.below b4); have b4 := fhid (b3.out.trans (b4.mono b3.out.size)); clear l3 b3)
    | (go_at_call 18; (with_reducible refine (hf _ _ _ l4.out).mono ?_); rintro e w5 ⟨rfl, b5⟩
       have b5 := fhid (b4.out.trans (b5.mono b4.out.size)); clear l4 b4))
  go_ret
  exact ⟨rfl, b5.out⟩
/-! A ledger that nobody made. -/
section
variable {pa : Option Addr}
set_option maxRecDepth 100000 in
set_option maxHeartbeats 4000000 in
theorem at_no (w : World) (hm : ∀ W, Below w.heap.size w W → NoMade W pa) (s : Str) (now : Int) :
    Calls Try.prog 29 #[.pointer pa, .string (str s), .int .i64 now] w (UseP w ((0, 0), 2)) := by
  obtain ⟨W1, hW1, B1, X2⟩ := one_box w TUse [.int .i64 0, .int .i64 0]
  have hr := refused_no (hm W1 B1) now
  clear hm
  unfold UseP useV
  simp only
  have z0 := X2.free 0
  have z1 := X2.free 1
  have y0 := X2.cell 0
  have y1 := X2.cell 1
  have hx2 := X2.lt
  simp only [List.getElem?_cons_zero, List.getElem?_cons_succ] at y0 y1
  replace hW1 := fhid hW1
  replace X2 := fhid X2
  replace B1 := fhid B1
  go_enter Try.func29, Try.ntmps29
  go_upto_region 1 with fail
  rw [← hW1.out]
  clear hW1
  go_wp2_with (go_at_call 34; (with_reducible refine hr.mono ?_); rintro e w' ⟨rfl, rfl⟩)
  have X5 := (X2.out.set 0 (.int .i64 0)).set 1 (.int .i64 0)
  have d0 := X5.cell 0
  have d1 := X5.cell 1
  simp only [List.set_cons_zero, List.set_cons_succ, List.getElem?_cons_zero, List.getElem?_cons_succ] at d0 d1
  exact bodyPost_ret (v := .tuple #[.agg #[.int .i64 0, .int .i64 0], .int .i64 2]) (by simp [results, Try.results29, go_sem, d0, d1]) rfl ⟨rfl, set2 B1.out (Nat.le_refl _) _ _⟩
/-- Nobody made it, and nobody does. -/
def NoM (w : World) (pa : Option Addr) : Prop := ∀ W, Below w.heap.size w W → NoMade W pa
theorem NoM.below {w w' : World} (h : NoM w pa) (hb : Below w.heap.size w w') : NoM w' pa := fun W hW => h W (hb.trans (hW.mono hb.size))
theorem nom_nil (w : World) : NoM w none := fun W _ => made_nil W
theorem nom_zero {w : World} {p : Nat} (h : ZB w p) : NoM w (some ⟨p, 0, none⟩) := fun W hb => made_zero (Box.below h hb (Box.lt h))
theorem Used_no {w : World} (hm : NoM w pa) (s : Str) (now : Int) : Calls Try.prog 16 #[.pointer pa, .string (str s), .int .i64 now] w (IntP w (0, 2)) := Used_of (at_no w hm s now)
set_option maxRecDepth 100000 in
set_option maxHeartbeats 4000000 in
theorem Total_no {w : World} (hm : NoM w pa) (now : Int) : Calls Try.prog 20 #[.pointer pa, .int .i64 now] w (IntP w (0, 2)) := by
  have hr := refused_no (hm w (Below.refl _ _)) now
  unfold IntP
  simp only
  clear hm
  go_enter Try.func20, Try.ntmps20
  go_wp2_with (go_at_call 34; (with_reducible refine hr.mono ?_); rintro e w' ⟨rfl, rfl⟩)
  go_ret2
  exact ⟨rfl, Below.refl _ _⟩
set_option maxRecDepth 100000 in
set_option maxHeartbeats 4000000 in
theorem Factor_no {w : World} (hm : NoM w pa) (s : Str) (now : Int) : Calls Try.prog 18 #[.pointer pa, .string (str s), .int .i64 now] w (IntP w (0, 2)) := by
  have hu := Used_no hm s now
  unfold IntP at *
  simp only at *
  clear hm
  go_enter Try.func18, Try.ntmps18
  go_wp2_with (go_at_call 16; (with_reducible refine hu.mono ?_); rintro e w1 ⟨rfl, b1⟩)
  go_ret2
  exact ⟨rfl, b1⟩
theorem Add_no {w : World} (hm : NoM w pa) (s : Str) (am now : Int) : Calls Try.prog 14 #[.pointer pa, .string (str s), .int .i64 am, .int .i64 now] w fun e w' => e = .returned (.int .i64 2) ∧ Below w.heap.size w w' :=
  Add_bad (E := 2) (by decide) ⟨_, _, rfl⟩ (at_no w hm s now)
set_option maxRecDepth 100000 in
set_option maxHeartbeats 4000000 in
theorem Users_no {w : World} (hm : NoM w pa) : Calls Try.prog 23 #[.pointer pa] w fun e w' => e = .returned (.slice none 0 0) ∧ Below w.heap.size w w' := by
  have hr := hm w (Below.refl _ _)
  unfold NoMade at hr
  clear hm
  go_enter Try.func23, Try.ntmps23
  go_wp2_with (go_at_call 38; (with_reducible refine hr.mono ?_); rintro e w1 ⟨rfl, rfl⟩)
  go_ret
  exact ⟨rfl, Below.refl _ _⟩
set_option maxRecDepth 100000 in
set_option maxHeartbeats 4000000 in
theorem Save_no {w : World} (hm : NoM w pa) : Calls Try.prog 25 #[.pointer pa] w fun e w' => e = .returned (.slice none 0 0) ∧ Below w.heap.size w w' := by
  have hr := hm w (Below.refl _ _)
  unfold NoMade at hr
  clear hm
  go_enter Try.func25, Try.ntmps25
  go_wp2_with (go_at_call 38; (with_reducible refine hr.mono ?_); rintro e w1 ⟨rfl, rfl⟩)
  go_ret
  exact ⟨rfl, Below.refl _ _⟩
end
end Go.Proofs.Ytmbgcphiigmdjaa
