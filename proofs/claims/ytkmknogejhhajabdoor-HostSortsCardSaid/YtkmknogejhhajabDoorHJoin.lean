/-
  The part that a run's names make.
-/
import Derived.Test.YtkmknogejhhajabDoorHRun
import Derived.BigQuiet
import Derived.Deep.QuietTactic
namespace Go.Proofs.YtkmknogejhhajabDoor
open Go.RowKit

def StrPost (w : World) (l : List UInt8) (e : Ending) (w' : World) : Prop := e = .returned (.string (str l)) ∧ Below w.heap.size w w'
set_option maxRecDepth 100000 in
set_option maxHeartbeats 1000000 in
theorem join_one (A : Option Addr) (cap : Nat) (x : List UInt8) (w : World) (hs : Strs w w.heap.size A [x]) :
    Calls Tryd.prog 30 #[.slice A 1 cap] w (StrPost w x) := by
  obtain ⟨b, o, rfl, hbb, c0⟩ := hs.at_ (k := 0) (by simp)
  rw [Nat.add_zero, List.getElem_cons_zero] at c0
  clear hs
  generalize hS : str x = S at *
  replace hS := fhid hS
  go_enter Tryd.func30, Tryd.ntmps30
  go_wp2_with fail
  go_quiet (fail)
  go_wp2_with fail
  go_ret
  exact ⟨frets hS.out.symm, below_drewN (Below.refl _ _) _⟩
set_option maxRecDepth 100000 in
set_option maxHeartbeats 2000000 in
theorem join_many (A : Option Addr) (cap : Nat) (L : List (List UInt8)) (h2 : 1 < L.length) (w : World) (hs : Strs w w.heap.size A L) (hb : ∀ y ∈ L, y.length ≤ 1125899906842624) (hl : L.length ≤ 1000)
    (hp : (number (L.headD [])).1.length ≤ (L.getLastD []).length) :
    Calls Tryd.prog 30 #[.slice A L.length cap] w (StrPost w (joinRun L)) := by
  obtain ⟨b, o, rfl, hbb, c0⟩ := hs.at_ (k := 0) (by omega)
  obtain ⟨b', o', he, _, c1⟩ := hs.at_ (k := L.length - 1) (by omega)
  injection he with he
  injection he with he1 he2 _
  subst he1
  subst he2
  rw [Nat.add_zero] at c0
  have hx : L.headD [] = L[0]'(by omega) := by cases L with | nil => simp at h2 | cons a r => rfl
  have hy : L.getLastD [] = L[L.length - 1]'(by omega) := by
    rw [List.getLastD_eq_getLast?, List.getLast?_eq_getElem?, List.getElem?_eq_getElem (by omega)]
    rfl
  have hbx := hb _ (List.getElem_mem (show 0 < L.length by omega))
  have hby := hb _ (List.getElem_mem (show L.length - 1 < L.length by omega))
  obtain ⟨E, hE⟩ : ∃ E, joinRun L = E := ⟨_, rfl⟩
  rw [hE]
  unfold joinRun at hE
  rw [if_neg (by omega), hx, hy] at hE
  rw [hx, hy] at hp
  generalize L[0]'(by omega) = x at *
  generalize L[L.length - 1]'(by omega) = y at *
  have hnum := fun W => Number_any (str x) W (by rw [str_size]; exact hbx)
  unfold NumberPost numberV at hnum
  rw [bl_str] at hnum
  have hpx := (number_small x).2.2
  rcases hq : number x with ⟨p, n, wd, ok⟩
  rw [hq] at hnum hE hp hpx
  simp only at hnum hE hp hpx
  have hpsz := str_size p
  have hxsz := str_size x
  have hysz := str_size y
  have e1 : (str x).extract p.length (str x).size = str (x.drop p.length) := by rw [ext_from, bl_str]
  have e2 : (str y).extract p.length (str y).size = str (y.drop p.length) := by rw [ext_from, bl_str]
  have q1 : str p ++ ⟨#[91]⟩ = str (p ++ [91]) := str_app p [91]
  have q2 : str (p ++ [91]) ++ str (x.drop p.length) = str (p ++ [91] ++ x.drop p.length) := str_app _ _
  have q3 : str (p ++ [91] ++ x.drop p.length) ++ ⟨#[45]⟩ = str (p ++ [91] ++ x.drop p.length ++ [45]) := str_app _ [45]
  have q4 : str (p ++ [91] ++ x.drop p.length ++ [45]) ++ str (y.drop p.length) = str (p ++ [91] ++ x.drop p.length ++ [45] ++ y.drop p.length) := str_app _ _
  have q5 : str (p ++ [91] ++ x.drop p.length ++ [45] ++ y.drop p.length) ++ ⟨#[93]⟩ = str (p ++ [91] ++ x.drop p.length ++ [45] ++ y.drop p.length ++ [93]) := str_app _ [93]
  have hEE := fhid (show str (p ++ [91] ++ x.drop p.length ++ [45] ++ y.drop p.length ++ [93]) = str E by rw [← hE]; simp)
  have hEE0 := fhid (show p ++ [91] ++ x.drop p.length ++ [45] ++ y.drop p.length ++ [93] = E by rw [← hE]; simp)
  have z1 : (str (p ++ [91])).size = p.length + 1 := by rw [str_size]; simp
  have z2 : (str (p ++ [91] ++ x.drop p.length)).size ≤ x.length + 1 := by rw [str_size]; simp; omega
  have z3 : (str (p ++ [91] ++ x.drop p.length ++ [45])).size ≤ x.length + 2 := by rw [str_size]; simp; omega
  have z4 : (str (p ++ [91] ++ x.drop p.length ++ [45] ++ y.drop p.length)).size ≤ x.length + y.length + 2 := by rw [str_size]; simp; omega
  have zx : (str (x.drop p.length)).size ≤ x.length := by rw [str_size]; simp
  have zy : (str (y.drop p.length)).size ≤ y.length := by rw [str_size]; simp
  have e1' : (str x).extract (str p).size (str x).size = str (x.drop p.length) := by rw [hpsz]; exact e1
  have e2' : (str y).extract (str p).size (str y).size = str (y.drop p.length) := by rw [hpsz]; exact e2
  clear e1 e2
  generalize str (p ++ [91] ++ x.drop p.length ++ [45] ++ y.drop p.length ++ [93]) = Q5 at *
  generalize str (p ++ [91] ++ x.drop p.length ++ [45] ++ y.drop p.length) = Q4 at *
  generalize str (p ++ [91] ++ x.drop p.length ++ [45]) = Q3 at *
  generalize str (p ++ [91] ++ x.drop p.length) = Q2 at *
  generalize str (p ++ [91]) = Q1 at *
  generalize str (x.drop p.length) = XD at *
  generalize str (y.drop p.length) = YD at *
  generalize str p = P at *
  generalize str x = X at *
  generalize str y = Y at *
  have i1 : (P.size : Int) ≤ X.size := by omega
  have i2 : (P.size : Int) ≤ Y.size := by omega
  have i3 : (0 : Int) ≤ P.size := by omega
  have b1 : ¬ 9223372036854775807 < P.size + 1 := by omega
  have b2 : ¬ 9223372036854775807 < Q1.size + XD.size := by omega
  have b3 : ¬ 9223372036854775807 < Q2.size + 1 := by omega
  have b4 : ¬ 9223372036854775807 < Q3.size + YD.size := by omega
  have b5 : ¬ 9223372036854775807 < Q4.size + 1 := by omega
  have i4 : ¬ (L.length : Int) = 1 := by omega
  have i5 : ((L.length : Int) == 1) = false := by rw [beq_eq_false_iff_ne]; exact i4
  have i6 : (0 : Int) < L.length := by omega
  have i7 : (0 : Int) ≤ (L.length : Int) - 1 := by omega
  have i8 : (L.length : Int) - 1 < L.length := by omega
  have i9 : ((L.length : Int) - 1).toNat = L.length - 1 := by omega
  have i10 : IntKind.i64.wrap ((L.length : Int) - 1) = (L.length : Int) - 1 := IntWalk.i64_in _ (by omega)
  clear z1 z2 z3 z4 zx zy hpsz hxsz hysz hE hq hx hy hb hs hbx hby hp hpx hEE0 h2
  replace q1 := fhid q1
  replace q2 := fhid q2
  replace q3 := fhid q3
  replace q4 := fhid q4
  replace q5 := fhid q5
  go_enter Tryd.func30, Tryd.ntmps30
  go_wp2_with fail
  go_quiet (fail)
  have hnw := hnum (w.drewN nq)
  clear hnum i10
  generalize hW : w.drewN nq = W at *
  replace hW := fhid hW
  clear c0 c1
  go_wp2_with (go_at_call 5; (with_reducible refine hnw.mono ?_); rintro e w1 ⟨rfl, g1⟩)
  replace g1 := g1.below
  replace q1 := q1.out
  replace q2 := q2.out
  replace q3 := q3.out
  replace q4 := q4.out
  replace q5 := q5.out
  go_quiet (fail)
  go_wp2_with fail
  go_ret
  have hWB : Below w.heap.size w W := by rw [← hW.out]; exact below_drewN (Below.refl _ _) _
  exact ⟨frets hEE.out, below_drewN (hWB.trans (g1.mono hWB.size)) _⟩
theorem Strs.below {w w' : World} {B : Nat} {A : Option Addr} {ns : List (List UInt8)} (h : Strs w B A ns) (hb : Below B w w') : Strs w' B A ns := SegC.below h hb
theorem Strs.more {w : World} {B B' : Nat} {A : Option Addr} {ns : List (List UInt8)} (h : Strs w B A ns) (hb : B ≤ B') : Strs w B' A ns := SegC.more h hb
theorem Strs.take {w : World} {B : Nat} {A : Option Addr} {ns : List (List UInt8)} (h : Strs w B A ns) (k : Nat) : Strs w B A (ns.take k) := by
  have := SegC.take h k
  unfold SV at this
  rwa [← List.map_take] at this
theorem Strs.drop {w : World} {B : Nat} {A : Option Addr} {ns : List (List UInt8)} (h : Strs w B A ns) {k cap : Nat} (hk : k ≤ ns.length) (hc : ns.length ≤ cap) : Strs w B (if cap = k then A else A.map (·.add k)) (ns.drop k) := by
  have := SegC.drop h (k := k) (cap := cap) (by rw [SV_len]; exact hk) (by rw [SV_len]; exact hc)
  unfold SV at this
  rwa [← List.map_drop] at this
/-- The part that the first names make. -/
theorem join_run (A : Option Addr) (cap : Nat) (x : List UInt8) (xs : List (List UInt8)) (w : World) (hs : Strs w w.heap.size A (x :: xs)) (hb : ∀ y ∈ x :: xs, y.length ≤ 1073741824) (hl : (x :: xs).length ≤ 1000) :
    Calls Tryd.prog 30 #[.slice A (runLen x xs) cap] w (StrPost w (joinRun ((x :: xs).take (runLen x xs)))) ∧ (joinRun ((x :: xs).take (runLen x xs))).length ≤ 4294967296 := by
  obtain ⟨r1, r2⟩ := runLen_le x xs
  have hlen : ((x :: xs).take (runLen x xs)).length = runLen x xs := by rw [List.length_take, List.length_cons]; omega
  have hs' := hs.take (runLen x xs)
  have hb' : ∀ y ∈ (x :: xs).take (runLen x xs), y.length ≤ 1073741824 := fun y hy => hb y (List.mem_of_mem_take hy)
  rcases run_names x xs with h | ⟨p, a, wd, m, hn, hm, h, h6, hp0⟩
  · rw [h] at hs' hlen ⊢
    have e : runLen x xs = 1 := by simpa using hlen.symm
    rw [e]
    have hj : joinRun [x] = x := rfl
    rw [hj]
    exact ⟨join_one A cap x w hs', by have := hb x (by simp); omega⟩
  · obtain ⟨hx, hw, _, _, _⟩ := number_dig hn
    obtain ⟨g1, g2⟩ := headD_map_range m (fun i => p ++ dig (a + i) wd)
    simp only [Nat.add_zero] at g1
    rw [← hx] at g1
    rw [← h] at g1 g2
    generalize (x :: xs).take (runLen x xs) = L at *
    have hL2 : 1 < L.length := by rw [h]; simp; omega
    have hlast : p.length ≤ (L.getLastD []).length := by rw [g2, List.length_append]; omega
    rw [← hlen]
    refine ⟨join_many A cap L hL2 w hs' (fun y hy => by have := hb' y hy; omega) (by rw [List.length_cons] at hl; omega) (by rw [g1, hn]; exact hlast), ?_⟩
    unfold joinRun
    rw [if_neg (by omega), g1, g2, hn]
    have hxl := hb x (by simp)
    have hyl : (L.getLastD []).length ≤ 1073741824 := by
      refine hb' _ ?_
      rw [List.getLastD_eq_getLast?]
      rw [List.getLast?_eq_some_getLast (by intro h0; rw [h0] at hL2; simp at hL2)]
      exact List.getLast_mem _
    rw [g2] at hyl
    simp only [List.length_append, List.length_cons, List.length_drop, List.length_nil] at hyl ⊢
    omega
end Go.Proofs.YtkmknogejhhajabDoor
