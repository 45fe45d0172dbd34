/-
  Parts: ZMath ZBase ZWhich ZAll ZRep ZAllW ZAsk ZDo ZNew ZTick ZTickW.
-/
import Derived.Test.YtmnmcikbbfcjcaaGreatDoorX1
import Derived.Test.YtmnmcikbbfcjcaaGreatDoorC1
import Derived.Test.YtmnmcikbbfcjcaaGreatDoorB1
import Derived.Test.YtmnmcikbbfcjcaaGreatDoorW2
import Derived.Test.YtmnmcikbbfcjcaaGreatDoorB2
import Derived.Laws.CopyOwn
import Derived.Test.YtmnmcikbbfcjcaaGreatDoorK2
import Derived.Deep.RegionHeld3
import Derived.BigRegion
import Derived.Test.YtmnmcikbbfcjcaaGreatDoorK7
set_option linter.unusedSimpArgs false
set_option linter.unusedVariables false
/-
  A pool, as plain functions: what each call comes to.
-/
namespace Go.Proofs.YtmnmcikbbfcjcaaGreatDoor.Ps
open Go.RowKit Ns

/-- A pool: what each node is at, the time, and the config's numbers. -/
structure Pl where
  L : List N3
  now : Int
  boot : Int
  stop : Int
  retry : Int
def okN (now : Int) (n : N3) : Prop := 0 ≤ n.1 ∧ n.1 ≤ 7 ∧ 0 ≤ n.2.1 ∧ n.2.1 ≤ now ∧ 0 ≤ n.2.2 ∧ n.2.2 ≤ 4611686018427387904
/-- What holds of each pool that was made. -/
structure Good (P : Pl) : Prop where
  l1 : 1 ≤ P.L.length
  l2 : P.L.length ≤ 256
  n0 : 0 ≤ P.now
  n1 : P.now ≤ 1099511627776
  ns : ∀ n ∈ P.L, okN P.now n
  b0 : 1 ≤ P.boot
  b1 : P.boot ≤ 1000000
  s0 : 1 ≤ P.stop
  s1 : P.stop ≤ 1000000
  r0 : 0 ≤ P.retry
  r1 : P.retry ≤ 1000000
/-- One event, done to nodes in turn, till one refuses. -/
def goL (now retry ev : Int) : List N3 → List Nat → List N3 × Int
  | L, [] => (L, 0)
  | L, i :: is => if (nextN (L.getD i (0, 0, 0)) ev now retry).2 = 0 then goL now retry ev (L.set i (nextN (L.getD i (0, 0, 0)) ev now retry).1) is else (L, (nextN (L.getD i (0, 0, 0)) ev now retry).2)
theorem go_nil (now retry ev : Int) (L : List N3) : goL now retry ev L [] = (L, 0) := rfl
theorem go_yes {now retry ev : Int} {L : List N3} {i : Nat} {is : List Nat} {x : N3} (h : nextN (L.getD i (0, 0, 0)) ev now retry = (x, 0)) : goL now retry ev L (i :: is) = goL now retry ev (L.set i x) is := by
  rw [goL, h]; rfl
theorem go_no {now retry ev : Int} {L : List N3} {i : Nat} {is : List Nat} {x : N3} {e : Int} (h : nextN (L.getD i (0, 0, 0)) ev now retry = (x, e)) (he : e ≠ 0) : goL now retry ev L (i :: is) = (L, e) := by
  rw [goL, h]; exact if_neg he
/-- Whether a set has a number of no node. -/
def outP (p : Nat → Bool) (n : Nat) : Bool := decide (0 < Bs.cnt (fun j => p j && !Bs.spanP 0 ((n : Int) - 1) j) 256)
def allP (P : Pl) (p : Nat → Bool) (ev : Int) : Pl × Int :=
  if outP p P.L.length = true then (P, 6) else
  if (goL P.now P.retry ev P.L (Bs.lst p 256)).2 = 0 then ({P with L := (goL P.now P.retry ev P.L (Bs.lst p 256)).1}, 0) else (P, (goL P.now P.retry ev P.L (Bs.lst p 256)).2)
theorem all_out {P : Pl} {p : Nat → Bool} {ev : Int} (h : outP p P.L.length = true) : allP P p ev = (P, 6) := if_pos h
theorem all_yes {P : Pl} {p : Nat → Bool} {ev : Int} {L' : List N3} (h : outP p P.L.length = false) (hg : goL P.now P.retry ev P.L (Bs.lst p 256) = (L', 0)) : allP P p ev = ({P with L := L'}, 0) := by
  unfold allP
  rw [if_neg (by rw [h]; decide), hg]; rfl
theorem all_no {P : Pl} {p : Nat → Bool} {ev e : Int} {L' : List N3} (h : outP p P.L.length = false) (hg : goL P.now P.retry ev P.L (Bs.lst p 256) = (L', e)) (he : e ≠ 0) : allP P p ev = (P, e) := by
  unfold allP
  rw [if_neg (by rw [h]; decide), hg]; exact if_neg he
def doP (P : Pl) (i ev : Int) : Pl × Int := if i < 0 ∨ (P.L.length : Int) ≤ i then (P, 6) else allP P (Bs.memP [i]) ev
/-- The set of the nodes of which something holds. -/
def whichP (h : N3 → Bool) (L : List N3) : Nat → Bool := fun j => match L[j]? with
  | some n => h n
  | none => false
theorem which_in {h : N3 → Bool} {L : List N3} {j : Nat} (hj : j < L.length) : whichP h L j = h L[j] := by
  unfold whichP; rw [List.getElem?_eq_getElem hj]
theorem which_out {h : N3 → Bool} {L : List N3} {j : Nat} (hj : L.length ≤ j) : whichP h L j = false := by
  unfold whichP; rw [List.getElem?_eq_none hj]
def lateP (P : Pl) (now : Int) : Nat → Bool := whichP (fun n => lateB n now P.boot) P.L
def offP (P : Pl) (now : Int) : Nat → Bool := whichP (fun n => decide (n.1 = 7) && decide (P.stop ≤ now - n.2.1)) P.L
def tickP (P : Pl) (now : Int) : Pl × (Nat → Bool) × Int :=
  if now < P.now ∨ 1099511627776 < now then (P, fun _ => false, 1) else
  ((allP (allP {P with now := now} (lateP P now) 3).1 (offP P now) 11).1, fun j => lateP P now j || offP P now j, 0)
/-- One call: its kind, its number, its event, its set. -/
abbrev ActC := Int × Int × Int × (Nat → Bool)
def actP (P : Pl) (a : ActC) : Pl × (Nat → Bool) × Int :=
  if a.1 % 3 = 0 then ((doP P a.2.1 a.2.2.1).1, fun _ => false, (doP P a.2.1 a.2.2.1).2)
  else if a.1 % 3 = 1 then ((allP P a.2.2.2 a.2.2.1).1, fun _ => false, (allP P a.2.2.2 a.2.2.1).2)
  else tickP P a.2.1
theorem next_two (n : N3) (ev now retry : Int) (ht : 0 ≤ n.2.2) (ht2 : n.2.2 ≤ 4611686018427387904) : 0 ≤ (nextN n ev now retry).1.2.2 ∧ (nextN n ev now retry).1.2.2 ≤ 4611686018427387904 := by
  have hm : 0 ≤ moreT n.2.2 ∧ moreT n.2.2 ≤ 4611686018427387904 := by unfold moreT; split <;> omega
  unfold nextN
  split
  · exact ⟨Int.le_refl _, by show (0 : Int) ≤ _; omega⟩
  · split
    · exact ⟨Int.le_refl _, by show (0 : Int) ≤ _; omega⟩
    · split
      · exact hm
      · split
        · exact ⟨Int.le_refl _, by show (0 : Int) ≤ _; omega⟩
        · exact ⟨ht, ht2⟩
theorem okN_next {n x : N3} {ev now retry : Int} (hn : 0 ≤ now) (hk : okN now n) (h : nextN n ev now retry = (x, 0)) : okN now x := by
  obtain ⟨_, _, _, _, h5, h6⟩ := hk
  obtain ⟨a1, a2, a3, a4, _⟩ := next_ok h
  obtain ⟨f1, f2, _⟩ := next_facts h
  have ht := next_two n ev now retry h5 h6
  rw [h] at ht
  exact ⟨f1, f2, by rw [a3]; exact hn, by rw [a3]; exact Int.le_refl _, ht.1, ht.2⟩
theorem go_len (now retry ev : Int) : ∀ (is : List Nat) (L : List N3), (goL now retry ev L is).1.length = L.length
  | [], _ => rfl
  | i :: is, L => by
    rw [goL]
    split
    · rw [go_len now retry ev is, List.length_set]
    · rfl
theorem okN_zero {now : Int} (hn : 0 ≤ now) : okN now (0, 0, 0) := ⟨Int.le_refl _, by decide, Int.le_refl _, hn, Int.le_refl _, by decide⟩
theorem okN_getD {now : Int} {L : List N3} (hn : 0 ≤ now) (h : ∀ n ∈ L, okN now n) (i : Nat) : okN now (L.getD i (0, 0, 0)) := by
  rw [List.getD_eq_getElem?_getD]
  by_cases hi : i < L.length
  · rw [List.getElem?_eq_getElem hi]; exact h _ (List.getElem_mem hi)
  · rw [List.getElem?_eq_none (by omega)]; exact okN_zero hn
theorem go_ok {now retry ev : Int} (hn : 0 ≤ now) : ∀ (is : List Nat) (L : List N3), (∀ n ∈ L, okN now n) → ∀ n ∈ (goL now retry ev L is).1, okN now n
  | [], _, h => h
  | i :: is, L, h => by
    rw [goL]
    split
    · rename_i h0
      refine go_ok hn is _ fun n hm => ?_
      rcases List.mem_or_eq_of_mem_set hm with hm | rfl
      · exact h n hm
      · exact okN_next hn (okN_getD hn h i) (Prod.ext rfl h0)
    · exact h
theorem all_facts {P : Pl} (hP : Good P) (p : Nat → Bool) (ev : Int) : Good (allP P p ev).1 ∧ (allP P p ev).1.L.length = P.L.length ∧ (allP P p ev).1.now = P.now ∧ (allP P p ev).1.boot = P.boot ∧ (allP P p ev).1.stop = P.stop ∧ (allP P p ev).1.retry = P.retry ∧ ((allP P p ev).2 ≠ 0 → (allP P p ev).1 = P) := by
  unfold allP
  split
  · exact ⟨hP, rfl, rfl, rfl, rfl, rfl, fun _ => rfl⟩
  · split
    · have hl := go_len P.now P.retry ev (Bs.lst p 256) P.L
      exact ⟨⟨by show 1 ≤ List.length _; rw [hl]; exact hP.l1, by show List.length _ ≤ 256; rw [hl]; exact hP.l2, hP.n0, hP.n1, go_ok hP.n0 _ _ hP.ns, hP.b0, hP.b1, hP.s0, hP.s1, hP.r0, hP.r1⟩, hl, rfl, rfl, rfl, rfl, fun h => absurd rfl h⟩
    · exact ⟨hP, rfl, rfl, rfl, rfl, rfl, fun _ => rfl⟩
theorem good_now {P : Pl} (hP : Good P) {now : Int} (h0 : P.now ≤ now) (h1 : now ≤ 1099511627776) : Good {P with now := now} :=
  ⟨hP.l1, hP.l2, by have := hP.n0; show 0 ≤ now; omega, h1, fun n hn => by
    obtain ⟨k1, k2, k3, k4, k5, k6⟩ := hP.ns n hn
    exact ⟨k1, k2, k3, by show n.2.1 ≤ now; omega, k5, k6⟩, hP.b0, hP.b1, hP.s0, hP.s1, hP.r0, hP.r1⟩
/-- What holds behind any call. -/
theorem act_facts {P : Pl} (hP : Good P) (a : ActC) : Good (actP P a).1 ∧ (actP P a).1.L.length = P.L.length ∧ (actP P a).1.boot = P.boot ∧ (actP P a).1.stop = P.stop ∧ (actP P a).1.retry = P.retry ∧ ((actP P a).2.2 ≠ 0 → (actP P a).1 = P) := by
  have hall := fun (Q : Pl) (hQ : Good Q) p ev => all_facts hQ p ev
  unfold actP
  split
  · unfold doP
    split
    · exact ⟨hP, rfl, rfl, rfl, rfl, fun _ => rfl⟩
    · obtain ⟨h1, h2, h3, h4, h5, h6, h7⟩ := hall P hP (Bs.memP [a.2.1]) a.2.2.1
      exact ⟨h1, h2, h4, h5, h6, h7⟩
  · split
    · obtain ⟨h1, h2, h3, h4, h5, h6, h7⟩ := hall P hP a.2.2.2 a.2.2.1
      exact ⟨h1, h2, h4, h5, h6, h7⟩
    · unfold tickP
      split
      · exact ⟨hP, rfl, rfl, rfl, rfl, fun _ => rfl⟩
      · rename_i h
        have hg := good_now hP (now := a.2.1) (by omega) (by omega)
        obtain ⟨h1, h2, h3, h4, h5, h6, _⟩ := hall _ hg (lateP P a.2.1) 3
        obtain ⟨k1, k2, k3, k4, k5, k6, _⟩ := hall _ h1 (offP P a.2.1) 11
        exact ⟨k1, k2.trans h2, k4.trans h4, k5.trans h5, k6.trans h6, fun h => absurd rfl h⟩
theorem mem_lst {p : Nat → Bool} {n i : Nat} : i ∈ Bs.lst p n ↔ i < n ∧ p i = true := by
  unfold Bs.lst; rw [List.mem_filter, List.mem_range]
/-- A set that has no number of no node. -/
theorem out_no {p : Nat → Bool} {n : Nat} (h : outP p n = false) : ∀ i ∈ Bs.lst p 256, i < n := by
  intro i hi
  obtain ⟨h1, h2⟩ := mem_lst.1 hi
  have h3 := of_decide_eq_false h
  rw [← Bs.lst_count] at h3
  by_cases hin : i < n
  · exact hin
  · have hm : i ∈ Bs.lst (fun j => p j && !Bs.spanP 0 ((n : Int) - 1) j) 256 := mem_lst.2 ⟨h1, by
      have : Bs.spanP 0 ((n : Int) - 1) i = false := by
        unfold Bs.spanP
        rw [Bool.and_eq_false_iff]
        exact .inr (decide_eq_false (by omega))
      rw [h2, this]; rfl⟩
    have := List.length_pos_of_mem hm
    omega
/-- The numbers that were put together, as a set. -/
theorem mem_cast {p : Nat → Bool} {n : Nat} (h : ∀ j, n ≤ j → p j = false) : Bs.memP ((Bs.lst p n).map fun i : Nat => (i : Int)) = p := by
  funext j
  unfold Bs.memP
  rw [Bool.eq_iff_iff, decide_eq_true_eq, List.mem_map]
  constructor
  · rintro ⟨a, ha, he⟩
    have : a = j := by omega
    subst this
    exact (mem_lst.1 ha).2
  · intro hp
    refine ⟨j, mem_lst.2 ⟨?_, hp⟩, rfl⟩
    by_cases hj : j < n
    · exact hj
    · rw [h j (by omega)] at hp; cases hp
end Go.Proofs.YtmnmcikbbfcjcaaGreatDoor.Ps
/-
  A pool in memory; whether one was made.
-/
namespace Go.Proofs.YtmnmcikbbfcjcaaGreatDoor.Ps
open Go.RowKit Go.Shelf Vs Ns

abbrev TPool : TypeId := 66
/-- A pool: its object's block, and its row of nodes. -/
def PB (w : World) (p : Nat) (P : Pl) : Prop := ∃ A cap, Box w p TPool [.slice A P.L.length cap, .int .i64 P.now, .int .i64 P.boot, .int .i64 P.stop, .int .i64 P.retry] ∧ w.ownsRow 0 TNd 3 (.slice A P.L.length cap) P.L.length (VVs P.L)
theorem pool_node : TPool ≠ TNd := by decide
theorem PB.lt {w : World} {p : Nat} {P : Pl} (h : PB w p P) : p < w.heap.size := by
  obtain ⟨A, cap, h1, _⟩ := h
  exact Box.lt h1
theorem PB.below {w w' : World} {p : Nat} {P : Pl} (h : PB w p P) (hb : Below w.heap.size w w') : PB w' p P := by
  obtain ⟨A, cap, h1, h2⟩ := h
  exact ⟨A, cap, Box.below h1 hb (Box.lt h1), ownsRow_below h2 hb⟩
/-- A pool stays as it is while another object turns. -/
theorem PB.fx {w w' : World} {p q : Nat} {P : Pl} (h : PB w p P) (hf : FX (At3 q) w w') (hne : p ≠ q) (hq : (∃ T cs, Box w q T cs ∧ T ≠ TNd) ∨ w.heap.size ≤ q) : PB w' p P := by
  obtain ⟨A, cap, h1, h2⟩ := h
  refine ⟨A, cap, hf.box h1 hne, own_fx h2 hf fun k hk hx => ?_⟩
  obtain rfl : k = q := hx
  rcases hq with ⟨T, cs, hq, hT⟩ | hq
  · exact own_tag h2 hq hT hk.symm
  · have := (h2.lt k hk).2
    omega
/-- A pool all of which lies from block B on. -/
def PBB (B : Nat) (w : World) (p : Nat) (P : Pl) : Prop := B ≤ p ∧ ∃ A cap, Box w p TPool [.slice A P.L.length cap, .int .i64 P.now, .int .i64 P.boot, .int .i64 P.stop, .int .i64 P.retry] ∧ w.ownsRow B TNd 3 (.slice A P.L.length cap) P.L.length (VVs P.L)
theorem PBB.pb {B : Nat} {w : World} {p : Nat} {P : Pl} (h : PBB B w p P) : PB w p P := by
  obtain ⟨_, A, cap, h1, h2⟩ := h
  exact ⟨A, cap, h1, ownsRow_base h2 (Nat.zero_le _)⟩
theorem PBB.below {B : Nat} {w w' : World} {p : Nat} {P : Pl} (h : PBB B w p P) (hb : Below w.heap.size w w') : PBB B w' p P := by
  obtain ⟨h0, A, cap, h1, h2⟩ := h
  exact ⟨h0, A, cap, Box.below h1 hb (Box.lt h1), ownsRow_below h2 hb⟩
theorem PBB.fx {B : Nat} {w w' : World} {p q : Nat} {P : Pl} (h : PBB B w p P) (hf : FX (At3 q) w w') (hne : p ≠ q) (hq : ∃ T cs, Box w q T cs ∧ T ≠ TNd) : PBB B w' p P := by
  obtain ⟨h0, A, cap, h1, h2⟩ := h
  refine ⟨h0, A, cap, hf.box h1 hne, own_fx h2 hf fun k hk hx => ?_⟩
  obtain rfl : k = q := hx
  obtain ⟨T, cs, hq, hT⟩ := hq
  exact own_tag h2 hq hT hk.symm
theorem PB.box {w : World} {p : Nat} {P : Pl} (h : PB w p P) : ∃ cs, Box w p TPool cs := by
  obtain ⟨A, cap, h1, _⟩ := h
  exact ⟨_, h1⟩
theorem five {w : World} {b : Nat} {T : TypeId} {c0 c1 c2 c3 c4 : Value} (h : Box w b T [c0, c1, c2, c3, c4]) :
    w.cell? ⟨b, 0, none⟩ = some c0 ∧ w.cell? ⟨b, 1, none⟩ = some c1 ∧ w.cell? ⟨b, 2, none⟩ = some c2 ∧ w.cell? ⟨b, 3, none⟩ = some c3 ∧ w.cell? ⟨b, 4, none⟩ = some c4 ∧ w.frozen? ⟨b, 0, none⟩ = false ∧ w.frozen? ⟨b, 1, none⟩ = false ∧ b < w.heap.size :=
  ⟨Box.cell h 0, Box.cell h 1, Box.cell h 2, Box.cell h 3, Box.cell h 4, Box.free h 0, Box.free h 1, Box.lt h⟩
/-- The row of a pool's nodes, as it is read. -/
theorem row_reads {w : World} {base : Nat} {e : TypeId} {n cap : Nat} {A : Option Addr} {xs : List Value} (h : w.ownsRow base e 3 (.slice A n cap) n xs) : RdS w A n cap xs := by
  obtain ⟨A', cap', he, h1, h2, h3⟩ := ownsRow_shape h
  injection he with e1 _ e2
  subst e1 e2
  exact ⟨h1, h2, h3⟩
set_option maxRecDepth 100000 in
set_option maxHeartbeats 1000000 in
theorem made_any (p : Nat) (P : Pl) (w : World) (h : PB w p P) (hl : 1 ≤ P.L.length) : Calls Tryz.prog 24 #[.pointer (some ⟨p, 0, none⟩)] w fun e w' => e = .returned (.bool true) ∧ w' = w := by
  obtain ⟨A, cap, h1, _⟩ := h
  obtain ⟨c0, _, _, _, _, _, _, hp⟩ := five h1
  have i0 : (P.L.length : Int) > 0 := by omega
  clear h1
  go_enter Tryz.func24, Tryz.ntmps24
  go_wp2
  go_ret
  exact ⟨by simp; omega, rfl⟩
/-- A set's four words, as a call answers them. -/
def SetPost (w : World) (p : Nat → Bool) (e : Ending) (w' : World) : Prop := e = .returned (Bs.nodes p) ∧ Below w.heap.size w w'
end Go.Proofs.YtmnmcikbbfcjcaaGreatDoor.Ps
/-
  The nodes of which something holds.
-/
namespace Go.Proofs.YtmnmcikbbfcjcaaGreatDoor.Ps
open Go.RowKit Go.Shelf Vs Ns

theorem lst_step {p : Nat → Bool} {k : Nat} {b : Bool} (h : p k = b) : Bs.lst p (k + 1) = Bs.lst p k ++ (if b then [k] else []) := by
  cases b with
  | true => rw [Bs.lst_in p k h]; rfl
  | false => rw [Bs.lst_out p k h]; simp
/-- The numbers that the loop has put together, and the block of the result. -/
def WI (w : World) (p : Nat → Bool) (k : Nat) (v : Value) (wr : World) : Prop := Vs.OwnI wr (w.heap.size + 1) v (Bs.lst p k) ∧ Box wr w.heap.size TNodes [.int .u64 0, .int .u64 0, .int .u64 0, .int .u64 0] ∧ Below w.heap.size w wr
set_option maxRecDepth 100000 in
set_option maxHeartbeats 8000000 in
theorem which_any (p : Nat) (P : Pl) (fn : Nat) (lb : Array Value) (eg : ∀ args w, (callFunc fn args).run Tryz.prog w = .ok (.enter fn args) w) (h : N3 → Bool) (w : World) (hP : PB w p P) (h1 : 1 ≤ P.L.length) (h2 : P.L.length ≤ 256)
    (hcall : ∀ (i : Nat) (_ : i < P.L.length) (W : World), Below w.heap.size w W → Calls Tryz.prog fn (#[nv P.L[i]] ++ lb) W fun e w' => e = .returned (.bool (h P.L[i])) ∧ Below W.heap.size W w') :
    Calls Tryz.prog 30 #[.pointer (some ⟨p, 0, none⟩), .func (.func fn) #[] lb] w (SetPost w (whichP h P.L)) := by
  have hmade := fun W (hb : Below w.heap.size w W) => made_any p P W (hP.below hb) h1
  have hout : Bs.memP ((Bs.lst (whichP h P.L) P.L.length).map fun i : Nat => (i : Int)) = whichP h P.L := mem_cast fun j hj => which_out hj
  have hin := fun k (hk : k < P.L.length) => which_in (h := h) hk
  have hof := fun (W : World) (A : Option Addr) (l : List Nat) (cap : Nat) (h : Vs.Ints W W.heap.size A l) (hl : l.length ≤ 256) => Bs.of_any (.slice A l.length cap) (l.map fun n : Nat => (n : Int)) W (reads_ints h) (by rw [List.length_map]; omega)
  simp only [Bs.nodes] at hof
  obtain ⟨A, cap, hbx, hrow⟩ := hP
  obtain ⟨c0, _, _, _, _, _, _, hp⟩ := five hbx
  have hR := row_reads hrow
  unfold SetPost
  generalize whichP h P.L = q at *
  have X0 : Box (w.alloc (.cells #[.int .u64 0, .int .u64 0, .int .u64 0, .int .u64 0] TNodes)) w.heap.size TNodes [.int .u64 0, .int .u64 0, .int .u64 0, .int .u64 0] := Box.new w TNodes [.int .u64 0, .int .u64 0, .int .u64 0, .int .u64 0]
  have B0 : Below w.heap.size w (w.alloc (.cells #[.int .u64 0, .int .u64 0, .int .u64 0, .int .u64 0] TNodes)) := (Below.refl _ _).alloc (Nat.le_refl _) _
  have y0 := (B0.cell (p := ⟨p, 0, none⟩) hp).trans c0
  have yp := Nat.lt_of_lt_of_le hp B0.size
  have hst := fhid (show WI w q 0 (.slice none 0 0) (w.alloc (.cells #[.int .u64 0, .int .u64 0, .int .u64 0, .int .u64 0] TNodes)) from ⟨Vs.OwnI.nil _ _, X0, B0⟩)
  have i2 : (P.L.length : Int) ≤ 256 := by omega
  have i3 : (1 : Int) ≤ P.L.length := by omega
  replace hbx := fhid hbx
  replace hrow := fhid hrow
  replace hR := fhid hR
  replace hcall := fhid hcall
  replace hout := fhid hout
  generalize P.L = L at *
  clear c0
  go_enter Tryz.func30, Tryz.ntmps30
  go_upto_region 1 with fail
  generalize w.alloc _ = w1 at *
  replace X0 := fhid X0
  go_wp2_with (go_at_call 24; (with_reducible refine (hmade _ B0).mono ?_); rintro e w2 ⟨rfl, rfl⟩)
  go_loopw [5, 15] (fun v i wr => ∃ k : Nat, k ≤ L.length ∧ i = .int .i64 k ∧ WI w q k v wr) (fun _ i _ => L.length - (intOf i).toNat)
  case atStart => exact ⟨0, Nat.zero_le _, rfl, hst.out⟩
  case round =>
    obtain ⟨k, hk, rfl, hO, hX, hB⟩ := hrel
    have i0 : (0 : Int) ≤ k := by omega
    have hxl := Box.lt hX
    have hln := Bs.lst_len q k
    by_cases hlt : k < L.length
    · have i1 : (k : Int) < L.length := by omega
      obtain ⟨b, o, rfl, hb, e0, e1, e2⟩ := RdS.vec hR.out hlt
      have f0 := (hB.cell (p := ⟨b, o + k * 3, none⟩) hb).trans e0
      have f1 := (hB.cell (p := ⟨b, o + k * 3 + 1, none⟩) hb).trans e1
      have f2 := (hB.cell (p := ⟨b, o + k * 3 + 2, none⟩) hb).trans e2
      have hbl := Nat.lt_of_lt_of_le hb hB.size
      have hc := fun W (hW : Below w.heap.size w W) => hcall.out k hlt W hW
      have hqk := hin k hlt
      unfold nv at hc
      generalize h L[k] = R at *
      generalize L[k].1 = x0 at *
      generalize L[k].2.1 = x1 at *
      generalize L[k].2.2 = x2 at *
      have hls := fhid (lst_step hqk)
      have N0 := NB.new wr TNd (x0, x1, x2)
      have G0 : Below wr.heap.size wr (wr.alloc (.cells #[.int .i64 x0, .int .i64 x1, .int .i64 x2] TNd)) := (Below.refl _ _).alloc (Nat.le_refl _) _
      have gs : wr.heap.size < (wr.alloc (.cells #[.int .i64 x0, .int .i64 x1, .int .i64 x2] TNd)).heap.size := by simp
      simp only at N0
      clear e0 e1 e2 hqk
      replace hX := fhid hX
      replace hO := fhid hO
      go_upto_region 6 with fail
      generalize wr.alloc _ = w3 at *
      obtain ⟨g0, g1, g2, _, _, _, _⟩ := N0.facts
      simp only at g0 g1 g2
      have B3 := hB.trans (G0.mono hB.size)
      clear f0 f1 f2
      cases R with
      | true =>
        go_wp2_with (first
          | (go_at_fn fn; (with_reducible refine (hc _ B3).mono ?_); rintro e w4 ⟨rfl, b4⟩
             have B4 := B3.trans (b4.mono B3.size)
             have T4 := G0.trans (b4.mono G0.size)
             have O4 := Vs.OwnI.below hO.out T4
             have X4 := Box.below hX.out T4 hxl)
          | (at_builtin; refine Vs.app_int rfl _ _ rfl (w.heap.size + 1) _ (Bs.lst q k) k w4 rfl O4 rfl _ rfl rfl (by omega) (by have := Box.lt X4; omega) ?_; intro v5 w5 o5 b5))
        go_roundw
        case rel => exact ⟨k + 1, by omega, by go_num, by rw [hls.out]; exact o5, Box.below X4 b5 (by omega), B4.trans (b5.mono (by omega))⟩
        case measure => simp [intOf]; omega
      | false =>
        go_wp2_with (go_at_fn fn; (with_reducible refine (hc _ B3).mono ?_); rintro e w4 ⟨rfl, b4⟩
                     have B4 := B3.trans (b4.mono B3.size)
                     have T4 := G0.trans (b4.mono G0.size)
                     have O4 := Vs.OwnI.below hO.out T4
                     have X4 := Box.below hX.out T4 hxl)
        go_roundw
        case rel => exact ⟨k + 1, by omega, by go_num, by rw [hls.out]; simpa using O4, X4, B4⟩
        case measure => simp [intOf]; omega
    · obtain rfl : k = L.length := by omega
      obtain ⟨A8, cap8, rfl, hI⟩ := hO.shape
      have hoc := hof wr A8 _ cap8 hI (by omega)
      rw [hout.out] at hoc
      have hV : Bs.nodes q = .agg #[.int .u64 (Bs.word q 0), .int .u64 (Bs.word q 1), .int .u64 (Bs.word q 2), .int .u64 (Bs.word q 3)] := rfl
      generalize (Bs.word q 0 : Int) = u0 at *
      generalize (Bs.word q 1 : Int) = u1 at *
      generalize (Bs.word q 2 : Int) = u2 at *
      generalize (Bs.word q 3 : Int) = u3 at *
      clear hof hout hcall
      replace hO := fhid hO
      replace hV := fhid hV
      go_wp2_with (go_at_call 28; (with_reducible refine hoc.mono ?_); rintro e w3 ⟨rfl, b3⟩
                   have z3 := Box.below hX b3 hxl
                   have zl3 := Box.lt z3
                   obtain ⟨⟨y0, y1, y2, y3⟩, q0, q1, q2, q3⟩ := Box.four z3)
      refine bodyPost_ret (v := .agg #[.int .u64 u0, .int .u64 u1, .int .u64 u2, .int .u64 u3]) (by simp [results, Tryz.results30, go_sem, y0, y1, y2, y3, zl3]) rfl ⟨by rw [hV.out], ?_⟩
      with_reducible exact below4 (hB.trans (b3.mono hB.size)) (by omega)
end Go.Proofs.YtmnmcikbbfcjcaaGreatDoor.Ps
/-
  An event done to a set of nodes.
-/
namespace Go.Proofs.YtmnmcikbbfcjcaaGreatDoor.Ps
open Go.RowKit Go.Shelf Vs Ns

/-- A row of nodes that a call made. -/
def OwnN (w : World) (base : Nat) (v : Value) (L : List N3) : Prop := w.ownsRow base TNd 3 v L.length (VVs L)
theorem infoNode : (Tryz.prog.info? TNd).map (fun i => (i.zero, i.size, i.bytes)) = some (some (.agg #[.int .i64 0, .int .i64 0, .int .i64 0]), 3, 24) := by kernel_rfl
set_option maxRecDepth 100000 in
set_option maxHeartbeats 2000000 in
theorem cloneN_any (A : Option Addr) (L : List N3) (cap : Nat) (w : World) (h : RdS w A L.length cap (VVs L)) (h1 : 1 ≤ L.length) (h2 : L.length ≤ 256) :
    Calls Tryz.prog 50 #[.slice A L.length cap] w fun e w' => ∃ v, e = .returned v ∧ OwnN w' w.heap.size v L ∧ Below w.heap.size w w' := by
  obtain ⟨b, o, rfl, _, _⟩ := RdS.vec h (show 0 < L.length by omega)
  have k1 := fun w => Lib.run_eql_slice_nil (P := Tryz.prog) w 63 TNd (some ⟨b, o, none⟩) L.length cap 0 0 Tryz.underlying63
  simp only [Option.isNone_some] at k1
  have hs := fhid (h.2.2)
  clear h
  have hw := fun x => VVs_len x
  go_enter Tryz.func50, Tryz.ntmps50
  go_wp2_with (at_builtin
               refine app_own 63 TNd (.agg #[.int .i64 0, .int .i64 0, .int .i64 0]) 3 24 Tryz.underlying63 infoNode rfl (by decide) rfl _ _ rfl w.heap.size _ 0 [] rfl (World.ownsRow_made w #[] 0 (Nat.le_refl _) (by decide) rfl) w.heap.size (some ⟨b, o, none⟩) L.length cap (VVs L) rfl (hs.out.below ((Below.refl _ _).alloc (Nat.le_refl _) _)) (VVs_len L) (VVs_one L) (fun h => by cases h) (by omega) (by omega) (by rw [World.size_alloc]; omega) ?_
               intro v2 w2 o2 g2 b2)
  go_ret
  refine ⟨_, rfl, ?_, ((Below.refl _ _).alloc (Nat.le_refl _) _).trans b2⟩
  unfold OwnN
  rw [Nat.zero_add, List.nil_append] at o2
  exact o2
theorem VVs_set : ∀ (L : List N3) (k : Nat) (_ : k < L.length) (x : N3), (((VVs L).set (k * 3) (.int .i64 x.1)).set (k * 3 + 1) (.int .i64 x.2.1)).set (k * 3 + 2) (.int .i64 x.2.2) = VVs (L.set k x)
  | a :: L, 0, _, x => by simp [VVs]
  | a :: L, k + 1, hk, x => by
    have ih := VVs_set L k (by simpa using hk) x
    have e1 : VVs (a :: L) = .int .i64 a.1 :: .int .i64 a.2.1 :: .int .i64 a.2.2 :: VVs L := rfl
    rw [e1, List.set_cons_succ]
    have e2 : VVs (a :: L.set k x) = .int .i64 a.1 :: .int .i64 a.2.1 :: .int .i64 a.2.2 :: VVs (L.set k x) := rfl
    rw [e2, ← ih, show (k + 1) * 3 = k * 3 + 1 + 1 + 1 by omega]
    simp only [List.set_cons_succ]
theorem heap_same {w : World} {b : Nat} {cs : Array Value} {T : TypeId} {fr : Nat × Nat} (i : Nat) (u : Value) (h : w.heap[b]? = some (.cells cs T fr)) : (w.setCell ⟨b, i, none⟩ u).heap[b]? = some (.cells (cs.setIfInBounds i u) T fr) := by
  have hlt := lt_of_block h
  have h' : w.heap[b] = .cells cs T fr := by simpa [Array.getElem?_eq_getElem hlt] using h
  show (w.heap.modify b _)[b]? = _
  rw [Array.getElem?_eq_getElem (by simpa using hlt), Array.getElem_modify_self, h']
  rfl
/-- One node of the row put anew. -/
theorem OwnN.put {w : World} {base g cap : Nat} {L : List N3} (h : OwnN w base (.slice (some ⟨g, 0, none⟩) L.length cap) L) {k : Nat} (hk : k < L.length) (x : N3) :
    OwnN (((w.setCell ⟨g, k * 3, none⟩ (.int .i64 x.1)).setCell ⟨g, k * 3 + 1, none⟩ (.int .i64 x.2.1)).setCell ⟨g, k * 3 + 2, none⟩ (.int .i64 x.2.2)) base (.slice (some ⟨g, 0, none⟩) L.length cap) (L.set k x) := by
  obtain ⟨hl, ⟨he, _⟩ | ⟨g', cap', cur, he, hg, hh, hle, hcm, hsz, ht⟩⟩ := h
  · cases he
  · injection he with e1 _ e2
    injection e1 with e1
    injection e1 with e1
    subst e1 e2
    refine ⟨by rw [VVs_len, List.length_set], .inr ⟨g, cap, _, by rw [List.length_set], hg, heap_same _ _ (heap_same _ _ (heap_same _ _ hh)), by rw [List.length_set]; exact hle, hcm, by simpa using hsz, ?_⟩⟩
    rw [Array.toList_setIfInBounds, Array.toList_setIfInBounds, Array.toList_setIfInBounds, List.length_set, List.take_set, List.take_set, List.take_set, ht, VVs_set L k hk x]
theorem OwnN.free {w : World} {base g cap n : Nat} {L : List N3} (h : OwnN w base (.slice (some ⟨g, 0, none⟩) n cap) L) (i : Nat) : w.frozen? ⟨g, i, none⟩ = false ∧ g < w.heap.size ∧ base ≤ g := by
  obtain ⟨_, ⟨he, _⟩ | ⟨g', cap', cur, he, hg, hh, _⟩⟩ := h
  · cases he
  · injection he with e1 _ e2
    injection e1 with e1
    injection e1 with e1
    subst e1 e2
    exact ⟨by simp [World.frozen?, hh], lt_of_block hh, hg⟩
theorem OwnN.heap {w : World} {base g cap n : Nat} {L : List N3} (h : OwnN w base (.slice (some ⟨g, 0, none⟩) n cap) L) : ∃ cur, w.heap[g]? = some (.cells cur TNd (0, 0)) := by
  obtain ⟨_, ⟨he, _⟩ | ⟨g', cap', cur, he, hg, hh, _⟩⟩ := h
  · cases he
  · injection he with e1 _ e2
    injection e1 with e1
    injection e1 with e1
    subst e1
    exact ⟨cur, hh⟩
theorem node_int : TNd ≠ 3 := by decide
theorem OwnN.block {w : World} {base : Nat} {v : Value} {L : List N3} (h : OwnN w base v L) (h1 : 1 ≤ L.length) : ∃ g cap, v = .slice (some ⟨g, 0, none⟩) L.length cap ∧ base ≤ g := by
  obtain ⟨_, ⟨_, hn⟩ | ⟨g, cap, cur, he, hg, _⟩⟩ := h
  · omega
  · exact ⟨g, cap, he, hg⟩
/-- What All comes to. -/
def AllPost (w : World) (p : Nat) (r : Pl × Int) (e : Ending) (w' : World) : Prop := e = .returned (.int .i64 r.2) ∧ PB w' p r.1 ∧ FX (At3 p) w w'
/-- The loop: what is done by now. -/
def AI (w6 : World) (base g cap : Nat) (P : Pl) (ev : Int) (is : List Nat) (k : Nat) (wr : World) : Prop :=
  ∃ L', OwnN wr base (.slice (some ⟨g, 0, none⟩) P.L.length cap) L' ∧ L'.length = P.L.length ∧ goL P.now P.retry ev P.L is = goL P.now P.retry ev L' (is.drop k) ∧ FX (At3 g) w6 wr
theorem ai_yes {w6 w7 : World} {base g cap : Nat} {P : Pl} {ev : Int} {is : List Nat} {k : Nat} {L' : List N3} {x : N3} (hO : OwnN w7 base (.slice (some ⟨g, 0, none⟩) P.L.length cap) L') (hl : L'.length = P.L.length) (hg : goL P.now P.retry ev P.L is = goL P.now P.retry ev L' (is.drop k)) (hf : FX (At3 g) w6 w7)
    (hk : k < is.length) (hi : is[k] < P.L.length) (hx : nextN (L'.getD is[k] (0, 0, 0)) ev P.now P.retry = (x, 0)) : AI w6 base g cap P ev is (k + 1) (((w7.setCell ⟨g, is[k] * 3, none⟩ (.int .i64 x.1)).setCell ⟨g, is[k] * 3 + 1, none⟩ (.int .i64 x.2.1)).setCell ⟨g, is[k] * 3 + 2, none⟩ (.int .i64 x.2.2)) := by
  rw [← hl] at hO
  refine ⟨L'.set is[k] x, ?_, by rw [List.length_set, hl], ?_, ((hf.set rfl _ _).set rfl _ _).set rfl _ _⟩
  · rw [← hl]; exact hO.put (by rw [hl]; exact hi) x
  · rw [hg, List.drop_eq_getElem_cons hk, go_yes hx]
theorem ai_no {P : Pl} {ev : Int} {is : List Nat} {k : Nat} {L' : List N3} {x : N3} {e : Int} (hg : goL P.now P.retry ev P.L is = goL P.now P.retry ev L' (is.drop k)) (hk : k < is.length) (hx : nextN (L'.getD is[k] (0, 0, 0)) ev P.now P.retry = (x, e)) (he : e ≠ 0) : goL P.now P.retry ev P.L is = (L', e) := by
  rw [hg, List.drop_eq_getElem_cons hk, go_no hx he]
end Go.Proofs.YtmnmcikbbfcjcaaGreatDoor.Ps
/-
  slices.Repeat of one node.
-/
namespace Go.Proofs.YtmnmcikbbfcjcaaGreatDoor.Ps
open Go.RowKit Go.Shelf Vs Ns

abbrev TNds : TypeId := 63
def OwnB (w : World) (base : Nat) (v : Value) (l : List N3) : Prop := w.ownsRow base TNd 3 v l.length (VVs l)
/-- So many of one vector, and behind them room for more. -/
def RepN (w : World) (g : Nat) (x : V3) (N k : Nat) : Prop := ∃ Z : List Value, Z.length = (N - k) * 3 ∧ Box w g TNd (VVs (List.replicate k x) ++ Z)
theorem repn_cell {x : V3} {k j : Nat} {Z : List Value} {w : World} {g : Nat} (h : Box w g TNd (VVs (List.replicate k x) ++ Z)) (m : Nat) (hm : m ≤ k) (v : Value) (hv : (VVs (List.replicate m x))[j]? = some v) : w.cell? ((⟨g, 0, none⟩ : Addr).add j) = some v := by
  have hj : j < (VVs (List.replicate m x)).length := (List.getElem?_eq_some_iff.1 hv).1
  have ha : (⟨g, 0, none⟩ : Addr).add j = ⟨g, j, none⟩ := by unfold Addr.add; split <;> simp_all
  rw [ha, Box.cell h]
  have he : VVs (List.replicate k x) = VVs (List.replicate m x) ++ VVs (List.replicate (k - m) x) := by
    rw [← VVs_app, List.replicate_append_replicate, show m + (k - m) = k by omega]
  rw [he, List.append_assoc, List.getElem?_append_left hj, hv]
theorem repn_copy {w : World} {g : Nat} {x : V3} {N k : Nat} (h : RepN w g x N k) (hk : k < N) (m : Nat) (hm : m = Nat.min k (N - k)) (ty : TypeId) (c1 c2 : Nat) :
    ∃ w', (Builtin.copy_ #[TNds, TNds] ty #[.slice (some ⟨g, k * 3, none⟩) (N - k) c1, .slice (some ⟨g, 0, none⟩) k c2]).run Tryz.prog w = .ok (.int .i64 (m : Nat)) w' ∧ RepN w' g x N (k + m) ∧ Below g w w' := by
  obtain ⟨Z, hZ, hb⟩ := h
  have hmk : m ≤ k := by rw [hm]; exact Nat.min_le_left _ _
  have hmn : m ≤ N - k := by rw [hm]; exact Nat.min_le_right _ _
  have hlen : (VVs (List.replicate m x)).length = m * 3 := by rw [VVs_len, List.length_replicate]
  have hlk : (VVs (List.replicate k x)).length = k * 3 := by rw [VVs_len, List.length_replicate]
  have hr := run_copy_k (P := Tryz.prog) w TNds TNds ty TNd g (k * 3) (N - k) c1 ⟨g, 0, none⟩ k c2 3 (VVs (List.replicate k x) ++ Z).toArray TNd (VVs (List.replicate m x)) Tryz.underlying63 (by kernel_rfl) hb
    (by rw [hlen, ← hm]) (fun j v hv => repn_cell hb m hmk v hv) (by rw [hlen]; simp [hlk, hZ]; omega) (VVs_one _)
  rw [← hm] at hr
  refine ⟨_, hr, ⟨Z.drop (m * 3), ?_, ?_⟩, ?_⟩
  · rw [List.length_drop, hZ]; omega
  · have := setRow_heap w g _ ((VVs (List.replicate k x) ++ Z).toArray.toList.take (k * 3) ++ VVs (List.replicate m x) ++ (VVs (List.replicate k x) ++ Z).toArray.toList.drop (k * 3 + (VVs (List.replicate m x)).length)).toArray TNd _ hb
    unfold Box
    rw [this, hlen]
    simp only [List.toList_toArray]
    rw [List.take_append_of_le_length (by omega), List.take_of_length_le (by omega), List.drop_append, List.drop_of_length_le (by omega), List.nil_append, hlk, Nat.add_sub_cancel_left, ← VVs_app, List.replicate_append_replicate]
  · exact ⟨rfl, rfl, rfl, by simp [World.setRow], fun k2 hk2 => setRow_other w g k2 _ (by omega)⟩
theorem repn_first {w : World} {g b : Nat} {x : V3} {N : Nat} (h : RepN w g x N 0) (hx : Box w b TNd [.int .i64 x.1, .int .i64 x.2.1, .int .i64 x.2.2]) (ty : TypeId) (m : Nat) (hm : m = Nat.min 1 N) :
    ∃ w', (Builtin.copy_ #[TNds, TNds] ty #[.slice (some ⟨g, 0, none⟩) N N, .slice (some ⟨b, 0, none⟩) 1 1]).run Tryz.prog w = .ok (.int .i64 (m : Nat)) w' ∧ RepN w' g x N m ∧ Below g w w' := by
  obtain ⟨Z, hZ, hb⟩ := h
  have hm1 : m ≤ 1 := by rw [hm]; exact Nat.min_le_left _ _
  have hmn : m ≤ N := by rw [hm]; exact Nat.min_le_right _ _
  have hlen : (VVs (List.replicate m x)).length = m * 3 := by rw [VVs_len, List.length_replicate]
  have hr := run_copy_k (P := Tryz.prog) w TNds TNds ty TNd g 0 N N ⟨b, 0, none⟩ 1 1 3 (VVs (List.replicate 0 x) ++ Z).toArray TNd (VVs (List.replicate m x)) Tryz.underlying63 (by kernel_rfl) hb
    (by rw [hlen, ← hm]) (fun j v hv => repn_cell (x := x) (k := 1) (Z := []) hx m hm1 v hv) (by rw [hlen]; simp [VVs, hZ]; omega) (VVs_one _)
  rw [← hm] at hr
  refine ⟨_, hr, ⟨Z.drop (m * 3), ?_, ?_⟩, ?_⟩
  · rw [List.length_drop, hZ]; omega
  · have := setRow_heap w g _ ((VVs (List.replicate 0 x) ++ Z).toArray.toList.take 0 ++ VVs (List.replicate m x) ++ (VVs (List.replicate 0 x) ++ Z).toArray.toList.drop (0 + (VVs (List.replicate m x)).length)).toArray TNd _ hb
    unfold Box
    rw [this, hlen]
    simp [VVs]
  · exact ⟨rfl, rfl, rfl, by simp [World.setRow], fun k2 hk2 => setRow_other w g k2 _ (by omega)⟩
theorem make_nodes (N : Nat) (hN : N ≤ 256) (w : World) : ∃ w', (Instr.makeSlice TNds (.int .i64 (N : Int)) (.int .i64 (N : Int))).run Tryz.prog w = .ok (.slice (some ⟨w.heap.size, 0, none⟩) N N) w' ∧ (∀ x, RepN w' w.heap.size x N 0) ∧ Below w.heap.size w w' ∧ w.heap.size < w'.heap.size := by
  cases hi : Tryz.prog.info? TNd with
  | none => have := infoNode; rw [hi] at this; cases this
  | some i =>
    have h := infoNode
    rw [hi] at h
    simp only [Option.map_some, Option.some.injEq, Prod.mk.injEq] at h
    obtain ⟨h1, h2, h3⟩ := h
    have hr := run_makeSlice (P := Tryz.prog) w TNds TNd i _ Tryz.underlying63 hi h1 .i64 .i64 (N : Int) (N : Int) (by omega) (Int.le_refl _) (by rw [h2]; simp; omega) (by rw [h3]; omega) (by omega)
    simp only [Int.toNat_natCast] at hr
    rw [h2] at hr
    refine ⟨_, hr, fun x => ⟨(madeCells (Value.agg #[.int .i64 0, .int .i64 0, .int .i64 0]).cells (N * 3)).toList, by rw [Array.length_toList, size_madeCells]; omega, ?_⟩, (Below.refl _ _).alloc (Nat.le_refl _) _, by simp⟩
    show Box _ _ TNd ([] ++ _)
    rw [List.nil_append]
    have := Box.new w TNd (madeCells (Value.agg #[.int .i64 0, .int .i64 0, .int .i64 0]).cells (N * 3)).toList
    simpa using this
theorem own_repn {w : World} {g base : Nat} {x : V3} {N : Nat} (h : RepN w g x N N) (hb : base ≤ g) (hN : N ≤ 256) : OwnB w base (.slice (some ⟨g, 0, none⟩) N N) (List.replicate N x) := by
  obtain ⟨Z, hZ, hB⟩ := h
  have : Z = [] := List.eq_nil_of_length_eq_zero (by rw [hZ]; omega)
  subst this
  rw [List.append_nil] at hB
  have hl : (List.replicate N x).length = N := List.length_replicate
  refine ⟨VVs_len _, .inr ⟨g, N, (VVs (List.replicate N x)).toArray, by rw [hl], hb, hB, by omega, by unfold maxLen; omega, by simp [VVs_len], ?_⟩⟩
  rw [List.take_of_length_le (by rw [VVs_len]; exact Nat.le_refl _)]
set_option maxRecDepth 100000 in
set_option maxHeartbeats 4000000 in
theorem RepeatN_any (b : Nat) (x : V3) (N : Nat) (hN : N ≤ 256) (w : World) (hx : Box w b TNd [.int .i64 x.1, .int .i64 x.2.1, .int .i64 x.2.2]) :
    Calls Tryz.prog 19 #[.slice (some ⟨b, 0, none⟩) 1 1, .int .i64 (N : Int)] w fun e w' => ∃ g, e = .returned (.slice (some ⟨g, 0, none⟩) N N) ∧ w.heap.size ≤ g ∧ RepN w' g x N N ∧ Below w.heap.size w w' := by
  have hbl := Box.lt hx
  obtain ⟨w1, hmk, hR0, hB1, hz1⟩ := make_nodes N hN w
  have hx1 := Box.below hx hB1 hbl
  have hmul : ∀ W : World, Calls Tryz.prog 42 #[.int .u64 1, .int .u64 (N : Int)] W fun e w' => e = .returned (.tuple #[.int .u64 0, .int .u64 (N : Int)]) ∧ w' = W := fun W => by
    have := Tryz.bits_Mul 1 N (by decide) (by omega) W
    rw [show 1 * N / 18446744073709551616 = 0 by omega, show 1 * N % 18446744073709551616 = N by omega] at this
    exact this
  have e1 : IntKind.u64.wrap (N : Int) = N := IntWalk.u64_in _ (by omega)
  have e2 : IntKind.i64.wrap (N : Int) = N := IntWalk.i64_in _ (by omega)
  have e3 : ¬ (N : Int) > 9223372036854775807 := by omega
  have e4 : ¬ (N : Int) < 0 := by omega
  have hR0x := fhid (hR0 x)
  clear hR0
  go_enter Tryz.func19, Tryz.ntmps19
  go_upto_region 7 with (go_at_call 42; (with_reducible refine (hmul _).mono ?_); rintro e w2 ⟨rfl, rfl⟩)
  obtain ⟨m, hm⟩ : ∃ m, m = Nat.min 1 N := ⟨_, rfl⟩
  obtain ⟨w3, hrun, hR3, hb3⟩ := repn_first hR0x.out hx1 3 m hm
  have hB3 := fhid (hB1.trans hb3)
  have hm1 : m ≤ 1 := by rw [hm]; exact Nat.min_le_left _ _
  have hmN : m ≤ N := by rw [hm]; exact Nat.min_le_right _ _
  have hm0 : 0 < N → 0 < m := fun h => by rw [hm]; exact Nat.lt_min.2 ⟨by decide, h⟩
  replace hm := fhid hm
  replace hR3 := fhid hR3
  go_wp2_with fail
  go_loopw [8] (fun i wr => ∃ k : Nat, i = .int .i64 k ∧ k ≤ N ∧ (0 < N → 0 < k) ∧ RepN wr w2.heap.size x N k ∧ Below w2.heap.size w2 wr) (fun i _ => N - (intOf i).toNat)
  case atStart => exact ⟨m, rfl, hmN, hm0, hR3.out, hB3.out⟩
  case round =>
    obtain ⟨k, rfl, hk, hk0, hR, hB⟩ := hrel
    have i0 : (0 : Int) ≤ k := by omega
    have i2 : (N : Int) ≤ 256 := by omega
    by_cases hlt : k < N
    · have i1 : (k : Int) < N := by omega
      obtain ⟨d, hd⟩ : ∃ d, d = Nat.min k (N - k) := ⟨_, rfl⟩
      obtain ⟨w4, hrun4, hR4, hb4⟩ := repn_copy (w := wr.drew) (show RepN wr.drew _ _ _ _ from hR) hlt d hd 3 (N - k) N
      have hNk : ¬ N = k := by omega
      have hd0 : 0 < d := by rw [hd]; exact Nat.lt_min.2 ⟨hk0 (by omega), by omega⟩
      have hdk : d ≤ N - k := by rw [hd]; exact Nat.min_le_right _ _
      have e5 : IntKind.i64.wrap ((k : Int) + d) = (k : Int) + d := IntWalk.i64_in _ (by omega)
      replace hd := fhid hd
      replace hR := fhid hR
      replace hR4 := fhid hR4
      go_upto_region 9 with fail
      go_region
      go_roundw
      case rel =>
        refine ⟨_, _, _, _, _, _, _, _, _, _, _, _, _, _, ⟨k + d, ?_, by omega, fun _ => by omega, hR4.out, hB.trans ((show Below w2.heap.size wr wr.drew from (Below.refl _ _).drew).trans hb4)⟩, rfl⟩
        rw [Int.natCast_add]
      case measure => simp [intOf]; omega
    · obtain rfl : k = N := by omega
      go_wp2
      go_ret
      exact ⟨_, rfl, Nat.le_refl _, hR, hB⟩
end Go.Proofs.YtmnmcikbbfcjcaaGreatDoor.Ps
/-
  All, walked.
-/
namespace Go.Proofs.YtmnmcikbbfcjcaaGreatDoor.Ps
open Go.RowKit Go.Shelf Vs Ns

theorem PB.row {w : World} {p : Nat} {P : Pl} (h : PB w p P) : ∃ A cap, Box w p TPool [.slice A P.L.length cap, .int .i64 P.now, .int .i64 P.boot, .int .i64 P.stop, .int .i64 P.retry] ∧ RdS w A P.L.length cap (VVs P.L) := by
  obtain ⟨A, cap, h1, h2⟩ := h
  exact ⟨A, cap, h1, row_reads h2⟩
/-- The pool's nodes are others. -/
theorem PB.turn {w W : World} {p g cap base : Nat} {P : Pl} {L' : List N3} (hP : PB w p P) (hf : Below w.heap.size w W) (hO : OwnN W base (.slice (some ⟨g, 0, none⟩) P.L.length cap) L') (hl : L'.length = P.L.length) : PB (W.setCell ⟨p, 0, none⟩ (.slice (some ⟨g, 0, none⟩) P.L.length cap)) p {P with L := L'} := by
  obtain ⟨A, c, h1, h2⟩ := hP
  have h1' := Box.below h1 hf (Box.lt h1)
  refine ⟨some ⟨g, 0, none⟩, cap, ?_, ?_⟩
  · have := Box.set h1' 0 (.slice (some ⟨g, 0, none⟩) P.L.length cap)
    show Box _ p TPool [.slice (some ⟨g, 0, none⟩) L'.length cap, _, _, _, _]
    rw [hl]
    exact this
  · show World.ownsRow _ 0 TNd 3 (.slice (some ⟨g, 0, none⟩) L'.length cap) L'.length (VVs L')
    have := own_set hO h1' pool_node 0 (.slice (some ⟨g, 0, none⟩) P.L.length cap)
    rw [hl] at this ⊢
    exact ownsRow_base this (Nat.zero_le _)
set_option maxRecDepth 100000 in
set_option maxHeartbeats 16000000 in
theorem All_any (p : Nat) (P : Pl) (q : Nat → Bool) (ev : Int) (w : World) (hP : PB w p P) (hG : Good P) (hT : TabW w) (hD : Bs.Tab w) :
    Calls Tryz.prog 23 #[.pointer (some ⟨p, 0, none⟩), Bs.nodes q, .int .i64 ev] w (AllPost w p (allP P q ev)) := by
  have hl1 := hG.l1
  have hl2 := hG.l2
  have hmade := fun W (hb : Below w.heap.size w W) => made_any p P W (hP.below hb) hl1
  have hsp := fun W => Bs.span_any 0 ((P.L.length : Int) - 1) W
  have hnt := fun W => Bs.op_not q (Bs.spanP 0 ((P.L.length : Int) - 1)) W
  have hct := fun W => Bs.count_any (fun j => q j && !Bs.spanP 0 ((P.L.length : Int) - 1) j) W
  have hls := fun W (hb : Below w.heap.size w W) => Bs.list_any q W (Bs.tab_below hD hb)
  have hcl := fun W (hb : Below w.heap.size w W) => (hP.below hb).row
  have hnx := fun n W (hb : Below w.heap.size w W) => Next_any n ev P.now P.retry W (hT.below hb)
  have hout : outP q P.L.length = decide (0 < Bs.cnt (fun j => q j && !Bs.spanP 0 ((P.L.length : Int) - 1) j) 256) := rfl
  have hbad : ∀ W, outP q P.L.length = true → Below w.heap.size w W → AllPost w p (allP P q ev) (.returned (.int .i64 6)) W := fun W h hb => by
    rw [all_out h]; exact ⟨rfl, hP.below hb, FX.of hb⟩
  have hno : ∀ W e L', outP q P.L.length = false → goL P.now P.retry ev P.L (Bs.lst q 256) = (L', e) → e ≠ 0 → Below w.heap.size w W → AllPost w p (allP P q ev) (.returned (.int .i64 e)) W := fun W e L' h hg he hb => by
    rw [all_no h hg he]; exact ⟨rfl, hP.below hb, FX.of hb⟩
  have hyes : ∀ W g cap base L', outP q P.L.length = false → goL P.now P.retry ev P.L (Bs.lst q 256) = (L', 0) → Below w.heap.size w W → OwnN W base (.slice (some ⟨g, 0, none⟩) P.L.length cap) L' → L'.length = P.L.length → AllPost w p (allP P q ev) (.returned (.int .i64 0)) (W.setCell ⟨p, 0, none⟩ (.slice (some ⟨g, 0, none⟩) P.L.length cap)) := fun W g cap base L' h hg hb hO hl => by
    rw [all_yes h hg]; exact ⟨rfl, hP.turn hb hO hl, (FX.of hb).set (X := At3 p) (b := p) rfl _ _⟩
  have hin := fun h => out_no (p := q) (n := P.L.length) h
  have hst : ∀ W g cap base, OwnN W base (.slice (some ⟨g, 0, none⟩) P.L.length cap) P.L → AI W base g cap P ev (Bs.lst q 256) 0 W := fun W g cap base hO => ⟨P.L, hO, rfl, rfl, FX.of (Below.refl _ _)⟩
  have hlt256 := Bs.lst_len q 256
  generalize AllPost w p (allP P q ev) = Post at *
  obtain ⟨A, cap, hbx, hrow⟩ := hP
  obtain ⟨c0, c1, c2, c3, c4, fr0, _, hp⟩ := five hbx
  have hclo := fun W (hb : Below w.heap.size w W) => cloneN_any A P.L cap W ((row_reads hrow).below hb) hl1 hl2
  have hV : Bs.nodes q = .agg #[.int .u64 (Bs.word q 0), .int .u64 (Bs.word q 1), .int .u64 (Bs.word q 2), .int .u64 (Bs.word q 3)] := rfl
  have hVs : Bs.nodes (Bs.spanP 0 ((P.L.length : Int) - 1)) = .agg #[.int .u64 (Bs.word (Bs.spanP 0 ((P.L.length : Int) - 1)) 0), .int .u64 (Bs.word (Bs.spanP 0 ((P.L.length : Int) - 1)) 1), .int .u64 (Bs.word (Bs.spanP 0 ((P.L.length : Int) - 1)) 2), .int .u64 (Bs.word (Bs.spanP 0 ((P.L.length : Int) - 1)) 3)] := rfl
  rw [hV]
  simp only [hV] at hnt hls
  clear hrow hT hD hcl
  replace hbx := fhid hbx
  generalize Bs.lst q 256 = is at *
  generalize hCC : Bs.cnt (fun j => q j && !Bs.spanP 0 ((P.L.length : Int) - 1) j) 256 = C at *
  generalize Bs.nodes (fun j => q j && !Bs.spanP 0 ((P.L.length : Int) - 1) j) = V2 at *
  generalize Bs.nodes (Bs.spanP 0 ((P.L.length : Int) - 1)) = V1 at *
  generalize (Bs.word q 0 : Int) = u0 at *
  generalize (Bs.word q 1 : Int) = u1 at *
  generalize (Bs.word q 2 : Int) = u2 at *
  generalize (Bs.word q 3 : Int) = u3 at *
  generalize outP q P.L.length = OB at *
  clear hVs hCC hV
  have X0 : Box (w.alloc (.cells #[.int .u64 u0, .int .u64 u1, .int .u64 u2, .int .u64 u3] TNodes)) w.heap.size TNodes [.int .u64 u0, .int .u64 u1, .int .u64 u2, .int .u64 u3] := Box.new w TNodes [.int .u64 u0, .int .u64 u1, .int .u64 u2, .int .u64 u3]
  have B0 : Below w.heap.size w (w.alloc (.cells #[.int .u64 u0, .int .u64 u1, .int .u64 u2, .int .u64 u3] TNodes)) := (Below.refl _ _).alloc (Nat.le_refl _) _
  have i0 : (P.L.length : Int) ≤ 256 := by omega
  have i1 : (1 : Int) ≤ P.L.length := by omega
  have e1 : IntKind.i64.wrap ((P.L.length : Int) - 1) = (P.L.length : Int) - 1 := IntWalk.i64_in _ (by omega)
  have y0 := (B0.cell (p := ⟨p, 0, none⟩) hp).trans c0
  have yp := Nat.lt_of_lt_of_le hp B0.size
  replace hbad := fhid hbad
  replace hno := fhid hno
  replace hyes := fhid hyes
  replace hin := fhid hin
  replace hst := fhid hst
  go_enter Tryz.func23, Tryz.ntmps23
  go_upto_region 1 with fail
  generalize w.alloc _ = w1 at *
  go_upto_region 3 with (go_at_call 24; (with_reducible refine (hmade _ B0).mono ?_); rintro e w2 ⟨rfl, rfl⟩)
  obtain ⟨⟨x0, x1, x2, x3⟩, -, -, -, -⟩ := Box.four X0
  have xl := Box.lt X0
  have z : w2.drew.cell? ⟨w.heap.size, 0, none⟩ = some (.int .u64 u0) ∧ w2.drew.cell? ⟨w.heap.size, 1, none⟩ = some (.int .u64 u1) ∧ w2.drew.cell? ⟨w.heap.size, 2, none⟩ = some (.int .u64 u2) ∧ w2.drew.cell? ⟨w.heap.size, 3, none⟩ = some (.int .u64 u3) ∧ w2.drew.cell? ⟨p, 0, none⟩ = some (.slice A P.L.length cap) := ⟨x0, x1, x2, x3, y0⟩
  have zz : Below w2.heap.size w2 w2.drew := (Below.refl _ _).drew
  have zS : ∀ W, Below w2.heap.size w2 W → W.cell? ⟨w.heap.size, 0, none⟩ = some (.int .u64 u0) ∧ W.cell? ⟨w.heap.size, 1, none⟩ = some (.int .u64 u1) ∧ W.cell? ⟨w.heap.size, 2, none⟩ = some (.int .u64 u2) ∧ W.cell? ⟨w.heap.size, 3, none⟩ = some (.int .u64 u3) ∧ W.cell? ⟨p, 0, none⟩ = some (.slice A P.L.length cap) := fun W hb =>
    ⟨(hb.cell (p := ⟨w.heap.size, 0, none⟩) xl).trans x0, (hb.cell (p := ⟨w.heap.size, 1, none⟩) xl).trans x1, (hb.cell (p := ⟨w.heap.size, 2, none⟩) xl).trans x2, (hb.cell (p := ⟨w.heap.size, 3, none⟩) xl).trans x3, (hb.cell (p := ⟨p, 0, none⟩) yp).trans y0⟩
  replace zS := fhid zS
  go_region_held3 (fun w' => w'.cell? ⟨w.heap.size, 0, none⟩ = some (.int .u64 u0) ∧ w'.cell? ⟨w.heap.size, 1, none⟩ = some (.int .u64 u1) ∧ w'.cell? ⟨w.heap.size, 2, none⟩ = some (.int .u64 u2) ∧ w'.cell? ⟨w.heap.size, 3, none⟩ = some (.int .u64 u3) ∧ w'.cell? ⟨p, 0, none⟩ = some (.slice A P.L.length cap)) (first | exact z | fail)
    (first
      | (go_at_call 49; (with_reducible refine (hsp _).mono ?_); rintro e w4 ⟨rfl, hx⟩; have zz := zz.trans (hx.mono zz.size); have z := zS.out _ zz)
      | (go_at_call 48; (with_reducible refine (hnt _).mono ?_); rintro e w4 ⟨rfl, hx⟩; have zz := zz.trans (hx.mono zz.size); have z := zS.out _ zz)
      | (go_at_call 29; (with_reducible refine (hct _).mono ?_); rintro e w4 ⟨rfl, hx⟩; have zz := zz.trans (hx.mono zz.size); have z := zS.out _ zz))
  have B3 := B0.trans (zz.mono B0.size)
  by_cases hC : 0 < C
  · have hO := fhid (hout.trans (decide_eq_true hC))
    have j1 : (C : Int) > 0 := by omega
    clear hout hmade hsp hnt hct hls hnx hclo hC
    replace zz := fhid zz
    go_wp2_with fail
    exact hbad.out _ hO.out B3
  · have hO := fhid (hout.trans (decide_eq_false hC))
    have j1 : ¬ (C : Int) > 0 := by omega
    clear hout hmade hsp hnt hct hbad hC
    replace zz := fhid zz
    obtain ⟨z0, z1, z2, z3, z4⟩ := z
    have zp := Nat.lt_of_lt_of_le hp B3.size
    have zl := Nat.lt_of_lt_of_le xl zz.out.size
    go_wp2_with (first
      | (go_at_call 50; (with_reducible refine (hclo _ B3).mono ?_); rintro e w5 ⟨v5, rfl, o5, b5⟩
         obtain ⟨g, cap5, rfl, hg⟩ := o5.block hl1
         obtain ⟨z0, z1, z2, z3, z4⟩ := zS.out _ (zz.out.trans (b5.mono zz.out.size))
         have zl := Nat.lt_of_lt_of_le zl b5.size
         have zp := Nat.lt_of_lt_of_le zp b5.size
         have B5 := B3.trans (b5.mono B3.size)
         replace o5 := fhid o5)
      | (go_at_call 51; (with_reducible refine (hls _ B5).mono ?_); rintro e w6 ⟨v6, rfl, o6, b6⟩
         obtain ⟨A6, c6, rfl, hc6, hc6', hs6⟩ := ownsRow_shape o6
         replace hs6 := fhid hs6
         replace o6 := fhid o6))
    have B6 := B5.trans (b6.mono B5.size)
    obtain ⟨cur, hcur⟩ := o5.out.heap
    have hcur6 := (b6.block g (lt_of_block hcur)).trans hcur
    have O6 := hst.out w6 g cap5 _ (ownsRow_below o5.out b6)
    have hpg : p ≠ g := by have := B3.size; omega
    have hb6 := fhid (Box.below hbx.out B6 hp)
    have pp := Nat.lt_of_lt_of_le hp B6.size
    have hgw : w.heap.size ≤ g := Nat.le_trans B3.size hg
    have hIv : ∀ k (hk : k < is.length), is[k] < P.L.length := fun k hk => hin.out hO.out _ (List.getElem_mem hk)
    clear c0 c1 c2 c3 c4 y0 x0 x1 x2 x3 z0 z1 z2 z3 z4 hls hclo zl zp xl yp fr0
    replace hcur := fhid hcur
    replace O6 := fhid O6
    go_loopw [34] (fun i wr => ∃ k : Nat, k ≤ is.length ∧ i = .int .i64 k ∧ AI w6 w4.heap.size g cap5 P ev is k wr) (fun i _ => is.length - (intOf i).toNat)
    case atStart => exact ⟨0, Nat.zero_le _, rfl, O6.out⟩
    case round =>
      obtain ⟨k, hk, rfl, L', hN, hl, hgo, hf⟩ := hrel
      have k0 : (0 : Int) ≤ k := by omega
      have k2 : (is.length : Int) ≤ 256 := by omega
      have Bw := B6.trans (hf.below (B := w.heap.size) (fun j hj => by obtain rfl : j = g := hj; exact hgw) B6.size)
      obtain ⟨q0, q1, -, -, q4, fr, -, qp⟩ := five (hf.box hb6.out hpg)
      by_cases hlt : k < is.length
      · have k1 : (k : Int) < is.length := by omega
        have hiL : is[k] < L'.length := by rw [hl]; exact hIv k hlt
        have hO6 := own_fx o6.out hf (fun j hj hx => by obtain rfl : j = g := hx; exact own_tag o6.out hcur6 node_int hj.symm)
        obtain ⟨A6', c6', e6, _, _, hs6'⟩ := ownsRow_shape hO6
        injection e6 with e6 _ e7
        subst e6 e7
        obtain ⟨lb, lo, rfl, hlb, hlc⟩ := hs6' (by rw [List.length_map]; omega)
        have hel := hlc k (by rw [List.length_map]; exact hlt)
        rw [List.getElem_map] at hel
        unfold Bs.iv at hel
        clear hlc hs6' hO6
        have hN' := hN
        rw [← hl] at hN'
        have hR := row_reads hN'
        obtain ⟨nb, no, en, hnb, n0, n1, n2⟩ := RdS.vec hR hiL
        injection en with en
        injection en with en1 en2
        subst en1 en2
        have f0 := (hN.free (is[k] * 3)).1
        have f1 := (hN.free (is[k] * 3 + 1)).1
        have f2 := (hN.free (is[k] * 3 + 2)).1
        have hIl : ((is[k] : Nat) : Int) < P.L.length := by omega
        have hIz : (0 : Int) ≤ ((is[k] : Nat) : Int) := by omega
        have hsy := fun x w7 hO7 hf7 hx => fhid (ai_yes (w6 := w6) (w7 := w7) (base := w4.heap.size) (g := g) (cap := cap5) (P := P) (ev := ev) (is := is) (k := k) (L' := L') (x := x) hO7 hl hgo hf7 hlt (hIv k hlt) hx)
        have hsn := fun x e hx he => fhid (ai_no (P := P) (ev := ev) (is := is) (k := k) (L' := L') (x := x) (e := e) hgo hlt hx he)
        have hgd : L'.getD is[k] (0, 0, 0) = L'[is[k]] := by rw [List.getD_eq_getElem?_getD, List.getElem?_eq_getElem hiL]; rfl
        have hnx2 := hnx L'[is[k]]
        rw [← hgd] at hnx2
        obtain ⟨⟨y0, y1, y2⟩, er, hR9⟩ : ∃ x e, nextN (L'.getD is[k] (0, 0, 0)) ev P.now P.retry = (x, e) := ⟨_, _, rfl⟩
        rw [hR9] at hnx2
        rw [hgd] at hnx2
        replace hR9 := fhid hR9
        unfold NextPost nv at hnx2
        simp only at hnx2
        simp only [Nat.zero_add] at n0 n1 n2
        generalize L'[is[k]].1 = a0 at *
        generalize L'[is[k]].2.1 = a1 at *
        generalize L'[is[k]].2.2 = a2 at *
        generalize is[k] = j at *
        replace hN := fhid hN
        replace hN' := fhid hN'
        replace hsy := fhid hsy
        replace hsn := fhid hsn
        go_upto_region 9 with fail
        go_cut [10, 11] (fun s10 s11 wx => ∃ b, s10 = .pointer (some ⟨b, 0, none⟩) ∧ s11 = .int .i64 er ∧ NB wx b TNd (y0, y1, y2) ∧ wr.heap.size ≤ b ∧ Below wr.heap.size wr wx)
        case first =>
          have gl := Nat.lt_of_lt_of_le (lt_of_block hcur6) hf.size
          have bd : Below w.heap.size w wr.drew := Bw.drew
          have bA : ∀ o, Below w.heap.size w (wr.alloc o) := fun o => Bw.alloc Bw.size o
          have zW := fhid (show ∀ W, Below wr.heap.size wr W → W.cell? ⟨g, j * 3, none⟩ = some (.int .i64 a0) ∧ W.cell? ⟨g, j * 3 + 1, none⟩ = some (.int .i64 a1) ∧ W.cell? ⟨g, j * 3 + 2, none⟩ = some (.int .i64 a2) ∧ W.cell? ⟨p, 1, none⟩ = some (.int .i64 P.now) ∧ W.cell? ⟨p, 4, none⟩ = some (.int .i64 P.retry) from fun W hb =>
            ⟨(hb.cell (p := ⟨g, j * 3, none⟩) gl).trans n0, (hb.cell (p := ⟨g, j * 3 + 1, none⟩) gl).trans n1, (hb.cell (p := ⟨g, j * 3 + 2, none⟩) gl).trans n2, (hb.cell (p := ⟨p, 1, none⟩) qp).trans q1, (hb.cell (p := ⟨p, 4, none⟩) qp).trans q4⟩)
          have z := zW.out wr.drew (Below.refl _ _).drew
          have zA := fun o => zW.out (wr.alloc o) ((Below.refl _ _).alloc (Nat.le_refl _) o)
          have nbA := fhid (show NB (wr.alloc (.cells #[.int .i64 0, .int .i64 0, .int .i64 0] TNd)).drew wr.heap.size TNd (0, 0, 0) from NB.new wr TNd (0, 0, 0))
          clear n0 n1 n2 q1 q4
          go_region_held3 (fun W => W.cell? ⟨g, j * 3, none⟩ = some (.int .i64 a0) ∧ W.cell? ⟨g, j * 3 + 1, none⟩ = some (.int .i64 a1) ∧ W.cell? ⟨g, j * 3 + 2, none⟩ = some (.int .i64 a2) ∧ W.cell? ⟨p, 1, none⟩ = some (.int .i64 P.now) ∧ W.cell? ⟨p, 4, none⟩ = some (.int .i64 P.retry)) (first | exact z | exact zA _ | exact zW.out _ (Below.alloc tt (Below.size tt) _) | exact zW.out _ (Ns.set3 tt (Nat.le_refl _) _ _ _) | exact zW.out _ (Below.drew (Ns.set3 tt (Nat.le_refl _) _ _ _)) | fail)
            (first
              | (go_at_call 52
                 first
                 | ((with_reducible refine (hnx2 _ bd).mono ?_)
                    rintro e w7 ⟨rfl, b7⟩
                    have tt : Below wr.heap.size wr w7 := ((Below.refl _ _).drew).trans b7
                    have z := zW.out _ tt)
                 | ((with_reducible refine (hnx2 _ (Below.drew (bA _))).mono ?_)
                    rintro e w7 ⟨rfl, b7⟩
                    have tt : Below wr.heap.size wr w7 := (((Below.refl _ _).alloc (Nat.le_refl _) _).drew).trans (b7.mono (by simp))
                    have z := zW.out _ tt
                    have nb := NB.below nbA.out b7 (by simp)
                    obtain ⟨g0, g1, g2, h0, h1, h2, hgl⟩ := nb.facts
                    replace nb := fhid nb))
              | fail)
          all_goals
            go_wp2_with fail
            go_meet
            first
              | exact ⟨w7.heap.size, rfl, rfl, NB.new w7 TNd (y0, y1, y2), tt.size, tt.alloc tt.size _⟩
              | exact ⟨wr.heap.size, rfl, rfl, NB.over nb.out y0 y1 y2, Nat.le_refl _, Ns.set3 tt (Nat.le_refl _) _ _ _⟩
              | exact ⟨wr.heap.size, rfl, rfl, NB.over nb.out y0 y1 y2, Nat.le_refl _, (Ns.set3 tt (Nat.le_refl _) _ _ _).drew⟩
              | exact ⟨w7.heap.size, rfl, rfl, NB.new w7 TNd (y0, y1, y2), tt.size, (tt.alloc tt.size _).drew⟩
        case rest =>
          obtain ⟨b, rfl, rfl, hNb, hbb, hbw⟩ := hcut
          obtain ⟨g0, g1, g2, -, -, -, gl2⟩ := hNb.facts
          simp only at g0 g1 g2
          have Bc := Bw.trans (hbw.mono Bw.size)
          have hNc : OwnN wc w4.heap.size (.slice (some ⟨g, 0, none⟩) P.L.length cap5) L' := ownsRow_below hN.out hbw
          have e0 := (hNc.free (j * 3)).1
          have e1' := (hNc.free (j * 3 + 1)).1
          have e2 := (hNc.free (j * 3 + 2)).1
          have gg := (hNc.free (j * 3)).2.1
          have hFc := hf.on hbw
          have gl := Nat.lt_of_lt_of_le (lt_of_block hcur6) hf.size
          have m0 := (hbw.cell (p := ⟨g, j * 3, none⟩) gl).trans n0
          have m1 := (hbw.cell (p := ⟨g, j * 3 + 1, none⟩) gl).trans n1
          have m2 := (hbw.cell (p := ⟨g, j * 3 + 2, none⟩) gl).trans n2
          clear n0 n1 n2 q0 q1 q4 f0 f1 f2 hnx2 hel
          replace hNb := fhid hNb
          replace hNc := fhid hNc
          by_cases he : er = 0
          · subst he
            go_wp2_with fail
            go_roundw
            case rel => exact ⟨k + 1, by omega, by go_num, (hsy.out (y0, y1, y2) wc hNc.out hFc hR9.out).out⟩
            case measure => simp [intOf]; omega
          · have j9 : (er != 0) = true := by simpa using he
            have j10 := fhid he
            clear he
            go_wp2_with fail
            exact hno.out wc er L' hO.out (hsn.out (y0, y1, y2) er hR9.out j10.out).out j10.out Bc
      · obtain rfl : k = is.length := by omega
        have k1 : ¬ (is.length : Int) < is.length := by omega
        rw [List.drop_length, go_nil] at hgo
        replace hN := fhid hN
        replace hgo := fhid hgo
        go_wp2_with fail
        exact hyes.out _ g cap5 _ L' hO.out hgo.out Bw hN.out hl
end Go.Proofs.YtmnmcikbbfcjcaaGreatDoor.Ps
/-
  What is asked of a pool that was made: In, Free, Powered, Now, Node.
-/
namespace Go.Proofs.YtmnmcikbbfcjcaaGreatDoor.Ps
open Go.RowKit Go.Shelf Vs Ns

def inB (l : List Int) (n : N3) : Bool := decide (n.1 ∈ l)
def powN (n : N3) : Bool := powB n.1
set_option maxRecDepth 100000 in
set_option maxHeartbeats 2000000 in
theorem pow1_any (n : N3) (w : World) :
    Calls Tryz.prog 31 #[nv n] w fun e w' => e = .returned (.bool (powN n)) ∧ Below w.heap.size w w' := by
  obtain ⟨a, b, c⟩ := n
  unfold nv powN
  simp only
  have N0 := NB.new w TNd (a, b, c)
  have G0 : Below w.heap.size w (w.alloc (.cells #[.int .i64 a, .int .i64 b, .int .i64 c] TNd)) := (Below.refl _ _).alloc (Nat.le_refl _) _
  have hpw := fun W => powered_any a W
  simp only at N0
  generalize powB a = R at *
  go_enter Tryz.func31, Tryz.ntmps31
  go_upto_region 1 with fail
  generalize w.alloc _ = w1 at *
  obtain ⟨g0, g1, g2, _, _, _, _⟩ := N0.facts
  simp only at g0 g1 g2
  go_wp2_with (go_at_call 32; (with_reducible refine (hpw _).mono ?_); rintro e w2 ⟨rfl, rfl⟩)
  go_ret
  exact ⟨rfl, G0⟩
set_option maxRecDepth 100000 in
set_option maxHeartbeats 2000000 in
theorem Powered_any (p : Nat) (P : Pl) (w : World) (hP : PB w p P) (h1 : 1 ≤ P.L.length) (h2 : P.L.length ≤ 256) :
    Calls Tryz.prog 16 #[.pointer (some ⟨p, 0, none⟩)] w fun e w' => e = .returned (.int .i64 (Bs.cnt (whichP powN P.L) 256 : Nat)) ∧ Below w.heap.size w w' := by
  have hw := which_any p P 31 #[] (enters_of Tryz.func31 (by kernel_rfl) rfl) powN w hP h1 h2 (fun i hi W2 _ => pow1_any P.L[i] W2)
  have hct := fun W => Bs.count_any (whichP powN P.L) W
  unfold SetPost at hw
  generalize whichP powN P.L = q at *
  generalize (Bs.cnt q 256 : Int) = C at *
  generalize Bs.nodes q = V at *
  clear hP
  go_enter Tryz.func16, Tryz.ntmps16
  go_wp2_with (first
    | (go_at_call 30; (with_reducible refine hw.mono ?_); rintro e w3 ⟨rfl, b3⟩)
    | (go_at_call 29; (with_reducible refine (hct _).mono ?_); rintro e w4 ⟨rfl, b4⟩))
  go_ret
  exact ⟨rfl, b3.trans (b4.mono b3.size)⟩
set_option maxRecDepth 100000 in
set_option maxHeartbeats 1000000 in
theorem Now_any (p : Nat) (P : Pl) (w : World) (hP : PB w p P) (h1 : 1 ≤ P.L.length) :
    Calls Tryz.prog 12 #[.pointer (some ⟨p, 0, none⟩)] w fun e w' => e = .returned (.int .i64 P.now) ∧ w' = w := by
  have hm := made_any p P w hP h1
  obtain ⟨A, cap, hbx, _⟩ := hP
  obtain ⟨_, c1, _, _, _, _, _, hp⟩ := five hbx
  clear hbx
  go_enter Tryz.func12, Tryz.ntmps12
  go_wp2_with (go_at_call 24; (with_reducible refine hm.mono ?_); rintro e w2 ⟨rfl, rfl⟩)
  go_ret
  exact ⟨rfl, rfl⟩
def nodeAt (P : Pl) (i : Int) : N3 × Int := if i < 0 ∨ (P.L.length : Int) ≤ i then ((0, 0, 0), 6) else (P.L.getD i.toNat (0, 0, 0), 0)
set_option maxRecDepth 100000 in
set_option maxHeartbeats 4000000 in
theorem Node_any (p : Nat) (P : Pl) (i : Int) (w : World) (hP : PB w p P) (h1 : 1 ≤ P.L.length) :
    Calls Tryz.prog 13 #[.pointer (some ⟨p, 0, none⟩), .int .i64 i] w fun e w' => e = .returned (.tuple #[nv (nodeAt P i).1, .int .i64 (nodeAt P i).2]) ∧ Below w.heap.size w w' := by
  have N0 := NB.new w TNd (0, 0, 0)
  have G0 : Below w.heap.size w (w.alloc (.cells #[.int .i64 0, .int .i64 0, .int .i64 0] TNd)) := (Below.refl _ _).alloc (Nat.le_refl _) _
  have P1 := hP.below G0
  have hm := made_any p P (w.alloc (.cells #[.int .i64 0, .int .i64 0, .int .i64 0] TNd)) P1 h1
  obtain ⟨A, cap, hbx, hrow⟩ := P1
  obtain ⟨c0, _, _, _, _, _, _, hp⟩ := five hbx
  have hR := row_reads hrow
  have hpn : p ≠ w.heap.size := by have := hP.lt; omega
  simp only at N0
  unfold nodeAt nv
  clear hbx hrow hP
  replace hR := fhid hR
  generalize P.L = L at *
  by_cases hi0 : i < 0
  · rw [if_pos (.inl hi0)]
    simp only
    go_enter Tryz.func13, Tryz.ntmps13
    go_upto_region 1 with fail
    generalize w.alloc _ = w1 at *
    obtain ⟨g0, g1, g2, f0, f1, f2, gl⟩ := N0.facts
    simp only at g0 g1 g2
    go_wp2_with (go_at_call 24; (with_reducible refine hm.mono ?_); rintro e w2 ⟨rfl, rfl⟩)
    obtain ⟨k0, k1, k2, _⟩ := (NB.over N0 0 0 0).facts
    exact bodyPost_ret (v := .tuple #[.agg #[.int .i64 0, .int .i64 0, .int .i64 0], .int .i64 6]) (by simp [results, Tryz.results13, go_sem, k0, k1, k2]) rfl ⟨rfl, Ns.set3 G0 (by omega) _ _ _⟩
  · by_cases hi1 : (L.length : Int) ≤ i
    · rw [if_pos (.inr hi1)]
      simp only
      have hi2 : i ≥ L.length := hi1
      go_enter Tryz.func13, Tryz.ntmps13
      go_upto_region 1 with fail
      generalize w.alloc _ = w1 at *
      obtain ⟨g0, g1, g2, f0, f1, f2, gl⟩ := N0.facts
      simp only at g0 g1 g2
      go_wp2_with (go_at_call 24; (with_reducible refine hm.mono ?_); rintro e w2 ⟨rfl, rfl⟩)
      obtain ⟨k0, k1, k2, _⟩ := (NB.over N0 0 0 0).facts
      exact bodyPost_ret (v := .tuple #[.agg #[.int .i64 0, .int .i64 0, .int .i64 0], .int .i64 6]) (by simp [results, Tryz.results13, go_sem, k0, k1, k2]) rfl ⟨rfl, Ns.set3 G0 (by omega) _ _ _⟩
    · rw [if_neg (by omega)]
      obtain ⟨k, rfl⟩ : ∃ k : Nat, i = k := ⟨i.toNat, by omega⟩
      have hk : k < L.length := by omega
      have hi3 : ¬ (k : Int) ≥ L.length := hi1
      have hi4 : (k : Int) < L.length := by omega
      have hi5 : (0 : Int) ≤ k := by omega
      rw [Int.toNat_natCast, List.getD_eq_getElem?_getD, List.getElem?_eq_getElem hk, Option.getD_some]
      obtain ⟨b, o, rfl, hb, e0, e1, e2⟩ := RdS.vec hR.out hk
      simp only
      generalize L[k].1 = x0 at *
      generalize L[k].2.1 = x1 at *
      generalize L[k].2.2 = x2 at *
      clear hR
      go_enter Tryz.func13, Tryz.ntmps13
      go_upto_region 1 with fail
      generalize w.alloc _ = w1 at *
      obtain ⟨g0, g1, g2, f0, f1, f2, gl⟩ := N0.facts
      simp only at g0 g1 g2
      go_wp2_with (go_at_call 24; (with_reducible refine hm.mono ?_); rintro e w2 ⟨rfl, rfl⟩)
      obtain ⟨k0, k1, k2, _⟩ := (NB.over N0 x0 x1 x2).facts
      exact bodyPost_ret (v := .tuple #[.agg #[.int .i64 x0, .int .i64 x1, .int .i64 x2], .int .i64 0]) (by simp [results, Tryz.results13, go_sem, k0, k1, k2]) rfl ⟨rfl, Ns.set3 G0 (by omega) _ _ _⟩
end Go.Proofs.YtmnmcikbbfcjcaaGreatDoor.Ps
/-
  An event done to one node.
-/
namespace Go.Proofs.YtmnmcikbbfcjcaaGreatDoor.Ps
open Go.RowKit Go.Shelf Vs Ns

theorem fx_trans {X : Nat → Prop} {a b c : World} (h : FX X a b) (k : FX X b c) : FX X a c :=
  ⟨k.os.trans h.os, k.tape.trans h.tape, k.output.trans h.output, Nat.le_trans h.size k.size, fun i hi hx => (k.block i (Nat.lt_of_lt_of_le hi h.size) hx).trans (h.block i hi hx)⟩
theorem fx_new {X : Nat → Prop} {a b : World} (h : FX X a b) {g : Nat} (hg : a.heap.size ≤ g) (i : Nat) (v : Value) : FX X a (b.setCell ⟨g, i, none⟩ v) :=
  h.step (row := some g) (Aft.set (Aft.of (Below.refl _ _)) i v) fun k e => by injection e with e; exact .inr (e ▸ hg)
theorem reads_one (w : World) (i : Int) : Bs.Reads (w.alloc (.cells #[.int .i64 i] 3)) (.slice (some ⟨w.heap.size, 0, none⟩) 1 1) [i] := by
  refine .inr ⟨w.heap.size, 0, 1, rfl, by simp, fun k x hx => ?_⟩
  match k, hx with
  | 0, hx =>
    simp at hx
    subst hx
    exact Box.cell (Box.new w 3 [.int .i64 i]) 0
set_option maxRecDepth 100000 in
set_option maxHeartbeats 4000000 in
theorem Do_any (p : Nat) (P : Pl) (i ev : Int) (w : World) (hP : PB w p P) (hG : Good P) (hT : TabW w) (hD : Bs.Tab w) :
    Calls Tryz.prog 15 #[.pointer (some ⟨p, 0, none⟩), .int .i64 i, .int .i64 ev] w (AllPost w p (doP P i ev)) := by
  have hnd := Node_any p P i w hP hG.l1
  unfold nodeAt at hnd
  by_cases hi : i < 0 ∨ (P.L.length : Int) ≤ i
  · have hd : doP P i ev = (P, 6) := if_pos hi
    rw [if_pos hi] at hnd
    rw [hd]
    unfold nv at hnd
    simp only at hnd
    unfold AllPost
    clear hi hd hT hD
    replace hP := fhid hP
    go_enter Tryz.func15, Tryz.ntmps15
    go_wp2_with (go_at_call 13; (with_reducible refine hnd.mono ?_); rintro e w1 ⟨rfl, b1⟩)
    go_ret
    have b2 := b1.alloc b1.size (.cells #[.int .i64 0, .int .i64 0, .int .i64 0] TNd)
    exact ⟨rfl, hP.out.below b2, FX.of b2⟩
  · have hd : doP P i ev = allP P (Bs.memP [i]) ev := if_neg hi
    rw [if_neg hi] at hnd
    rw [hd]
    have hal := fun W (hb : Below w.heap.size w W) => All_any p P (Bs.memP [i]) ev W (hP.below hb) hG (hT.below hb) (Bs.tab_below hD hb)
    have hof := fun (W : World) (k : Nat) (hk : W.heap.size = k) => Bs.of_any (.slice (some ⟨k, 0, none⟩) 1 1) [i] (W.alloc (.cells #[.int .i64 i] 3)) (hk ▸ reads_one W i) (by simp)
    have hpost := fhid (show ∀ W e W', Below w.heap.size w W → AllPost W p (allP P (Bs.memP [i]) ev) e W' → AllPost w p (allP P (Bs.memP [i]) ev) e W' from fun W e W' hb h => ⟨h.1, h.2.1, fx_trans (FX.of hb) h.2.2⟩)
    generalize P.L.getD i.toNat (0, 0, 0) = xx at *
    obtain ⟨x0, x1, x2⟩ := xx
    unfold nv at hnd
    simp only at hnd
    generalize allP P (Bs.memP [i]) ev = R at *
    obtain ⟨Q, er⟩ := R
    generalize Bs.nodes (Bs.memP [i]) = V at *
    clear hi hd hT hD hP
    go_enter Tryz.func15, Tryz.ntmps15
    go_wp2_with (first
      | (go_at_call 13; (with_reducible refine hnd.mono ?_); rintro e w1 ⟨rfl, b1⟩)
      | (go_at_call 28
         go_loud ((with_reducible refine (hof _ _ (by simp)).mono ?_); rintro e w2 ⟨rfl, b2⟩
                  have b3 := (b1.alloc b1.size (.cells #[.int .i64 x0, .int .i64 x1, .int .i64 x2] TNd))
                  have b4 := b3.alloc b3.size (.cells #[.int .i64 i] 3)
                  have b5 := b4.trans (b2.mono b4.size)))
      | (go_at_call 23; (with_reducible refine (hal _ b5).mono ?_); rintro e w6 h6; obtain rfl := h6.1))
    go_ret
    exact hpost.out _ _ _ b5 h6
end Go.Proofs.YtmnmcikbbfcjcaaGreatDoor.Ps
/-
  A pool of a config.
-/
namespace Go.Proofs.YtmnmcikbbfcjcaaGreatDoor.Ps
open Go.RowKit Go.Shelf Vs Ns

def newP (c : Cfg) : Pl := ⟨List.replicate c.names.length (0, 0, 0), 0, c.vals.getD 1 0, c.vals.getD 2 0, c.vals.getD 7 0⟩
theorem good_new {c : Cfg} (h : rightC c = true) {a0 a1 a2 a3 a4 a5 a6 a7 : Int} (hv : c.vals = [a0, a1, a2, a3, a4, a5, a6, a7]) : Good (newP c) ∧ (newP c).boot = a1 ∧ (newP c).stop = a2 ∧ (newP c).retry = a7 := by
  unfold rightC rightNodesP at h
  rw [hv] at h
  simp only [Bool.and_eq_true, Bool.not_eq_true', List.isEmpty_eq_false_iff, decide_eq_true_eq] at h
  obtain ⟨⟨⟨⟨⟨⟨⟨⟨h1, h2⟩, _⟩, _⟩, _⟩, _⟩, _⟩, h3⟩, _⟩ := h
  have hp := List.length_pos_iff.2 h1
  unfold rightV valS at h3
  simp at h3
  have e1 : (newP c).boot = a1 := by show c.vals.getD 1 0 = a1; rw [hv]; rfl
  have e2 : (newP c).stop = a2 := by show c.vals.getD 2 0 = a2; rw [hv]; rfl
  have e3 : (newP c).retry = a7 := by show c.vals.getD 7 0 = a7; rw [hv]; rfl
  refine ⟨⟨?_, ?_, Int.le_refl _, by show (0 : Int) ≤ _; omega, ?_, ?_, ?_, ?_, ?_, ?_, ?_⟩, e1, e2, e3⟩
  · show 1 ≤ (List.replicate _ _).length; rw [List.length_replicate]; omega
  · show (List.replicate _ _).length ≤ 256; rw [List.length_replicate]; exact h2
  · intro n hn
    rw [List.eq_of_mem_replicate hn]
    exact okN_zero (Int.le_refl _)
  all_goals
    first
      | (rw [e1]; omega)
      | (rw [e2]; omega)
      | (rw [e3]; omega)
/-- What New comes to. -/
def NewPost (w : World) (c : Cfg) (e : Ending) (w' : World) : Prop := Below w.heap.size w w' ∧
  ((rightC c = false ∧ e = .returned (.tuple #[.pointer none, .int .i64 1])) ∨ (rightC c = true ∧ Good (newP c) ∧ ∃ p, e = .returned (.tuple #[.pointer (some ⟨p, 0, none⟩), .int .i64 0]) ∧ PBB w.heap.size w' p (newP c)))
set_option maxRecDepth 100000 in
set_option maxHeartbeats 8000000 in
theorem New_any (v : Value) (c : Cfg) (w : World) (h : CR w v c) (hw : Env w) : Calls Tryz.prog 6 #[v] w (NewPost w c) := by
  have hri := fun v W h1 h2 => Right_any8 v c W h1 h2
  unfold BoolP at hri
  have h0 := h
  obtain ⟨AN, cN, AV, cV, AP, cP, AQ, cQ, a0, a1, a2, a3, a4, a5, a6, a7, rfl, ev, -, -, -, -⟩ := h
  have hgd := fun hr => good_new (c := c) hr ev
  have hX := Box.new w TConf [.slice AN c.names.length cN, .slice AV c.vecs.length cV, .slice AP c.parts.length cP, .slice AQ c.qos.length cQ, .int .i64 a0, .int .i64 a1, .int .i64 a2, .int .i64 a3, .int .i64 a4, .int .i64 a5, .int .i64 a6, .int .i64 a7]
  have B0 : Below w.heap.size w (w.alloc (.cells #[.slice AN c.names.length cN, .slice AV c.vecs.length cV, .slice AP c.parts.length cP, .slice AQ c.qos.length cQ, .int .i64 a0, .int .i64 a1, .int .i64 a2, .int .i64 a3, .int .i64 a4, .int .i64 a5, .int .i64 a6, .int .i64 a7] TConf)) := (Below.refl _ _).alloc (Nat.le_refl _) _
  have hri0 := hri _ _ (h0.below B0) (hw.below B0)
  clear hri h0 hw ev
  cases hR : rightC c with
  | false =>
    rw [hR] at hri0
    have hp := fhid (show ∀ W, Below w.heap.size w W → NewPost w c (.returned (.tuple #[.pointer none, .int .i64 1])) W from fun W hb => ⟨hb, .inl ⟨hR, rfl⟩⟩)
    generalize NewPost w c = Post at *
    clear hR hgd
    go_enter Tryz.func6, Tryz.ntmps6
    go_upto_region 1 with fail
    generalize w.alloc _ = w1 at *
    obtain ⟨c0, c1, c2, c3, c4, c5, c6, c7, c8, c9, c10, c11⟩ := Box.twelve hX
    have xl := Box.lt hX
    replace hX := fhid hX
    go_wp2_with (go_at_call 18; (with_reducible refine hri0.mono ?_); rintro e w2 ⟨rfl, b2⟩)
    exact hp.out _ (B0.trans (b2.mono B0.size))
  | true =>
    rw [hR] at hri0
    obtain ⟨hG, e1, e2, e3⟩ := hgd hR
    have hn2 : c.names.length ≤ 256 := by have := hG.l2; unfold newP at this; simpa using this
    have hrp := fun (b : Nat) W hx => RepeatN_any b (0, 0, 0) c.names.length hn2 W hx
    have hp := fhid (show ∀ W p, Below w.heap.size w W → PBB w.heap.size W p (newP c) → NewPost w c (.returned (.tuple #[.pointer (some ⟨p, 0, none⟩), .int .i64 0])) W from fun W p hb h1 => ⟨hb, .inr ⟨hR, hG, p, rfl, h1⟩⟩)
    have hmk := fhid (show ∀ W g (_ : w.heap.size ≤ g), w.heap.size ≤ W.heap.size → RepN W g (0, 0, 0) c.names.length c.names.length → PBB w.heap.size (W.alloc (.cells #[.slice (some ⟨g, 0, none⟩) c.names.length c.names.length, .int .i64 0, .int .i64 a1, .int .i64 a2, .int .i64 a7] TPool)) W.heap.size (newP c) from fun W g hg hW hr => by
      have ho := own_repn hr hg hn2
      have hl : (newP c).L.length = c.names.length := List.length_replicate
      refine ⟨hW, some ⟨g, 0, none⟩, c.names.length, ?_, ?_⟩
      · rw [hl, e1, e2, e3]
        exact Box.new W TPool [.slice (some ⟨g, 0, none⟩) c.names.length c.names.length, .int .i64 0, .int .i64 a1, .int .i64 a2, .int .i64 a7]
      · rw [hl]
        have := World.ownsRow.alloc ho (.cells #[.slice (some ⟨g, 0, none⟩) c.names.length c.names.length, .int .i64 0, .int .i64 a1, .int .i64 a2, .int .i64 a7] TPool)
        unfold OwnB at this
        rw [List.length_replicate] at this
        exact this)
    generalize NewPost w c = Post at *
    clear hR hgd hG e1 e2 e3
    generalize c.names.length = N at *
    go_enter Tryz.func6, Tryz.ntmps6
    go_upto_region 1 with fail
    generalize w.alloc _ = w1 at *
    obtain ⟨c0, c1, c2, c3, c4, c5, c6, c7, c8, c9, c10, c11⟩ := Box.twelve hX
    have xl := Box.lt hX
    replace hX := fhid hX
    go_wp2_with (first
      | (go_at_call 18; (with_reducible refine hri0.mono ?_); rintro e w2 ⟨rfl, b2⟩
         have hX2 := Box.below hX.out b2 xl
         have B2 := B0.trans (b2.mono B0.size)
         have N2 := Box.new w2 TNd [.int .i64 0, .int .i64 0, .int .i64 0]
         have m2 := (Below.refl w2.heap.size w2).alloc (Nat.le_refl _) (.cells #[.int .i64 0, .int .i64 0, .int .i64 0] TNd)
         obtain ⟨c0, c1, c2, c3, c4, c5, c6, c7, c8, c9, c10, c11⟩ := Box.twelve (Box.below hX2 m2 (Box.lt hX2))
         have xl2 := Box.lt (Box.below hX2 m2 (Box.lt hX2))
         have xl1 := Box.lt hX2
         obtain ⟨d0, d1, d2, d3, d4, d5, d6, d7, d8, d9, d10, d11⟩ := Box.twelve hX2
         replace hX2 := fhid hX2)
      | (go_at_call 19; (with_reducible refine (hrp _ _ N2).mono ?_); rintro e w3 ⟨g, rfl, hg, hr, b3⟩
         have hX3 := Box.below (Box.below hX2.out m2 (Box.lt hX2.out)) b3 xl2
         obtain ⟨c0, c1, c2, c3, c4, c5, c6, c7, c8, c9, c10, c11⟩ := Box.twelve hX3
         have xl3 := Box.lt hX3
         have B3 := (B2.trans (m2.mono B2.size)).trans (b3.mono (Nat.le_trans B2.size m2.size))))
    exact hp.out _ _ (B3.alloc B3.size _) (hmk.out _ _ (Nat.le_trans B2.size (Nat.le_trans m2.size hg)) B3.size hr)
theorem New_no (v : Value) (c : Cfg) (w : World) (h : CR w v c) (hw : Env w) (hr : rightC c = false) : Calls Tryz.prog 6 #[v] w fun e w' => e = .returned (.tuple #[.pointer none, .int .i64 1]) ∧ Below w.heap.size w w' := by
  refine (New_any v c w h hw).mono ?_
  rintro e w' ⟨hb, ⟨_, he⟩ | ⟨hr2, _⟩⟩
  · exact ⟨he, hb⟩
  · rw [hr] at hr2; cases hr2
theorem New_yes (v : Value) (c : Cfg) (w : World) (h : CR w v c) (hw : Env w) (hr : rightC c = true) : Calls Tryz.prog 6 #[v] w fun e w' => ∃ p, e = .returned (.tuple #[.pointer (some ⟨p, 0, none⟩), .int .i64 0]) ∧ PBB w.heap.size w' p (newP c) ∧ Below w.heap.size w w' := by
  refine (New_any v c w h hw).mono ?_
  rintro e w' ⟨hb, ⟨hr2, _⟩ | ⟨_, _, p, he, hp⟩⟩
  · rw [hr] at hr2; cases hr2
  · exact ⟨p, he, hp, hb⟩
theorem good_of {c : Cfg} {w : World} {v : Value} (h : CR w v c) (hr : rightC c = true) : Good (newP c) := by
  obtain ⟨AN, cN, AV, cV, AP, cP, AQ, cQ, a0, a1, a2, a3, a4, a5, a6, a7, rfl, ev, -, -, -, -⟩ := h
  exact (good_new hr ev).1
end Go.Proofs.YtmnmcikbbfcjcaaGreatDoor.Ps
/-
  Time goes on.
-/
namespace Go.Proofs.YtmnmcikbbfcjcaaGreatDoor.Ps
open Go.RowKit Go.Shelf Vs Ns

set_option maxRecDepth 100000 in
set_option maxHeartbeats 4000000 in
theorem tick1_any (Bn Bp p : Nat) (boot now : Int) (n : N3) (w : World) (hn : w.cell? ⟨Bn, 0, none⟩ = some (.int .i64 now)) (hp : w.cell? ⟨Bp, 0, none⟩ = some (.pointer (some ⟨p, 0, none⟩))) (hb : w.cell? ⟨p, 2, none⟩ = some (.int .i64 boot)) (ln : Bn < w.heap.size) (lp : Bp < w.heap.size) (l : p < w.heap.size)
    (h1 : -9223372036854775808 ≤ now ∧ now ≤ 9223372036854775807) (h2 : -9223372036854775808 ≤ n.2.1 ∧ n.2.1 ≤ 9223372036854775807) (h3 : -9223372036854775808 ≤ boot ∧ boot ≤ 9223372036854775807) :
    Calls Tryz.prog 33 #[nv n, .pointer (some ⟨Bn, 0, none⟩), .pointer (some ⟨Bp, 0, none⟩)] w fun e w' => e = .returned (.bool (lateB n now boot)) ∧ Below w.heap.size w w' := by
  have hlt := fun W => late_any n now boot W h1 h2 h3
  clear h1 h2 h3
  obtain ⟨a, b, c⟩ := n
  unfold nv at hlt ⊢
  unfold BoolPost at hlt
  simp only at hlt ⊢
  generalize lateB (a, b, c) now boot = R at *
  have N0 := NB.new w TNd (a, b, c)
  have G0 : Below w.heap.size w (w.alloc (.cells #[.int .i64 a, .int .i64 b, .int .i64 c] TNd)) := (Below.refl _ _).alloc (Nat.le_refl _) _
  have k0 := (G0.cell (p := ⟨Bn, 0, none⟩) ln).trans hn
  have k1 := (G0.cell (p := ⟨Bp, 0, none⟩) lp).trans hp
  have k2 := (G0.cell (p := ⟨p, 2, none⟩) l).trans hb
  have l0 := Nat.lt_of_lt_of_le ln G0.size
  have l1 := Nat.lt_of_lt_of_le lp G0.size
  have l2 := Nat.lt_of_lt_of_le l G0.size
  simp only at N0
  clear hn hp hb ln lp l
  go_enter Tryz.func33, Tryz.ntmps33
  go_upto_region 1 with fail
  generalize w.alloc _ = w1 at *
  obtain ⟨g0, g1, g2, _, _, _, _⟩ := N0.facts
  simp only at g0 g1 g2
  have z : w1.drew.cell? ⟨w.heap.size, 0, none⟩ = some (.int .i64 a) ∧ w1.drew.cell? ⟨w.heap.size, 1, none⟩ = some (.int .i64 b) ∧ w1.drew.cell? ⟨w.heap.size, 2, none⟩ = some (.int .i64 c) ∧ w1.drew.cell? ⟨Bn, 0, none⟩ = some (.int .i64 now) ∧ w1.drew.cell? ⟨Bp, 0, none⟩ = some (.pointer (some ⟨p, 0, none⟩)) ∧ w1.drew.cell? ⟨p, 2, none⟩ = some (.int .i64 boot) := ⟨g0, g1, g2, k0, k1, k2⟩
  have zW := fhid (show ∀ W, Below w1.heap.size w1 W → W.cell? ⟨w.heap.size, 0, none⟩ = some (.int .i64 a) ∧ W.cell? ⟨w.heap.size, 1, none⟩ = some (.int .i64 b) ∧ W.cell? ⟨w.heap.size, 2, none⟩ = some (.int .i64 c) ∧ W.cell? ⟨Bn, 0, none⟩ = some (.int .i64 now) ∧ W.cell? ⟨Bp, 0, none⟩ = some (.pointer (some ⟨p, 0, none⟩)) ∧ W.cell? ⟨p, 2, none⟩ = some (.int .i64 boot) from fun W hb =>
    ⟨(hb.cell (p := ⟨w.heap.size, 0, none⟩) (by omega)).trans g0, (hb.cell (p := ⟨w.heap.size, 1, none⟩) (by omega)).trans g1, (hb.cell (p := ⟨w.heap.size, 2, none⟩) (by omega)).trans g2, (hb.cell (p := ⟨Bn, 0, none⟩) l0).trans k0, (hb.cell (p := ⟨Bp, 0, none⟩) l1).trans k1, (hb.cell (p := ⟨p, 2, none⟩) l2).trans k2⟩)
  clear g0 g1 g2 k0 k1 k2
  go_region_held3 (fun W => W.cell? ⟨w.heap.size, 0, none⟩ = some (.int .i64 a) ∧ W.cell? ⟨w.heap.size, 1, none⟩ = some (.int .i64 b) ∧ W.cell? ⟨w.heap.size, 2, none⟩ = some (.int .i64 c) ∧ W.cell? ⟨Bn, 0, none⟩ = some (.int .i64 now) ∧ W.cell? ⟨Bp, 0, none⟩ = some (.pointer (some ⟨p, 0, none⟩)) ∧ W.cell? ⟨p, 2, none⟩ = some (.int .i64 boot)) (first | exact z | fail)
    (first
      | (go_at_call 34; (with_reducible refine (hlt _).mono ?_); rintro e w4 ⟨rfl, b4⟩; have tt : Below w1.heap.size w1 w4 := ((Below.refl _ _).drew).trans b4; have z := zW.out _ tt))
  go_wp2_with fail
  go_ret
  exact ⟨rfl, G0.trans (tt.mono G0.size)⟩
def offB (stop now : Int) (n : N3) : Bool := decide (n.1 = 7) && decide (stop ≤ now - n.2.1)
set_option maxRecDepth 100000 in
set_option maxHeartbeats 4000000 in
theorem tick2_any (Bn Bp p : Nat) (stop now : Int) (n : N3) (w : World) (hn : w.cell? ⟨Bn, 0, none⟩ = some (.int .i64 now)) (hp : w.cell? ⟨Bp, 0, none⟩ = some (.pointer (some ⟨p, 0, none⟩))) (hb : w.cell? ⟨p, 3, none⟩ = some (.int .i64 stop)) (ln : Bn < w.heap.size) (lp : Bp < w.heap.size) (l : p < w.heap.size)
    (h1 : 0 ≤ now ∧ now ≤ 1099511627776) (h2 : 0 ≤ n.2.1 ∧ n.2.1 ≤ 1099511627776) :
    Calls Tryz.prog 35 #[nv n, .pointer (some ⟨Bn, 0, none⟩), .pointer (some ⟨Bp, 0, none⟩)] w fun e w' => e = .returned (.bool (offB stop now n)) ∧ Below w.heap.size w w' := by
  obtain ⟨a, b, c⟩ := n
  unfold nv offB
  simp only at h2 ⊢
  have N0 := NB.new w TNd (a, b, c)
  have G0 : Below w.heap.size w (w.alloc (.cells #[.int .i64 a, .int .i64 b, .int .i64 c] TNd)) := (Below.refl _ _).alloc (Nat.le_refl _) _
  have k0 := (G0.cell (p := ⟨Bn, 0, none⟩) ln).trans hn
  have k1 := (G0.cell (p := ⟨Bp, 0, none⟩) lp).trans hp
  have k2 := (G0.cell (p := ⟨p, 3, none⟩) l).trans hb
  have l0 := Nat.lt_of_lt_of_le ln G0.size
  have l1 := Nat.lt_of_lt_of_le lp G0.size
  have l2 := Nat.lt_of_lt_of_le l G0.size
  have e1 : IntKind.i64.wrap (now - b) = now - b := IntWalk.i64_in _ (by omega)
  simp only at N0
  clear hn hp hb ln lp l
  by_cases h7 : a = 7
  · subst h7
    rw [decide_eq_true rfl, Bool.true_and]
    go_enter Tryz.func35, Tryz.ntmps35
    go_upto_region 1 with fail
    generalize w.alloc _ = w1 at *
    obtain ⟨g0, g1, g2, _, _, _, _⟩ := N0.facts
    simp only at g0 g1 g2
    go_quiet (fail)
    go_wp2_with fail
    go_ret
    exact ⟨by simp, below_drewN G0 _⟩
  · have h8 : (a == 7) = false := by simpa using h7
    rw [decide_eq_false h7, Bool.false_and]
    go_enter Tryz.func35, Tryz.ntmps35
    go_upto_region 1 with fail
    generalize w.alloc _ = w1 at *
    obtain ⟨g0, g1, g2, _, _, _, _⟩ := N0.facts
    simp only at g0 g1 g2
    go_quiet (fail)
    go_wp2_with fail
    go_ret
    exact ⟨rfl, below_drewN G0 _⟩
end Go.Proofs.YtmnmcikbbfcjcaaGreatDoor.Ps
/-
  Tick, walked.
-/
namespace Go.Proofs.YtmnmcikbbfcjcaaGreatDoor.Ps
open Go.RowKit Go.Shelf Vs Ns

abbrev TPtr12 : TypeId := 33
/-- The tables stay as they are while a pool turns. -/
theorem tabw_fx {w W : World} {p : Nat} {P : Pl} (h : TabW w) (hP : PB w p P) (hf : FX (At3 p) w W) : TabW W := fun s e hs he => by
  have h0 := h s e hs he
  have hne : ¬ At3 p 0 := by
    intro e1
    obtain ⟨A, cap, hb, _⟩ := hP
    have e1 : 0 = p := e1
    subst e1
    have h1 := h 0 0 (by omega) (by omega)
    have h2 := Box.cell hb 0
    have h3 := h1.symm.trans h2
    simp at h3
  exact (World.cell?_of_block (hf.block 0 h.lt hne)).trans h0
theorem tabb_fx {w W : World} {p : Nat} {P : Pl} (h : Bs.Tab w) (hP : PB w p P) (hf : FX (At3 p) w W) : Bs.Tab W := fun j hj => by
  have h0 := h j hj
  have hne : ¬ At3 p 1 := by
    intro e1
    obtain ⟨A, cap, hb, _⟩ := hP
    have e1 : 1 = p := e1
    subst e1
    have h1 := h 0 (by decide)
    have h2 := Box.cell hb 0
    have h3 := h1.symm.trans h2
    simp at h3
  exact (World.cell?_of_block (hf.block 1 h.pos hne)).trans h0
/-- What Tick comes to. -/
def TickPost (w : World) (p : Nat) (r : Pl × (Nat → Bool) × Int) (e : Ending) (w' : World) : Prop := e = .returned (.tuple #[Bs.nodes r.2.1, .int .i64 r.2.2]) ∧ PB w' p r.1 ∧ FX (At3 p) w w'
theorem nodes_none : Bs.nodes (fun _ => false) = .agg #[.int .u64 0, .int .u64 0, .int .u64 0, .int .u64 0] := by
  simp only [Bs.nodes, Bs.zero_word]
  rfl
/-- What the call holds of its own. -/
def TF (w : World) (p : Nat) (now : Int) (W : World) : Prop := Box W w.heap.size TPtr12 [.pointer (some ⟨p, 0, none⟩)] ∧ Box W (w.heap.size + 1) 3 [.int .i64 now] ∧ Box W (w.heap.size + 1 + 1) TNodes [.int .u64 0, .int .u64 0, .int .u64 0, .int .u64 0] ∧ FX (At3 p) w W
section
variable {w W W' : World} {p : Nat} {now : Int}
theorem TF.below (h : TF w p now W) (hb : Below W.heap.size W W') : TF w p now W' := ⟨Box.below h.1 hb (Box.lt h.1), Box.below h.2.1 hb (Box.lt h.2.1), Box.below h.2.2.1 hb (Box.lt h.2.2.1), h.2.2.2.on hb⟩
theorem TF.fx (h : TF w p now W) (hp : p < w.heap.size) (hf : FX (At3 p) W W') : TF w p now W' :=
  ⟨hf.box h.1 (by unfold At3; omega), hf.box h.2.1 (by unfold At3; omega), hf.box h.2.2.1 (by unfold At3; omega), fx_trans h.2.2.2 hf⟩
theorem TF.cells (h : TF w p now W) : W.cell? ⟨w.heap.size, 0, none⟩ = some (.pointer (some ⟨p, 0, none⟩)) ∧ W.cell? ⟨w.heap.size + 1, 0, none⟩ = some (.int .i64 now) ∧ w.heap.size < W.heap.size ∧ w.heap.size + 1 < W.heap.size ∧ w.heap.size + 1 + 1 < W.heap.size :=
  ⟨Box.cell h.1 0, Box.cell h.2.1 0, Box.lt h.1, Box.lt h.2.1, Box.lt h.2.2.1⟩
end
theorem tf_start (w : World) (p : Nat) (now : Int) : TF w p now (((w.alloc (.cells #[.pointer (some ⟨p, 0, none⟩)] TPtr12)).alloc (.cells #[.int .i64 now] 3)).alloc (.cells #[.int .u64 0, .int .u64 0, .int .u64 0, .int .u64 0] TNodes)) ∧ Below w.heap.size w (((w.alloc (.cells #[.pointer (some ⟨p, 0, none⟩)] TPtr12)).alloc (.cells #[.int .i64 now] 3)).alloc (.cells #[.int .u64 0, .int .u64 0, .int .u64 0, .int .u64 0] TNodes)) := by
  have hn : ∀ (u : World) (o : Obj) (k : Nat), u.heap.size = k → (u.alloc o).heap[k]? = some o ∧ (u.alloc o).heap.size = k + 1 := fun u o k h => by subst h; exact ⟨heap_alloc_new u o, by simp⟩
  have ho : ∀ (u : World) (o : Obj) (k : Nat) (c : Option Obj), k < u.heap.size → u.heap[k]? = c → (u.alloc o).heap[k]? = c := fun u o k c hk h => (Below.heap_alloc u o k hk).trans h
  obtain ⟨a1, z1⟩ := hn w (.cells #[.pointer (some ⟨p, 0, none⟩)] TPtr12) _ rfl
  obtain ⟨a2, z2⟩ := hn _ (.cells #[.int .i64 now] 3) _ z1
  obtain ⟨a3, z3⟩ := hn _ (.cells #[.int .u64 0, .int .u64 0, .int .u64 0, .int .u64 0] TNodes) _ z2
  have hb : Below w.heap.size w (((w.alloc (.cells #[.pointer (some ⟨p, 0, none⟩)] TPtr12)).alloc (.cells #[.int .i64 now] 3)).alloc (.cells #[.int .u64 0, .int .u64 0, .int .u64 0, .int .u64 0] TNodes)) := (((Below.refl _ _).alloc (Nat.le_refl _) _).alloc (by omega) _).alloc (by omega) _
  exact ⟨⟨ho _ _ _ _ (by omega) (ho _ _ _ _ (by omega) a1), ho _ _ _ _ (by omega) a2, a3, FX.of hb⟩, hb⟩
theorem pb_now {W : World} {p : Nat} {P : Pl} (h : PB W p P) (now : Int) : PB (W.setCell ⟨p, 1, none⟩ (.int .i64 now)) p {P with now := now} := by
  obtain ⟨A, cap, h1, h2⟩ := h
  exact ⟨A, cap, Box.set h1 1 _, own_set h2 h1 pool_node 1 _⟩
set_option maxRecDepth 100000 in
set_option maxHeartbeats 8000000 in
theorem tick_no (p : Nat) (P : Pl) (now : Int) (w : World) (hP : PB w p P) (hG : Good P) (hn : now < P.now ∨ 1099511627776 < now) :
    Calls Tryz.prog 17 #[.pointer (some ⟨p, 0, none⟩), .int .i64 now] w (TickPost w p (P, fun _ => false, 1)) := by
  obtain ⟨F1, B1⟩ := tf_start w p now
  have hmade := fun W (hb : Below w.heap.size w W) => made_any p P W (hP.below hb) hG.l1
  have hpost := fhid (show ∀ W, Below w.heap.size w W → TickPost w p (P, fun _ => false, 1) (.returned (.tuple #[.agg #[.int .u64 0, .int .u64 0, .int .u64 0, .int .u64 0], .int .i64 1])) W from fun W hb => ⟨by rw [← nodes_none], hP.below hb, FX.of hb⟩)
  generalize TickPost w p (P, fun _ => false, 1) = Post at *
  obtain ⟨A, cap, hbx, _⟩ := hP.below B1
  obtain ⟨_, q1, _, _, _, _, _, qp⟩ := five hbx
  clear hbx hP hG
  have hc : (now < P.now) ∨ (¬ now < P.now ∧ now > 1099511627776) := by omega
  generalize P.now = pn at *
  clear hn
  go_enter Tryz.func17, Tryz.ntmps17
  go_upto_region 1 with fail
  generalize ((w.alloc _).alloc _).alloc _ = w1 at *
  obtain ⟨c0, c1, l0, l1, l2⟩ := F1.cells
  obtain ⟨⟨y0, y1, y2, y3⟩, r0, r1, r2, r3⟩ := Box.four F1.2.2.1
  replace F1 := fhid F1
  rcases hc with hc | ⟨hc, hc2⟩
  all_goals
    go_upto_region 3 with (go_at_call 24; (with_reducible refine (hmade _ B1).mono ?_); rintro e w2 ⟨rfl, rfl⟩)
    go_quiet (fail)
    go_wp2_with fail
    refine bodyPost_ret (v := .tuple #[.agg #[.int .u64 0, .int .u64 0, .int .u64 0, .int .u64 0], .int .i64 1]) (by simp [results, Tryz.results17, go_sem, y0, y1, y2, y3, l2]) rfl (hpost.out _ ?_)
    exact below4 (below_drewN B1 _) (by omega)
set_option maxRecDepth 100000 in
set_option maxHeartbeats 16000000 in
theorem tick_yes (p : Nat) (P : Pl) (now : Int) (w : World) (hP : PB w p P) (hG : Good P) (hT : TabW w) (hD : Bs.Tab w) (h0 : P.now ≤ now) (h9 : now ≤ 1099511627776) :
    Calls Tryz.prog 17 #[.pointer (some ⟨p, 0, none⟩), .int .i64 now] w (TickPost w p ((allP (allP {P with now := now} (lateP P now) 3).1 (offP P now) 11).1, fun j => lateP P now j || offP P now j, 0)) := by
  obtain ⟨F1, B1⟩ := tf_start w p now
  have hpw := hP.lt
  have hmade := fun W (hb : Below w.heap.size w W) => made_any p P W (hP.below hb) hG.l1
  have hG1 := good_now hG h0 h9
  have hG2 := (all_facts hG1 (lateP P now) 3).1
  have hn0 := hG.n0
  have hWf : ∀ n ∈ P.L, 0 ≤ n.2.1 ∧ n.2.1 ≤ 1099511627776 := fun n hn => by
    obtain ⟨_, _, k3, k4, _⟩ := hG.ns n hn
    have := hG.n1
    omega
  have hb0 := hG.b0
  have hb1 := hG.b1
  have hw1 : ∀ W, PB W p {P with now := now} → TF w p now W → Calls Tryz.prog 30 #[.pointer (some ⟨p, 0, none⟩), .func (.func 33) #[] #[.pointer (some ⟨w.heap.size + 1, 0, none⟩), .pointer (some ⟨w.heap.size, 0, none⟩)]] W (SetPost W (lateP P now)) := fun W hW hF =>
    which_any p {P with now := now} 33 #[.pointer (some ⟨w.heap.size + 1, 0, none⟩), .pointer (some ⟨w.heap.size, 0, none⟩)] (enters_of Tryz.func33 (by kernel_rfl) rfl) (fun n => lateB n now P.boot) W hW hG.l1 hG.l2 (fun i hi W2 hb2 => by
      obtain ⟨c0, c1, l0, l1, _⟩ := (hF.below hb2).cells
      obtain ⟨A, cap, hbx, _⟩ := hW.below hb2
      obtain ⟨_, _, q2, _, _, _, _, qp⟩ := five hbx
      have hm := hWf P.L[i] (List.getElem_mem hi)
      exact tick1_any (w.heap.size + 1) w.heap.size p P.boot now P.L[i] W2 c1 c0 q2 l1 l0 qp (by omega) (by omega) (by omega))
  have hw2 : ∀ W, PB W p {P with now := now} → TF w p now W → Calls Tryz.prog 30 #[.pointer (some ⟨p, 0, none⟩), .func (.func 35) #[] #[.pointer (some ⟨w.heap.size + 1, 0, none⟩), .pointer (some ⟨w.heap.size, 0, none⟩)]] W (SetPost W (offP P now)) := fun W hW hF =>
    which_any p {P with now := now} 35 #[.pointer (some ⟨w.heap.size + 1, 0, none⟩), .pointer (some ⟨w.heap.size, 0, none⟩)] (enters_of Tryz.func35 (by kernel_rfl) rfl) (offB P.stop now) W hW hG.l1 hG.l2 (fun i hi W2 hb2 => by
      obtain ⟨c0, c1, l0, l1, _⟩ := (hF.below hb2).cells
      obtain ⟨A, cap, hbx, _⟩ := hW.below hb2
      obtain ⟨_, _, _, q3, _, _, _, qp⟩ := five hbx
      have hm := hWf P.L[i] (List.getElem_mem hi)
      exact tick2_any (w.heap.size + 1) w.heap.size p P.stop now P.L[i] W2 c1 c0 q3 l1 l0 qp (by omega) hm)
  have ha1 : ∀ W, PB W p {P with now := now} → TF w p now W → Calls Tryz.prog 23 #[.pointer (some ⟨p, 0, none⟩), Bs.nodes (lateP P now), .int .i64 3] W (AllPost W p (allP {P with now := now} (lateP P now) 3)) := fun W hW hF =>
    All_any p {P with now := now} (lateP P now) 3 W hW hG1 (tabw_fx hT hP hF.2.2.2) (tabb_fx hD hP hF.2.2.2)
  have ha2 : ∀ W, PB W p (allP {P with now := now} (lateP P now) 3).1 → TF w p now W → Calls Tryz.prog 23 #[.pointer (some ⟨p, 0, none⟩), Bs.nodes (offP P now), .int .i64 11] W (AllPost W p (allP (allP {P with now := now} (lateP P now) 3).1 (offP P now) 11)) := fun W hW hF =>
    All_any p _ (offP P now) 11 W hW hG2 (tabw_fx hT hP hF.2.2.2) (tabb_fx hD hP hF.2.2.2)
  have hor := fun W => Bs.op_or (lateP P now) (offP P now) W
  have hpost := fhid (show ∀ W, PB W p (allP (allP {P with now := now} (lateP P now) 3).1 (offP P now) 11).1 → FX (At3 p) w W → TickPost w p ((allP (allP {P with now := now} (lateP P now) 3).1 (offP P now) 11).1, fun j => lateP P now j || offP P now j, 0) (.returned (.tuple #[Bs.nodes (fun j => lateP P now j || offP P now j), .int .i64 0])) W from fun W hW hF => ⟨rfl, hW, hF⟩)
  generalize TickPost w p ((allP (allP {P with now := now} (lateP P now) 3).1 (offP P now) 11).1, fun j => lateP P now j || offP P now j, 0) = Post at *
  unfold SetPost at hw1 hw2
  unfold AllPost at ha1 ha2
  generalize allP (allP {P with now := now} (lateP P now) 3).1 (offP P now) 11 = R2 at *
  generalize allP {P with now := now} (lateP P now) 3 = R1 at *
  simp only [Bs.nodes] at hw1 hw2 ha1 ha2 hor hpost
  generalize (Bs.word (fun j => lateP P now j || offP P now j) 0 : Int) = r0 at *
  generalize (Bs.word (fun j => lateP P now j || offP P now j) 1 : Int) = r1 at *
  generalize (Bs.word (fun j => lateP P now j || offP P now j) 2 : Int) = r2 at *
  generalize (Bs.word (fun j => lateP P now j || offP P now j) 3 : Int) = r3 at *
  generalize (Bs.word (lateP P now) 0 : Int) = a0 at *
  generalize (Bs.word (lateP P now) 1 : Int) = a1 at *
  generalize (Bs.word (lateP P now) 2 : Int) = a2 at *
  generalize (Bs.word (lateP P now) 3 : Int) = a3 at *
  generalize (Bs.word (offP P now) 0 : Int) = b0 at *
  generalize (Bs.word (offP P now) 1 : Int) = b1 at *
  generalize (Bs.word (offP P now) 2 : Int) = b2 at *
  generalize (Bs.word (offP P now) 3 : Int) = b3 at *
  have hP1 := hP.below B1
  have q1 : ∃ v, (((w.alloc (.cells #[.pointer (some ⟨p, 0, none⟩)] TPtr12)).alloc (.cells #[.int .i64 now] 3)).alloc (.cells #[.int .u64 0, .int .u64 0, .int .u64 0, .int .u64 0] TNodes)).cell? ⟨p, 0, none⟩ = some v := by
    obtain ⟨A, cap, hbx, _⟩ := hP1
    exact ⟨_, Box.cell hbx 0⟩
  obtain ⟨qn, fr, qp⟩ : (((w.alloc (.cells #[.pointer (some ⟨p, 0, none⟩)] TPtr12)).alloc (.cells #[.int .i64 now] 3)).alloc (.cells #[.int .u64 0, .int .u64 0, .int .u64 0, .int .u64 0] TNodes)).cell? ⟨p, 1, none⟩ = some (.int .i64 P.now) ∧ (((w.alloc (.cells #[.pointer (some ⟨p, 0, none⟩)] TPtr12)).alloc (.cells #[.int .i64 now] 3)).alloc (.cells #[.int .u64 0, .int .u64 0, .int .u64 0, .int .u64 0] TNodes)).frozen? ⟨p, 1, none⟩ = false ∧ p < (((w.alloc (.cells #[.pointer (some ⟨p, 0, none⟩)] TPtr12)).alloc (.cells #[.int .i64 now] 3)).alloc (.cells #[.int .u64 0, .int .u64 0, .int .u64 0, .int .u64 0] TNodes)).heap.size := by
    obtain ⟨A, cap, hbx, _⟩ := hP1
    obtain ⟨_, q1, _, _, _, _, f1, qp⟩ := five hbx
    exact ⟨q1, f1, qp⟩
  clear q1 hT hD hP hWf hG1 hG2
  have j1 : ¬ now < P.now := by omega
  have j2 : ¬ now > 1099511627776 := by omega
  replace hw1 := fhid hw1
  replace hw2 := fhid hw2
  replace ha1 := fhid ha1
  replace ha2 := fhid ha2
  have hp1 : p ≠ w.heap.size := by omega
  have hp2 : p ≠ w.heap.size + 1 := by omega
  go_enter Tryz.func17, Tryz.ntmps17
  go_upto_region 1 with fail
  generalize ((w.alloc _).alloc _).alloc _ = w1 at *
  obtain ⟨c0, c1, l0, l1, l2⟩ := F1.cells
  go_upto_region 3 with (go_at_call 24; (with_reducible refine (hmade _ B1).mono ?_); rintro e w2 ⟨rfl, rfl⟩)
  have F1n : ∀ n, TF w p now (w2.drewN n) := fun n => ⟨F1.1, F1.2.1, F1.2.2.1, F1.2.2.2.on (below_drewN (Below.refl _ _) n)⟩
  have P1n : ∀ n, PB (w2.drewN n) p P := fun n => hP1.below (below_drewN (Below.refl _ _) n)
  have qnn : ∀ n, (w2.drewN n).cell? ⟨p, 1, none⟩ = some (.int .i64 P.now) ∧ (w2.drewN n).frozen? ⟨p, 1, none⟩ = false ∧ p < (w2.drewN n).heap.size := fun n => ⟨qn, fr, qp⟩
  replace F1n := fhid F1n
  replace P1n := fhid P1n
  replace qnn := fhid qnn
  go_quiet (fail)
  generalize hd : World.drewN w2 _ = wd at *
  have Fd : TF w p now wd := hd ▸ F1n.out _
  have Pd : PB wd p P := hd ▸ P1n.out _
  have qd : wd.cell? ⟨p, 1, none⟩ = some (.int .i64 P.now) ∧ wd.frozen? ⟨p, 1, none⟩ = false ∧ p < wd.heap.size := hd ▸ qnn.out _
  obtain ⟨qn1, fr1, qp1⟩ := qd
  clear hd c0 c1 l0 l1 l2 F1n P1n qnn qn fr qp F1 hP1 hmade
  obtain ⟨c0, c1, l0, l1, l2⟩ := Fd.cells
  have P2 : PB (wd.setCell ⟨p, 1, none⟩ (.int .i64 now)) p {P with now := now} := pb_now Pd now
  have F2 : TF w p now (wd.setCell ⟨p, 1, none⟩ (.int .i64 now)) := Fd.fx hpw ((FX.of (Below.refl _ _)).set (X := At3 p) (b := p) rfl 1 _)
  replace Fd := fhid Fd
  replace Pd := fhid Pd
  go_upto_region 6 with fail
  generalize wd.setCell _ _ = W2 at *
  clear c0 c1 l0 l1 l2 qn1 fr1 qp1
  obtain ⟨c0, c1, l0, l1, l2⟩ := F2.cells
  go_upto_region 7 with (go_at_call 30; (with_reducible refine (hw1.out _ P2 F2).mono ?_); rintro e w3 ⟨rfl, h3⟩)
  have m3 := (Below.refl w3.heap.size w3).alloc (Nat.le_refl _) (.cells #[.int .u64 a0, .int .u64 a1, .int .u64 a2, .int .u64 a3] TNodes)
  have F3 := (F2.below h3).below m3
  have P3 := (P2.below h3).below m3
  have X3 := Box.new w3 TNodes [.int .u64 a0, .int .u64 a1, .int .u64 a2, .int .u64 a3]
  have g3 : w.heap.size ≤ w3.heap.size := (F2.below h3).2.2.2.size
  clear c0 c1 l0 l1 l2
  generalize w3.heap.size = b6 at *
  generalize w3.alloc _ = W3 at *
  replace F2 := fhid F2
  replace P2 := fhid P2
  replace X3 := fhid X3
  obtain ⟨c0, c1, l0, l1, l2⟩ := F3.cells
  go_upto_region 8 with (go_at_call 30; (with_reducible refine (hw2.out _ P3 F3).mono ?_); rintro e w4 ⟨rfl, h4⟩)
  have m4 := (Below.refl w4.heap.size w4).alloc (Nat.le_refl _) (.cells #[.int .u64 b0, .int .u64 b1, .int .u64 b2, .int .u64 b3] TNodes)
  have F4 := (F3.below h4).below m4
  have P4 := (P3.below h4).below m4
  have X3' := Box.below (Box.below X3.out h4 (Box.lt X3.out)) m4 (Nat.lt_of_lt_of_le (Box.lt X3.out) h4.size)
  have X4 := Box.new w4 TNodes [.int .u64 b0, .int .u64 b1, .int .u64 b2, .int .u64 b3]
  have g4 : w.heap.size ≤ w4.heap.size := (F3.below h4).2.2.2.size
  clear c0 c1 l0 l1 l2 X3
  generalize w4.heap.size = b7 at *
  generalize w4.alloc _ = W4 at *
  replace F3 := fhid F3
  replace P3 := fhid P3
  obtain ⟨c0, c1, l0, l1, l2⟩ := F4.cells
  obtain ⟨⟨y0, y1, y2, y3⟩, -, -, -, -⟩ := Box.four X3'
  have yl := Box.lt X3'
  replace X3' := fhid X3'
  replace X4 := fhid X4
  go_upto_region 9 with (go_at_call 23; (with_reducible refine (ha1.out _ P4 F4).mono ?_); rintro e w5 ⟨rfl, P5, h5⟩)
  have F5 := F4.fx hpw h5
  have X3'' := h5.box X3'.out (by unfold At3; omega)
  have X4'' := h5.box X4.out (by unfold At3; omega)
  clear c0 c1 l0 l1 l2 y0 y1 y2 y3 yl X3' X4
  replace F4 := fhid F4
  replace P4 := fhid P4
  obtain ⟨c0, c1, l0, l1, l2⟩ := F5.cells
  obtain ⟨⟨y0, y1, y2, y3⟩, -, -, -, -⟩ := Box.four X4''
  have yl := Box.lt X4''
  replace X3'' := fhid X3''
  replace X4'' := fhid X4''
  go_upto_region 10 with (go_at_call 23; (with_reducible refine (ha2.out _ P5 F5).mono ?_); rintro e w6 ⟨rfl, P6, h6⟩)
  have F6 := F5.fx hpw h6
  have X3 := h6.box X3''.out (by unfold At3; omega)
  have X4 := h6.box X4''.out (by unfold At3; omega)
  clear c0 c1 l0 l1 l2 y0 y1 y2 y3 yl X3'' X4''
  replace F5 := fhid F5
  replace P5 := fhid P5
  obtain ⟨⟨y0, y1, y2, y3⟩, -, -, -, -⟩ := Box.four X3
  obtain ⟨⟨z0, z1, z2, z3⟩, -, -, -, -⟩ := Box.four X4
  have yl := Box.lt X3
  have zl := Box.lt X4
  replace X3 := fhid X3
  replace X4 := fhid X4
  go_wp2_with (go_at_call 36; (with_reducible refine (hor _).mono ?_); rintro e w7 ⟨rfl, h7⟩
               have F7 := F6.below h7
               have P7 := P6.below h7
               obtain ⟨⟨x0, x1, x2, x3⟩, t0, t1, t2, t3⟩ := Box.four F7.2.2.1
               have xl := Box.lt F7.2.2.1)
  refine bodyPost_ret (v := .tuple #[.agg #[.int .u64 r0, .int .u64 r1, .int .u64 r2, .int .u64 r3], .int .i64 0]) (by simp [results, Tryz.results17, go_sem, x0, x1, x2, x3, xl]) rfl (hpost.out _ ?_ ?_)
  · exact P7.fx (q := w.heap.size + 1 + 1) ((((FX.of (Below.refl _ _)).set (X := At3 (w.heap.size + 1 + 1)) rfl 0 _).set rfl 1 _).set rfl 2 _ |>.set rfl 3 _) (by omega) (.inl ⟨TNodes, _, F7.2.2.1, by decide⟩)
  · have s1 : w.heap.size ≤ w.heap.size + 1 + 1 := by omega
    exact fx_new (fx_new (fx_new (fx_new F7.2.2.2 s1 0 _) s1 1 _) s1 2 _) s1 3 _
theorem Tick_any (p : Nat) (P : Pl) (now : Int) (w : World) (hP : PB w p P) (hG : Good P) (hT : TabW w) (hD : Bs.Tab w) :
    Calls Tryz.prog 17 #[.pointer (some ⟨p, 0, none⟩), .int .i64 now] w (TickPost w p (tickP P now)) := by
  unfold tickP
  by_cases h : now < P.now ∨ 1099511627776 < now
  · rw [if_pos h]
    exact tick_no p P now w hP hG h
  · rw [if_neg h]
    exact tick_yes p P now w hP hG hT hD (by omega) (by omega)
end Go.Proofs.YtmnmcikbbfcjcaaGreatDoor.Ps
