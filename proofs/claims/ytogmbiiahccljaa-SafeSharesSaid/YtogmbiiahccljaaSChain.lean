/-
  A region of six operations that draws its order: two that may be taken first, one that reads, two calls in one order, a store: two ways through.
-/
import Derived.Test.YtogmbiiahccljaaSOver
import Derived.Deep.RegionHeld3
namespace Go.Proofs.Ytogmbiiahccljaa
open Go.RowKit

theorem wpOp_of {P : Program} {ops : Array Oper} {Q : Exit → Act → World → Prop} {i : Nat} {o : Oper} {K : Act → World → Prop} {a : Act} {w : World} (e : ops[i]? = some o) (g : o.guard = none)
    (h : o.wp P a w K Q) : wpOp P ops Q i K a w := by
  unfold wpOp
  rw [e]
  have hw : Region.wanted o (yielded ops a.tmps) = true := by simp [Region.wanted, g]
  show if Region.wanted o (yielded ops a.tmps) = true then _ else _
  rw [if_pos hw]
  exact .inl h

theorem chain6 {P : Program} {id : Nat} {ops : Array Oper} {o0 o1 o2 o3 o4 o5 : Oper} {Q : Exit → Act → World → Prop} {S : World → Prop} {a : Act} {w : World} {v1 v2 : Value}
    (hm : P.follows .mixedOrders = true) (hsz : ops.size = 6)
    (e0 : ops[0]? = some o0) (e1 : ops[1]? = some o1) (e2 : ops[2]? = some o2) (e3 : ops[3]? = some o3) (e4 : ops[4]? = some o4) (e5 : ops[5]? = some o5)
    (hs : Region.noSelect ops = true)
    (f1 : Region.free .any ops #[false, false, false, false, false, false] 1 = true) (r1 : (Region.ready .any ops #[false, false, false, false, false, false]).contains 1 = true)
    (f2 : Region.free .any ops #[false, true, false, false, false, false] 2 = true) (r2 : (Region.ready .any ops #[false, true, false, false, false, false]).contains 2 = true)
    (q0 : Region.ready .any ops #[false, true, true, false, false, false] = [0, 3])
    (qa : Region.ready .any ops #[true, true, true, false, false, false] = [3])
    (qb : Region.ready .any ops #[false, true, true, true, false, false] = [0])
    (q4 : Region.ready .any ops #[true, true, true, true, false, false] = [4])
    (q5 : Region.ready .any ops #[true, true, true, true, true, false] = [5])
    (q6 : Region.ready .any ops #[true, true, true, true, true, true] = [])
    (g0 : o0.guard = none) (g3 : o3.guard = none) (g4 : o4.guard = none) (g5 : o5.guard = none)
    (hP1 : ∀ c (a : Act) w, Q (.panic c) (a.put o1.dst v1) w → Q (.panic c) a w) (hP2 : ∀ c (a : Act) w, Q (.panic c) (a.put o2.dst v2) w → Q (.panic c) a w)
    (hS : S w.drew) (y1 : YieldsIf P ops S o1 v1 a) (y2 : YieldsIf P ops S o2 v2 (a.put o1.dst v1))
    (hA : o0.wp P ((a.put o1.dst v1).put o2.dst v2) w.drew (fun a w => S w ∧ o3.wp P a w (fun a w => S w ∧ o4.wp P a w (fun a w => S w ∧ o5.wp P a w (fun a w => S w ∧ Q .normal a w) Q) Q) Q) Q)
    (hB : o3.wp P ((a.put o1.dst v1).put o2.dst v2) w.drew (fun a w => S w ∧ o0.wp P a w (fun a w => S w ∧ o4.wp P a w (fun a w => S w ∧ o5.wp P a w (fun a w => S w ∧ Q .normal a w) Q) Q) Q) Q) :
    (Code.region id ops true).wp P Q a w := by
  have s6 : ∀ a w, Q .normal a w → wpAnyH P .any ops Q S 0 #[true, true, true, true, true, true] a w := fun a w h => wpAnyH_done q6 h 0
  have s5 : ∀ a w, o5.wp P a w (fun a w => S w ∧ Q .normal a w) Q → wpAnyH P .any ops Q S 1 #[true, true, true, true, true, false] a w := fun a w h => wpAnyH_all q5 (by simp) fun i hi => by
    obtain rfl : i = 5 := by simpa using hi
    exact wpOp_mono (fun _ _ ⟨h1, h2⟩ => ⟨h1, s6 _ _ h2⟩) (wpOp_of e5 g5 h)
  have s4 : ∀ a w, o4.wp P a w (fun a w => S w ∧ o5.wp P a w (fun a w => S w ∧ Q .normal a w) Q) Q → wpAnyH P .any ops Q S 2 #[true, true, true, true, false, false] a w := fun a w h => wpAnyH_all q4 (by simp) fun i hi => by
    obtain rfl : i = 4 := by simpa using hi
    exact wpOp_mono (fun _ _ ⟨h1, h2⟩ => ⟨h1, s5 _ _ h2⟩) (wpOp_of e4 g4 h)
  have sa : ∀ a w, o3.wp P a w (fun a w => S w ∧ o4.wp P a w (fun a w => S w ∧ o5.wp P a w (fun a w => S w ∧ Q .normal a w) Q) Q) Q → wpAnyH P .any ops Q S 3 #[true, true, true, false, false, false] a w := fun a w h => wpAnyH_all qa (by simp) fun i hi => by
    obtain rfl : i = 3 := by simpa using hi
    exact wpOp_mono (fun _ _ ⟨h1, h2⟩ => ⟨h1, s4 _ _ h2⟩) (wpOp_of e3 g3 h)
  have sb : ∀ a w, o0.wp P a w (fun a w => S w ∧ o4.wp P a w (fun a w => S w ∧ o5.wp P a w (fun a w => S w ∧ Q .normal a w) Q) Q) Q → wpAnyH P .any ops Q S 3 #[false, true, true, true, false, false] a w := fun a w h => wpAnyH_all qb (by simp) fun i hi => by
    obtain rfl : i = 0 := by simpa using hi
    exact wpOp_mono (fun _ _ ⟨h1, h2⟩ => ⟨h1, s4 _ _ h2⟩) (wpOp_of e0 g0 h)
  refine wp_region_held_drew (S := S) hm hS (fun hS => ?_)
  rw [hsz]
  refine wpAnyH_take (i := 1) (listed := #[false, false, false, false, false, false]) e1 hs f1 r1 hP1 y1 hS ?_
  refine wpAnyH_take (i := 2) (listed := #[false, true, false, false, false, false]) e2 hs f2 r2 hP2 y2 hS ?_
  refine wpAnyH_all (listed := #[false, true, true, false, false, false]) q0 (by simp) fun i hi => ?_
  have hi' : i = 0 ∨ i = 3 := by simpa using hi
  rcases hi' with rfl | rfl
  · exact wpOp_mono (fun _ _ ⟨h1, h2⟩ => ⟨h1, sa _ _ h2⟩) (wpOp_of e0 g0 hA)
  · exact wpOp_mono (fun _ _ ⟨h1, h2⟩ => ⟨h1, sb _ _ h2⟩) (wpOp_of e3 g3 hB)
theorem row_yields {ops : Array Oper} {S : World → Prop} {op : Oper} {a : Act} {g : Nat} {p : Nat → Bool} (hw : Region.wanted op (yielded ops a.tmps) = true) (x : Operand)
    (ho : op.op = .load 49 x) (hx : a.eval x = .pointer (some ⟨g, 0, none⟩)) (hS : ∀ w, S w → Row w g p) : YieldsIf Try.prog ops S op (.agg (row p)) a :=
  .inl ⟨hw, fun w hw' => by
    unfold execOp
    simp only [ho, hx, Instr.loadAt, Instr.sureAddr, Sem.run_bind, Sem.run_pure, Result.andThen_ok, run_loadVar_row w g _ _ _ _ _ (hS w hw') Try.underlying49 rfl (infoRow p)]⟩
theorem wp_load_big {o : Oper} {a : Act} {w : World} {K : Act → World → Prop} {Q : Exit → Act → World → Prop} {g : Nat} {p : Nat → Bool} (x : Operand) (ho : o.op = .load 49 x)
    (hx : a.eval x = .pointer (some ⟨g, 0, none⟩)) (hg : Row w g p) (h : K (a.put o.dst (.agg (row p))) w) : o.wp Try.prog a w K Q :=
  wp_load_row _ x ho g hx _ _ _ _ hg Try.underlying49 rfl (infoRow p) h
theorem wp_store_big {o : Oper} {a : Act} {w : World} {K : Act → World → Prop} {Q : Exit → Act → World → Prop} {g : Nat} {p q : Nat → Bool} (x y : Operand) (ho : o.op = .store 49 x y)
    (hx : a.eval x = .pointer (some ⟨g, 0, none⟩)) (hy : a.eval y = .agg (row q)) (hg : Row w g p) (h : K (a.put o.dst undef) (w.setRow g (row q))) : o.wp Try.prog a w K Q :=
  wp_store_row _ x y ho g (row q) hx hy _ _ hg (infoRow q) (by rw [row_size, row_size]) (row_one q) h
/-- What follows, under a name that no tactic looks into. -/
theorem wp_hide {P : Program} {o : Oper} {a : Act} {w : World} {K : Act → World → Prop} {Q : Exit → Act → World → Prop} (h : ∀ K' : Act → World → Prop, Hid (Hid (∀ a w, K a w → K' a w)) → o.wp P a w K' Q) : o.wp P a w K Q :=
  h K (fun _ _ h => h)
end Go.Proofs.Ytogmbiiahccljaa
