/-
  A range over strings.SplitSeq, whose body may return: the loop's invariant speaks of what lay ahead of the loop, and bears the iterator's own cell.
-/
import Derived.Test.YtkmknogejhhajaaDoorVSplit
namespace Go.Proofs.YtkmknogejhhajaaDoor
open Go.RowKit Go.Shelf
attribute [local go_sem] Oper.semAt_some

set_option maxRecDepth 100000 in
theorem splitSeq0_any (s : ByteArray) (w : World) : Calls Tryd.prog 60 #[.string s, .string ⟨#[44]⟩, .int .i64 0] w fun e w' => e = .returned (.func (.func 77) #[] #[.pointer (some ⟨w.heap.size + 1, 0, none⟩), .pointer (some ⟨w.heap.size, 0, none⟩), .pointer (some ⟨w.heap.size + 2, 0, none⟩)]) ∧
    w' = ((w.alloc (.cells #[.string s] 9)).alloc (.cells #[.string ⟨#[44]⟩] 9)).alloc (.cells #[.int .i64 0] 3) := by
  go_enter Tryd.func60, Tryd.ntmps60
  go_wp2
  go_ret
  exact ⟨rfl, rfl⟩
set_option maxRecDepth 100000 in
theorem splitSeq_any (s : ByteArray) (w : World) : Calls Tryd.prog 49 #[.string s, .string ⟨#[44]⟩] w fun e w' => e = .returned (.func (.func 77) #[] #[.pointer (some ⟨w.heap.size + 1, 0, none⟩), .pointer (some ⟨w.heap.size, 0, none⟩), .pointer (some ⟨w.heap.size + 2, 0, none⟩)]) ∧
    w' = ((w.alloc (.cells #[.string s] 9)).alloc (.cells #[.string ⟨#[44]⟩] 9)).alloc (.cells #[.int .i64 0] 3) := by
  have h := splitSeq0_any s w
  go_enter Tryd.func49, Tryd.ntmps49
  go_wp2_with (go_at_call 60; (with_reducible refine h.mono ?_); rintro e w1 ⟨rfl, rfl⟩)
  go_ret
  exact ⟨rfl, rfl⟩

/-- A block put anew at or beyond B. -/
theorem below_put {B : Nat} {W : World} {b : Nat} (o : Obj) (h : B ≤ b) (hs : B ≤ W.heap.size) : Below B W (W.putObj b o) :=
  (Below.refl B W).grown (grownBy_putObj' W b o) hs (fun k e => by cases e; exact h)
/-- What a round leaves of the loop's own blocks, and of the iterator's cell. -/
def Kept (n₀ : Nat) (W W' : World) : Prop := W'.heap[n₀]? = W.heap[n₀]? ∧ W'.heap[n₀ + 1]? = W.heap[n₀ + 1]?
/-- How a round's body may be left. -/
def roundP (n₀ Bs : Nat) (I : List Pc → World → Prop) (Ix : World → Prop) (pre : List Pc) (W : World) : Exit → Act → World → Prop
  | .normal, _, W' => Kept n₀ W W' ∧ W'.heap[Bs]? = W.heap[Bs]? ∧ I pre W'
  | .ret, _, W' => Kept n₀ W W' ∧ Ix W'
  | _, _, _ => False
abbrev onHeap (a : Act) (n₀ : Nat) : Act := { a with defers := { target := .collected n₀, args := #[] } :: a.defers }
set_option maxHeartbeats 1000000 in
theorem range_pieces {n : Nat} (hn : 2 ≤ n) {g : Operand} {ps : Array Tmp} {assign body : Code} {Q : Exit → Act → World → Prop} {a : Act} {w : World} {Bp Bs Bk : Nat} (hp : Bp ≠ Bs) (hk : Bk ≠ Bs) (hBs : Bs < w.heap.size)
    (hg : a.eval g = .func (.func 77) #[] #[.pointer (some ⟨Bp, 0, none⟩), .pointer (some ⟨Bs, 0, none⟩), .pointer (some ⟨Bk, 0, none⟩)]) (hps : ps.size = 1)
    (l : List UInt8) (hlen : l.length ≤ 140737488355328) (hbx : Boxed w Bs 9 (.string (str l)))
    (I : List Pc → World → Prop) (Ix : World → Prop)
    (hI : ∀ pre W W', I pre W → Below w.heap.size W W' → I pre W') (hIx : ∀ W W', Ix W → Below w.heap.size W W' → Ix W')
    (hIs : ∀ pre W v, I pre W → I pre (World.setCell W ⟨Bs, 0, none⟩ v))
    (hIb : ∀ pre W, I pre W → Boxed W Bp 9 (.string ⟨#[44]⟩) ∧ Boxed W Bk 3 (.int .i64 0))
    (h0 : I [] w) (a₁ : Pc → Act)
    (hassign : ∀ (lp : Nat) (x : Pc) (W : World) (K : Act → World → Prop), K (a₁ x) W → assign.wpIn (Fence.wide.inRound lp) (n - 1 - 1) Tryd.prog (Exit.then K (fun _ _ _ => False)) { tmps := (ps.zip #[pcV x]).foldl (fun t (p, v) => t.setIfInBounds p v) a.tmps, defers := [] } W)
    (hbody : ∀ (lp : Nat) (pre : List Pc) (x : Pc) (W : World), w.heap.size + 1 < W.heap.size → raw (pre ++ [x]) <+: pieces l → I pre W → body.wpIn (Fence.wide.inRound lp) (n - 1 - 1) Tryd.prog (roundP w.heap.size Bs I Ix (pre ++ [x]) W) (a₁ x) W)
    (hdone : ∀ (ys : List Pc) (W : World), raw ys = pieces l → I ys W → W.heap[w.heap.size]? = some (.deferred (some [])) → Q .normal (onHeap a w.heap.size) W)
    (hstop : ∀ (W : World), Ix W → W.heap[w.heap.size]? = some (.deferred (some [])) → Code.ret.wpIn Fence.wide n Tryd.prog Q (onHeap a w.heap.size) W) :
    (Code.rangeFunc g ps assign body).wpIn Fence.wide n Tryd.prog Q a w := by
  refine wpIn_rangeFunc fun fn hfn => ?_
  let R : LoopState → Option Code → Loop := fun st pe => { state := st, pending := pe, fn, tmps := a.tmps, params := ps, assign, body, defers := w.heap.size }
  let w1 := (w.alloc (.deferred (some []))).alloc (.loop (R .ready none))
  have hw1 : Below w.heap.size w w1 := ((Below.refl _ w).alloc (Nat.le_refl _) _).alloc (by simp) _
  have q0 : w1.heap[w.heap.size]? = some (.deferred (some [])) := (Below.heap_alloc _ _ _ (by simp)).trans (heap_alloc_new w _)
  have q1 : w1.heap[w.heap.size + 1]? = some (.loop (R .ready none)) := by
    have := heap_alloc_new (w.alloc (.deferred (some []))) (.loop (R .ready none))
    rwa [World.size_alloc] at this
  refine ⟨w.heap.size + 1, [{ target := .collected w.heap.size, args := #[] }], w1, { target := .fn (.func 77) #[.pointer (some ⟨Bp, 0, none⟩), .pointer (some ⟨Bs, 0, none⟩), .pointer (some ⟨Bk, 0, none⟩)], args := #[.func (.yield (w.heap.size + 1)) #[] #[]] }, w1, 77,
    #[.func (.yield (w.heap.size + 1)) #[] #[], .pointer (some ⟨Bp, 0, none⟩), .pointer (some ⟨Bs, 0, none⟩), .pointer (some ⟨Bk, 0, none⟩)], w1, run_enterLoop_outer _ _ _ _ _, ?_, fun _ _ => trivial, ?_, fun _ => by omega, ?_⟩
  · simp only [resolve, hg]
    simp [go_sem]
  · simp [invoke, go_sem]
  refine (split1_in (n - 1) (by omega) (w.heap.size + 1) Bp Bs Bk hp hk l hlen
    (fun pre W => I pre W ∧ W.heap[w.heap.size]? = some (.deferred (some [])) ∧ W.heap[w.heap.size + 1]? = some (.loop (R .ready none)))
    (fun W => Ix W ∧ W.heap[w.heap.size]? = some (.deferred (some [])) ∧ W.heap[w.heap.size + 1]? = some (.loop (R .done (some .ret))))
    (fun pre W k h => ⟨hI _ _ _ h.1 (below_drewN (Below.refl _ _) k), h.2.1, h.2.2⟩)
    (fun pre W v h => ⟨hIs _ _ v h.1, (Below.heap_setCell W ⟨Bs, 0, none⟩ v _ (by show w.heap.size ≠ Bs; omega)).trans h.2.1, (Below.heap_setCell W ⟨Bs, 0, none⟩ v _ (by show w.heap.size + 1 ≠ Bs; omega)).trans h.2.2⟩)
    (fun pre W h => hIb _ _ h.1) ?round w1 ((hw1.block Bs hBs).trans hbx) ⟨hI _ _ _ h0 hw1, q0, q1⟩).mono ?_
  case round =>
    rintro pre x W hpf ⟨hi, hd, hl⟩
    have hlt := lt_of_block hl
    have hb : ∀ o, Below w.heap.size W (W.putObj (w.heap.size + 1) o) := fun o => below_put o (by omega) (by omega)
    have hl2 : (W.putObj (w.heap.size + 1) (.loop (R .busy none))).heap[w.heap.size + 1]? = some (.loop (R .busy none)) := World.putObj_heap_same hlt
    have hd2 : (W.putObj (w.heap.size + 1) (.loop (R .busy none))).heap[w.heap.size]? = some (.deferred (some [])) := (World.putObj_heap_other (by omega)).trans hd
    have hs2 : (W.putObj (w.heap.size + 1) (.loop (R .busy none))).heap[Bs]? = W.heap[Bs]? := World.putObj_heap_other (by omega)
    have hz2 : w.heap.size + 1 < (W.putObj (w.heap.size + 1) (.loop (R .busy none))).heap.size := Nat.lt_of_lt_of_le hlt (hb (.loop (R .busy none))).size
    refine ⟨fn, _, assign, body, run_yield (r := R .ready none) hl (by rw [hps]; rfl), roundIn_of_wpIn hfn (hassign _ x W _ ⟨_, run_beginRound (r := R .ready none) hl rfl, ?_⟩)⟩
    refine wpIn_mono (hbody _ pre x _ hz2 hpf (hI _ _ _ hi (hb _))) ?_
    rintro e a3 W3 hq
    match e, hq with
    | .normal, ⟨⟨k0, k1⟩, ks, hi3⟩ =>
      have hl3 := k1.trans hl2
      have hlt3 := lt_of_block hl3
      exact ⟨_, _, run_endRound (r := R .busy none) none hl3, .inl ⟨rfl, ⟨hI _ _ _ hi3 (below_put _ (by omega) (by omega)), (World.putObj_heap_other (by omega)).trans (k0.trans hd2), World.putObj_heap_same hlt3⟩, (World.putObj_heap_other (by omega)).trans (ks.trans hs2)⟩⟩
    | .ret, ⟨⟨k0, k1⟩, hi3⟩ =>
      have hl3 := k1.trans hl2
      have hlt3 := lt_of_block hl3
      exact ⟨_, _, run_endRound (r := R .busy none) (some .ret) hl3, .inr ⟨rfl, hIx _ _ hi3 (below_put _ (by omega) (by omega)), (World.putObj_heap_other (by omega)).trans (k0.trans hd2), World.putObj_heap_same hlt3⟩⟩
  rintro e W2 ⟨⟨v, rfl⟩, (⟨ys, hys, hi, hd, hl⟩ | ⟨hi, hd, hl⟩)⟩
  · have hlt := lt_of_block hl
    exact ⟨none, _, run_endLoop (r := R .ready none) hl (by simp [R]), hdone ys _ hys (hI _ _ _ hi (below_put _ (by omega) (by omega))) ((World.putObj_heap_other (by omega)).trans hd)⟩
  · have hlt := lt_of_block hl
    exact ⟨some .ret, _, run_endLoop (r := R .done (some .ret)) hl (by simp [R]), hstop _ (hIx _ _ hi (below_put _ (by omega) (by omega))) ((World.putObj_heap_other (by omega)).trans hd)⟩
end Go.Proofs.YtkmknogejhhajaaDoor
