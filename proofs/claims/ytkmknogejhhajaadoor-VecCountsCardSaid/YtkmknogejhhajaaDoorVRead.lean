/-
  read: what a text's parts tell.
-/
import Derived.Test.YtkmknogejhhajaaDoorVLaw
namespace Go.Proofs.YtkmknogejhhajaaDoor
open Go.RowKit Go.Shelf
attribute [local go_sem] Oper.semAt_some

/-- What read answers. -/
def readV (o : Option V3) : Value := match o with
  | some v => .tuple #[vv v, .bool true]
  | none => .tuple #[vec 0 0 0, .bool false]
def RP (w : World) (o : Option V3) (e : Ending) (w' : World) : Prop := e = .returned (readV o) ∧ Below w.heap.size w w'
theorem foldP_app (v : V3) (a b : List (List UInt8)) : foldP v (a ++ b) = (foldP v a).bind (fun v' => foldP v' b) := by
  induction a generalizing v with
  | nil => rfl
  | cons x r ih =>
    simp only [List.cons_append, foldP]
    cases step v x with
    | none => rfl
    | some v' => exact ih v'
theorem foldP_none {v : V3} {a l : List (List UInt8)} (h : foldP v a = none) (hp : a <+: l) : foldP v l = none := by
  obtain ⟨b, rfl⟩ := hp
  rw [foldP_app, h]; rfl
theorem six (s : ByteArray) (w : World) : let W := ((((((w.alloc (.cells #[.int .i64 0, .int .i64 0, .int .i64 0] 23)).alloc (.cells #[.bool false] 4)).alloc (.cells #[.int .i64 0, .int .i64 0, .int .i64 0] 23)).alloc (.cells #[.string s] 9)).alloc (.cells #[.string ⟨#[44]⟩] 9)).alloc (.cells #[.int .i64 0] 3))
    VB W w.heap.size 0 0 0 ∧ Boxed W (w.heap.size + 1) 4 (.bool false) ∧ VB W (w.heap.size + 2) 0 0 0 ∧ Boxed W (w.heap.size + 3) 9 (.string s) ∧ Boxed W (w.heap.size + 4) 9 (.string ⟨#[44]⟩) ∧ Boxed W (w.heap.size + 5) 3 (.int .i64 0) ∧ Below w.heap.size w W ∧ W.heap.size = w.heap.size + 6 := by
  intro W
  have hn : ∀ (u : World) (o : Obj) (k : Nat), u.heap.size = k → (u.alloc o).heap[k]? = some o ∧ (u.alloc o).heap.size = k + 1 := fun u o k h => by subst h; exact ⟨heap_alloc_new u o, by simp⟩
  have ho : ∀ (u : World) (o : Obj) (k : Nat) (c : Option Obj), k < u.heap.size → u.heap[k]? = c → (u.alloc o).heap[k]? = c := fun u o k c hk h => (Below.heap_alloc u o k hk).trans h
  obtain ⟨a1, z1⟩ := hn w (.cells #[.int .i64 0, .int .i64 0, .int .i64 0] 23) _ rfl
  obtain ⟨a2, z2⟩ := hn _ (.cells #[.bool false] 4) _ z1
  obtain ⟨a3, z3⟩ := hn _ (.cells #[.int .i64 0, .int .i64 0, .int .i64 0] 23) _ z2
  obtain ⟨a4, z4⟩ := hn _ (.cells #[.string s] 9) _ z3
  obtain ⟨a5, z5⟩ := hn _ (.cells #[.string ⟨#[44]⟩] 9) _ z4
  obtain ⟨a6, z6⟩ := hn _ (.cells #[.int .i64 0] 3) _ z5
  refine ⟨?_, ?_, ?_, ?_, ?_, a6, ((((((Grew.refl w).alloc _).alloc _).alloc _).alloc _).alloc _).alloc _ |>.below, z6⟩
  · exact ho _ _ _ _ (by omega) (ho _ _ _ _ (by omega) (ho _ _ _ _ (by omega) (ho _ _ _ _ (by omega) (ho _ _ _ _ (by omega) a1))))
  · exact ho _ _ _ _ (by omega) (ho _ _ _ _ (by omega) (ho _ _ _ _ (by omega) (ho _ _ _ _ (by omega) a2)))
  · exact ho _ _ _ _ (by omega) (ho _ _ _ _ (by omega) (ho _ _ _ _ (by omega) a3))
  · exact ho _ _ _ _ (by omega) (ho _ _ _ _ (by omega) a4)
  · exact ho _ _ _ _ (by omega) a5
/-- Between two rounds: the parts told so far lie in the vector's box; the results are as they began. -/
def RI (w : World) (n₀ : Nat) (pre : List Pc) (W : World) : Prop :=
  (∃ v : V3, foldP (0, 0, 0) (raw pre) = some v ∧ VB W (n₀ + 2) v.1 v.2.1 v.2.2) ∧ VB W n₀ 0 0 0 ∧ Boxed W (n₀ + 1) 4 (.bool false) ∧ Boxed W (n₀ + 4) 9 (.string ⟨#[44]⟩) ∧ Boxed W (n₀ + 5) 3 (.int .i64 0) ∧ Below n₀ w W
def RX (w : World) (n₀ : Nat) (l : List UInt8) (W : World) : Prop := foldP (0, 0, 0) (pieces l) = none ∧ VB W n₀ 0 0 0 ∧ Boxed W (n₀ + 1) 4 (.bool false) ∧ Below n₀ w W
theorem RI.on {w W W' : World} {n₀ : Nat} {pre : List Pc} (h : RI w n₀ pre W) {B : Nat} (hb : Below B W W') (hB : n₀ + 6 ≤ B) : RI w n₀ pre W' := by
  obtain ⟨⟨v, h1, h2⟩, h3, h4, h5, h6, h7⟩ := h
  exact ⟨⟨v, h1, (hb.block _ (by omega)).trans h2⟩, (hb.block _ (by omega)).trans h3, (hb.block _ (by omega)).trans h4, (hb.block _ (by omega)).trans h5, (hb.block _ (by omega)).trans h6, h7.trans (hb.mono (by omega))⟩
theorem RX.on {w W W' : World} {n₀ : Nat} {l : List UInt8} (h : RX w n₀ l W) {B : Nat} (hb : Below B W W') (hB : n₀ + 6 ≤ B) : RX w n₀ l W' := by
  obtain ⟨h1, h2, h3, h7⟩ := h
  exact ⟨h1, (hb.block _ (by omega)).trans h2, (hb.block _ (by omega)).trans h3, h7.trans (hb.mono (by omega))⟩
theorem RI.iter {w W : World} {n₀ : Nat} {pre : List Pc} (h : RI w n₀ pre W) (v : Value) : RI w n₀ pre (W.setCell ⟨n₀ + 3, 0, none⟩ v) := by
  obtain ⟨⟨u, h1, h2⟩, h3, h4, h5, h6, h7⟩ := h
  exact ⟨⟨u, h1, block_other 0 v h2 (by omega)⟩, block_other 0 v h3 (by omega), block_other 0 v h4 (by omega), block_other 0 v h5 (by omega), block_other 0 v h6 (by omega), h7.setCell (p := ⟨n₀ + 3, 0, none⟩) (by show n₀ ≤ n₀ + 3; omega) v⟩
theorem kept_set {n₀ c i : Nat} {W W3 : World} (v : Value) (g : Below W.heap.size W W3) (hlt : n₀ + 1 < W.heap.size) (hc : c < n₀) : Kept n₀ W (W3.setCell ⟨c, i, none⟩ v) :=
  ⟨block_other i v (g.block _ (by omega)) (by omega), block_other i v (g.block _ (by omega)) (by omega)⟩
theorem round_ok {w W W3 : World} {n₁ : Nat} {pre : List Pc} {x : Pc} {l : List UInt8} {a : Act} (hn : n₁ = w.heap.size + 6) (hlt : n₁ + 1 < W.heap.size) (g : Below W.heap.size W W3) (hI : RI w w.heap.size pre W) (i : Nat) (u : Value) (v' : V3)
    (hv : foldP (0, 0, 0) (raw (pre ++ [x])) = some v') (hvb : VB (W3.setCell ⟨w.heap.size + 2, i, none⟩ u) (w.heap.size + 2) v'.1 v'.2.1 v'.2.2) :
    roundP n₁ (w.heap.size + 3) (RI w w.heap.size) (RX w w.heap.size l) (pre ++ [x]) W .normal a (W3.setCell ⟨w.heap.size + 2, i, none⟩ u) := by
  obtain ⟨_, h3, h4, h5, h6, h7⟩ := hI.on g (by omega)
  exact ⟨kept_set u g hlt (by omega), block_other i u (g.block _ (by omega)) (by omega), ⟨v', hv, hvb⟩, block_other i u h3 (by omega), block_other i u h4 (by omega), block_other i u h5 (by omega), block_other i u h6 (by omega), h7.setCell (p := ⟨w.heap.size + 2, i, none⟩) (by show w.heap.size ≤ w.heap.size + 2; omega) u⟩
theorem round_bad {w W W3 : World} {n₁ : Nat} {pre : List Pc} {x : Pc} {l : List UInt8} {a : Act} (hn : n₁ = w.heap.size + 6) (hlt : n₁ + 1 < W.heap.size) (g : Below W.heap.size W W3) (hI : RI w w.heap.size pre W)
    (hv : foldP (0, 0, 0) (raw (pre ++ [x])) = none) (hp : raw (pre ++ [x]) <+: pieces l) (c : Nat) (hc : c = w.heap.size + 1) :
    roundP n₁ (w.heap.size + 3) (RI w w.heap.size) (RX w w.heap.size l) (pre ++ [x]) W .ret a ((((W3.setCell ⟨w.heap.size, 0, none⟩ (.int .i64 0)).setCell ⟨w.heap.size, 1, none⟩ (.int .i64 0)).setCell ⟨w.heap.size, 2, none⟩ (.int .i64 0)).setCell ⟨c, 0, none⟩ (.bool false)) := by
  subst hc
  obtain ⟨_, h3, h4, h5, h6, h7⟩ := hI.on g (by omega)
  have k3 := block_other 0 (.bool false) (h3.put 0 0 0) (show w.heap.size ≠ w.heap.size + 1 by omega)
  have k4 : Boxed (((W3.setCell ⟨w.heap.size, 0, none⟩ (.int .i64 0)).setCell ⟨w.heap.size, 1, none⟩ (.int .i64 0)).setCell ⟨w.heap.size, 2, none⟩ (.int .i64 0)) (w.heap.size + 1) 4 (.bool false) := block_other 2 _ (block_other 1 _ (block_other 0 _ h4 (by omega)) (by omega)) (by omega)
  have q : ∀ j, n₁ ≤ j → j < W.heap.size → ((((W3.setCell ⟨w.heap.size, 0, none⟩ (.int .i64 0)).setCell ⟨w.heap.size, 1, none⟩ (.int .i64 0)).setCell ⟨w.heap.size, 2, none⟩ (.int .i64 0)).setCell ⟨w.heap.size + 1, 0, none⟩ (.bool false)).heap[j]? = W.heap[j]? := fun j hj hl =>
    block_other 0 _ (block_other 2 _ (block_other 1 _ (block_other 0 _ (g.block _ hl) (by omega)) (by omega)) (by omega)) (by omega)
  exact ⟨⟨q _ (Nat.le_refl _) (by omega), q _ (by omega) (by omega)⟩, foldP_none hv hp, k3, k4.set _, (set3 h7 (Nat.le_refl _) _ _ _).setCell (p := ⟨w.heap.size + 1, 0, none⟩) (by show w.heap.size ≤ w.heap.size + 1; omega) _⟩
set_option maxRecDepth 100000 in
set_option maxHeartbeats 4000000 in
theorem read_any (s : ByteArray) (hs : s.size ≤ 140737488355328) (w : World) (hw : Env w) : Calls Tryd.prog 40 #[.string s] w (RP w (readP (bl s))) := by
  have hq := str_eq s ⟨#[110, 111, 110, 101]⟩
  have hnn : bl (⟨#[110, 111, 110, 101]⟩ : ByteArray) = noneT := rfl
  have hlb : (⟨#[110, 111, 110, 101]⟩ : ByteArray).toList = [110, 111, 110, 101] := by rw [ByteArray.toList_eq]
  rw [hnn, hlb] at hq
  by_cases h : bl s = noneT
  · rw [decide_eq_true h] at hq
    have hE := fhid (show readP (bl s) = some (0, 0, 0) from if_pos h)
    clear hnn hlb h
    go_enter Tryd.func40, Tryd.ntmps40
    go_wp2
    exact bodyPost_ret (v := .tuple #[vec 0 0 0, .bool true]) (by simp [results, Tryd.results40, go_sem]) rfl ⟨by rw [hE.out]; rfl, ((((Grew.refl w).alloc _).alloc _).alloc _).below⟩
  · rw [decide_eq_false h] at hq
    have hE := fhid (show readP (bl s) = foldP (0, 0, 0) (pieces (bl s)) from if_neg h)
    clear hnn hlb h
    refine (callsIn_wide (n := 6)).1 ?_
    refine callsIn_of_wp_marks Tryd.func40 rfl trivial ?_ rfl
    simp only [Tryd.ntmps40, List.size_toArray, List.length_cons, List.length_nil, Nat.reduceAdd, Nat.reduceSub, Array.replicate_succ, Array.replicate_zero, List.push_toArray, List.append_toArray, List.nil_append, List.cons_append]
    gi_wp2_with (refine ⟨trivial, ?_⟩; gi_at_call 49; refine (callsIn_wide.2 (splitSeq_any s _)).mono ?_; rintro e w1 ⟨rfl, rfl⟩)
    obtain ⟨v0, v1, v2, v3, v4, v5, hB, hz⟩ := six s w
    generalize ((((((w.alloc _).alloc _).alloc _).alloc _).alloc _).alloc _) = w1 at *
    have hlen : (bl s).length ≤ 140737488355328 := by rw [bl_len]; exact hs
    rw [← str_bl s] at v3
    refine range_pieces (n := 6) (by omega) (Bp := w.heap.size + 4) (Bs := w.heap.size + 3) (Bk := w.heap.size + 5) (by omega) (by omega) (by omega) rfl rfl (bl s) hlen v3 (RI w w.heap.size) (RX w w.heap.size (bl s))
      (fun pre W W' h hb => h.on hb (by omega)) (fun W W' h hb => h.on hb (by omega)) (fun pre W v h => h.iter v) (fun pre W h => ⟨h.2.2.2.1, h.2.2.2.2.1⟩) ⟨⟨(0, 0, 0), rfl, v2⟩, v0, v1, v4, v5, hB⟩
      (fun x => { tmps := #[.string s, undef, .pointer (some ⟨w.heap.size, 0, none⟩), .pointer (some ⟨w.heap.size + 1, 0, none⟩), .pointer (some ⟨w.heap.size + 1 + 1, 0, none⟩), pcV x, undef, undef, undef, undef, undef, .string s, .bool false, undef, .string s,
        .func (.func 77) #[] #[.pointer (some ⟨w.heap.size + 1 + 1 + 1 + 1, 0, none⟩), .pointer (some ⟨w.heap.size + 1 + 1 + 1, 0, none⟩), .pointer (some ⟨w.heap.size + 1 + 1 + 1 + 2, 0, none⟩)],
        pcV x, undef, undef, undef, undef, undef, undef, undef, undef, undef, undef, undef, undef, undef, undef, undef, undef, undef, undef, undef, undef, undef, undef, undef, undef, undef, undef, undef, undef, undef], defers := [] }) ?assign ?body ?done ?stop
    case assign =>
      intro l x W K hK
      gi_wp2
      exact hK
    case body =>
      intro lp pre x W hlt hpf hI
      have hRI := fhid hI
      obtain ⟨⟨⟨x1, x2, x3⟩, hu, b2⟩, b0, b1, b4, b5, hBW⟩ := hI
      simp only at b2
      have hd : 1 ≤ 6 - 1 - 1 := by omega
      have hmx : Tryd.prog.follows .mixedOrders = true := by kernel_rfl
      have hst : foldP (0, 0, 0) (raw (pre ++ [x])) = step (x1, x2, x3) x.1 := by rw [raw_snoc, foldP_snoc, hu]; rfl
      have hxs : (str x.1).size ≤ 140737488355328 := by rw [str_size]; exact x.2
      have hbs : (str (behind 61 x.1)).size ≤ 140737488355328 := by rw [str_size]; exact Nat.le_trans (behind_le 61 x.1) x.2
      have hcut := fun V => cut_any (str x.1) hxs V
      rw [bl_str] at hcut
      unfold cutV at hcut
      have hat := fun V (hV : Env V) => atoi_any (str (behind 61 x.1)) hbs V hV
      rw [bl_str] at hat
      unfold AtoiPost at hat
      have hwW := fhid (hw.below hBW)
      have n1 := str_eq (str (upTo 61 x.1)) ⟨#[99, 112, 117]⟩
      have n2 := str_eq (str (upTo 61 x.1)) ⟨#[109, 101, 109]⟩
      have n3 := str_eq (str (upTo 61 x.1)) ⟨#[103, 112, 117]⟩
      rw [bl_str, show bl (⟨#[99, 112, 117]⟩ : ByteArray) = kCpu from rfl, show (⟨#[99, 112, 117]⟩ : ByteArray).toList = [99, 112, 117] by rw [ByteArray.toList_eq]] at n1
      rw [bl_str, show bl (⟨#[109, 101, 109]⟩ : ByteArray) = kMem from rfl, show (⟨#[109, 101, 109]⟩ : ByteArray).toList = [109, 101, 109] by rw [ByteArray.toList_eq]] at n2
      rw [bl_str, show bl (⟨#[103, 112, 117]⟩ : ByteArray) = kGpu from rfl, show (⟨#[103, 112, 117]⟩ : ByteArray).toList = [103, 112, 117] by rw [ByteArray.toList_eq]] at n3
      unfold step at hst
      replace b0 := fhid b0
      replace b1 := fhid b1
      replace b2 := fhid b2
      replace b4 := fhid b4
      replace b5 := fhid b5
      replace hBW := fhid hBW
      replace hpf := fhid hpf
      have hzW := fhid (show w.heap.size + 6 ≤ W.heap.size by omega)
      replace hlt := fhid hlt
      clear hu hxs hbs
      unfold pcV
      generalize str x.1 = X at *
      generalize str (behind 61 x.1) = D at *
      generalize decide (61 ∈ x.1) = fd at *
      cases hA : Lib.atoiAll (behind 61 x.1) with
      | ok n =>
        rw [hA] at hst hat
        simp only at hst hat
        clear hA
        by_cases k1 : upTo 61 x.1 = kCpu
        · rw [decide_eq_true k1] at n1
          rw [if_pos k1] at hst
          clear n2 n3 k1
          replace hst := fhid hst
          generalize str (upTo 61 x.1) = N at *
          gi_wp2_with (first
            | (refine ⟨trivial, ?_⟩; gi_at_call 50; refine (CallsIn.inRound lp (callsIn_wide.2 (hcut _))).mono ?_; rintro e w2 ⟨rfl, g2⟩)
            | (refine ⟨trivial, ?_⟩; gi_at_call 51; refine (CallsIn.inRound lp (callsIn_wide.2 (hat w2 (hwW.out.grew g2)))).mono ?_
               rintro e w3 ⟨rfl, b3⟩
               have g3 := fhid (g2.below.trans (b3.mono g2.below.size))
               have c2 := fhid (b2.out.on g3.out)
               obtain ⟨e0, e1, e2, ⟨f0, f1, f2⟩, ez⟩ := c2.out.facts))
          exact round_ok hz hlt.out g3.out hRI.out 0 _ _ hst.out (block_set 0 _ c2.out)
        · rw [decide_eq_false k1] at n1
          rw [if_neg k1] at hst
          clear k1
          by_cases k1 : upTo 61 x.1 = kMem
          · rw [decide_eq_true k1] at n2
            rw [if_pos k1] at hst
            clear n3 k1
            replace hst := fhid hst
            generalize str (upTo 61 x.1) = N at *
            gi_wp2_with (first
              | (refine ⟨trivial, ?_⟩; gi_at_call 50; refine (CallsIn.inRound lp (callsIn_wide.2 (hcut _))).mono ?_; rintro e w2 ⟨rfl, g2⟩)
              | (refine ⟨trivial, ?_⟩; gi_at_call 51; refine (CallsIn.inRound lp (callsIn_wide.2 (hat w2 (hwW.out.grew g2)))).mono ?_
                 rintro e w3 ⟨rfl, b3⟩
                 have g3 := fhid (g2.below.trans (b3.mono g2.below.size))
                 have c2 := fhid (b2.out.on g3.out)
                 obtain ⟨e0, e1, e2, ⟨f0, f1, f2⟩, ez⟩ := c2.out.facts))
            exact round_ok hz hlt.out g3.out hRI.out 1 _ _ hst.out (block_set 1 _ c2.out)
          · rw [decide_eq_false k1] at n2
            rw [if_neg k1] at hst
            clear k1
            by_cases k1 : upTo 61 x.1 = kGpu
            · rw [decide_eq_true k1] at n3
              rw [if_pos k1] at hst
              clear k1
              replace hst := fhid hst
              generalize str (upTo 61 x.1) = N at *
              gi_wp2_with (first
                | (refine ⟨trivial, ?_⟩; gi_at_call 50; refine (CallsIn.inRound lp (callsIn_wide.2 (hcut _))).mono ?_; rintro e w2 ⟨rfl, g2⟩)
                | (refine ⟨trivial, ?_⟩; gi_at_call 51; refine (CallsIn.inRound lp (callsIn_wide.2 (hat w2 (hwW.out.grew g2)))).mono ?_
                   rintro e w3 ⟨rfl, b3⟩
                   have g3 := fhid (g2.below.trans (b3.mono g2.below.size))
                   have c2 := fhid (b2.out.on g3.out)
                   obtain ⟨e0, e1, e2, ⟨f0, f1, f2⟩, ez⟩ := c2.out.facts))
              exact round_ok hz hlt.out g3.out hRI.out 2 _ _ hst.out (block_set 2 _ c2.out)
            · rw [decide_eq_false k1] at n3
              rw [if_neg k1] at hst
              clear k1
              replace hst := fhid hst
              generalize str (upTo 61 x.1) = N at *
              gi_wp2_with (first
                | (refine ⟨trivial, ?_⟩; gi_at_call 50; refine (CallsIn.inRound lp (callsIn_wide.2 (hcut _))).mono ?_; rintro e w2 ⟨rfl, g2⟩)
                | (refine ⟨trivial, ?_⟩; gi_at_call 51; refine (CallsIn.inRound lp (callsIn_wide.2 (hat w2 (hwW.out.grew g2)))).mono ?_
                   rintro e w3 ⟨rfl, b3⟩
                   have g3 := fhid (g2.below.trans (b3.mono g2.below.size))
                   have c2 := fhid (b0.out.on g3.out)
                   obtain ⟨e0, e1, e2, ⟨f0, f1, f2⟩, ez⟩ := c2.out.facts
                   have c3 := fhid (show Boxed w3 (w.heap.size + 1) 4 (.bool false) from (g3.out.block _ (by have := hzW.out; omega)).trans b1.out)
                   have d0 := c3.out.cell
                   have d1 := c3.out.frozen))
              exact round_bad hz hlt.out g3.out hRI.out hst.out hpf.out _ rfl
      | _ =>
        rw [hA] at hst hat
        simp only at hst hat
        replace hst := fhid hst
        clear hA n1 n2 n3
        generalize str (upTo 61 x.1) = N at *
        gi_wp2_with (first
          | (refine ⟨trivial, ?_⟩; gi_at_call 50; refine (CallsIn.inRound lp (callsIn_wide.2 (hcut _))).mono ?_; rintro e w2 ⟨rfl, g2⟩)
          | (refine ⟨trivial, ?_⟩; gi_at_call 51; refine (CallsIn.inRound lp (callsIn_wide.2 (hat w2 (hwW.out.grew g2)))).mono ?_
             rintro e w3 ⟨⟨nn, NN, rfl⟩, b3⟩
             have g3 := fhid (g2.below.trans (b3.mono g2.below.size))
             have c2 := fhid (b0.out.on g3.out)
             obtain ⟨e0, e1, e2, ⟨f0, f1, f2⟩, ez⟩ := c2.out.facts
             have c3 := fhid (show Boxed w3 (w.heap.size + 1) 4 (.bool false) from (g3.out.block _ (by have := hzW.out; omega)).trans b1.out)
             have d0 := c3.out.cell
             have d1 := c3.out.frozen))
        exact round_bad hz hlt.out g3.out hRI.out hst.out hpf.out _ rfl
    case done =>
      rintro ys W hys ⟨⟨v, hv, b2⟩, b0, b1, b4, b5, hBW⟩ hK
      rw [hys] at hv
      have hE2 := fhid (hE.out.trans hv)
      obtain ⟨v1', v2', v3'⟩ := v
      simp only at b2
      obtain ⟨e0, e1, e2, ⟨f0, f1, f2⟩, ez⟩ := b2.facts
      obtain ⟨d0, d1, d2, ⟨u0, u1, u2⟩, dz⟩ := b0.facts
      have c0 := b1.cell
      have c1 := b1.frozen
      have cz := b1.lt
      rw [hz] at hK
      clear hq v0 v1 v2 v3 v4 v5 hB
      gi_wp2
      refine ⟨by simp, .inl ⟨_, _, rfl, run_takeDeferred (block_other 0 _ (block_other 2 _ (block_other 1 _ (block_other 0 _ hK (by omega)) (by omega)) (by omega)) (by omega)), ?_⟩⟩
      have b0' := fhid (block_other 0 (.bool true) (b0.put v1' v2' v3') (show w.heap.size ≠ w.heap.size + 1 by omega))
      have b1' := fhid (Boxed.set (.bool true) (show Boxed (((W.setCell ⟨w.heap.size, 0, none⟩ (.int .i64 v1')).setCell ⟨w.heap.size, 1, none⟩ (.int .i64 v2')).setCell ⟨w.heap.size, 2, none⟩ (.int .i64 v3')) (w.heap.size + 1) 4 (.bool false) from block_other 2 _ (block_other 1 _ (block_other 0 _ b1 (by omega)) (by omega)) (by omega)))
      have hBB := fhid ((set3 hBW (Nat.le_refl _) (.int .i64 v1') (.int .i64 v2') (.int .i64 v3')).setCell (p := ⟨w.heap.size + 1, 0, none⟩) (by show w.heap.size ≤ w.heap.size + 1; omega) (.bool true))
      clear e0 e1 e2 f0 f1 f2 ez d0 d1 d2 u0 u1 u2 dz c0 c1 cz b0 b1 b2 b4 b5 hBW hK
      generalize ((((W.setCell _ _).setCell _ _).setCell _ _).setCell _ _) = W5 at *
      have b0'' := fhid (show VB (W5.putObj (w.heap.size + 6) (.deferred none)) w.heap.size v1' v2' v3' from (World.putObj_heap_other (by omega)).trans b0'.out)
      have b1'' := fhid (show Boxed (W5.putObj (w.heap.size + 6) (.deferred none)) (w.heap.size + 1) 4 (.bool true) from (World.putObj_heap_other (by omega)).trans b1'.out)
      have hB2 := fhid (hBB.out.trans (below_put (W := W5) (b := w.heap.size + 6) (.deferred none) (show w.heap.size ≤ w.heap.size + 6 by omega) hBB.out.size))
      generalize W5.putObj _ _ = W6 at *
      obtain ⟨d0, d1, d2, _, dz⟩ := b0''.out.facts
      have c0 := b1''.out.cell
      exact ⟨.tuple #[vec v1' v2' v3', .bool true], by simp [results, Tryd.results40, go_sem, d0, d1, d2, c0], by rw [hE2.out]; rfl, hB2.out⟩
    case stop =>
      rintro W ⟨hv, b0, b1, hBW⟩ hK
      have hE2 := fhid (hE.out.trans hv)
      rw [hz] at hK
      clear hq v0 v1 v2 v3 v4 v5 hB
      simp only [onHeap, hz]
      gi_wp2
      refine ⟨by simp, .inl ⟨_, _, rfl, run_takeDeferred hK, ?_⟩⟩
      have b0'' := fhid (show VB (W.putObj (w.heap.size + 6) (.deferred none)) w.heap.size 0 0 0 from (World.putObj_heap_other (by omega)).trans b0)
      have b1'' := fhid (show Boxed (W.putObj (w.heap.size + 6) (.deferred none)) (w.heap.size + 1) 4 (.bool false) from (World.putObj_heap_other (by omega)).trans b1)
      have hB2 := fhid (hBW.trans (below_put (W := W) (b := w.heap.size + 6) (.deferred none) (show w.heap.size ≤ w.heap.size + 6 by omega) hBW.size))
      clear b0 b1 hBW hK
      generalize W.putObj _ _ = W6 at *
      obtain ⟨d0, d1, d2, _, dz⟩ := b0''.out.facts
      have c0 := b1''.out.cell
      exact ⟨.tuple #[vec 0 0 0, .bool false], by simp [results, Tryd.results40, go_sem, d0, d1, d2, c0], by rw [hE2.out]; rfl, hB2.out⟩
end Go.Proofs.YtkmknogejhhajaaDoor
