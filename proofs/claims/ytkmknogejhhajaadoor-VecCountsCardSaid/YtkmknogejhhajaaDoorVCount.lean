/-
  Vectors counted, by the program.
-/
import Derived.Test.YtkmknogejhhajaaDoorVRng
import Derived.Test.YtkmknogejhhajaaDoorVAllR
import Derived.BigRegion
import Derived.Deep.DeepCutAuto
namespace Go.Proofs.YtkmknogejhhajaaDoor
open Go.RowKit

theorem look_few {t : Tal} {l : List V3} (h : Cnt t l) (v : V3) : ((findT v t 0).map fun y => y.2).getD 0 ≤ l.length := by
  cases hl : findT v t 0 with
  | none => exact Nat.zero_le _
  | some y =>
    obtain ⟨k, n⟩ := y
    obtain ⟨_, hk, hkt⟩ := findT_at hl
    simp only [Nat.sub_zero] at hk hkt
    have h1 : ∀ (t : Tal) (k : Nat) (hk : k < t.length), t[k].2 ≤ look t t[k].1 := by
      intro t
      induction t with
      | nil => intro k hk; cases hk
      | cons x r ih =>
        intro k hk
        cases k with
        | zero => show x.2 ≤ look (x :: r) x.1; rw [look, if_pos rfl]; omega
        | succ k =>
          have := ih k (by simpa using hk)
          simp only [List.getElem_cons_succ]
          rw [look]
          omega
    have h2 := h1 t k hk
    rw [hkt] at h2
    rw [h.1] at h2
    exact Nat.le_trans h2 List.count_le_length
theorem Cnt.len {t : Tal} {l : List V3} (h : Cnt t l) : t.length ≤ l.length := by
  have hs := List.pairwise_mergeSort (le := fun a b : V3 × Nat => !lt3 b.1 a.1) (fun a b c h1 h2 => by
    have h1' : lt3 b.1 a.1 = false := by simpa using h1
    have h2' : lt3 c.1 b.1 = false := by simpa using h2
    have := orderT.ntrans c b a (by rw [ltT]; exact h2') (by rw [ltT]; exact h1')
    rw [ltT] at this
    simp [this]) (fun a b => by
    cases e : lt3 b.1 a.1 with
    | false => rfl
    | true =>
      cases e2 : lt3 a.1 b.1 with
      | false => rfl
      | true =>
        have := lt_trans e e2
        rw [lt_irr] at this
        cases this) t
  have hp := List.mergeSort_perm t (fun a b => !lt3 b.1 a.1)
  have e := h.sorted hp (hs.imp fun h => by simpa using h)
  rw [← hp.length_eq, e]
  exact tally_len l
theorem infoT : (Tryd.prog.info? TTal).map (fun i => (i.zero, i.size, i.bytes)) = some (some (.agg #[.int .i64 0, .int .i64 0, .int .i64 0, .int .i64 0]), 4, 32) := by kernel_rfl
theorem app_tal {w : World} {ops : Array Oper} {rest : List Oper} {o : Oper} {a : Act} {Q : Exit → Act → World → Prop} (hgd : o.guard = none) (s x : Operand) (ho : o.op = .call { callee := .builtin .append, args := #[s, x], argTypes := #[43, 43] })
    (base : Nat) (v : Value) (t : Tal) (y : V3 × Nat) (w0 : World) (hs : a.eval s = v) (hown : OwnY w0 TTal base v t)
    (hw : w = w0.alloc (.cells #[.int .i64 y.1.1, .int .i64 y.1.2.1, .int .i64 y.1.2.2, .int .i64 (y.2 : Nat)] TTal)) (g : Nat) (hg : g = w0.heap.size) (hx : a.eval x = .slice (some ⟨g, 0, none⟩) 1 1) (hlen : t.length ≤ 1048576) (hbase : base ≤ w0.heap.size)
    (h : ∀ v' w', OwnY w' TTal base v' (t ++ [y]) → Below base w0 w' → wpList Tryd.prog ops Q rest (a.put o.dst v') w') : wpList Tryd.prog ops Q (o :: rest) a w := by
  subst hw
  subst hg
  refine app_own 43 TTal _ 4 32 Tryd.underlying43 infoT rfl (by decide) hgd s x ho base v t.length (TV t) hs (World.ownsRow.alloc hown _) (w0.heap.size + 1) (some ⟨w0.heap.size, 0, none⟩) 1 1 (TV [y]) hx (one_cells w0 _ _) rfl (TV_one [y]) (fun h => by cases h) (by omega) (by omega) (by rw [World.size_alloc]; omega) ?_
  intro v' w' a1 _ a3
  refine h v' w' ?_ (((Below.refl _ _).alloc hbase _).trans a3)
  unfold OwnY
  rw [TV_app, List.length_append]
  exact a1
theorem OwnY.keep {w w' : World} {e : TypeId} {base : Nat} {v : Value} {t : Tal} (h : OwnY w e base v t) (hk : ∀ g, base ≤ g → g < w.heap.size → w'.heap[g]? = w.heap[g]?) : OwnY w' e base v t := by
  refine ⟨h.1, ?_⟩
  rcases h.2 with ⟨rfl, hn⟩ | ⟨g, cap, cur, rfl, hg, hh, rest⟩
  · exact .inl ⟨rfl, hn⟩
  · exact .inr ⟨g, cap, cur, rfl, hg, (hk g hg (lt_of_block hh)).trans hh, rest⟩
def lenV : Value → Nat | .slice _ n _ => n | _ => 0
/-- Where the counting is. -/
def QRel (w : World) (l : List V3) (i : Value) (wr : World) : Prop := ∃ (j : Nat) (t : Tal), j ≤ l.length ∧ i = .int .i64 (j : Int) ∧ TMap wr w.heap.size t ∧ Cnt t (l.take j) ∧ Below w.heap.size w wr ∧ w.heap.size + 1 ≤ wr.heap.size
theorem below_mp {w w' : World} {b B : Nat} (h : w.grownBy w' (some b)) (hB : B ≤ b) (hb : B ≤ w.heap.size) : Below B w w' :=
  ⟨h.os, h.tape, h.output, h.size, fun k hk => h.block k (by omega) (by intro e; injection e with e; omega)⟩
set_option maxRecDepth 100000 in
set_option maxHeartbeats 8000000 in
theorem Count_any (l : List V3) (A : Option Addr) (cap : Nat) (w : World) (hs : SegV w w.heap.size A l) (hl : l.length ≤ 1000) :
    Calls Tryd.prog 29 #[.slice A l.length cap] w fun e w' => ∃ v, e = .returned v ∧ OwnY w' TTal w.heap.size v (tally l) ∧ Below w.heap.size w w' := by
  have hmm := @run_makeMap Tryd.prog
  have m0 : TMap (w.alloc (.map #[] 0)) w.heap.size [] := TMap.new w
  have g0 : Below w.heap.size w (w.alloc (.map #[] 0)) := (Below.refl _ _).alloc (Nat.le_refl _) _
  have z0 := World.size_alloc w (.map #[] 0)
  have hst : QRel w l (.int .i64 (0 : Int)) (w.alloc (.map #[] 0)) := ⟨0, [], Nat.zero_le _, rfl, m0, Cnt.nil, g0, by omega⟩
  replace hst := fhid hst
  replace hs := fhid hs
  clear m0 g0 z0
  go_enter Tryd.func29, Tryd.ntmps29
  go_upto_region 2 with fail
  generalize w.alloc _ = w1 at *
  go_wp2_with fail
  go_loopw [12] (fun i wr => QRel w l i wr) (fun i _ => l.length - (intOf i).toNat)
  case atStart => exact hst.out
  case round =>
    clear hst hmm
    obtain ⟨j, t, hjl, rfl, hM, hC, hB, hzw⟩ := hrel
    have hzB := hB.size
    rename World => wo
    have i0 : (0 : Int) ≤ j := by omega
    by_cases hlt : j < l.length
    · have i1 : (j : Int) < l.length := by omega
      obtain ⟨bA, oA, rfl, hbA, hcA⟩ := SegV.below hs.out hB (by omega)
      obtain ⟨x0, x1, x2⟩ := hcA j hlt
      have hsn := fhid (show l.take (j + 1) = l.take j ++ [l[j]] from List.take_succ_eq_append_getElem hlt)
      clear hcA
      generalize l[j] = x at *
      obtain ⟨a, b, c⟩ := x
      simp only at x0 x1 x2
      have hbx : (wo.alloc (.cells #[.int .i64 a, .int .i64 b, .int .i64 c] TVc)).heap[wo.heap.size]? = some (.cells #[.int .i64 a, .int .i64 b, .int .i64 c] TVc (0, 0)) := heap_alloc_new wo _
      have bA2 : Below wo.heap.size wo (wo.alloc (.cells #[.int .i64 a, .int .i64 b, .int .i64 c] TVc)) := (Below.refl _ _).alloc (Nat.le_refl _) _
      have hM2 := hM.keep (bA2.block w.heap.size (by omega))
      have zA := World.size_alloc wo (.cells #[.int .i64 a, .int .i64 b, .int .i64 c] TVc)
      have hfew := look_few hC (a, b, c)
      rw [List.length_take] at hfew
      replace hC := fhid hC
      replace hM := fhid hM
      go_upto_region 5 with fail
      generalize wo.alloc _ = w2 at *
      have hM3 : TMap w2.drew w.heap.size t := hM2.keep rfl
      obtain ⟨n, s, w3, w4, hn, r1, r2, k3, z3, r4, m4, k4, z4⟩ := run_bump hM3 (a, b, c)
      have r0 := run_lookT hM3 (a, b, c)
      rw [hn] at r0
      have hbx2 : w2.drew.heap[wo.heap.size]? = some (.cells #[.int .i64 a, .int .i64 b, .int .i64 c] TVc (0, 0)) := hbx
      have c0 : w2.drew.cell? ⟨wo.heap.size, 0, none⟩ = some (.int .i64 a) := by simp [World.cell?, hbx2]
      have c1 : w2.drew.cell? ⟨wo.heap.size, 1, none⟩ = some (.int .i64 b) := by simp [World.cell?, hbx2]
      have c2 : w2.drew.cell? ⟨wo.heap.size, 2, none⟩ = some (.int .i64 c) := by simp [World.cell?, hbx2]
      have n1 : (n : Int) ≤ 1000 := by omega
      have n0 : (0 : Int) ≤ n := by omega
      have hn' := fhid hn
      replace m4 := fhid m4
      have z4' := fhid (show w4.heap.size = w2.heap.size from z4)
      have zA' := fhid zA
      have hB4 := fhid ((hB.trans (bA2.mono hzB)).drew.trans (below_mp (w := w2.drew) (B := w.heap.size) k4 (Nat.le_refl _) (by show w.heap.size ≤ w2.heap.size; omega)))
      clear hn z3 z4 zA hbx hbx2 hM2 hM3 k3 k4 hfew
      go_region
      all_goals
        go_wp2_with fail
        go_roundw
        case rel => exact ⟨j + 1, bump (a, b, c) t, by omega, by go_num, m4.out, by rw [hsn.out]; exact hC.out.bump _, hB4.out, by have := z4'.out; have := zA'.out; omega⟩
        case measure => simp [intOf]; omega
    · obtain rfl : j = l.length := by omega
      rw [List.take_length] at hC
      have i1 : ¬ (l.length : Int) < l.length := by omega
      have hsmall : t.length ≤ 1000 := Nat.le_trans hC.len hl
      obtain ⟨hrun, hR⟩ := TRng.start hM
      have hbl : w.heap.size < wo.heap.size := by omega
      clear hM
      generalize (Obj.mapIter _ _ _ _) = it at *
      have bI : Below wo.heap.size wo (wo.alloc it) := (Below.refl _ _).alloc (Nat.le_refl _) _
      have zI := World.size_alloc wo it
      have hst2 := fhid (show ∃ done : Tal, OwnY (wo.alloc it) TTal (wo.heap.size + 1) (.slice none 0 0) done ∧ TRng (wo.alloc it) w.heap.size wo.heap.size t done ∧ Below w.heap.size w (wo.alloc it) ∧ wo.heap.size + 1 ≤ (wo.alloc it).heap.size from ⟨[], OwnY.nil _ _ _, hR, hB.trans (bI.mono hzB), by omega⟩)
      replace hC := fhid hC
      clear hR bI zI
      go_upto_region 9 with fail
      generalize wo.alloc it = w2 at *
      clear hrun
      go_loopw [6] (fun v wr => ∃ done : Tal, OwnY wr TTal (wo.heap.size + 1) v done ∧ TRng wr w.heap.size wo.heap.size t done ∧ Below w.heap.size w wr ∧ wo.heap.size + 1 ≤ wr.heap.size) (fun v _ => t.length - lenV v)
      case atStart => exact hst2.out
      case round =>
        clear hst2
        obtain ⟨done, hO, hRg, hB2, hz2⟩ := hrel
        rename World => wq
        obtain ⟨Av, cv, rfl, _, _, _⟩ := OwnY.shape hO
        have hlen : ∀ {W : World} {d : Tal}, TRng W w.heap.size wo.heap.size t d → d.length ≤ t.length := fun h => by
          obtain ⟨_, _, _, _, _, _, _, _, _, _, _, _, hp⟩ := h
          have := hp.length_eq
          rw [List.length_append] at this
          omega
        rcases hRg.next (by omega) 0 with ⟨hp, hx⟩ | ⟨⟨⟨a, b, c⟩, n⟩, w3, hx, hR3, k3, z3, hen⟩
        · have hso := sort_tals (wo.heap.size + 1) (.slice Av done.length cv) done wq hO hz2 (by have := hp.length_eq; omega)
          replace hp := fhid hp
          clear hO hRg
          go_wp2_with (go_at_call 44; (with_reducible refine hso.mono ?_); rintro e w7 ⟨rfl, s, o7, p7, s7, b7⟩)
          go_ret
          have hst := hC.out.sorted (p7.trans hp.out) s7
          rw [← hst]
          exact ⟨_, rfl, OwnY.lower o7 (by omega), hB2.trans (b7.mono (by omega))⟩
        · have hO3 := hO.keep (fun g h1 h2 => k3.block g h2 (by intro e; injection e with e; omega))
          have bV : Below w3.heap.size w3 (w3.alloc (.cells #[.int .i64 a, .int .i64 b, .int .i64 c] TVc)) := (Below.refl _ _).alloc (Nat.le_refl _) _
          have hO4 := fhid (OwnY.below hO3 bV)
          have hz3 : wo.heap.size + 1 ≤ w3.heap.size := by omega
          have gx := hB2.trans (below_mp (B := w.heap.size) k3 (by omega) (by omega))
          have hdl := hlen hR3
          rw [List.length_append, List.length_singleton] at hdl
          replace z3 := fhid z3
          replace hR3 := fhid hR3
          clear hO hRg hO3 k3
          go_wp2_with (at_builtin; (refine app_tal rfl _ _ rfl (wo.heap.size + 1) _ done ((a, b, c), n) (w3.alloc (.cells #[.int .i64 a, .int .i64 b, .int .i64 c] TVc)) rfl hO4.out rfl (w3.heap.size + 1) (by rw [World.size_alloc]) rfl (by omega) (by rw [World.size_alloc]; omega) ?_; intro v8 w8 o8 b8); replace o8 := fhid o8)
          obtain ⟨A8, c8, rfl, _, _, _⟩ := OwnY.shape o8.out
          have b9 := (bV.mono hz3).trans b8
          go_roundw
          case rel => exact ⟨done ++ [((a, b, c), n)], o8.out, hR3.out.keep (b9.block _ (by omega)) (b9.block _ (by omega)), gx.trans (b9.mono (by omega)), Nat.le_trans hz3 b9.size⟩
          case measure =>
            show t.length - (done ++ [((a, b, c), n)]).length < t.length - done.length
            rw [List.length_append, List.length_singleton]
            omega
end Go.Proofs.YtkmknogejhhajaaDoor
