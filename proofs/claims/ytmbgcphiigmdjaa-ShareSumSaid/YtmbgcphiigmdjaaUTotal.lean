/-
  What one has used, and what all have, by the program.
-/
import Derived.Test.YtmbgcphiigmdjaaUAt
import Derived.Deep.LoopGhost
namespace Go.Proofs.Ytmbgcphiigmdjaa
open Go.RowKit Ss Ds

/-- What a call gives that answers a number and an error. -/
def IntP (w : World) (r : Int × Int) (e : Ending) (w' : World) : Prop := e = .returned (.tuple #[.int .i64 r.1, .int .i64 r.2]) ∧ Below w.heap.size w w'
set_option maxRecDepth 100000 in
set_option maxHeartbeats 4000000 in
theorem Used_of {w : World} {pa : Option Addr} {s : Str} {now : Int} {r : (Int × Int) × Int} (h : Calls Try.prog 29 #[.pointer pa, .string (str s), .int .i64 now] w (UseP w r)) :
    Calls Try.prog 16 #[.pointer pa, .string (str s), .int .i64 now] w (IntP w (r.1.1, r.2)) := by
  unfold UseP useV at h
  unfold IntP
  obtain ⟨⟨a, t⟩, e⟩ := r
  simp only at h ⊢
  go_enter Try.func16, Try.ntmps16
  go_wp2_with (go_at_call 29; (with_reducible refine h.mono ?_); rintro e w' ⟨rfl, b1⟩)
  go_ret2
  exact ⟨rfl, b1.alloc b1.size _⟩
theorem Used_any {w : World} {p m : Nat} {h : Int} {M : List Usr} (l : LB w p m h M) (hh : halfB h) (hg : Good M) (s : Str) (now : Int) :
    Calls Try.prog 16 #[.pointer (some ⟨p, 0, none⟩), .string (str s), .int .i64 now] w (IntP w (usedP h M s now)) := Used_of (at_any l hh hg s now)
def intV : Option Value → Int
  | some (.int _ n) => n
  | _ => 0
def dU (x : Str × Value) : Usr := match x.2 with
  | .agg cs => (x.1, intV cs[0]?, intV cs[1]?)
  | _ => (x.1, 0, 0)
theorem dU_UL (D : List Usr) : (UL D).map dU = D := by
  unfold UL
  rw [List.map_map]
  conv => rhs; rw [← List.map_id D]
  exact List.map_congr_left fun x _ => rfl
/-- A range over a ledger's users that is under way. -/
def URg (w : World) (b r : Nat) (M D : List Usr) : Prop := SRng w b r (UL M) (UL D)
theorem URg.next {w : World} {b r : Nat} {M D : List Usr} (h : URg w b r M D) (hbr : b ≠ r) (ty : TypeId) :
    (D.Perm M ∧ (Instr.next (.pointer (some ⟨r, 0, none⟩)) false ty).run Try.prog w = .ok (.tuple #[.bool false]) w) ∨
    ∃ (x : Usr) (w' : World), x ∈ M ∧ D.length < M.length ∧ (Instr.next (.pointer (some ⟨r, 0, none⟩)) false ty).run Try.prog w = .ok (.tuple #[.bool true, .string (str x.1), useV x.2]) w' ∧ URg w' b r M (D ++ [x]) ∧ w.grownBy w' (some r) ∧ w'.heap.size = w.heap.size ∧
      (Instr.entry (.pointer (some ⟨r, 0, none⟩))).run Try.prog w' = .ok (.tuple #[.string (str x.1), useV x.2]) w' := by
  rcases SRng.next h hbr ty with ⟨hp, hr⟩ | ⟨x, w', h1, h2, h3, h4, h5⟩
  · refine .inl ⟨?_, hr⟩
    have := hp.map dU
    rwa [dU_UL, dU_UL] at this
  · obtain ⟨hl, hm⟩ := h2.sub
    obtain ⟨y, hy, hx⟩ := List.mem_map.1 (hm x (List.mem_append_right _ (List.mem_singleton.2 rfl)))
    subst hx
    rw [List.length_append, UL_len, UL_len, List.length_singleton] at hl
    refine .inr ⟨y, w', hy, by omega, h1, ?_, h3, h4, h5⟩
    show SRng w' b r (UL M) (UL (D ++ [y]))
    unfold UL at h2 ⊢
    rw [List.map_append]
    exact h2
theorem field_use (a t : Int) (w : World) : (Instr.field TUse (.agg #[.int .i64 a, .int .i64 t]) 0).run Try.prog w = .ok (.int .i64 a) w := by kernel_rfl
theorem late_eq {h now : Int} {x : Usr} (hn : x.2.2 ≤ now) : (late h x.2 now).1 = partU h now x := by unfold partU; rw [if_pos hn]
set_option maxRecDepth 100000 in
set_option maxHeartbeats 8000000 in
theorem Total_any {w : World} {p m : Nat} {h : Int} {M : List Usr} (l : LB w p m h M) (hh : halfB h) (hg : Good M) (now : Int) :
    Calls Try.prog 20 #[.pointer (some ⟨p, 0, none⟩), .int .i64 now] w (IntP w (totalP h M now)) := by
  have hr := refused_any l hh now
  unfold IntP totalP
  by_cases ht : timeB now
  · rw [if_pos ht] at hr ⊢
    obtain ⟨hrun, hR⟩ := SRng.start Try.underlying59 l.2
    have hT := ht
    obtain ⟨t0, t1⟩ := ht
    obtain ⟨c0, c1, _, _⟩ := l.cells
    have hp := l.lt.1
    have hm := l.lt.2
    have B1 := fhid ((Below.refl w.heap.size w).alloc (Nat.le_refl _) (iterO w m))
    have l1 := fhid (l.alloc (iterO w m))
    have z1 := fhid (World.size_alloc w (iterO w m))
    have hR1 : Hid (URg (w.alloc (iterO w m)) m w.heap.size M []) := fhid hR
    generalize iterO w m = it at *
    replace l := fhid l
    clear hR
    go_enter Try.func20, Try.ntmps20
    go_upto_region 6 with (go_at_call 34; (with_reducible refine hr.mono ?_); rintro e w' ⟨rfl, rfl⟩)
    clear hr hrun c0 c1
    rename World => w
    generalize w.alloc it = w2 at *
    clear it
    go_loopg [7] M.length (fun k v wr => ∃ D : List Usr, D.length + k = M.length ∧ v = .int .i64 (satI (sumI (D.map (partU h now)))) ∧ (∀ x ∈ D, x ∈ M) ∧ URg wr m w.heap.size M D ∧ LB wr p m h M ∧ Below w.heap.size w wr ∧ w.heap.size + 1 ≤ wr.heap.size)
    case atStart => exact ⟨[], by simp, rfl, (fun x hx => by cases hx), hR1.out, l1.out, B1.out, by have := z1.out; omega⟩
    case round =>
      clear hR1 l1 B1 z1
      obtain ⟨D, hk, rfl, hD, hRg, lr, Br, zr⟩ := hrel
      have hpr := lr.lt
      rcases hRg.next (by omega) 0 with ⟨hperm, hx⟩ | ⟨⟨s, a, t⟩, w3, hxM, hlt, hx, hR3, k3, z3, hen⟩
      · have hE := fhid (show sumI (D.map (partU h now)) = sumU h M now from sumI_perm (hperm.map _))
        have Br' := fhid Br
        clear hk hD hRg lr Br hperm
        go_wp2_with fail
        go_ret2
        exact ⟨by rw [hE.out]; rfl, Br'.out⟩
      · have hs0 : 0 ≤ sumI (D.map (partU h now)) := sumI_nonneg fun y hy => by
          obtain ⟨x, hx, rfl⟩ := List.mem_map.1 hy
          exact (part_facts hh.1 hg (hD x hx)).1
        obtain ⟨q0, q1⟩ := part_facts (now := now) hh.1 hg hxM
        obtain ⟨_, _, a0, a1, b0, b1⟩ := hg.each _ hxM
        simp only at a0 a1 b0 b1
        have hsn : sumI ((D ++ [(s, a, t)]).map (partU h now)) = sumI (D.map (partU h now)) + partU h now (s, a, t) := by rw [List.map_append, sumI_app]; simp [sumI]
        have l3 := lr.grown k3 (by omega) (by omega)
        have B3 := Br.trans (grown_below (B := w.heap.size) k3 (Nat.le_refl _) (by omega))
        obtain ⟨W4, hW4, B4', X4⟩ := one_box w3 TUse [.int .i64 a, .int .i64 t]
        have l4 := l3.below B4'
        have R4 : URg W4 m w.heap.size M (D ++ [(s, a, t)]) := SRng.keep hR3 (B4'.block m (by omega)) (B4'.block w.heap.size (by omega))
        have B4 := B3.trans (B4'.mono B3.size)
        have z4 := B4'.size
        have x0 := X4.cell 0
        have x1 := X4.cell 1
        have hx4 := X4.lt
        simp only [List.getElem?_cons_zero, List.getElem?_cons_succ] at x0 x1
        have hDn : ∀ x ∈ D ++ [(s, a, t)], x ∈ M := fun x hx => by
          rcases List.mem_append.1 hx with hx | hx
          · exact hD x hx
          · rw [List.mem_singleton.1 hx]; exact hxM
        have hlen := fhid (show (D ++ [(s, a, t)]).length + (gk - 1) = M.length by rw [List.length_append, List.length_singleton]; omega)
        have hkp := fhid (show gk - 1 < gk by omega)
        have hz5 := fhid (show w.heap.size + 1 ≤ W4.heap.size by omega)
        unfold useV at hx hen
        simp only at hx hen
        replace z3 := fhid z3
        generalize sumI (D.map (partU h now)) = S at *
        replace hDn := fhid hDn
        replace hW4 := fhid hW4
        replace l4 := fhid l4
        replace R4 := fhid R4
        replace B4 := fhid B4
        clear hk hD hRg lr Br hR3 k3 l3 B3 B4' X4 hlt hxM
        by_cases hn : t ≤ now
        · have hla := fun W (l : LB W p m h M) => later_any l hh (a, t) now ⟨a0, a1, b0⟩ hn t1
          have hfs := sat_facts hs0
          have hlf := late_facts (h := h) (now := now) (u := (a, t)) hh.1 a0 hn
          have hpl := late_eq (h := h) (x := (s, a, t)) hn
          simp only at hpl hlf
          rw [← hpl] at hsn q0 q1
          generalize late h (a, t) now = r at *
          obtain ⟨ra, rt⟩ := r
          unfold useV at hla
          simp only at hla hsn q0 q1
          have hmo : ∀ w, Calls Try.prog 35 #[.int .i64 (satI S), .int .i64 ra] w fun e w' => e = .returned (.int .i64 (satI (S + ra))) ∧ w' = w := fun w => (Most_any (satI S) ra w (by unfold Fits; omega) (by unfold Fits; omega)).mono fun e w' ⟨h1, h2⟩ => ⟨by rw [h1, most_sat (by omega), sat_add hs0 q0], h2.symm⟩
          generalize satI S = S1 at *
          have hfd := fun W => field_use ra rt W
          replace hsn := fhid hsn
          clear hfs hlf hpl
          go_upto_region 8 with fail
          rw [← hW4.out]
          clear hW4 hx hen
          go_wp2_with (first
            | (go_at_call 36; (with_reducible refine (hla _ l4.out).mono ?_); rintro e w5 ⟨rfl, b5⟩)
            | (go_at_call 35; (with_reducible refine (hmo _).mono ?_); rintro e w6 ⟨rfl, rfl⟩))
          go_roundg (gk - 1)
          case rel => exact ⟨_, hlen.out, by rw [hsn.out], hDn.out, SRng.keep R4.out (b5.block m (Nat.lt_of_lt_of_le hm (Nat.le_trans (Nat.le_succ _) hz5.out))) (b5.block w.heap.size hz5.out), l4.out.below b5, B4.out.trans (b5.mono B4.out.size), Nat.le_trans hz5.out b5.size⟩
          case measure => exact hkp.out
        · have hpl : partU h now (s, a, t) = 0 := by unfold partU; exact if_neg hn
          rw [hpl, Int.add_zero] at hsn
          replace hsn := fhid hsn
          go_upto_region 8 with fail
          rw [← hW4.out]
          clear hW4 hx hen
          go_wp2_with fail
          go_roundg (gk - 1)
          case rel => exact ⟨_, hlen.out, by rw [hsn.out], hDn.out, R4.out, l4.out, B4.out, hz5.out⟩
          case measure => exact hkp.out
  · rw [if_neg ht] at hr ⊢
    replace l := fhid l
    go_enter Try.func20, Try.ntmps20
    go_wp2_with (go_at_call 34; (with_reducible refine hr.mono ?_); rintro e w' ⟨rfl, rfl⟩)
    go_ret2
    exact ⟨rfl, Below.refl _ _⟩
end Go.Proofs.Ytmbgcphiigmdjaa
