/-
  The document's own Format.
-/
import Derived.Test.YtlcbppflpadhaaaDoorYDig
import Derived.Deep.CutBlock
namespace Go.Proofs.YtlcbppflpadhaaaDoor
open Go.RowKit

theorem num_any (n : Int) (w : World) (h0 : 0 ≤ n) (hn : n ≤ 999999) : Calls Tryd.prog 22 #[.int .i64 n, .int .i64 0] w (TP w (num n)) := Digits_any n.toNat n w (by omega) (by omega)
theorem str_empty (l : List UInt8) : (str l).toList.isEmpty = decide (l = []) := by
  rw [ByteArray.toList_eq]
  cases l <;> simp [str]
theorem getD_drop {l : List Int} {i j : Nat} : (l.drop i).getD j 0 = l.getD (i + j) 0 := by
  rw [List.getD_eq_getElem?_getD, List.getD_eq_getElem?_getD, List.getElem?_drop]
def ahead (d : List (List UInt8)) : List UInt8 := if d = [] then [] else Go.Lib.join d [44] ++ [44]
theorem join_ahead (d : List (List UInt8)) (p : List UInt8) : Go.Lib.join (d ++ [p]) [44] = ahead d ++ p := by
  unfold ahead
  by_cases h : d = []
  · subst h
    rw [if_pos rfl, List.nil_append, List.nil_append, Go.Lib.join_cons]
    simp [Go.Lib.joinTail]
  · rw [if_neg h, join_snoc _ _ _ h, List.append_assoc]
theorem join_none {d : List (List UInt8)} (h : ∀ p ∈ d, 1 ≤ p.length) : Go.Lib.join d [44] = [] ↔ d = [] := by
  constructor
  · intro e
    cases d with
    | nil => rfl
    | cons x r =>
      rw [Go.Lib.join_cons] at e
      have := h x (by simp)
      have e2 := congrArg List.length e
      rw [List.length_append, List.length_nil] at e2
      omega
  · rintro rfl
    rfl
/-- Where the loop is. -/
def RInv (w : World) (l : List Int) (v : Value) (lim : Int) (s4 s6 : Value) (wr : World) : Prop := ∃ (done : List (List UInt8)) (i f : Nat), i ≤ l.length ∧ s6 = .int .i64 (i : Int) ∧ s4 = .string (str (Go.Lib.join done [44])) ∧ pieces l.length l = done ++ pieces f (l.drop i) ∧ l.length - i ≤ f ∧ done.length ≤ i ∧
  (∀ d ∈ done, 1 ≤ d.length ∧ d.length ≤ 64) ∧ AB wr w.heap.size TRAr v lim ∧ Below w.heap.size w wr
/-- A round's end. -/
theorem RInv.next {w : World} {l : List Int} {v : Value} {lim : Int} {wr : World} {done : List (List UInt8)} {i f : Nat} (hi : i < l.length) (hp : pieces l.length l = done ++ pieces f (l.drop i)) (hf : l.length - i ≤ f) (hd : done.length ≤ i) (h1 : ∀ d ∈ done, 1 ≤ d.length ∧ d.length ≤ 64) (hr : Rising l)
    (hA : AB wr w.heap.size TRAr v lim) (hB : Below w.heap.size w wr) (c : Nat) (hc : cutN (l.drop i) = c) {S : ByteArray} (hS : str (ahead done ++ pieceT (l.drop i) c) = S) {j : Int} (hj : j = ((i + c : Nat) : Int)) : RInv w l v lim (.string S) (.int .i64 j) wr := by
  have hne : l.drop i ≠ [] := by
    intro e
    have := congrArg List.length e
    rw [List.length_drop, List.length_nil] at this
    omega
  obtain ⟨c1, c2, c3⟩ := cutN_le hne
  rw [List.length_drop] at c2
  have hrd := hr.drop i
  have hat := hrd.at_
  rw [hc] at c1 c2
  obtain ⟨g, rfl⟩ : ∃ g, f = g + 1 := ⟨f - 1, by omega⟩
  refine ⟨done ++ [pieceT (l.drop i) c], i + c, g, by omega, by rw [hj], by rw [join_ahead, hS], ?_, by omega, by rw [List.length_append, List.length_singleton]; omega, fun d hd => ?_, hA, hB⟩
  · rw [hp, pieces_some g hne, hc, List.append_assoc, List.drop_drop]
    rfl
  · rcases List.mem_append.1 hd with hd | hd
    · exact h1 d hd
    · rw [List.mem_singleton.1 hd]
      refine ⟨pieceT_pos, pieceT_len (hat 0 (by rw [List.length_drop]; omega)) (hat _ (by rw [List.length_drop]; omega)) fun h => hrd.step (by rw [List.length_drop]; omega)⟩
set_option maxRecDepth 100000 in
set_option maxHeartbeats 4000000 in
theorem rFormat_no (l : List Int) (A : Option Addr) (cap : Nat) (lim : Int) (w : World) (hs : Ints w w.heap.size A l) (hr : right l lim = false) :
    Calls Tryd.prog 10 #[.agg #[.slice A l.length cap, .int .i64 lim]] w (FmtPost w l lim) := by
  have p0 : AB (w.alloc (.cells #[.slice A l.length cap, .int .i64 lim] TRAr)) w.heap.size TRAr (.slice A l.length cap) lim := heap_alloc_new w _
  have b0 : Below w.heap.size w (w.alloc (.cells #[.slice A l.length cap, .int .i64 lim] TRAr)) := (Below.refl _ _).alloc (Nat.le_refl _) _
  have hri := rRight_any l A cap lim (w.alloc (.cells #[.slice A l.length cap, .int .i64 lim] TRAr)) ((hs.below b0).more b0.size)
  rw [hr] at hri
  have hE := fhid (show (if right l lim = true then Value.tuple #[.string (str (fmtT l lim)), .int .i64 0] else .tuple #[.string ⟨#[]⟩, .int .i64 3]) = .tuple #[.string ⟨#[]⟩, .int .i64 3] by rw [hr]; rfl)
  clear hr hs
  go_enter Tryd.func10, Tryd.ntmps10
  go_upto_region 1 with fail
  generalize w.alloc _ = w1 at *
  obtain ⟨c0, c1, _, _, _⟩ := p0.facts
  replace p0 := fhid p0
  go_wp2_with (go_at_call 12; (with_reducible refine hri.mono ?_); rintro e w2 ⟨rfl, b2⟩)
  exact bodyPost_ret (v := .tuple #[.string ⟨#[]⟩, .int .i64 3]) (by simp [results, Tryd.results10, go_sem]) rfl ⟨by rw [hE.out], b0.trans (b2.mono b0.size)⟩
set_option maxRecDepth 100000 in
set_option maxHeartbeats 16000000 in
theorem rFormat_yes (l : List Int) (A : Option Addr) (cap : Nat) (lim : Int) (w : World) (hs : Ints w w.heap.size A l) (hr : right l lim = true) :
    Calls Tryd.prog 10 #[.agg #[.slice A l.length cap, .int .i64 lim]] w (FmtPost w l lim) := by
  have p0 : AB (w.alloc (.cells #[.slice A l.length cap, .int .i64 lim] TRAr)) w.heap.size TRAr (.slice A l.length cap) lim := heap_alloc_new w _
  have b0 : Below w.heap.size w (w.alloc (.cells #[.slice A l.length cap, .int .i64 lim] TRAr)) := (Below.refl _ _).alloc (Nat.le_refl _) _
  have zz := World.size_alloc w (.cells #[.slice A l.length cap, .int .i64 lim] TRAr)
  have hri := rRight_any l A cap lim (w.alloc (.cells #[.slice A l.length cap, .int .i64 lim] TRAr)) ((hs.below b0).more b0.size)
  rw [hr] at hri
  have hR : RightP l lim := of_decide_eq_true hr
  obtain ⟨⟨l1, l2⟩, _, m0, m1⟩ := id hR
  have hris := fhid (show Rising l from ⟨hR.up, hR.range⟩)
  have hE := fhid (show (if right l lim = true then Value.tuple #[.string (str (fmtT l lim)), .int .i64 0] else .tuple #[.string ⟨#[]⟩, .int .i64 3]) = .tuple #[.string (str (fmtT l lim)), .int .i64 0] by rw [hr]; rfl)
  clear hr hR
  obtain ⟨b, o, rfl, hb, hcell⟩ := cells_of hs (by omega)
  clear hs
  replace hcell := fhid hcell
  go_enter Tryd.func10, Tryd.ntmps10
  go_upto_region 1 with fail
  generalize w.alloc _ = w1 at *
  obtain ⟨c0, c1, _, _, _⟩ := p0.facts
  replace p0 := fhid p0
  go_upto_region 3 with (go_at_call 12; (with_reducible refine hri.mono ?_); rintro e w2 ⟨rfl, b2⟩)
  clear c0 c1 hri
  have q0 := AB.below p0.out b2 (by omega)
  have g2 := b0.trans (b2.mono b0.size)
  obtain ⟨c0, c1, _, _, _⟩ := q0.facts
  replace q0 := fhid q0
  go_wp2_with fail
  go_loopw [4, 6] (fun s4 s6 wr => RInv w l (.slice (some ⟨b, o, none⟩) l.length cap) lim s4 s6 wr) (fun _ s6 _ => l.length - (intOf s6).toNat)
  case atStart => exact ⟨[], 0, l.length, Nat.zero_le _, rfl, rfl, rfl, by omega, Nat.zero_le _, fun d hd => by (cases hd), q0.out, g2⟩
  case round =>
    clear c0 c1 q0 g2 b2
    obtain ⟨done, i, f, hi, rfl, rfl, hpc, hf, hdl, hdd, hAB, hB⟩ := hrel
    have hsz := hB.size
    have hz := (AB.facts hAB).2.2.2.2
    rename World => wo
    have hdl256 : done.length ≤ 256 := by omega
    have hjl := join_le 64 44 done (fun d hd => (hdd d hd).2)
    have hjl2 : (Go.Lib.join done [44]).length ≤ 65 * 256 := Nat.le_trans hjl (Nat.mul_le_mul_left 65 hdl256)
    clear hjl
    replace hAB := fhid hAB
    by_cases hlt : i < l.length
    · have hDlen : (l.drop i).length = l.length - i := List.length_drop
      have hget : ∀ j, (l.drop i).getD j 0 = l.getD (i + j) 0 := fun j => getD_drop
      have hat : ∀ j, j < l.length → wo.cell? ⟨b, o + j, none⟩ = some (.int .i64 (l.getD j 0)) := fun j hj => (hB.cell (p := ⟨b, o + j, none⟩) hb).trans (hcell.out j hj)
      have hx := (hris.out).at_
      have hnext := fun (W : World) (hW : Below wo.heap.size wo W) => @RInv.next w l (.slice (some ⟨b, o, none⟩) l.length cap) lim W done i f hlt hpc hf hdl hdd hris.out (AB.below hAB.out hW hz) (hB.trans (hW.mono hsz))
      have hST : stepOf (l.drop i) = l.getD (i + 1) 0 - l.getD i 0 := by unfold stepOf; rw [hget 1, hget 0]; rfl
      have hjn := join_none (d := done) fun p hp => (hdd p hp).1
      obtain ⟨D, hD⟩ : ∃ D, l.drop i = D := ⟨_, rfl⟩
      rw [hD] at hDlen hnext hST
      have hget' : ∀ j, D.getD j 0 = l.getD (i + j) 0 := fun j => by rw [← hD]; exact hget j
      obtain ⟨ST, hSTe⟩ : ∃ ST : Int, ST = if i + 1 < l.length then stepOf D else 0 := ⟨_, rfl⟩
      clear hget hpc hdd hdl
      replace hD := fhid hD
      replace hat := fhid hat
      replace hx := fhid hx
      replace hnext := fhid hnext
      replace hST := fhid hST
      replace hjn := fhid hjn
      replace hget' := fhid hget'
      replace hDlen := fhid hDlen
      replace hSTe := fhid hSTe
      have i1 : (i : Int) < l.length := by omega
      have i0 : (0 : Int) ≤ i := by omega
      have il : (l.length : Int) ≤ 256 := by omega
      generalize hJ : Go.Lib.join done [44] = J at *
      replace hJ := fhid hJ
      go_upto_if 24 with fail
      go_cut [8] (fun st wx => st = .int .i64 ST ∧ Below wo.heap.size wo wx)
      case first =>
        by_cases h1 : i + 1 < l.length
        · have a0 := hat.out i (by omega)
          have a1 := hat.out (i + 1) h1
          have x0 := hx.out i (by omega)
          have x1 := hx.out (i + 1) h1
          have j1 : (i : Int) + 1 < l.length := by omega
          have j2 : ((i : Int) + 1).toNat = i + 1 := by omega
          have j3 : (0 : Int) ≤ (i : Int) + 1 := by omega
          have hE := fhid (show ST = l.getD (i + 1) 0 - l.getD i 0 by rw [hSTe.out, if_pos h1, hST.out])
          generalize l.getD i 0 = xi at *
          generalize l.getD (i + 1) 0 = xj at *
          have s1 : IntKind.i64.wrap (xj - xi) = xj - xi := IntWalk.i64_in _ (by omega)
          clear x0 x1
          go_upto_region 10 with fail
          go_quiet (fail)
          clear s1
          go_wp2_with fail
          go_meet
          exact ⟨by rw [hE.out], below_drewN (Below.refl _ _) _⟩
        · have j1 : ¬ (i : Int) + 1 < l.length := by omega
          have hE := fhid (show ST = 0 by rw [hSTe.out, if_neg h1])
          go_wp2_with fail
          go_meet
          exact ⟨by rw [hE.out], Below.refl _ _⟩
      case rest =>
        obtain ⟨rfl, hC⟩ := hcut
        rename World => wc
        go_wp2_with fail
        go_loopw [7] (fun kv wx => ∃ k : Nat, 1 ≤ k ∧ i + k ≤ l.length ∧ kv = .int .i64 ((i + k : Nat) : Int) ∧ StepTo D k ∧ Below wo.heap.size wo wx) (fun kv _ => l.length - (intOf kv).toNat)
        case atStart => exact ⟨1, Nat.le_refl _, hlt, by push_cast; rfl, fun j hj => by omega, hC⟩
        case round =>
          clear hC
          obtain ⟨k, k1, hk, rfl, hto, hC⟩ := hrel
          obtain ⟨K, hK⟩ : ∃ K, i + k = K := ⟨_, rfl⟩
          have hgk := hget'.out k
          have hgp := hget'.out (k - 1)
          rw [hK] at hgk hk ⊢
          rw [show i + (k - 1) = K - 1 by omega] at hgp
          have hdone : ¬ (K < l.length ∧ l.getD K 0 - l.getD (K - 1) 0 = ST) → maxRun D = k := fun hn => maxRun_of k1 (by rw [hDlen.out]; omega) hto fun h => by
            rw [hDlen.out] at h
            rw [hgk, hgp]
            intro e
            refine hn ⟨by omega, ?_⟩
            rw [e, hSTe.out, if_pos (by omega)]
          have hgo : (K < l.length ∧ l.getD K 0 - l.getD (K - 1) 0 = ST) → StepTo D (k + 1) := fun hy => hto.succ k1 (by
            rw [hgk, hgp, hy.2, hSTe.out, if_pos (by omega)]
            rfl)
          clear hgk hgp hto
          replace hdone := fhid hdone
          replace hgo := fhid hgo
          have hK0 : i + k = K := hK
          replace hK := fhid hK
          rename World => wd
          go_upto_region 11 with fail
          go_cut [51] (fun cv wx => cv = .bool (decide (K < l.length ∧ l.getD K 0 - l.getD (K - 1) 0 = ST)) ∧ Below wo.heap.size wo wx)
          case first =>
            by_cases hKl : K < l.length
            · have aK := (hC.cell (p := ⟨b, o + K, none⟩) (show b < wo.heap.size by omega)).trans (hat.out K hKl)
              have aP := (hC.cell (p := ⟨b, o + (K - 1), none⟩) (show b < wo.heap.size by omega)).trans (hat.out (K - 1) (by omega))
              have xK := hx.out K hKl
              have xP := hx.out (K - 1) (by omega)
              have j1 : (K : Int) < l.length := by omega
              have j0 : (0 : Int) ≤ K := by omega
              have i7 : (0 : Int) ≤ (K : Int) - 1 := by omega
              have i8 : (K : Int) - 1 < l.length := by omega
              have i9 : ((K : Int) - 1).toNat = K - 1 := by omega
              have i10 : IntKind.i64.wrap ((K : Int) - 1) = (K : Int) - 1 := IntWalk.i64_in _ (by omega)
              generalize l.getD K 0 = xk at *
              generalize l.getD (K - 1) 0 = xp at *
              have s1 : IntKind.i64.wrap (xk - xp) = xk - xp := IntWalk.i64_in _ (by omega)
              clear xK xP hK0
              by_cases he : xk - xp = ST
              · have e1 : (xk - xp == ST) = true := beq_iff_eq.2 he
                have e2 := fhid (show decide (K < l.length ∧ xk - xp = ST) = true from decide_eq_true ⟨hKl, he⟩)
                clear he
                go_quiet (fail)
                clear s1 i10
                go_wp2_with fail
                go_meet
                exact ⟨by rw [e2.out], below_drewN hC _⟩
              · have e1 : (xk - xp == ST) = false := beq_eq_false_iff_ne.2 he
                have e2 := fhid (show decide (K < l.length ∧ xk - xp = ST) = false from decide_eq_false fun h => he h.2)
                clear he
                go_quiet (fail)
                clear s1 i10
                go_wp2_with fail
                go_meet
                exact ⟨by rw [e2.out], below_drewN hC _⟩
            · have j1 : decide ((K : Int) < l.length) = false := decide_eq_false (by omega)
              have e2 := fhid (show decide (K < l.length ∧ l.getD K 0 - l.getD (K - 1) 0 = ST) = false from decide_eq_false fun h => hKl h.1)
              clear hK0
              go_quiet (fail)
              go_wp2_with fail
              go_meet
              exact ⟨by rw [e2.out], below_drewN hC _⟩
          case rest =>
            clear hC
            obtain ⟨rfl, hC⟩ := hcut
            rename World => wd
            by_cases hcond : K < l.length ∧ l.getD K 0 - l.getD (K - 1) 0 = ST
            · have hn := fhid (hgo.out hcond)
              rw [decide_eq_true hcond]
              have hKl := hcond.1
              clear hcond
              have j1 : (K : Int) < l.length := by omega
              have j0 : (0 : Int) ≤ K := by omega
              go_wp2_with fail
              go_roundw
              case rel => exact ⟨k + 1, by omega, by omega, by rw [show ((i + (k + 1) : Nat) : Int) = (K : Int) + 1 by omega], hn.out, hC⟩
              case measure => simp [intOf]; omega
            · have hm := fhid (hdone.out hcond)
              rw [decide_eq_false hcond]
              clear hcond
              have hbo : b < wo.heap.size := by omega
              have he := str_empty J
              have hsj := str_size J
              have hSP0 : done = [] → str J = str (ahead done) := fun h => by
                rw [hjn.out.2 h, h]; rfl
              have hSP1 : done ≠ [] → str J ++ ⟨#[44]⟩ = str (ahead done) := fun h => by
                unfold ahead
                rw [if_neg h, hJ.out]
                exact str_app J [44]
              have hJd : decide (J = []) = decide (done = []) := decide_eq_decide.2 hjn.out
              rw [hJd] at he
              have hPl : (ahead done).length ≤ 65 * 256 + 1 := by
                unfold ahead
                split
                · simp
                · rw [hJ.out, List.length_append, List.length_singleton]; omega
              have hspz := str_size (ahead done)
              clear hJd
              obtain ⟨PRE, hPRE⟩ : ∃ P, ahead done = P := ⟨_, rfl⟩
              rw [hPRE] at hSP0 hSP1 hPl hspz
              replace hnext := fhid (fun (W : World) (hW : Below wo.heap.size wo W) (c : Nat) (hc : cutN D = c) S (hS : str (PRE ++ pieceT D c) = S) j hj => hnext.out W hW c hc (S := S) (by rw [hPRE]; exact hS) (j := j) hj)
              replace hPRE := fhid hPRE
              generalize hSP : str PRE = SP at *
              have hJz : ¬ 9223372036854775807 < (str J).size + 1 := by omega
              generalize str J = SJ at *
              replace hSP := fhid hSP
              replace hSP0 := fhid hSP0
              replace hSP1 := fhid hSP1
              generalize hEB : decide (done = []) = EB at *
              replace hEB := fhid hEB
              clear hsj
              go_upto_if 55 with fail
              go_cut [4] (fun s wx => s = .string SP ∧ wx = wd)
              case first =>
                cases EB with
                | true =>
                  have e0 := hSP0.out (of_decide_eq_true hEB.out)
                  subst e0
                  go_wp2_with fail
                  go_meet
                  exact ⟨rfl, rfl⟩
                | false =>
                  have e0 := hSP1.out (of_decide_eq_false hEB.out)
                  go_wp2_with fail
                  go_meet
                  exact ⟨rfl, rfl⟩
              case rest =>
                obtain ⟨rfl, hw⟩ := hcut
                subst hw
                rename World => wd
                clear he hJz hSP0 hSP1 hEB
                have a0 := (hC.cell (p := ⟨b, o + i, none⟩) hbo).trans (hat.out i hlt)
                have x0 := hx.out i hlt
                have hg0 : D.getD 0 0 = l.getD i 0 := hget'.out 0
                have hN0 := fun W => num_any (l.getD i 0) W x0.1 x0.2
                have hn0 := (num_facts x0.1 x0.2).2.2.2
                have hp1 : pieceT D 1 = num (l.getD i 0) := by unfold pieceT; rw [if_pos rfl, List.append_nil, hg0]
                have q1 : SP ++ str (num (l.getD i 0)) = str (PRE ++ num (l.getD i 0)) := by rw [← hSP.out]; exact str_app _ _
                have hz1 : (str (num (l.getD i 0))).size ≤ 6 := by rw [str_size]; exact hn0
                have hsub : (K : Int) - i = k := by omega
                have hcutD : cutN D = if k = 2 ∧ stepOf D ≠ 1 then 1 else k := by unfold cutN; rw [hm.out]
                unfold TP at hN0
                have k0i : (1 : Int) ≤ k := by omega
                by_cases hA : k = 1 ∨ (k = 2 ∧ ST ≠ 1)
                · have hc1 : cutN D = 1 := by
                    rw [hcutD]
                    rcases hA with h | ⟨h, h2⟩
                    · rw [if_neg (by omega), h]
                    · have h3 : stepOf D ≠ 1 := by
                        have := hSTe.out
                        rw [if_pos (by omega)] at this
                        rw [← this]; exact h2
                      rw [if_pos ⟨h, h3⟩]
                  have hfin := fhid (fun (W : World) (hW : Below wo.heap.size wo W) => hnext.out W hW 1 hc1 (str (PRE ++ num (l.getD i 0))) (by rw [hp1]) ((i : Int) + 1) (by push_cast; rfl))
                  have f1 : ¬ (3 : Int) ≤ k := by omega
                  have f2 : (((k : Int) == 2) = false) ∨ (((k : Int) == 2) = true ∧ (ST == 1) = false) := by
                    rcases hA with h | ⟨h, h2⟩
                    · exact .inl (beq_eq_false_iff_ne.2 (by omega))
                    · exact .inr ⟨beq_iff_eq.2 (by omega), beq_eq_false_iff_ne.2 h2⟩
                  have z1 : ¬ 9223372036854775807 < SP.size + (str (num (l.getD i 0))).size := by omega
                  clear hA hcutD hc1 hp1 hn0 hg0 x0 hspz hPl hz1 hm
                  generalize l.getD i 0 = xi at *
                  generalize str (PRE ++ num xi) = Q1 at *
                  generalize str (num xi) = S0 at *
                  rcases f2 with f2 | ⟨f2, f3⟩
                  · go_wp2_with (go_at_call 22; (with_reducible refine (hN0 _).mono ?_); rintro e w5 ⟨rfl, b5⟩)
                    go_roundw
                    case rel => exact hfin.out _ (hC.trans (b5.mono hC.size))
                    case measure => simp [intOf]; omega
                  · go_wp2_with (go_at_call 22; (with_reducible refine (hN0 _).mono ?_); rintro e w5 ⟨rfl, b5⟩)
                    go_roundw
                    case rel => exact hfin.out _ (hC.trans (b5.mono hC.size))
                    case measure => simp [intOf]; omega
                · have hk2 : 2 ≤ k := by omega
                  have hSTD : ST = stepOf D := by rw [hSTe.out, if_pos (by omega)]
                  have hck : cutN D = k := by
                    rw [hcutD, if_neg]
                    rintro ⟨h, h2⟩
                    exact hA (.inr ⟨h, by rw [hSTD]; exact h2⟩)
                  have hDr : Rising D := by rw [← hD.out]; exact hris.out.drop i
                  have hsd := hDr.step (by rw [hDlen.out]; omega)
                  rw [← hSTD] at hsd
                  have aP := (hC.cell (p := ⟨b, o + (K - 1), none⟩) hbo).trans (hat.out (K - 1) (by omega))
                  have haP := fun (W : World) (hW : Below wd.heap.size wd W) => (hW.cell (p := ⟨b, o + (K - 1), none⟩) (Nat.lt_of_lt_of_le hbo hC.size)).trans aP
                  have xP := hx.out (K - 1) (by omega)
                  have hgp : D.getD (k - 1) 0 = l.getD (K - 1) 0 := by
                    have := hget'.out (k - 1)
                    rw [this, show i + (k - 1) = K - 1 by omega]
                  have hpk : pieceT D k = num (l.getD i 0) ++ 45 :: (num (l.getD (K - 1) 0) ++ if ST = 1 then [] else 58 :: num ST) := by
                    unfold pieceT
                    rw [if_neg (by omega), hg0, hgp, hSTD]
                  have f1 : (3 : Int) ≤ k ∨ (¬ (3 : Int) ≤ k ∧ ((k : Int) == 2) = true ∧ (ST == 1) = true) := by
                    by_cases h3 : 3 ≤ k
                    · exact .inl (by omega)
                    · refine .inr ⟨by omega, beq_iff_eq.2 (by omega), beq_iff_eq.2 ?_⟩
                      by_cases h4 : ST = 1
                      · exact h4
                      · exact absurd (.inr ⟨by omega, h4⟩) hA
                  have i7 : (0 : Int) ≤ (K : Int) - 1 := by omega
                  have i8 : (K : Int) - 1 < l.length := by omega
                  have i9 : ((K : Int) - 1).toNat = K - 1 := by omega
                  have hNP := fun W => num_any (l.getD (K - 1) 0) W xP.1 xP.2
                  have hNS := fun W => num_any ST W (by omega) hsd.2
                  have hnP := (num_facts xP.1 xP.2).2.2.2
                  have hnS := (num_facts (n := ST) (by omega) hsd.2).2.2.2
                  unfold TP at hNP hNS
                  have hfin := fhid (fun (W : World) (hW : Below wo.heap.size wo W) => hnext.out W hW k hck)
                  clear hA hcutD hck hDr hsd aP xP x0 hg0 hgp hSTD hm hp1
                  generalize l.getD i 0 = xi at *
                  generalize l.getD (K - 1) 0 = xl at *
                  have q2 : ⟨#[45]⟩ ++ str (num xl) = str (45 :: num xl) := str_app [45] _
                  have q3 : str (PRE ++ num xi) ++ str (45 :: num xl) = str (PRE ++ num xi ++ 45 :: num xl) := str_app _ _
                  have q4 : ⟨#[58]⟩ ++ str (num ST) = str (58 :: num ST) := str_app [58] _
                  have q5 : str (PRE ++ num xi ++ 45 :: num xl) ++ str (58 :: num ST) = str (PRE ++ num xi ++ 45 :: num xl ++ 58 :: num ST) := str_app _ _
                  have y1 : (str (PRE ++ num xi)).size ≤ 65 * 256 + 7 := by rw [str_size, List.length_append]; omega
                  have y2 : (str (num xl)).size ≤ 6 := by rw [str_size]; omega
                  have y3 : (str (45 :: num xl)).size ≤ 7 := by rw [str_size, List.length_cons]; omega
                  have y4 : (str (PRE ++ num xi ++ 45 :: num xl)).size ≤ 65 * 256 + 14 := by rw [str_size, List.length_append, List.length_append, List.length_cons]; omega
                  have y5 : (str (num ST)).size ≤ 6 := by rw [str_size]; omega
                  have y6 : (str (58 :: num ST)).size ≤ 7 := by rw [str_size, List.length_cons]; omega
                  have hP1 : ST = 1 → str (PRE ++ pieceT D k) = str (PRE ++ num xi ++ 45 :: num xl) := fun h => by rw [hpk, if_pos h, List.append_nil, List.append_assoc]
                  have hP2 : ST ≠ 1 → str (PRE ++ pieceT D k) = str (PRE ++ num xi ++ 45 :: num xl ++ 58 :: num ST) := fun h => by rw [hpk, if_neg h]; simp
                  clear hpk hn0 hnP hnS
                  generalize str (PRE ++ num xi ++ 45 :: num xl ++ 58 :: num ST) = Q5 at *
                  generalize str (PRE ++ num xi ++ 45 :: num xl) = Q3 at *
                  generalize str (PRE ++ num xi) = Q1 at *
                  generalize str (45 :: num xl) = Q2 at *
                  generalize str (58 :: num ST) = Q4 at *
                  generalize str (num xi) = S0 at *
                  generalize str (num xl) = S1 at *
                  generalize str (num ST) = S2 at *
                  have z1 : ¬ 9223372036854775807 < SP.size + S0.size := by omega
                  have z2 : ¬ 9223372036854775807 < 1 + S1.size := by omega
                  have z3 : ¬ 9223372036854775807 < Q1.size + Q2.size := by omega
                  have z4 : ¬ 9223372036854775807 < 1 + S2.size := by omega
                  have z5 : ¬ 9223372036854775807 < Q3.size + Q4.size := by omega
                  have hfj : ((K : Int)) = ((i + k : Nat) : Int) := by omega
                  clear y1 y2 y3 y4 y5 y6 hspz hPl hz1
                  replace hP1 := fhid hP1
                  replace hP2 := fhid hP2
                  replace hfj := fhid hfj
                  replace haP := fhid haP
                  by_cases hs1 : ST = 1
                  · have g1 : (ST != 1) = false := by rw [hs1]; rfl
                    have hfin2 := fhid (fun (W : World) (hW : Below wo.heap.size wo W) => hfin.out W hW Q3 (hP1.out hs1) _ hfj.out)
                    replace hs1 := fhid hs1
                    rcases f1 with f1 | ⟨f1, f2, f3⟩
                    all_goals
                      go_wp2_with (first
                        | (go_at_call 22; (with_reducible refine (hN0 _).mono ?_); rintro e w5 ⟨rfl, b5⟩
                           have aP := haP.out _ b5)
                        | (go_at_call 22; (with_reducible refine (hNP _).mono ?_); rintro e w6 ⟨rfl, b6⟩
                           have b56 := b5.trans (b6.mono b5.size)))
                      go_roundw
                      case rel => exact hfin2.out _ (hC.trans (b56.mono hC.size))
                      case measure => simp [intOf]; omega
                  · have g1 : (ST != 1) = true := bne_iff_ne.2 hs1
                    have hfin2 := fhid (fun (W : World) (hW : Below wo.heap.size wo W) => hfin.out W hW Q5 (hP2.out hs1) _ hfj.out)
                    have f1 : (3 : Int) ≤ k := by
                      rcases f1 with f1 | ⟨_, _, f3⟩
                      · exact f1
                      · exact absurd (beq_iff_eq.1 f3) hs1
                    replace hs1 := fhid hs1
                    go_wp2_with (first
                      | (go_at_call 22; (with_reducible refine (hN0 _).mono ?_); rintro e w5 ⟨rfl, b5⟩
                         have aP := haP.out _ b5)
                      | (go_at_call 22; (with_reducible refine (hNP _).mono ?_); rintro e w6 ⟨rfl, b6⟩
                         have b56 := b5.trans (b6.mono b5.size))
                      | (go_at_call 22; (with_reducible refine (hNS _).mono ?_); rintro e w7 ⟨rfl, b7⟩
                         have b57 := b56.trans (b7.mono b56.size)))
                    go_roundw
                    case rel => exact hfin2.out _ (hC.trans (b57.mono hC.size))
                    case measure => simp [intOf]; omega
    · obtain rfl : i = l.length := by omega
      have hpd : pieces l.length l = done := by
        rw [hpc, List.drop_length, pieces_none, List.append_nil]
      have hft : fmtT l lim = Go.Lib.join done [44] ++ if lim = 0 then [] else 37 :: num lim := by unfold fmtT; rw [hpd]
      have hzj := str_size (Go.Lib.join done [44])
      have hzn : (str (num lim)).size ≤ 6 := by rw [str_size]; exact (num_facts m0 m1).2.2.2
      have hit := fun W => num_any lim W m0 m1
      unfold TP at hit
      have hF1 := (AB.facts hAB.out).2.1
      have i1 : ¬ (l.length : Int) < l.length := by omega
      by_cases h0 : lim = 0
      · have e2 := fhid (show str (fmtT l lim) = str (Go.Lib.join done [44]) by rw [hft, if_pos h0, List.append_nil])
        have n0 : ¬ 0 < lim := by omega
        clear hft hpd hzj hzn hpc hdd hit
        replace h0 := fhid h0
        generalize str (Go.Lib.join done [44]) = SJ at *
        go_wp2_with fail
        exact bodyPost_ret (v := .tuple #[.string SJ, .int .i64 0]) (by simp [results, Tryd.results10, go_sem]) rfl ⟨by rw [hE.out, e2.out], hB⟩
      · have q1 : ⟨#[37]⟩ ++ str (num lim) = str (37 :: num lim) := str_app [37] _
        have q2 : str (Go.Lib.join done [44]) ++ str (37 :: num lim) = str (Go.Lib.join done [44] ++ 37 :: num lim) := str_app _ _
        have e2 := fhid (show str (fmtT l lim) = str (Go.Lib.join done [44] ++ 37 :: num lim) by rw [hft, if_neg h0])
        have n0 : 0 < lim := by omega
        have hz7 : (str (37 :: num lim)).size ≤ 7 := by rw [str_size, List.length_cons]; rw [str_size] at hzn; omega
        clear hft hpd hpc hdd
        generalize str (Go.Lib.join done [44] ++ 37 :: num lim) = Q2 at *
        generalize str (37 :: num lim) = Q1 at *
        generalize str (Go.Lib.join done [44]) = SJ at *
        generalize str (num lim) = SN at *
        have j1 : ¬ 9223372036854775807 < 1 + SN.size := by omega
        have j2 : ¬ 9223372036854775807 < SJ.size + Q1.size := by omega
        clear hz7 hjl2 hzn hzj
        go_wp2_with (go_at_call 22; (with_reducible refine (hit _).mono ?_); rintro e w3 ⟨rfl, b3⟩)
        exact bodyPost_ret (v := .tuple #[.string Q2, .int .i64 0]) (by simp [results, Tryd.results10, go_sem]) rfl ⟨by rw [hE.out, e2.out], hB.trans (b3.mono hsz)⟩
theorem rFormat_any (l : List Int) (A : Option Addr) (cap : Nat) (lim : Int) (w : World) (hs : Ints w w.heap.size A l) :
    Calls Tryd.prog 10 #[.agg #[.slice A l.length cap, .int .i64 lim]] w (FmtPost w l lim) := by
  cases hr : right l lim with
  | false => exact rFormat_no l A cap lim w hs hr
  | true => exact rFormat_yes l A cap lim w hs hr
end Go.Proofs.YtlcbppflpadhaaaDoor
