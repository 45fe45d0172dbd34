/-
  What each statement asks beside: an array read, told, and compared.
-/
import Derived.Test.YtlcbppflpadhaaaDoorYFmt
import Derived.ChangeKeysEq
namespace Go.Proofs.YtlcbppflpadhaaaDoor
open Go.RowKit

theorem eql_fault (e f e' f' : Int) (w : World) : (binOp .eql 41 (.agg #[.int .i64 e, .int .i64 f]) (.agg #[.int .i64 e', .int .i64 f'])).run Tryd.prog w = .ok (.bool (e == e' && f == f')) w := by
  have hS : Tryd.prog.underlying 41 = some (.struct (Tryd.prog.fieldsOf 41)) := by kernel_rfl
  have hp : Tryd.prog.stoodInHeld 41 = false := by kernel_rfl
  rw [run_eql_struct, show (10000 : Nat) = 9999 + 1 from rfl, run_equalIn_agg w 9999 41 _ _ hS hp]
  simp only [Program.fieldsOf, Tryd.underlying41]
  go_simp
  by_cases h1 : e = e' <;> by_cases h2 : f = f' <;> simp [h1, h2]
theorem neq_fault (e f e' f' : Int) (w : World) : (binOp .neq 41 (.agg #[.int .i64 e, .int .i64 f]) (.agg #[.int .i64 e', .int .i64 f'])).run Tryd.prog w = .ok (.bool !(e == e' && f == f')) w := by
  have hS : Tryd.prog.underlying 41 = some (.struct (Tryd.prog.fieldsOf 41)) := by kernel_rfl
  have hp : Tryd.prog.stoodInHeld 41 = false := by kernel_rfl
  rw [run_neq_struct, show (10000 : Nat) = 9999 + 1 from rfl, run_equalIn_agg w 9999 41 _ _ hS hp]
  simp only [Program.fieldsOf, Tryd.underlying41]
  go_simp
  by_cases h1 : e = e' <;> by_cases h2 : f = f' <;> simp [h1, h2]
set_option maxRecDepth 100000 in
set_option maxHeartbeats 1000000 in
/-- Two slices of numbers, the same ones. -/
theorem ints_same (ns : List Int) (A A2 : Option Addr) (c c2 : Nat) (w : World) (h1 : Ints w w.heap.size A ns) (h2 : Ints w w.heap.size A2 ns) (hl : ns.length ≤ 10000000) :
    Calls Tryd.prog 14 #[.slice A ns.length c, .slice A2 ns.length c2] w fun e w' => e = .returned (.bool true) ∧ Below w.heap.size w w' := by
  replace h1 := fhid h1
  replace h2 := fhid h2
  go_enter Tryd.func14, Tryd.ntmps14
  go_wp2_with fail
  go_loopw [5] (fun i wr => ∃ j : Nat, j ≤ ns.length ∧ i = .int .i64 (j : Int) ∧ Below w.heap.size w wr) (fun i _ => ns.length - (intOf i).toNat)
  case atStart => exact ⟨0, Nat.zero_le _, rfl, Below.refl _ _⟩
  case round =>
    obtain ⟨j, hj, rfl, hB⟩ := hrel
    by_cases hlt : j < ns.length
    · obtain ⟨b1, o1, rfl, hb1, c1⟩ := Ints.at_ h1.out hlt
      obtain ⟨b2, o2, rfl, hb2, c2⟩ := Ints.at_ h2.out hlt
      have k1 := (hB.cell (p := ⟨b1, o1 + j, none⟩) hb1).trans c1
      have k2 := (hB.cell (p := ⟨b2, o2 + j, none⟩) hb2).trans c2
      have i1 : (j : Int) < ns.length := by omega
      have i0 : (0 : Int) ≤ j := by omega
      clear c1 c2
      generalize ns[j] = n at *
      have e : (n == n) = true := by simp
      go_upto_region 6 with fail
      go_quiet (fail)
      go_wp2_with fail
      go_roundw
      case rel => exact ⟨j + 1, by omega, by go_num, below_drewN hB _⟩
      case measure => simp [intOf]; omega
    · obtain rfl : j = ns.length := by omega
      have i1 : ¬ (ns.length : Int) < ns.length := by omega
      go_wp2_with fail
      go_ret
      exact ⟨rfl, hB⟩
def probeT : List UInt8 := [48, 45, 54, 58, 50, 44, 57, 37, 50]
def probeL : List Int := [0, 2, 4, 6, 9]
theorem probe_right : right probeL 2 = true := by decide +kernel
theorem num_small {n : Int} (h0 : 0 ≤ n) (h : n < 10) : num n = [UInt8.ofNat (48 + n.toNat)] := dec_small (by omega)
theorem probe_text : fmtT probeL 2 = probeT := by
  have c1 : cutN probeL = 4 := by decide +kernel
  have c2 : cutN [9] = 1 := by decide +kernel
  have s1 : stepOf probeL = 2 := by decide +kernel
  have e : pieces probeL.length probeL = [pieceT probeL 4, pieceT [9] 1] := by
    show pieces (4 + 1) probeL = _
    rw [pieces_some 4 (by decide), c1, show probeL.drop 4 = [9] from rfl, pieces_some 3 (by decide), c2, show ([9] : List Int).drop 1 = [] from rfl, pieces_none]
  have e1 : pieceT probeL 4 = [48, 45, 54, 58, 50] := by
    unfold pieceT
    rw [s1, if_neg (by decide), if_neg (by decide), show probeL.getD 0 0 = 0 from rfl, show probeL.getD (4 - 1) 0 = 6 from rfl, num_small (by decide) (by decide), num_small (by decide) (by decide), num_small (by decide) (by decide)]
    rfl
  have e2 : pieceT [9] 1 = [57] := by
    unfold pieceT
    rw [if_pos rfl, show ([9] : List Int).getD 0 0 = 9 from rfl, num_small (by decide) (by decide)]
    rfl
  unfold fmtT
  rw [e, e1, e2, if_neg (by decide), num_small (by decide) (by decide)]
  rfl
theorem probe_parse : pArr probeT = some (probeL, 2) := by
  rw [← probe_text]
  exact pArr_fmt (of_decide_eq_true probe_right)
set_option maxRecDepth 100000 in
set_option maxHeartbeats 4000000 in
theorem alive_any (w : World) (hT : Tab w) : Calls Tryd.prog 13 #[] w (BoolPost w true) := by
  have hpa := Parse_any ⟨#[48, 45, 54, 58, 50, 44, 57, 37, 50]⟩ w (by show 9 ≤ _; omega)
  unfold ParsePost at hpa
  rw [show bl ⟨#[48, 45, 54, 58, 50, 44, 57, 37, 50]⟩ = probeT from rfl, probe_parse] at hpa
  simp only at hpa
  have hq := eql_fault 0 0 0 0
  have hse := str_eq (str probeT) ⟨#[48, 45, 54, 58, 50, 44, 57, 37, 50]⟩
  rw [bl_str, decide_eq_true (show probeT = bl ⟨#[48, 45, 54, 58, 50, 44, 57, 37, 50]⟩ from rfl)] at hse
  have hlb : (⟨#[48, 45, 54, 58, 50, 44, 57, 37, 50]⟩ : ByteArray).toList = [48, 45, 54, 58, 50, 44, 57, 37, 50] := by rw [ByteArray.toList_eq]
  rw [hlb] at hse
  clear hlb
  generalize hSB : str probeT = SB at *
  replace hSB := fhid hSB
  replace hT := fhid hT
  go_enter Tryd.func13, Tryd.ntmps13
  go_upto_region 2 with (go_at_call 17; (with_reducible refine hpa.mono ?_); rintro e w1 ⟨b1, A, cap, h1, h2, hs, rfl⟩)
  have h2l : probeL.length = 5 := rfl
  clear hpa
  rw [h2l] at h1 ⊢
  have bA : Below w1.heap.size w1 ((w1.alloc (.cells #[.slice A 5 cap, .int .i64 2] TAr)).alloc (.cells #[.int .i64 0, .int .i64 0] TFa)) := ((Below.refl _ _).alloc (Nat.le_refl _) _).alloc (by simp) _
  have q0 : AB ((w1.alloc (.cells #[.slice A 5 cap, .int .i64 2] TAr)).alloc (.cells #[.int .i64 0, .int .i64 0] TFa)) w1.heap.size TAr (.slice A 5 cap) 2 := old_at _ _ _ (heap_alloc_new w1 _) (by simp)
  have q1 : FB ((w1.alloc (.cells #[.slice A 5 cap, .int .i64 2] TAr)).alloc (.cells #[.int .i64 0, .int .i64 0] TFa)) (w1.heap.size + 1) 0 0 := new_at _ _ _ (by simp)
  generalize (w1.alloc (.cells #[.slice A 5 cap, .int .i64 2] TAr)).alloc (.cells #[.int .i64 0, .int .i64 0] TFa) = w2 at *
  have hs2 := (hs.below bA).more bA.size
  have gB := b1.trans (bA.mono b1.size)
  obtain ⟨c0, c1, _, _, z0⟩ := q0.facts
  obtain ⟨c2, c3, _, _, z1⟩ := q1.facts
  have hfm := Format_any probeL A cap 2 w2 (tab_below hT.out gB) hs2 h1
  unfold FmtPost at hfm
  rw [probe_right, probe_text, h2l] at hfm
  simp only [if_true] at hfm
  rw [hSB.out] at hfm
  have his := fun W (b : Below w2.heap.size w2 W) (g : Nat) (hg : g = W.heap.size) => ints_same probeL A (some ⟨g, 0, none⟩) cap 5 (W.alloc (.cells #[.int .i64 0, .int .i64 2, .int .i64 4, .int .i64 6, .int .i64 9] 3))
    ((hs2.below (b.alloc b.size _)).more (b.alloc b.size _).size) (by subst hg; exact (one_cells W _ 3).more (by rw [World.size_alloc]; omega)) (by decide)
  rw [h2l] at his
  clear hs
  replace hs2 := fhid hs2
  replace q0 := fhid q0
  replace q1 := fhid q1
  replace his := fhid his
  go_wp2_with (first
    | (go_at_call 8; (with_reducible refine hfm.mono ?_); rintro e w3 ⟨rfl, b3⟩
       have gC := gB.trans (b3.mono gB.size)
       clear c0 c1 c2 c3
       obtain ⟨c0, c1, _, _, _⟩ := (q0.out.below b3 z0).facts
       obtain ⟨c2, c3, _, _, _⟩ := (q1.out.below b3 z1).facts)
    | (go_at_call 14; (with_reducible refine (his.out _ b3 _ rfl).mono ?_); rintro e w6 ⟨rfl, b6⟩
       have gD := gC.trans ((((Below.refl _ _).alloc (Nat.le_refl _) _).trans (b6.mono (by simp))).mono gC.size)
       obtain ⟨_, d1, _, _, _⟩ := ((q0.out.below b3 z0).below (((Below.refl _ _).alloc (Nat.le_refl _) _).trans (b6.mono (by simp))) (by have := b3.size; omega)).facts))
  go_ret
  exact ⟨rfl, gD⟩
end Go.Proofs.YtlcbppflpadhaaaDoor
