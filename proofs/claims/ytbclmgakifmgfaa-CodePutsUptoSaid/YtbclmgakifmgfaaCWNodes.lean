/-
  A writer's Nodes.
-/
import Derived.Test.YtbclmgakifmgfaaCWriter
namespace Go.Proofs.Ytbclmgakifmgfaa
open Go.RowKit

/-- The bytes of a set's first words. -/
def sbN (f : Nat → Nat) (k : Nat) : List UInt8 := (List.range k).flatMap fun j => le 8 (f j)
/-- A set's bytes. -/
def sb (f : Nat → Nat) : List UInt8 := sbN f 4
theorem sbN_succ (f : Nat → Nat) (k : Nat) : sbN f (k + 1) = sbN f k ++ le 8 (f k) := by
  unfold sbN
  rw [List.range_succ, List.flatMap_append, List.flatMap_singleton]
theorem sbN_len (f : Nat → Nat) (k : Nat) : (sbN f k).length = 8 * k := by
  induction k with
  | zero => rfl
  | succ k ih => rw [sbN_succ, List.length_append, ih, le_length]; omega
theorem sb_len (f : Nat → Nat) : (sb f).length = 32 := sbN_len f 4
theorem index_four (f : Nat → Nat) (k : Nat) (hk : k < 4) (w : World) : (Instr.index 26 (agg4 f) (.int .i64 k)).run Try.prog w = .ok (.int .u64 (f k : Nat)) w := by
  unfold agg4
  obtain rfl | rfl | rfl | rfl : k = 0 ∨ k = 1 ∨ k = 2 ∨ k = 3 := by omega
  all_goals kernel_rfl
theorem Nodes_put_nil (f : Nat → Nat) (w : World) : Calls Try.prog 10 #[.pointer none, agg4 f] w fun e w' => e = .returned (.tuple #[]) ∧ Below w.heap.size w w' := by
  unfold agg4
  go_enter Try.func10, Try.ntmps10
  go_wp2
  exact bodyPost_ret (v := .tuple #[]) (by simp [results, Try.results10, go_sem]) rfl ⟨rfl, (Below.refl _ _).alloc (Nat.le_refl _) _⟩
set_option maxRecDepth 100000 in
set_option maxHeartbeats 1000000 in
theorem Nodes_put (p : Nat) (v : Value) (l : List UInt8) (f : Nat → Nat) (w : World) (h : Wr w p v l) (hl : l.length + 32 ≤ 140737488355328) :
    Calls Try.prog 10 #[.pointer (some ⟨p, 0, none⟩), agg4 f] w (Wrote w p v (l ++ sb f)) := by
  have ix := index_four f
  unfold agg4 at ix
  unfold agg4
  have hpw := h.lt
  replace h := fhid h
  have E0 : Ext (some p) v w v (w.alloc (.cells #[.int .u64 (f 0 : Nat), .int .u64 (f 1 : Nat), .int .u64 (f 2 : Nat), .int .u64 (f 3 : Nat)] 26)) := (Ext.refl _ _ _).alloc _
  have W0 := h.out.below ((Below.refl _ _).alloc (Nat.le_refl _) (.cells #[.int .u64 (f 0 : Nat), .int .u64 (f 1 : Nat), .int .u64 (f 2 : Nat), .int .u64 (f 3 : Nat)] 26))
  replace W0 := fhid W0
  go_enter Try.func10, Try.ntmps10
  go_wp2
  generalize w.alloc _ = w0 at *
  go_loopw [9] (fun i wr => ∃ (k : Nat) (v1 : Value), k ≤ 4 ∧ i = .int .i64 k ∧ Wr wr p v1 (l ++ sbN f k) ∧ Ext (some p) v w v1 wr) (fun i _ => 4 - (intOf i).toNat)
  case atStart => exact ⟨0, v, Nat.zero_le _, rfl, by rw [show sbN f 0 = [] from rfl, List.append_nil]; exact W0.out, E0⟩
  case round =>
    obtain ⟨k, v1, hk, rfl, hW, hE⟩ := hrel
    clear W0 E0
    by_cases hlt : k < 4
    · have i1 := fun u => ix k hlt u
      clear ix
      have hsn := fhid (sbN_succ f k)
      have hsl := sbN_len f k
      generalize hpre : l ++ sbN f k = pre at *
      have hpl : pre.length + 8 ≤ 140737488355328 := by rw [← hpre, List.length_append]; omega
      replace hpre := fhid hpre
      have c0 := cell_of_one hW.1
      have f0 := free_of_one hW.1
      have pn := putWord_any v1 pre (f k) wr hW.2 hpl
      replace hW := fhid hW
      have h2 : (k : Int) < 4 := by omega
      have h3 : (0 : Int) ≤ k := by omega
      clear hsl
      generalize f k = x at *
      go_wp2_with (go_at_call 26; (with_reducible refine pn.mono ?_); rintro e w1 ⟨v2, rfl, o2, e2⟩; obtain ⟨c1, f1⟩ := hW.out.kept e2; have P := fhid (hW.out.put o2 e2); obtain ⟨A2, k2, rfl, _⟩ := o2.shape; generalize (pre ++ le 8 x).length = N2 at *)
      go_roundw
      case rel => exact ⟨k + 1, _, by omega, by go_num, by rw [hsn.out, ← List.append_assoc, hpre.out]; exact P.out.1, hE.trans P.out.2⟩
      case measure => simp [intOf]; omega
    · obtain rfl : k = 4 := by omega
      have h2 : ¬ ((4 : Nat) : Int) < 4 := by omega
      go_wp2
      go_end0
      exact ⟨v1, rfl, hW, hE⟩
end Go.Proofs.Ytbclmgakifmgfaa
