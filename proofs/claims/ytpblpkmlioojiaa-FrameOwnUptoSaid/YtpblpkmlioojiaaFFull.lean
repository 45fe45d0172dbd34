/-
  Bytes with room behind them: what is made, and what is put into that room.
-/
import Derived.Test.YtpblpkmlioojiaaFLTurned
namespace Go.Proofs.Ytpblpkmlioojiaa
open Go.RowKit

theorem made_zeros (n : Nat) : (madeCells #[.int .u8 0] n).toList = BV (List.replicate n 0) := by
  apply List.ext_getElem?
  intro i
  unfold madeCells BV
  rw [Array.toList_map, List.getElem?_map, List.getElem?_map, List.getElem?_replicate]
  by_cases h : i < n
  · rw [if_pos h]
    have : (Array.range n).toList[i]? = some i := by simp [h]
    rw [this]
    simp [Nat.mod_one]
  · rw [if_neg h]
    have : (Array.range n).toList[i]? = none := by simp; omega
    rw [this]; rfl
/-- 'make([]byte, 0, n)': room for n bytes, all of them 0. -/
theorem make_room {w : World} {ops : Array Oper} {rest : List Oper} {o : Oper} {a : Act} {Q : Exit → Act → World → Prop}
    (hg : o.guard = none) (l c : Operand) (hop : o.op = Op.makeSlice 22 l c) (C : Int) (n : Nat) (hl : a.eval l = .int .i64 0) (hc : a.eval c = .int .i64 C) (hC : C = (n : Int)) (hn : n ≤ 140737488355328)
    (h : ∀ w', Own w' w.heap.size (.slice (some ⟨w.heap.size, 0, none⟩) n n) (List.replicate n 0) → Below w.heap.size w w' → wpList Try.prog ops Q rest (a.put o.dst (.slice (some ⟨w.heap.size, 0, none⟩) 0 n)) w') : wpList Try.prog ops Q (o :: rest) a w := by
  obtain ⟨i0, hi, hz0, hz1, hz2⟩ := info_parts infoByte
  have hr := run_make (P := Try.prog) w 22 5 i0 (.int .u8 0) Try.underlying22 hi hz0 .i64 .i64 0 (n : Int) (Int.le_refl _) (by omega) (by rw [hz2]; omega) (by omega)
  simp only [Int.toNat_zero, Int.toNat_natCast, hz1, Nat.mul_one] at hr
  refine wpList_plain hg fun K hK => ?_
  subst hC
  unfold Oper.wp
  simp [execOp, hop, hl, hc, hr, Result.andThen]
  refine hK _ _ (h _ ?_ ((Below.refl _ _).alloc (Nat.le_refl _) _))
  have := World.ownsRow_lit (base := w.heap.size) (e := 5) (size := 1) w (madeCells #[.int .u8 0] n) n (Nat.le_refl _) (by unfold maxLen; omega) (by rw [size_madeCells]; omega)
  rw [made_zeros] at this
  unfold Own
  rw [List.length_replicate]
  exact this
/-- Bytes put into the room. -/
theorem app_room {w : World} {ops : Array Oper} {rest : List Oper} {o : Oper} {a : Act} {Q : Exit → Act → World → Prop} (hgd : o.guard = none) (s x : Operand)
    (ho : o.op = .call { callee := .builtin .append, args := #[s, x], argTypes := #[22, 22] })
    (base g n m : Nat) (hs : a.eval s = .slice (some ⟨g, 0, none⟩) 0 n) (hown : Own w base (.slice (some ⟨g, 0, none⟩) n n) (List.replicate n 0))
    (B : Nat) (A : Option Addr) (l : List UInt8) (c : Nat) (hx : a.eval x = .slice A l.length c) (hr : Seg w B A l) (hn : n = l.length + m)
    (h : ∀ w', Own w' base (.slice (some ⟨g, 0, none⟩) n n) (l ++ List.replicate m 0) → Below base w w' → wpList Try.prog ops Q rest (a.put o.dst (.slice (some ⟨g, 0, none⟩) l.length n)) w') : wpList Try.prog ops Q (o :: rest) a w := by
  obtain ⟨i0, hi, hz0, hz1, hz2⟩ := info_parts infoByte
  have ho' := hown
  unfold Own at ho'
  rw [List.length_replicate] at ho'
  have hrun : ∃ w', (Builtin.append_ #[22, 22] o.type #[.slice (some ⟨g, 0, none⟩) 0 n, .slice A l.length c]).run Try.prog w = .ok (.slice (some ⟨g, 0, none⟩) l.length n) w' ∧
      Own w' base (.slice (some ⟨g, 0, none⟩) n n) (l ++ List.replicate m 0) ∧ Below base w w' := by
    by_cases h0 : 0 < l.length
    · obtain ⟨b, of, rfl, _, hcell⟩ := hr h0
      rcases ho'.2 with ⟨hv, _⟩ | ⟨g', cap', cur, hv, hbg, hg, _, hcm, hsz, ht⟩
      · cases hv
      · cases hv
        have hcl : cur.toList = BV (List.replicate n 0) := by rw [← ht, List.take_of_length_le (by rw [Array.length_toList]; omega)]
        have hrun := run_append_room (P := Try.prog) w 22 o.type 5 i0 Try.underlying22 hi g 0 n cur hg ⟨b, of, none⟩ l.length c (BV l) (by rw [BV_len, hz1]; omega)
          (fun j u hu => by
            obtain ⟨hj, rfl⟩ := BV_get l j u hu
            have := hcell j hj
            unfold Addr.add
            by_cases hz : j = 0
            · subst hz; simpa using this
            · rw [if_neg hz]; exact this) (BV_one l) (by omega) (by rw [BV_len, hsz]; omega)
        rw [Nat.zero_mul, Nat.zero_add, List.take_zero, List.nil_append, Nat.zero_add, hcl] at hrun
        have hrow : BV l ++ (BV (List.replicate n 0)).drop (BV l).length = BV (l ++ List.replicate m 0) := by
          rw [BV_append, BV_len]
          congr 1
          unfold BV
          rw [← List.map_drop, List.drop_replicate, hn, Nat.add_sub_cancel_left]
        rw [hrow] at hrun
        have hsz2 : (BV (l ++ List.replicate m 0)).toArray.size = n := by simp [BV_len]; omega
        refine ⟨_, hrun, ⟨?_, .inr ⟨g, n, _, ?_, hbg, setRow_heap w g cur _ 5 _ hg, ?_, hcm, ?_, ?_⟩⟩, ?_⟩
        · rw [BV_len]; omega
        · rw [List.length_append, List.length_replicate, hn]
        · rw [List.length_append, List.length_replicate]; omega
        · rw [hsz2]; omega
        · rw [List.take_of_length_le (by simp [BV_len])]
        · exact below_setRow (Below.refl _ _) hbg _
    · have hl : l = [] := List.eq_nil_of_length_eq_zero (by omega)
      subst hl
      have hm : n = m := by simpa using hn
      subst hm
      rcases ho'.2 with ⟨hv, _⟩ | ⟨g', cap', cur, hv, hbg, hg, _, hcm, hsz, ht⟩
      · cases hv
      · cases hv
        have hz : Own w base (.slice (some ⟨g, 0, none⟩) 0 n) [] := ⟨rfl, .inr ⟨g, n, cur, rfl, hbg, hg, Nat.zero_le _, hcm, hsz, rfl⟩⟩
        cases A with
        | none => exact ⟨w, run_app_nil w base o.type _ [] hz c, hown, Below.refl _ _⟩
        | some ad =>
          have hrun := run_append_room (P := Try.prog) w 22 o.type 5 i0 Try.underlying22 hi g 0 n cur hg ad 0 c [] (by simp) (fun j u hu => by simp at hu) (fun u hu => by simp at hu) (by omega) (by rw [Nat.zero_mul]; exact Nat.zero_le _)
          rw [Nat.zero_mul, List.take_zero, List.nil_append, List.nil_append, List.length_nil, Nat.add_zero, List.drop_zero] at hrun
          refine ⟨_, hrun, ⟨hown.1, .inr ⟨g, n, _, by rw [List.nil_append, List.length_replicate], hbg, setRow_heap w g cur _ 5 _ hg, ?_, hcm, ?_, ?_⟩⟩, below_setRow (Below.refl _ _) hbg _⟩
          · rw [List.nil_append, List.length_replicate]; exact Nat.le_refl _
          · simpa using hsz
          · rw [List.nil_append, List.length_replicate]; exact ht
  obtain ⟨w', hrun, h2, h3⟩ := hrun
  refine wpList_plain hgd fun K hK => ?_
  unfold Oper.wp execOp
  simp only [ho, resolve, invoke, builtin, Sem.run_bind, Sem.run_pure, Result.andThen_ok, List.map_toArray, List.map_cons, List.map_nil, hs, hx, hrun]
  exact hK _ _ (h w' h2 h3)
end Go.Proofs.Ytpblpkmlioojiaa
