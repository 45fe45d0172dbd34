/-
  Numbers put behind numbers, inside a region that draws its order.
-/
import Derived.Test.YtlcbppflpadhaaaDoorYLSteps
import Derived.Test.YtlcbppflpadhaaaDoorDApart
import Derived.BigRegion
import Derived.Deep.RegionLaw
namespace Go.Proofs.YtlcbppflpadhaaaDoor
open Go.RowKit

theorem run_nums {w : World} (rt : TypeId) (base : Nat) (v : Value) (ns js : List Int) (hown : OwnI w base v ns) (B : Nat) (A : Option Addr) (c : Nat) (hj : Ints w B A js) (hlen : ns.length + js.length ≤ 10000000) (hbase : base ≤ w.heap.size) :
    ∃ v' w', (Builtin.append_ #[22, 22] rt #[v, .slice A js.length c]).run Tryd.prog w = .ok v' w' ∧ OwnI w' base v' (ns ++ js) ∧ Below base w w' := by
  obtain ⟨i0, hi, hz0, hz1, hz2⟩ := info_parts infoInt
  have hl : (IV js).length = js.length * 1 := by rw [IV_len, Nat.mul_one]
  have hrun : ∃ v' w', (Builtin.append_ #[22, 22] rt #[v, .slice A js.length c]).run Tryd.prog w = .ok v' w' ∧ w'.ownsRow base 3 1 v' (ns.length + js.length) (IV ns ++ IV js) ∧ w.grownBy w' v.ownBlock := by
    by_cases h0 : 0 < js.length
    · obtain ⟨b, of, rfl, _, hc⟩ := hj (by rw [IV_len]; exact h0)
      obtain ⟨v', w', hrun, h2, h3, _, _⟩ := run_append_own_at (P := Tryd.prog) w base 22 rt 3 i0 (.int .i64 0) 1 8 Tryd.underlying22 hi hz0 hz1 hz2 rfl (by decide) v ns.length (IV ns) hown ⟨b, of, none⟩ js.length c (IV js) hl (fun j u hu => by
          obtain ⟨hj, rfl⟩ := List.getElem?_eq_some_iff.1 hu
          have := hc j hj
          unfold Addr.add
          by_cases hz : j = 0
          · subst hz; rw [if_pos rfl]; exact this
          · rw [if_neg hz]; exact this) (fun u hu => by
            obtain ⟨n, _, rfl⟩ := List.mem_map.1 hu
            rfl) (by unfold maxLen; omega) (by omega) hbase
      exact ⟨v', w', hrun, h2, h3⟩
    · have hm : js.length = 0 := by omega
      obtain rfl : js = [] := List.eq_nil_of_length_eq_zero hm
      cases A with
      | none =>
        refine ⟨v, w, ?_, by simpa [IV, OwnI] using hown, ⟨rfl, rfl, rfl, Nat.le_refl _, fun _ _ _ => rfl⟩⟩
        rcases hown.2 with ⟨rfl, hn⟩ | ⟨g, cap, cur, rfl, _, _, hnc, _⟩
        · simp [Builtin.append_, run_underlying Tryd.underlying22, sizeOf, typeInfo, hi, Builtin.lenOf, Builtin.firstCells]
        · simp [Builtin.append_, run_underlying Tryd.underlying22, sizeOf, typeInfo, hi, Builtin.lenOf, Builtin.firstCells, hnc, storeCells]
      | some ad =>
        obtain ⟨v', w', hrun, h2, h3, _, _⟩ := run_append_own_at (P := Tryd.prog) w base 22 rt 3 i0 (.int .i64 0) 1 8 Tryd.underlying22 hi hz0 hz1 hz2 rfl (by decide) v ns.length (IV ns) hown ad 0 c [] (by simp) (fun j u hu => by simp at hu) (fun u hu => by simp at hu) (by unfold maxLen; omega) (by simp only [List.length_nil, Nat.add_zero] at hlen; omega) hbase
        exact ⟨v', w', hrun, h2, h3⟩
  obtain ⟨v', w', hrun, h2, h3⟩ := hrun
  refine ⟨v', w', hrun, ?_, (Below.refl _ _).grown h3 hbase (fun k hk => ownsRow_ge hown k hk)⟩
  unfold OwnI
  rw [IV_app, List.length_append]
  exact h2
/-- Numbers put behind numbers, inside a region that draws its order. -/
theorem step_nums {w : World} {ops : Array Oper} {o : Oper} {a : Act} {K : Act → World → Prop} {Q : Exit → Act → World → Prop} {E : Prop} (hgd : o.guard = none) (s x : Operand) (ho : o.op = .call { callee := .builtin .append, args := #[s, x], argTypes := #[22, 22] })
    (base : Nat) (v : Value) (ns js : List Int) (m : Nat) (hm : m = js.length) (hs : a.eval s = v) (hown : OwnI w base v ns) (B : Nat) (A : Option Addr) (c : Nat) (hx : a.eval x = .slice A m c) (hj : Ints w B A js) (hlen : ns.length + js.length ≤ 10000000) (hbase : base ≤ w.heap.size)
    (h : ∀ v' w', OwnI w' base v' (ns ++ js) → Below base w w' → K (a.put o.dst v') w') : if Region.wanted o (yielded ops a.tmps) = true then Oper.wp Tryd.prog o a w K Q else E := by
  have hwt : Region.wanted o (yielded ops a.tmps) = true := by simp [Region.wanted, hgd]
  rw [if_pos hwt]
  subst hm
  obtain ⟨v', w', hrun, h2, h3⟩ := run_nums o.type base v ns js hown B A c hj hlen hbase
  unfold Oper.wp
  simp [execOp, ho, resolve, invoke, builtin, hs, hx, hrun, Result.andThen]
  exact h v' w' h2 h3
theorem IV_take (ns : List Int) (k : Nat) : (IV ns).take k = IV (ns.take k) := by simp [IV, List.map_take]
theorem IV_drop (ns : List Int) (k : Nat) : (IV ns).drop k = IV (ns.drop k) := by simp [IV, List.map_drop]
end Go.Proofs.YtlcbppflpadhaaaDoor
