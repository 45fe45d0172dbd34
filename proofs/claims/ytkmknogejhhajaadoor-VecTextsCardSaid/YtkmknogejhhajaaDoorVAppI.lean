/-
  Numbers put behind a row of the call's own.
-/
import Derived.Test.YtkmknogejhhajaaDoorVApp
namespace Go.Proofs.YtkmknogejhhajaaDoor
open Go.RowKit

def IV (ns : List Nat) : List Value := ns.map fun (n : Nat) => .int .i64 (n : Int)
theorem IV_len (ns : List Nat) : (IV ns).length = ns.length := List.length_map _
theorem IV_get (ns : List Nat) (j : Nat) (h : j < ns.length) (h' : j < (IV ns).length) : (IV ns)[j] = .int .i64 (ns[j] : Int) := by simp [IV]
theorem IV_app (a b : List Nat) : IV (a ++ b) = IV a ++ IV b := List.map_append
theorem infoInt : (Tryd.prog.info? 3).map (fun i => (i.zero, i.size, i.bytes)) = some (some (.int .i64 0), 1, 8) := by kernel_rfl
/-- The slice at address A reads as these numbers. -/
def Ints (w : World) (B : Nat) (A : Option Addr) (ns : List Nat) : Prop := SegC w B A (IV ns)
theorem Ints.at_ {w : World} {B : Nat} {A : Option Addr} {ns : List Nat} (h : Ints w B A ns) {k : Nat} (hk : k < ns.length) : ∃ b o, A = some ⟨b, o, none⟩ ∧ b < B ∧ w.cell? ⟨b, o + k, none⟩ = some (.int .i64 (ns[k] : Int)) := by
  obtain ⟨b, o, e, hb, hc⟩ := h (by rw [IV_len]; omega)
  refine ⟨b, o, e, hb, ?_⟩
  have := hc k (by rw [IV_len]; exact hk)
  rwa [IV_get ns k hk] at this
/-- A slice of the call's own holds these numbers. -/
def OwnI (w : World) (base : Nat) (v : Value) (ns : List Nat) : Prop := w.ownsRow base 3 1 v ns.length (IV ns)
section
variable {w : World} {ops : Array Oper} {rest : List Oper} {o : Oper} {a : Act} {Q : Exit → Act → World → Prop}
theorem app_int (hgd : o.guard = none) (s x : Operand) (ho : o.op = .call { callee := .builtin .append, args := #[s, x], argTypes := #[60, 60] })
    (base : Nat) (v : Value) (ns : List Nat) (n : Nat) (w0 : World) (hs : a.eval s = v) (hown : OwnI w0 base v ns)
    (hw : w = w0.alloc (.cells #[.int .i64 (n : Int)] 3)) (g : Nat) (hg : g = w0.heap.size) (hx : a.eval x = .slice (some ⟨g, 0, none⟩) 1 1) (hlen : ns.length ≤ 1048576) (hbase : base ≤ w0.heap.size)
    (h : ∀ v' w', OwnI w' base v' (ns ++ [n]) → Below base w0 w' → wpList Tryd.prog ops Q rest (a.put o.dst v') w') : wpList Tryd.prog ops Q (o :: rest) a w := by
  subst hw
  subst hg
  refine app_own 60 3 (.int .i64 0) 1 8 Tryd.underlying60 infoInt rfl (by decide) hgd s x ho base v ns.length (IV ns) hs (World.ownsRow.alloc hown _) (w0.heap.size + 1) (some ⟨w0.heap.size, 0, none⟩) 1 1 [.int .i64 (n : Int)] hx (one_cells w0 _ _) rfl (fun u hu => by simp at hu; rcases hu with rfl; rfl) (fun h => by cases h) (by omega) (by omega) (by rw [World.size_alloc]; omega) ?_
  intro v' w' h1 _ h3
  refine h v' w' ?_ (((Below.refl _ _).alloc hbase _).trans h3)
  unfold OwnI
  rw [IV_app, List.length_append]
  exact h1
end
theorem OwnI.below {w w' : World} {base : Nat} {v : Value} {ns : List Nat} (h : OwnI w base v ns) (hb : Below w.heap.size w w') : OwnI w' base v ns := ownsRow_below h hb
theorem OwnI.nil (w : World) (base : Nat) : OwnI w base (.slice none 0 0) [] := ownsRow_nil _ _ _ _
theorem OwnI.shape {w : World} {base : Nat} {v : Value} {ns : List Nat} (h : OwnI w base v ns) : ∃ A cap, v = .slice A ns.length cap ∧ Ints w w.heap.size A ns := by
  obtain ⟨A, cap, e, _, _, hs⟩ := ownsRow_shape h
  exact ⟨A, cap, e, hs⟩
end Go.Proofs.YtkmknogejhhajaaDoor
