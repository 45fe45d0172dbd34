/-
  A dependency's text.
-/
import Derived.Test.YtpelmclgkkhjeaaDoorDFmtI
namespace Go.Proofs.YtpelmclgkkhjeaaDoor
open Go.RowKit

/-- Names, as cells. -/
def NV (ns : List (List UInt8)) : List Value := ns.map fun n => .string (str n)
theorem NV_len (ns : List (List UInt8)) : (NV ns).length = ns.length := List.length_map _
theorem NV_get (ns : List (List UInt8)) (j : Nat) (h : j < ns.length) (h' : j < (NV ns).length) : (NV ns)[j] = .string (str ns[j]) := by simp [NV]
theorem NV_app (a b : List (List UInt8)) : NV (a ++ b) = NV a ++ NV b := List.map_append
theorem infoString : (Tryd.prog.info? 9).map (fun i => (i.zero, i.size, i.bytes)) = some (some (.string ⟨#[]⟩), 1, 16) := by kernel_rfl
/-- A slice of the call's own holds these texts. -/
def OwnS (w : World) (base : Nat) (v : Value) (ns : List (List UInt8)) : Prop := w.ownsRow base 9 1 v ns.length (NV ns)
section
variable {w : World} {ops : Array Oper} {rest : List Oper} {o : Oper} {a : Act} {Q : Exit → Act → World → Prop}
theorem app_name (hgd : o.guard = none) (s x : Operand) (ho : o.op = .call { callee := .builtin .append, args := #[s, x], argTypes := #[61, 61] })
    (base : Nat) (v : Value) (ns : List (List UInt8)) (n : List UInt8) (S : ByteArray) (hS : S = str n) (w0 : World) (hs : a.eval s = v) (hown : OwnS w0 base v ns)
    (hw : w = w0.alloc (.cells #[.string S] 9)) (g : Nat) (hg : g = w0.heap.size) (hx : a.eval x = .slice (some ⟨g, 0, none⟩) 1 1) (hlen : ns.length ≤ 1048576) (hbase : base ≤ w0.heap.size)
    (h : ∀ v' w', OwnS w' base v' (ns ++ [n]) → Below base w0 w' → wpList Tryd.prog ops Q rest (a.put o.dst v') w') : wpList Tryd.prog ops Q (o :: rest) a w := by
  subst hS
  subst hw
  subst hg
  refine app_own 61 9 (.string ⟨#[]⟩) 1 16 Tryd.underlying61 infoString rfl (by decide) hgd s x ho base v ns.length (NV ns) hs (World.ownsRow.alloc hown _) (w0.heap.size + 1) (some ⟨w0.heap.size, 0, none⟩) 1 1 [.string (str n)] hx (one_cells w0 _ _) rfl (fun u hu => by simp at hu; rcases hu with rfl; rfl) (fun h => by cases h) (by omega) (by omega) (by rw [World.size_alloc]; omega) ?_
  intro v' w' h1 _ h3 _
  refine h v' w' ?_ (((Below.refl _ _).alloc hbase _).trans h3)
  unfold OwnS
  rw [NV_app, List.length_append]
  exact h1
end
theorem OwnS.below {w w' : World} {base : Nat} {v : Value} {ns : List (List UInt8)} (h : OwnS w base v ns) (hb : Below w.heap.size w w') : OwnS w' base v ns := ownsRow_below h hb
theorem OwnS.nil (w : World) (base : Nat) : OwnS w base (.slice none 0 0) [] := ownsRow_nil _ _ _ _
theorem map_str (ns : List (List UInt8)) : (ns.map str).map (fun x => x.data.toList) = ns := by
  induction ns with
  | nil => rfl
  | cons x r ih => simp [str] at ih ⊢; exact ih
theorem joinTail_le (B : Nat) (c : UInt8) (r : List (List UInt8)) (h : ∀ x ∈ r, x.length ≤ B) : (Go.Lib.joinTail [c] r).length ≤ (B + 1) * r.length := by
  induction r with
  | nil => simp [Go.Lib.joinTail]
  | cons x r ih =>
    have h1 := h x (by simp)
    have h2 := ih (fun y hy => h y (by simp [hy]))
    have e : Go.Lib.joinTail [c] (x :: r) = ([c] ++ x) ++ Go.Lib.joinTail [c] r := by simp [Go.Lib.joinTail]
    rw [e, List.length_append, List.length_append, List.length_cons, List.length_cons, List.length_nil, Nat.mul_add, Nat.mul_one]
    omega
theorem join_le (B : Nat) (c : UInt8) (ns : List (List UInt8)) (h : ∀ x ∈ ns, x.length ≤ B) : (Go.Lib.join ns [c]).length ≤ (B + 1) * ns.length := by
  cases ns with
  | nil => simp [Go.Lib.join]
  | cons x r =>
    have h1 := h x (by simp)
    have h2 := joinTail_le B c r (fun y hy => h y (by simp [hy]))
    rw [Go.Lib.join_cons, List.length_append, List.length_cons, Nat.mul_add, Nat.mul_one]
    omega
/-- Texts of the call's own, joined. -/
theorem join_any (base : Nat) (v : Value) (ns : List (List UInt8)) (c : UInt8) (w : World) (hown : OwnS w base v ns) (hl : ns.length ≤ 1000) (h : ∀ x ∈ ns, x.length ≤ 30000) :
    Calls Tryd.prog 20 #[v, .string ⟨#[c]⟩] w fun e w' => e = .returned (.string (str (Go.Lib.join ns [c]))) ∧ Below w.heap.size w w' := by
  obtain ⟨A, cap, rfl, hc, _, hs⟩ := ownsRow_shape hown
  by_cases hp : 0 < ns.length
  · obtain ⟨b, o, rfl, hb, hcell⟩ := hs (by rw [NV_len]; exact hp)
    have := Tryd.strings_Join b o cap (ns.map str) ⟨#[c]⟩ w (fun j x hx => by
      rw [List.getElem?_map] at hx
      cases hn : ns[j]? with
      | none => rw [hn] at hx; cases hx
      | some y =>
        rw [hn] at hx
        obtain ⟨hj, rfl⟩ := List.getElem?_eq_some_iff.1 hn
        have hx' : str ns[j] = x := by simpa using hx
        subst hx'
        rw [hcell j (by rw [NV_len]; exact hj), NV_get ns j hj]) hb (by rw [List.length_map]; omega) (by rw [List.length_map]; exact hc) (by
          rw [map_str]
          have := join_le 30000 c ns h
          show (Go.Lib.join ns [c]).length ≤ _
          have : (30000 + 1) * ns.length ≤ 30001 * 1000 := Nat.mul_le_mul_left _ hl
          omega)
    rw [map_str, List.length_map] at this
    exact this
  · obtain rfl : ns = [] := List.eq_nil_of_length_eq_zero (by omega)
    refine (Tryd.strings_Join_none A cap ⟨#[c]⟩ w).mono ?_
    rintro e w' ⟨rfl, rfl⟩
    exact ⟨by rw [show Go.Lib.join [] [c] = [] from rfl]; rfl, Below.refl _ _⟩
theorem enc44 : Utf8.encode 44 = ⟨#[44]⟩ := by kernel_rfl
theorem enc63 : Utf8.encode 63 = ⟨#[63]⟩ := by kernel_rfl
theorem conv_sep (any : Bool) (w : World) : (convert 5 9 (.int .u8 ((sepT any).toNat : Int))).run Tryd.prog w = .ok (.string ⟨#[sepT any]⟩) w := by
  cases any
  · rw [show ((sepT false).toNat : Int) = 44 from rfl, run_convert_int_string w 5 9 _ _ (by rw [Tryd.underlying5]; rfl) Tryd.underlying9, enc44]
    rfl
  · rw [show ((sepT true).toNat : Int) = 63 from rfl, run_convert_int_string w 5 9 _ _ (by rw [Tryd.underlying5]; rfl) Tryd.underlying9, enc63]
    rfl
theorem dep_texts (any : Bool) (l : List Itm) (hl : l.length ≤ 100) (hx : ∀ x ∈ l, x.2.length ≤ 1000 ∧ ∀ n ∈ x.2, n < 9223372036854775808) : (l.map itemT).length ≤ 1000 ∧ (∀ t ∈ l.map itemT, t.length ≤ 30000) ∧ Go.Lib.join (l.map itemT) [sepT any] = depT any l := by
  refine ⟨by rw [List.length_map]; omega, fun t ht => ?_, rfl⟩
  obtain ⟨x, hx1, rfl⟩ := List.mem_map.1 ht
  obtain ⟨a, b⟩ := hx x hx1
  have := itemT_len x b
  omega
set_option maxRecDepth 100000 in
set_option maxHeartbeats 4000000 in
theorem Format_any (any : Bool) (l : List Itm) (A : Option Addr) (cap : Nat) (w : World) (hT : Tab w) (hs : Its w w.heap.size A l) (hl : l.length ≤ 100) (hx : ∀ x ∈ l, x.2.length ≤ 1000 ∧ ∀ n ∈ x.2, n < 9223372036854775808) :
    Calls Tryd.prog 10 #[.agg #[.bool any, .slice A l.length cap]] w (TP w (depT any l)) := by
  obtain ⟨t1, t2, t3⟩ := dep_texts any l hl hx
  have hbt := fun W => between_any any W
  have hcv := fun W => conv_sep any W
  have hjn := fun base v W h => join_any base v (l.map itemT) (sepT any) W h t1 t2
  rw [t3] at hjn
  clear t1 t2 t3
  generalize hsq : sepT any = sq at *
  generalize hD : depT any l = D at *
  replace hsq := fhid hsq
  replace hD := fhid hD
  replace hs := fhid hs
  replace hT := fhid hT
  replace hx := fhid hx
  go_enter Tryd.func10, Tryd.ntmps10
  go_upto_region 1 with fail
  have hi : DB (w.alloc (.cells #[.bool any, .slice A l.length cap] 33)) w.heap.size 33 any (.slice A l.length cap) := heap_alloc_new w _
  have g0 : Below w.heap.size w (w.alloc (.cells #[.bool any, .slice A l.length cap] 33)) := (Below.refl _ _).alloc (Nat.le_refl _) _
  generalize w.alloc _ = w1 at *
  obtain ⟨c0, c1, _, _, hz⟩ := hi.facts
  replace hi := fhid hi
  go_wp2_with fail
  go_loopw [3, 9] (fun v i wr => ∃ j : Nat, j ≤ l.length ∧ i = .int .i64 (j : Int) ∧ OwnS wr w1.heap.size v ((l.take j).map itemT) ∧ Below w1.heap.size w1 wr) (fun _ i _ => l.length - (intOf i).toNat)
  case atStart => exact ⟨0, Nat.zero_le _, rfl, OwnS.nil _ _, Below.refl _ _⟩
  case round =>
    obtain ⟨j, hjl, rfl, hO, hB⟩ := hrel
    have hsz := hB.size
    have gB := g0.trans (hB.mono g0.size)
    clear c0 c1
    obtain ⟨c0, c1, _, _, _⟩ := (hi.out.below hB hz).facts
    by_cases hlt : j < l.length
    · have hsW := hs.out.below gB
      obtain ⟨bb, o, rfl, hbb, hc1, A', cp, hc2, hjc, hcm, hjs⟩ := hsW.at_ hlt
      obtain ⟨x1, x2⟩ := hx.out l[j] (List.getElem_mem hlt)
      have hsn := fhid (show (l.take (j + 1)).map itemT = (l.take j).map itemT ++ [itemT l[j]] by rw [List.take_succ_eq_append_getElem hlt, List.map_append]; rfl)
      have i1 : (j : Int) < l.length := by omega
      have i0 : (0 : Int) ≤ j := by omega
      have hln : ((l.take j).map itemT).length ≤ 1000 := by rw [List.length_map, List.length_take]; omega
      clear hsW
      generalize l[j] = x at *
      obtain ⟨k, js⟩ := x
      simp only at hc1 hc2 hjc hjs x1 x2
      generalize (l.take j).map itemT = pre at *
      have bA : Below wr.heap.size wr (wr.alloc (.cells #[.int .i64 k, .slice A' js.length cp] 50)) := (Below.refl _ _).alloc (Nat.le_refl _) _
      have zA : (wr.alloc (.cells #[.int .i64 k, .slice A' js.length cp] 50)).heap.size = wr.heap.size + 1 := World.size_alloc _ _
      have hfi := formatItem_any k js A' cp (wr.alloc (.cells #[.int .i64 k, .slice A' js.length cp] 50)) (tab_below hT.out (gB.trans (bA.mono gB.size))) ((hjs.below (bA.mono gB.size)).more (by have := gB.size; omega)) (by omega) x2
      replace hln := fhid hln
      replace hO := fhid hO
      replace hjs := fhid hjs
      replace x2 := fhid x2
      replace zA := fhid zA
      go_wp2_with (first
        | (go_at_call 19; (with_reducible refine hfi.mono ?_); rintro e w3 ⟨rfl, b3⟩
           have o3 := fhid (OwnS.below (OwnS.below hO.out bA) b3)
           have z3 := b3.size
           rw [zA.out] at z3
           generalize hST : str (itemT (k, js)) = ST at *
           replace hST := fhid hST)
        | (at_builtin; (refine app_name rfl _ _ rfl w1.heap.size _ pre (itemT (k, js)) ST hST.out.symm w3 rfl o3.out rfl _ rfl rfl (by have := hln.out; omega) (by omega) ?_; intro v4 w4 o4 b4)))
      go_roundw
      case rel => exact ⟨j + 1, by omega, by go_num, by rw [hsn.out]; exact o4, hB.trans ((bA.mono hsz).trans ((b3.mono (by rw [zA.out]; omega)).trans b4))⟩
      case measure => simp [intOf]; omega
    · obtain rfl : j = l.length := by omega
      rw [List.take_length] at hO
      have hj2 := hjn _ _ _ hO
      have i1 : ¬ (l.length : Int) < l.length := by omega
      replace hO := fhid hO
      clear hjn
      generalize hST : str D = ST at *
      replace hST := fhid hST
      go_wp2_with (first
        | (go_at_call 17; (with_reducible refine (hbt _).mono ?_); rintro e w2 ⟨rfl, rfl⟩)
        | (go_at_call 20; (with_reducible refine hj2.mono ?_); rintro e w3 ⟨rfl, b3⟩))
      go_ret
      exact ⟨by rw [hST.out]; rfl, gB.trans (b3.mono gB.size)⟩
end Go.Proofs.YtpelmclgkkhjeaaDoor
