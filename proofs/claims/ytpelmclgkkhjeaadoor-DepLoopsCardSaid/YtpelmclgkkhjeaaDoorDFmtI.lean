/-
  An item's text.
-/
import Derived.Test.YtpelmclgkkhjeaaDoorDAppInt
import Derived.Test.YtpelmclgkkhjeaaDoorDSettle
namespace Go.Proofs.YtpelmclgkkhjeaaDoor
open Go.RowKit

/-- One byte put behind bytes. -/
theorem app_byte {w : World} {ops : Array Oper} {rest : List Oper} {o : Oper} {a : Act} {Q : Exit → Act → World → Prop} (hgd : o.guard = none) (s x : Operand) (ho : o.op = .call { callee := .builtin .append, args := #[s, x], argTypes := #[TBy, TBy] })
    (base : Nat) (v : Value) (l : List UInt8) (c : UInt8) (w0 : World) (hs : a.eval s = v) (hown : OwnB w0 base v l) (hw : w = w0.alloc (.cells #[.int .u8 (c.toNat : Int)] TU8)) (g : Nat) (hg : g = w0.heap.size) (hx : a.eval x = .slice (some ⟨g, 0, none⟩) 1 1)
    (hlen : l.length ≤ 1000000000) (hbase : base ≤ w0.heap.size)
    (h : ∀ v' w', OwnB w' base v' (l ++ [c]) → Below base w0 w' → wpList Tryd.prog ops Q rest (a.put o.dst v') w') : wpList Tryd.prog ops Q (o :: rest) a w := by
  subst hw
  subst hg
  have hb : Below w0.heap.size w0 (w0.alloc (.cells #[.int .u8 (c.toNat : Int)] TU8)) := (Below.refl _ _).alloc (Nat.le_refl _) _
  refine app_mark hgd s x ho base v l [c] hs (hown.below hb) ⟨w0.heap.size, 0, none⟩ 1 1 hx rfl ?_ (by simp; omega) (by rw [World.size_alloc]; omega) ?_
  · intro j u hj
    have hh := heap_alloc_new w0 (.cells #[.int .u8 (c.toNat : Int)] TU8)
    have h0 : j = 0 := by
      have := (List.getElem?_eq_some_iff.1 hj).1
      rw [Lib.byteCells_length] at this
      simp at this
      omega
    subst h0
    have : u = .int .u8 (c.toNat : Int) := by simpa [Lib.byteCells] using hj.symm
    subst this
    rw [show (⟨w0.heap.size, 0, none⟩ : Addr).add 0 = ⟨w0.heap.size, 0, none⟩ from rfl]
    unfold World.cell?
    simp only [hh]
    rfl
  · intro v' w' o' b'
    exact h v' w' o' ((hb.mono hbase).trans b')
theorem back_own {w : World} {base : Nat} {v : Value} {l : List UInt8} (h : OwnB w base v l) : (convert TBy 9 v).run Tryd.prog w = .ok (.string (str l)) w := by
  obtain ⟨g, cap, rfl, hc⟩ := h.shape
  refine run_convert_bytes_back w TBy 9 TU8 ⟨g, 0, none⟩ cap l Tryd.underlying75 Tryd.underlying5 Tryd.underlying9 (fun j hj => ?_)
  exact hc j _ (by simp [Lib.byteCells, hj])
theorem word_len (k : Int) : (word k).length ≤ 10 := by
  unfold word
  repeat (first | decide | split)
theorem numT_len (n : Int) (h : n < 9223372036854775808) : (numT n).length ≤ 22 := by
  have := dec_len (max n 0).toNat (by omega)
  unfold numT
  rw [List.length_cons, List.length_append]
  split
  · simp only [List.length_cons, List.length_nil]; omega
  · simp only [List.length_nil]; omega
theorem nums_len (js : List Int) (h : ∀ n ∈ js, n < 9223372036854775808) : (js.flatMap numT).length ≤ 22 * js.length := by
  induction js with
  | nil => simp
  | cons x r ih =>
    have h1 := numT_len x (h x (by simp))
    have h2 := ih (fun n hn => h n (by simp [hn]))
    rw [List.flatMap_cons, List.length_append, List.length_cons]
    omega
theorem itemT_len (x : Itm) (h : ∀ n ∈ x.2, n < 9223372036854775808) : (itemT x).length ≤ 10 + 22 * x.2.length := by
  have h1 := word_len x.1
  have h2 := nums_len x.2 h
  unfold itemT
  split
  · rw [List.length_append]; omega
  · omega
/-- A call that answers a text, and makes memory. -/
def TP (w : World) (l : List UInt8) (e : Ending) (w' : World) : Prop := e = .returned (.string (str l)) ∧ Below w.heap.size w w'
set_option maxRecDepth 100000 in
set_option maxHeartbeats 4000000 in
theorem formatItem_any (k : Int) (js : List Int) (A : Option Addr) (cap : Nat) (w : World) (hT : Tab w) (hs : Ints w w.heap.size A js) (hl : js.length ≤ 1000000) (hj : ∀ n ∈ js, n < 9223372036854775808) :
    Calls Tryd.prog 19 #[.agg #[.int .i64 k, .slice A js.length cap]] w (TP w (itemT (k, js))) := by
  have hnj := fun W => namesJobs_any k W
  have hw := fun W => word_any k W
  have hwl := word_len k
  by_cases h14 : 1 ≤ k ∧ k ≤ 4
  · rw [decide_eq_true h14] at hnj
    have hE := fhid (show itemT (k, js) = word k ++ js.flatMap numT from if_pos h14)
    clear h14
    have hbS := bl_str (word k)
    have hsS := str_size (word k)
    generalize hS : str (word k) = S at *
    generalize word k = W0 at *
    replace hs := fhid hs
    replace hT := fhid hT
    replace hj := fhid hj
    replace hS := fhid hS
    go_enter Tryd.func19, Tryd.ntmps19
    go_upto_region 1 with fail
    have hi : IB (w.alloc (.cells #[.int .i64 k, .slice A js.length cap] 50)) w.heap.size 50 k (.slice A js.length cap) := heap_alloc_new w _
    have g0 : Below w.heap.size w (w.alloc (.cells #[.int .i64 k, .slice A js.length cap] 50)) := (Below.refl _ _).alloc (Nat.le_refl _) _
    generalize w.alloc _ = w1 at *
    obtain ⟨c0, c1, _, _, hz⟩ := hi.facts
    obtain ⟨cap0, hcv, ocv, bcv⟩ := conv_own w1 S w1.heap.size (Nat.le_refl _) (by omega)
    rw [hbS] at ocv
    rw [hsS] at ocv hcv
    generalize Lib.bytesWorld w1 TU8 S = w2 at *
    replace hi := fhid hi
    obtain ⟨c2, c3, _, _, hz2⟩ := (hi.out.below bcv hz).facts
    go_wp2_with (first
      | (go_at_call 23; (with_reducible refine (hnj _).mono ?_); rintro e w3 ⟨rfl, rfl⟩)
      | (go_at_call 31; (with_reducible refine (hw _).mono ?_); rintro e w3 ⟨rfl, rfl⟩))
    clear hcv c0 c1 hnj hw
    replace ocv := fhid ocv
    go_loopw [3, 20] (fun v i wr => ∃ j : Nat, j ≤ js.length ∧ i = .int .i64 (j : Int) ∧ OwnB wr w1.heap.size v (W0 ++ (js.take j).flatMap numT) ∧ Below w1.heap.size w1 wr) (fun _ i _ => js.length - (intOf i).toNat)
    case atStart => exact ⟨0, Nat.zero_le _, rfl, by rw [List.take_zero, List.flatMap_nil, List.append_nil]; exact ocv.out, bcv⟩
    case round =>
      obtain ⟨j, hjl, rfl, hO, hB⟩ := hrel
      have hsz := hB.size
      have gB := g0.trans (hB.mono g0.size)
      clear c2 c3
      obtain ⟨c2, c3, _, _, _⟩ := (hi.out.below hB hz).facts
      have hnl := nums_len (js.take j) (fun n hn => hj.out n (List.mem_of_mem_take hn))
      rw [List.length_take] at hnl
      have hlen : (W0 ++ (js.take j).flatMap numT).length ≤ 100000000 := by rw [List.length_append]; omega
      clear hnl
      by_cases hlt : j < js.length
      · obtain ⟨bb, o, rfl, hbb, hc⟩ := Ints.at_ hs.out hlt
        replace hc := (gB.cell (p := ⟨bb, o + j, none⟩) hbb).trans hc
        have hjx := hj.out js[j] (List.getElem_mem hlt)
        have hsn := fhid (show W0 ++ (js.take (j + 1)).flatMap numT = W0 ++ (js.take j).flatMap numT ++ numT js[j] by rw [List.take_succ_eq_append_getElem hlt, List.flatMap_append, List.append_assoc]; simp)
        have i1 : (j : Int) < js.length := by omega
        have i0 : (0 : Int) ≤ j := by omega
        generalize js[j] = x at *
        generalize W0 ++ (js.take j).flatMap numT = pre at *
        replace hO := fhid hO
        replace hlen := fhid hlen
        by_cases hx : x < 0
        · have hT2 := fhid (show pre ++ [58] ++ [45] ++ dec 0 = pre ++ numT x by
            unfold numT
            rw [if_pos hx, show (max x 0).toNat = 0 by omega]
            simp)
          have hmx : max x 0 = 0 := by omega
          have hxi : ¬ 0 ≤ x := by omega
          have hxi2 : x ≤ 0 := by omega
          go_wp2_with (first
            | (at_builtin; (refine app_byte rfl _ _ rfl w1.heap.size _ pre 58 wr rfl hO.out rfl _ rfl rfl (by have := hlen.out; omega) hsz ?_; intro v3 w3 o3 b3)
               have z3 := b3.size)
            | (at_builtin; (refine app_byte rfl _ _ rfl w1.heap.size _ (pre ++ [58]) 45 w3 rfl o3 rfl _ rfl rfl (by have := hlen.out; rw [List.length_append, List.length_singleton]; omega) (by omega) ?_; intro v4 w4 o4 b4)
               have z4 := b4.size)
            | (go_at_call 32; (refine (AppendInt_any w1.heap.size 0 _ (by omega) (by omega) _ (pre ++ [58] ++ [45]) _ (tab_below hT.out (gB.trans ((b3.trans b4).mono g0.size))) o4 (by omega) (by have := hlen.out; rw [List.length_append, List.length_append, List.length_singleton, List.length_singleton]; omega)).mono ?_); rintro e w5 ⟨v5, rfl, o5, b5⟩))
          go_roundw
          case rel => exact ⟨j + 1, by omega, by go_num, by rw [hsn.out, ← hT2.out]; exact o5, hB.trans ((b3.trans b4).trans b5)⟩
          case measure => simp [intOf]; omega
        · have hT2 := fhid (show pre ++ [58] ++ dec x.toNat = pre ++ numT x by
            unfold numT
            rw [if_neg hx, show (max x 0).toNat = x.toNat by omega]
            simp)
          have hmx : max x 0 = x := by omega
          have hxi : 0 ≤ x := by omega
          go_wp2_with (first
            | (at_builtin; (refine app_byte rfl _ _ rfl w1.heap.size _ pre 58 wr rfl hO.out rfl _ rfl rfl (by have := hlen.out; omega) hsz ?_; intro v3 w3 o3 b3)
               have z3 := b3.size)
            | (go_at_call 32; (refine (AppendInt_any w1.heap.size x.toNat _ (by omega) (by omega) _ (pre ++ [58]) _ (tab_below hT.out (gB.trans (b3.mono g0.size))) o3 (by omega) (by have := hlen.out; rw [List.length_append, List.length_singleton]; omega)).mono ?_); rintro e w5 ⟨v5, rfl, o5, b5⟩))
          go_roundw
          case rel => exact ⟨j + 1, by omega, by go_num, by rw [hsn.out, ← hT2.out]; exact o5, hB.trans (b3.trans b5)⟩
          case measure => simp [intOf]; omega
      · obtain rfl : j = js.length := by omega
        rw [List.take_length] at hO
        have hbk := back_own hO
        rw [← hE.out] at hbk
        have i1 : ¬ (js.length : Int) < js.length := by omega
        clear hlen
        replace hO := fhid hO
        generalize hST : str (itemT (k, js)) = ST at *
        replace hST := fhid hST
        go_wp2_with fail
        go_ret
        exact ⟨by rw [hST.out]; rfl, gB⟩
  · rw [decide_eq_false h14] at hnj
    have hE := fhid (show itemT (k, js) = word k from if_neg h14)
    clear h14
    generalize hS : str (word k) = S at *
    replace hS := fhid hS
    replace hs := fhid hs
    go_enter Tryd.func19, Tryd.ntmps19
    go_wp2_with (first
      | (go_at_call 23; (with_reducible refine (hnj _).mono ?_); rintro e w3 ⟨rfl, rfl⟩)
      | (go_at_call 31; (with_reducible refine (hw _).mono ?_); rintro e w3 ⟨rfl, rfl⟩))
    go_ret
    exact ⟨by rw [hE.out, hS.out]; rfl, (Below.refl _ _).alloc (Nat.le_refl _) _⟩
end Go.Proofs.YtpelmclgkkhjeaaDoor
