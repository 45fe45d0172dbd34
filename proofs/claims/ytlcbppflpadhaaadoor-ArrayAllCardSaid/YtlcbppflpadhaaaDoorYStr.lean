/-
  Texts of the call's own, joined; a number's text; a range's text.
-/
import Derived.Test.YtlcbppflpadhaaaDoorYLen
import Derived.Lib.AppendIntMem
namespace Go.Proofs.YtlcbppflpadhaaaDoor
open Go.RowKit

/-- The library's table of powers of ten reads as the program's text lays it. -/
def Tab (w : World) : Prop := Lib.TabIs Tryd.prog w "internal/strconv.uint64pow10" .u64 Lib.pow10Tab
theorem tab_below {w w' : World} (h : Tab w) (hb : Below w.heap.size w w') : Tab w' := ((Lib.tabBelow_of_tabIs h).on hb).here
theorem dec_len (u : Nat) (h : u < 18446744073709551616) : (dec u).length ≤ 20 := by
  unfold dec
  rw [Lib.decDigits_length]
  by_cases h0 : u < 10
  · rw [Lib.nDigits_small h0]; omega
  · have := Lib.numDigits_eq u (by omega) h
    split at this <;> omega
/-- Names, as cells. -/
def NV (ns : List (List UInt8)) : List Value := ns.map fun n => .string (str n)
theorem NV_len (ns : List (List UInt8)) : (NV ns).length = ns.length := List.length_map _
theorem NV_get (ns : List (List UInt8)) (j : Nat) (h : j < ns.length) (h' : j < (NV ns).length) : (NV ns)[j] = .string (str ns[j]) := by simp [NV]
theorem NV_app (a b : List (List UInt8)) : NV (a ++ b) = NV a ++ NV b := List.map_append
theorem infoString : (Tryd.prog.info? 9).map (fun i => (i.zero, i.size, i.bytes)) = some (some (.string ⟨#[]⟩), 1, 16) := by kernel_rfl
/-- A slice of the call's own holds these texts. -/
def OwnS (w : World) (base : Nat) (v : Value) (ns : List (List UInt8)) : Prop := w.ownsRow base 9 1 v ns.length (NV ns)
section
variable {w : World} {ops : Array Oper} {rest : List Oper} {o : Oper} {a : Act} {Q : Exit → Act → World → Prop}
theorem app_name (hgd : o.guard = none) (s x : Operand) (ho : o.op = .call { callee := .builtin .append, args := #[s, x], argTypes := #[47, 47] })
    (base : Nat) (v : Value) (ns : List (List UInt8)) (n : List UInt8) (S : ByteArray) (hS : S = str n) (w0 : World) (hs : a.eval s = v) (hown : OwnS w0 base v ns)
    (hw : w = w0.alloc (.cells #[.string S] 9)) (g : Nat) (hg : g = w0.heap.size) (hx : a.eval x = .slice (some ⟨g, 0, none⟩) 1 1) (hlen : ns.length ≤ 1048576) (hbase : base ≤ w0.heap.size)
    (h : ∀ v' w', OwnS w' base v' (ns ++ [n]) → Below base w0 w' → wpList Tryd.prog ops Q rest (a.put o.dst v') w') : wpList Tryd.prog ops Q (o :: rest) a w := by
  subst hS
  subst hw
  subst hg
  refine app_own 47 9 (.string ⟨#[]⟩) 1 16 Tryd.underlying47 infoString rfl (by decide) hgd s x ho base v ns.length (NV ns) hs (World.ownsRow.alloc hown _) (w0.heap.size + 1) (some ⟨w0.heap.size, 0, none⟩) 1 1 [.string (str n)] hx (one_cells w0 _ _) rfl (fun u hu => by simp at hu; rcases hu with rfl; rfl) (fun h => by cases h) (by omega) (by omega) (by rw [World.size_alloc]; omega) ?_
  intro v' w' h1 _ h3 _
  refine h v' w' ?_ (((Below.refl _ _).alloc hbase _).trans h3)
  unfold OwnS
  rw [NV_app, List.length_append]
  exact h1
end
theorem OwnS.below {w w' : World} {base : Nat} {v : Value} {ns : List (List UInt8)} (h : OwnS w base v ns) (hb : Below w.heap.size w w') : OwnS w' base v ns := ownsRow_below h hb
theorem OwnS.nil (w : World) (base : Nat) : OwnS w base (.slice none 0 0) [] := ownsRow_nil _ _ _ _
theorem map_str (ns : List (List UInt8)) : (ns.map str).map (fun x => x.data.toList) = ns := by
  induction ns with
  | nil => rfl
  | cons x r ih => simp [str] at ih ⊢; exact ih
theorem joinTail_le (B : Nat) (c : UInt8) (r : List (List UInt8)) (h : ∀ x ∈ r, x.length ≤ B) : (Go.Lib.joinTail [c] r).length ≤ (B + 1) * r.length := by
  induction r with
  | nil => simp [Go.Lib.joinTail]
  | cons x r ih =>
    have h1 := h x (by simp)
    have h2 := ih (fun y hy => h y (by simp [hy]))
    have e : Go.Lib.joinTail [c] (x :: r) = ([c] ++ x) ++ Go.Lib.joinTail [c] r := by simp [Go.Lib.joinTail]
    rw [e, List.length_append, List.length_append, List.length_cons, List.length_cons, List.length_nil, Nat.mul_add, Nat.mul_one]
    omega
theorem join_le (B : Nat) (c : UInt8) (ns : List (List UInt8)) (h : ∀ x ∈ ns, x.length ≤ B) : (Go.Lib.join ns [c]).length ≤ (B + 1) * ns.length := by
  cases ns with
  | nil => simp [Go.Lib.join]
  | cons x r =>
    have h1 := h x (by simp)
    have h2 := joinTail_le B c r (fun y hy => h y (by simp [hy]))
    rw [Go.Lib.join_cons, List.length_append, List.length_cons, Nat.mul_add, Nat.mul_one]
    omega
/-- Texts of the call's own, joined. -/
theorem joins_any (base : Nat) (v : Value) (ns : List (List UInt8)) (c : UInt8) (w : World) (hown : OwnS w base v ns) (hl : ns.length ≤ 1000) (h : ∀ x ∈ ns, x.length ≤ 64) :
    Calls Tryd.prog 20 #[v, .string ⟨#[c]⟩] w fun e w' => e = .returned (.string (str (Go.Lib.join ns [c]))) ∧ Below w.heap.size w w' := by
  obtain ⟨A, cap, rfl, hc, _, hs⟩ := ownsRow_shape hown
  by_cases hp : 0 < ns.length
  · obtain ⟨b, o, rfl, hb, hcell⟩ := hs (by rw [NV_len]; exact hp)
    have := Tryd.strings_Join b o cap (ns.map str) ⟨#[c]⟩ w (fun j x hx => by
      rw [List.getElem?_map] at hx
      cases hn : ns[j]? with
      | none => rw [hn] at hx; cases hx
      | some y =>
        rw [hn] at hx
        obtain ⟨hj, rfl⟩ := List.getElem?_eq_some_iff.1 hn
        have hx' : str ns[j] = x := by simpa using hx
        subst hx'
        rw [hcell j (by rw [NV_len]; exact hj), NV_get ns j hj]) hb (by rw [List.length_map]; omega) (by rw [List.length_map]; exact hc) (by
          rw [map_str]
          have := join_le 64 c ns h
          show (Go.Lib.join ns [c]).length ≤ _
          have : (64 + 1) * ns.length ≤ 65 * 1000 := Nat.mul_le_mul_left _ hl
          omega)
    rw [map_str, List.length_map] at this
    exact this
  · obtain rfl : ns = [] := List.eq_nil_of_length_eq_zero (by omega)
    refine (Tryd.strings_Join_none A cap ⟨#[c]⟩ w).mono ?_
    rintro e w' ⟨rfl, rfl⟩
    exact ⟨by rw [show Go.Lib.join [] [c] = [] from rfl]; rfl, Below.refl _ _⟩
/-- A call that answers a text, and makes memory. -/
def TP (w : World) (t : List UInt8) (e : Ending) (w' : World) : Prop := e = .returned (.string (str t)) ∧ Below w.heap.size w w'
theorem TP.mk' {w w' : World} {t : List UInt8} {S : ByteArray} {e : Ending} (he : e = .returned (.string S)) (hS : str t = S) (hb : Below w.heap.size w w') : TP w t e w' := ⟨by rw [hS]; exact he, hb⟩
theorem itoa_any (n : Int) (w : World) (hT : Tab w) (h0 : 0 ≤ n) (hn : n ≤ 999999) : Calls Tryd.prog 21 #[.int .i64 n] w (TP w (num n)) := by
  refine (Tryd.strconv_Itoa n (by omega) (by omega) w hT).mono ?_
  rintro e w' ⟨rfl, k, os, rfl⟩
  refine ⟨?_, below_grow w k os⟩
  rw [show Lib.itoa n = num n from if_neg (by omega)]
  rfl
theorem pieceT_len {l : List Int} {k : Nat} (h0 : 0 ≤ l.getD 0 0 ∧ l.getD 0 0 ≤ 999999) (h1 : 0 ≤ l.getD (k - 1) 0 ∧ l.getD (k - 1) 0 ≤ 999999) (h2 : k ≠ 1 → 1 ≤ stepOf l ∧ stepOf l ≤ 999999) : (pieceT l k).length ≤ 64 := by
  have a := (num_facts h0.1 h0.2).2.2.2
  have b := (num_facts h1.1 h1.2).2.2.2
  unfold pieceT
  rw [List.length_append]
  by_cases h : k = 1
  · rw [if_pos h, List.length_nil]; omega
  · rw [if_neg h]
    have c := (num_facts (n := stepOf l) (by have := h2 h; omega) (h2 h).2).2.2.2
    rw [List.length_cons, List.length_append]
    split
    · rw [List.length_nil]; omega
    · rw [List.length_cons]; omega
set_option maxRecDepth 100000 in
set_option maxHeartbeats 4000000 in
theorem join_one (l : List Int) (A : Option Addr) (cap : Nat) (w : World) (hT : Tab w) (hs : Ints w w.heap.size A l) (hl : 0 < l.length) (h0 : 0 ≤ l.getD 0 0 ∧ l.getD 0 0 ≤ 999999) :
    Calls Tryd.prog 19 #[.slice A 1 cap] w (TP w (pieceT l 1)) := by
  obtain ⟨b, o, rfl, hb, hcell⟩ := cells_of hs hl
  have a0 := hcell 0 hl
  rw [Nat.add_zero] at a0
  have hE := fhid (show pieceT l 1 = num (l.getD 0 0) by unfold pieceT; rw [if_pos rfl, List.append_nil])
  clear hcell hs
  generalize l.getD 0 0 = x0 at *
  have hit := fun W (hW : Below w.heap.size w W) => itoa_any x0 W (tab_below hT hW) h0.1 h0.2
  have e1 : (x0 == x0) = true := by simp
  replace hT := fhid hT
  unfold TP at hit
  obtain ⟨S, hS⟩ : ∃ S, str (num x0) = S := ⟨_, rfl⟩
  rw [hS] at hit
  replace hS := fhid hS
  have b0 : Below w.heap.size w w := Below.refl _ _
  go_enter Tryd.func19, Tryd.ntmps19
  go_wp2_with fail
  go_quiet (fail)
  have g0 := below_drewN b0 nq
  generalize w.drewN nq = W at *
  clear a0
  go_wp2_with (go_at_call 21; (with_reducible refine (hit _ g0).mono ?_); rintro e w1 ⟨rfl, b1⟩)
  go_ret
  exact TP.mk' rfl (by rw [hE.out, hS.out]) (g0.trans (b1.mono g0.size))
set_option maxRecDepth 100000 in
set_option maxHeartbeats 4000000 in
theorem join_more (l : List Int) (k : Nat) (A : Option Addr) (cap : Nat) (w : World) (hT : Tab w) (hs : Ints w w.heap.size A l) (hk2 : 2 ≤ k) (hk : k ≤ l.length) (hk1 : k ≤ 1000) (hx : ∀ j, j < l.length → 0 ≤ l.getD j 0 ∧ l.getD j 0 ≤ 999999) (hlt : l.getD 0 0 < l.getD (k - 1) 0) (hst : 1 ≤ stepOf l) :
    Calls Tryd.prog 19 #[.slice A k cap] w (TP w (pieceT l k)) := by
  obtain ⟨b, o, rfl, hb, hcell⟩ := cells_of hs (by omega)
  have a0 := hcell 0 (by omega)
  have a1 := hcell 1 (by omega)
  have ak := hcell (k - 1) (by omega)
  rw [Nat.add_zero] at a0
  have x0b := hx 0 (by omega)
  have x1b := hx 1 (by omega)
  have xkb := hx (k - 1) (by omega)
  have hst' : stepOf l = l.getD 1 0 - l.getD 0 0 := rfl
  have hE := fhid (show pieceT l k = num (l.getD 0 0) ++ 45 :: (num (l.getD (k - 1) 0) ++ if stepOf l = 1 then [] else 58 :: num (stepOf l)) by unfold pieceT; rw [if_neg (by omega)])
  clear hcell hs hx
  rw [hst'] at hE hst
  clear hst'
  generalize l.getD 0 0 = x0 at *
  generalize l.getD 1 0 = x1 at *
  generalize l.getD (k - 1) 0 = xk at *
  have hit := fun n W (hW : Below w.heap.size w W) => itoa_any n W (tab_below hT hW)
  have i1 := hit x0
  have i2 := hit xk
  have i3 := hit (x1 - x0)
  clear hit
  have n0 := (num_facts x0b.1 x0b.2).2.2.2
  have nk := (num_facts xkb.1 xkb.2).2.2.2
  have n3 := (num_facts (n := x1 - x0) (by omega) (by omega)).2.2.2
  have q1 : str (num x0) ++ ⟨#[45]⟩ = str (num x0 ++ [45]) := str_app _ [45]
  have q2 : str (num x0 ++ [45]) ++ str (num xk) = str (num x0 ++ [45] ++ num xk) := str_app _ _
  have q3 : ⟨#[58]⟩ ++ str (num (x1 - x0)) = str (58 :: num (x1 - x0)) := str_app [58] _
  have q4 : str (num x0 ++ [45] ++ num xk) ++ str (58 :: num (x1 - x0)) = str (num x0 ++ [45] ++ num xk ++ 58 :: num (x1 - x0)) := str_app _ _
  have z1 : (str (num x0)).size ≤ 6 := by rw [str_size]; omega
  have z2 : (str (num x0 ++ [45])).size ≤ 7 := by rw [str_size, List.length_append, List.length_singleton]; omega
  have z3 : (str (num x0 ++ [45] ++ num xk)).size ≤ 13 := by rw [str_size, List.length_append, List.length_append, List.length_singleton]; omega
  have z4 : (str (num xk)).size ≤ 6 := by rw [str_size]; omega
  have z5 : (str (num (x1 - x0))).size ≤ 6 := by rw [str_size]; omega
  have z6 : (str (58 :: num (x1 - x0))).size ≤ 7 := by rw [str_size, List.length_cons]; omega
  have e1 : pieceT l k = num x0 ++ [45] ++ num xk ++ (if x1 - x0 = 1 then [] else 58 :: num (x1 - x0)) := by rw [hE.out]; simp
  clear hE
  unfold TP at i1 i2 i3
  by_cases h1 : x1 - x0 = 1
  · rw [if_pos h1, List.append_nil] at e1
    have e2 := fhid (show str (pieceT l k) = str (num x0 ++ [45] ++ num xk) by rw [e1])
    clear e1 i3 n3 q3 q4 z5 z6 n0 nk
    generalize str (num x0 ++ [45] ++ num xk) = Q2 at *
    generalize str (num x0 ++ [45]) = Q1 at *
    generalize str (num x0) = S0 at *
    generalize str (num xk) = SK at *
    have j1 : ¬ 9223372036854775807 < S0.size + 1 := by omega
    have j2 : ¬ 9223372036854775807 < Q1.size + SK.size := by omega
    have f1 : (x0 == xk) = false := beq_eq_false_iff_ne.2 (by omega)
    have f2 : (x1 - x0 != 1) = false := by rw [h1]; rfl
    have k0 : (0 : Int) < k := by omega
    have k1 : (1 : Int) < k := by omega
    have k3 : (0 : Int) ≤ (k : Int) - 1 := by omega
    have k4 : (k : Int) - 1 < k := by omega
    have k5 : ((k : Int) - 1).toNat = k - 1 := by omega
    have k6 : IntKind.i64.wrap ((k : Int) - 1) = (k : Int) - 1 := IntWalk.i64_in _ (by omega)
    have b0 : Below w.heap.size w w := Below.refl _ _
    have ha1 := fun W (h : Below w.heap.size w W) => (h.cell (p := ⟨b, o + 1, none⟩) hb).trans a1
    have hi1 := fun W (h : Below w.heap.size w W) => i1 W h x0b.1 x0b.2
    have hi2 := fun W (h : Below w.heap.size w W) => i2 W h xkb.1 xkb.2
    clear z1 z2 z3 z4 i1 i2
    replace h1 := fhid h1
    replace hT := fhid hT
    replace q1 := fhid q1
    replace q2 := fhid q2
    replace ha1 := fhid ha1
    go_enter Tryd.func19, Tryd.ntmps19
    go_wp2_with fail
    go_quiet (fail)
    have g0 := below_drewN b0 nq
    generalize w.drewN nq = W at *
    clear a0 a1 ak k6
    replace q1 := q1.out
    replace q2 := q2.out
    go_wp2_with (first
      | (go_at_call 21; (with_reducible refine (hi1 _ g0).mono ?_); rintro e w1 ⟨rfl, b1⟩; have g1 := g0.trans (b1.mono g0.size))
      | (go_at_call 21; (with_reducible refine (hi2 _ g1).mono ?_); rintro e w2 ⟨rfl, b2⟩; have g2 := g1.trans (b2.mono g1.size); have a1 := ha1.out _ g2))
    go_ret
    exact TP.mk' rfl e2.out g2
  · rw [if_neg h1] at e1
    have e2 := fhid (show str (pieceT l k) = str (num x0 ++ [45] ++ num xk ++ 58 :: num (x1 - x0)) by rw [e1])
    clear e1 n3 n0 nk
    generalize str (num x0 ++ [45] ++ num xk ++ 58 :: num (x1 - x0)) = Q4 at *
    generalize str (num x0 ++ [45] ++ num xk) = Q2 at *
    generalize str (num x0 ++ [45]) = Q1 at *
    generalize str (num x0) = S0 at *
    generalize str (num xk) = SK at *
    generalize str (58 :: num (x1 - x0)) = Q3 at *
    generalize str (num (x1 - x0)) = S3 at *
    have j1 : ¬ 9223372036854775807 < S0.size + 1 := by omega
    have j2 : ¬ 9223372036854775807 < Q1.size + SK.size := by omega
    have j3 : ¬ 9223372036854775807 < 1 + S3.size := by omega
    have j4 : ¬ 9223372036854775807 < Q2.size + Q3.size := by omega
    have f1 : (x0 == xk) = false := beq_eq_false_iff_ne.2 (by omega)
    have f2 : (x1 - x0 != 1) = true := bne_iff_ne.2 h1
    have k0 : (0 : Int) < k := by omega
    have k1 : (1 : Int) < k := by omega
    have k3 : (0 : Int) ≤ (k : Int) - 1 := by omega
    have k4 : (k : Int) - 1 < k := by omega
    have k5 : ((k : Int) - 1).toNat = k - 1 := by omega
    have k6 : IntKind.i64.wrap ((k : Int) - 1) = (k : Int) - 1 := IntWalk.i64_in _ (by omega)
    have b0 : Below w.heap.size w w := Below.refl _ _
    have ha1 := fun W (h : Below w.heap.size w W) => (h.cell (p := ⟨b, o + 1, none⟩) hb).trans a1
    have hi1 := fun W (h : Below w.heap.size w W) => i1 W h x0b.1 x0b.2
    have hi2 := fun W (h : Below w.heap.size w W) => i2 W h xkb.1 xkb.2
    have hi3 := fun W (h : Below w.heap.size w W) => i3 W h (by omega) (by omega)
    clear z1 z2 z3 z4 z5 z6 i1 i2 i3
    replace h1 := fhid h1
    replace hT := fhid hT
    replace q1 := fhid q1
    replace q2 := fhid q2
    replace q3 := fhid q3
    replace q4 := fhid q4
    replace ha1 := fhid ha1
    go_enter Tryd.func19, Tryd.ntmps19
    go_wp2_with fail
    go_quiet (fail)
    have g0 := below_drewN b0 nq
    generalize w.drewN nq = W at *
    clear a0 a1 ak k6
    replace q1 := q1.out
    replace q2 := q2.out
    replace q3 := q3.out
    replace q4 := q4.out
    go_wp2_with (first
      | (go_at_call 21; (with_reducible refine (hi1 _ g0).mono ?_); rintro e w1 ⟨rfl, b1⟩; have g1 := g0.trans (b1.mono g0.size))
      | (go_at_call 21; (with_reducible refine (hi2 _ g1).mono ?_); rintro e w2 ⟨rfl, b2⟩; have g2 := g1.trans (b2.mono g1.size); have a1 := ha1.out _ g2)
      | (go_at_call 21; (with_reducible refine (hi3 _ g2).mono ?_); rintro e w3 ⟨rfl, b3⟩; have g3 := g2.trans (b3.mono g2.size)))
    go_ret
    exact TP.mk' rfl e2.out g3
end Go.Proofs.YtlcbppflpadhaaaDoor
