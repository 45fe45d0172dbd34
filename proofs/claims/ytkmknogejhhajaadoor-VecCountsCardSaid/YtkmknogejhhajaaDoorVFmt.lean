/-
  A vector's text.
-/
import Derived.Test.YtkmknogejhhajaaDoorVApp
import Derived.Test.YtkmknogejhhajaaDoorVSum
import Derived.Lib.ItoaLen
namespace Go.Proofs.YtkmknogejhhajaaDoor
open Go.RowKit

theorem num_len (n : Int) (h : I64 n) : (num n).length ≤ 21 := Go.Lib.itoa_length_le n h.1 h.2
set_option maxRecDepth 100000 in
set_option maxHeartbeats 2000000 in
theorem appendPart_any (base : Nat) (v : Value) (ns : List (List UInt8)) (k : List UInt8) (K : ByteArray) (hK : K = str k) (n : Int) (w : World) (hw : Env w) (hn : I64 n) (hown : OwnS w base v ns) (hb : base ≤ w.heap.size) (hl : ns.length ≤ 10) (hk : k.length ≤ 10) :
    Calls Tryd.prog 41 #[v, .string K, .int .i64 n] w fun e w' => ∃ v', e = .returned v' ∧ OwnS w' base v' (ns ++ pcs k n) ∧ Below base w w' := by
  subst hK
  by_cases h0 : n = 0
  · subst h0
    have hE := fhid (show ns ++ pcs k 0 = ns by unfold pcs; rw [if_pos rfl, List.append_nil])
    replace hown := fhid hown
    clear hn
    go_enter Tryd.func41, Tryd.ntmps41
    go_wp2_with fail
    go_ret
    exact ⟨_, rfl, by rw [hE.out]; exact hown.out, Below.refl _ _⟩
  · have hE := fhid (show ns ++ pcs k n = ns ++ [pc k n] by unfold pcs; rw [if_neg h0])
    have hi := fun W (hW : Grew w W) => itoa_any n W (hw.grew hW) hn
    have hz : (n == 0) = false := by simpa using h0
    have hnl := num_len n hn
    have q1 : str k ++ ⟨#[61]⟩ = str (k ++ [61]) := str_app k [61]
    have q2 : str (k ++ [61]) ++ str (num n) = str (pc k n) := str_app _ _
    have s1 := str_size k
    have s2 := str_size (k ++ [61])
    have s3 := str_size (num n)
    rw [List.length_append, List.length_singleton] at s2
    have b1 : ¬ 9223372036854775807 < (str k).size + 1 := by omega
    have b2 : ¬ 9223372036854775807 < (str (k ++ [61])).size + (str (num n)).size := by omega
    clear s1 s2 s3 hnl
    generalize hQ : str (pc k n) = Q at *
    replace hQ := fhid hQ
    generalize str (k ++ [61]) = K1 at *
    generalize str (num n) = N1 at *
    generalize str k = K0 at *
    replace hown := fhid hown
    go_enter Tryd.func41, Tryd.ntmps41
    go_wp2_with (first
      | (go_at_call 52; (with_reducible refine (hi _ (Grew.refl w)).mono ?_); rintro e w1 ⟨rfl, g1⟩)
      | (at_builtin
         refine app_name rfl _ _ rfl base v ns (pc k n) Q hQ.out.symm _ rfl (hown.out.below g1.below) rfl _ (by first | rfl | simp) rfl (by omega) (Nat.le_trans hb g1.below.size) ?_
         intro v' w2 o2 r2 b2))
    go_ret
    exact ⟨_, rfl, by rw [hE.out]; exact o2, (g1.below.mono hb).trans b2⟩
theorem pcs_len (k : List UInt8) (n : Int) : (pcs k n).length ≤ 1 := by unfold pcs; split <;> simp
theorem pcs_each (k : List UInt8) (n : Int) (h : I64 n) (hk : k.length = 3) : ∀ x ∈ pcs k n, x.length ≤ 25 := by
  intro x hx
  unfold pcs at hx
  split at hx
  · simp at hx
  · have := num_len n h
    simp at hx
    subst hx
    unfold pc
    simp [hk]
    omega
theorem allPcs_facts (v : V3) (h1 : I64 v.1) (h2 : I64 v.2.1) (h3 : I64 v.2.2) : (allPcs v).length ≤ 3 ∧ ∀ x ∈ allPcs v, x.length ≤ 25 := by
  have a := pcs_len kCpu v.1
  have b := pcs_len kMem v.2.1
  have c := pcs_len kGpu v.2.2
  unfold allPcs
  refine ⟨by rw [List.length_append, List.length_append]; omega, fun x hx => ?_⟩
  rcases List.mem_append.1 hx with hx | hx
  · rcases List.mem_append.1 hx with hx | hx
    · exact pcs_each _ _ h1 rfl x hx
    · exact pcs_each _ _ h2 rfl x hx
  · exact pcs_each _ _ h3 rfl x hx
theorem joinTail_le (r : List (List UInt8)) (h : ∀ x ∈ r, x.length ≤ 25) : (Go.Lib.joinTail [44] r).length ≤ 26 * r.length := by
  induction r with
  | nil => simp [Go.Lib.joinTail]
  | cons x r ih =>
    have h1 := h x (by simp)
    have h2 := ih (fun y hy => h y (by simp [hy]))
    have e : Go.Lib.joinTail [44] (x :: r) = ([44] ++ x) ++ Go.Lib.joinTail [44] r := by simp [Go.Lib.joinTail]
    rw [e, List.length_append, List.length_append, List.length_cons, List.length_cons, List.length_nil]
    omega
theorem join_le (ns : List (List UInt8)) (hl : ns.length ≤ 3) (h : ∀ x ∈ ns, x.length ≤ 25) : (Go.Lib.join ns [44]).length ≤ 100 := by
  cases ns with
  | nil => decide
  | cons x r =>
    have h1 := h x (by simp)
    have h2 := joinTail_le r (fun y hy => h y (by simp [hy]))
    rw [Go.Lib.join_cons, List.length_append]
    rw [List.length_cons] at hl
    omega
theorem fmt_le (v : V3) (h1 : I64 v.1) (h2 : I64 v.2.1) (h3 : I64 v.2.2) : (fmt v).length ≤ 100 := by
  obtain ⟨a, b⟩ := allPcs_facts v h1 h2 h3
  unfold fmt
  split
  · decide
  · exact join_le _ a b
theorem map_str (ns : List (List UInt8)) : (ns.map str).map (fun x => x.data.toList) = ns := by
  induction ns with
  | nil => rfl
  | cons x r ih => simp [str] at ih ⊢; exact ih
/-- Names of the call's own, joined. -/
theorem join_any (base : Nat) (v : Value) (ns : List (List UInt8)) (w : World) (hown : OwnS w base v ns) (h0 : ns ≠ []) (hl : ns.length ≤ 3) (h : ∀ x ∈ ns, x.length ≤ 25) :
    Calls Tryd.prog 42 #[v, .string ⟨#[44]⟩] w fun e w' => e = .returned (.string (str (Go.Lib.join ns [44]))) ∧ Below w.heap.size w w' := by
  obtain ⟨A, cap, rfl, hc, _, hs⟩ := ownsRow_shape hown
  have hp : 0 < ns.length := List.length_pos_iff.2 h0
  obtain ⟨b, o, rfl, hb, hcell⟩ := hs (by rw [SV_len]; exact hp)
  have := Tryd.strings_Join b o cap (ns.map str) ⟨#[44]⟩ w (fun j x hx => by
    rw [List.getElem?_map] at hx
    cases hn : ns[j]? with
    | none => rw [hn] at hx; cases hx
    | some y =>
      rw [hn] at hx
      obtain ⟨hj, rfl⟩ := List.getElem?_eq_some_iff.1 hn
      have hx' : str ns[j] = x := by simpa using hx
      subst hx'
      rw [hcell j (by rw [SV_len]; exact hj), SV_get ns j hj]) hb (by rw [List.length_map]; omega) (by rw [List.length_map]; exact hc) (by
        rw [map_str]
        have := join_le ns hl h
        show (Go.Lib.join ns [44]).length ≤ _
        omega)
  rw [map_str, List.length_map] at this
  exact this
set_option maxRecDepth 100000 in
set_option maxHeartbeats 4000000 in
theorem Format_any (a b c : Int) (w : World) (hw : Env w) (ha : I64 a) (hb : I64 b) (hc : I64 c) :
    Calls Tryd.prog 27 #[vec a b c] w fun e w' => e = .returned (.string (str (fmt (a, b, c)))) ∧ Below w.heap.size w w' := by
  have hq := fun W => eql_vec a b c 0 0 0 W
  by_cases h0 : a = 0 ∧ b = 0 ∧ c = 0
  · rw [decide_eq_true h0] at hq
    have hE := fhid (show fmt (a, b, c) = noneT from if_pos h0)
    clear h0 ha hb hc
    go_enter Tryd.func27, Tryd.ntmps27
    go_wp2_with fail
    go_ret
    exact ⟨frets (by rw [hE.out]; rfl), (Below.refl _ _).alloc (Nat.le_refl _) _⟩
  · rw [decide_eq_false h0] at hq
    obtain ⟨f1, f2⟩ := allPcs_facts (a, b, c) ha hb hc
    have f3 : allPcs (a, b, c) ≠ [] := by
      unfold allPcs pcs
      simp
      by_cases h1 : a = 0
      · by_cases h2 : b = 0
        · simp [h1, h2]; intro h3; exact h0 ⟨h1, h2, h3⟩
        · simp [h1, h2]
      · simp [h1]
    have hE := fhid (show fmt (a, b, c) = Go.Lib.join (allPcs (a, b, c)) [44] from if_neg h0)
    have l1 := pcs_len kCpu a
    have l2 := pcs_len kMem b
    have ap1 := fun (v : Value) (base : Nat) (W : World) (hW : Env W) (o : OwnS W base v []) (h : base ≤ W.heap.size) => appendPart_any base v [] kCpu ⟨#[99, 112, 117]⟩ rfl a W hW ha o h (by simp) (by decide)
    have ap2 := fun (v : Value) (base : Nat) (W : World) (hW : Env W) (o : OwnS W base v ([] ++ pcs kCpu a)) (h : base ≤ W.heap.size) => appendPart_any base v ([] ++ pcs kCpu a) kMem ⟨#[109, 101, 109]⟩ rfl b W hW hb o h (by rw [List.nil_append]; omega) (by decide)
    have ap3 := fun (v : Value) (base : Nat) (W : World) (hW : Env W) (o : OwnS W base v ([] ++ pcs kCpu a ++ pcs kMem b)) (h : base ≤ W.heap.size) => appendPart_any base v ([] ++ pcs kCpu a ++ pcs kMem b) kGpu ⟨#[103, 112, 117]⟩ rfl c W hW hc o h (by rw [List.nil_append, List.length_append]; omega) (by decide)
    rw [show [] ++ pcs kCpu a ++ pcs kMem b ++ pcs kGpu c = allPcs (a, b, c) by rw [List.nil_append]; rfl] at ap3
    generalize allPcs (a, b, c) = L3 at *
    generalize [] ++ pcs kCpu a ++ pcs kMem b = L2 at *
    generalize [] ++ pcs kCpu a = L1 at *
    have jn := fun (v : Value) (base : Nat) (W : World) (o : OwnS W base v L3) => join_any base v L3 W o f3 f1 f2
    clear h0 ha hb hc l1 l2 f1 f2 f3
    generalize Go.Lib.join L3 [44] = J at *
    replace hw := fhid hw
    go_enter Tryd.func27, Tryd.ntmps27
    go_upto_region 1 with fail
    have hz := fhid (World.size_alloc w (.cells #[.int .i64 a, .int .i64 b, .int .i64 c] 23))
    have v1 := VB.new w a b c _ rfl
    have g1 := fhid ((Grew.refl w).alloc (.cells #[.int .i64 a, .int .i64 b, .int .i64 c] 23))
    generalize w.alloc _ = w1 at *
    have k1 := fhid v1
    obtain ⟨c0, c1, c2, _⟩ := v1.facts
    clear v1
    go_wp2_with (first
      | (go_at_call 41
         (with_reducible refine (ap1 _ w1.heap.size w1 (hw.out.grew g1.out) (OwnS.nil _ _) (Nat.le_refl _)).mono ?_); clear ap1
         rintro e w2 ⟨p2, rfl, o2, b2⟩
         have k2 := fhid (k1.out.on b2)
         clear c0 c1 c2
         obtain ⟨c0, c1, c2, _⟩ := k2.out.facts)
      | (go_at_call 41
         (with_reducible refine (ap2 _ w1.heap.size w2 ((hw.out.grew g1.out).below b2) o2 b2.size).mono ?_); clear ap2
         rintro e w3 ⟨p3, rfl, o3, b3⟩
         have y3 := b2.trans b3
         have k3 := fhid (k1.out.on y3)
         clear c0 c1 c2
         obtain ⟨c0, c1, c2, _⟩ := k3.out.facts)
      | (go_at_call 41
         (with_reducible refine (ap3 _ w1.heap.size w3 ((hw.out.grew g1.out).below y3) o3 y3.size).mono ?_); clear ap3
         rintro e w4 ⟨p4, rfl, o4, b4⟩
         have y4 := y3.trans b4)
      | (go_at_call 42
         (with_reducible refine (jn _ w1.heap.size w4 o4).mono ?_)
         rintro e w5 ⟨rfl, b5⟩))
    go_ret
    have y5 := y4.trans (b5.mono y4.size)
    exact ⟨frets (by rw [hE.out]), g1.out.below.trans (y5.mono (by have := hz.out; omega))⟩
end Go.Proofs.YtkmknogejhhajaaDoor
