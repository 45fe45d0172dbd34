/-
  The region of BitsParts that makes both sets: one goal an operation.
-/
import Derived.Test.YtffmcfhanmonkaaDoorInv
import Derived.Test.YtffmcfhanmonkaaDoorMerge
namespace Go.Proofs.YtffmcfhanmonkaaDoor
open Go.RowKit

abbrev pop0 : Oper := { dst := some 7, op := Op.load 26 (Operand.tmp 2), type := 26, pos := "law.go:55", after := #[], guard := none }
abbrev pop1 : Oper := { dst := some 8, op := Op.load 26 (Operand.tmp 3), type := 26, pos := "law.go:55", after := #[], guard := none }
abbrev pop2 : Oper := { dst := some 9, op := Op.call { callee := Callee.value (Operand.func 17), args := #[Operand.tmp 7, Operand.tmp 8], argTypes := #[26, 26] }, type := 26, pos := "law.go:55", after := #[{ on := 0, ground := Ground.data }, { on := 1, ground := Ground.data }], guard := none }
abbrev pop3 : Oper := { dst := some 10, op := Op.load 26 (Operand.tmp 2), type := 26, pos := "law.go:55", after := #[], guard := none }
abbrev pop4 : Oper := { dst := some 11, op := Op.load 26 (Operand.tmp 3), type := 26, pos := "law.go:55", after := #[], guard := none }
abbrev pop5 : Oper := { dst := some 12, op := Op.call { callee := Callee.value (Operand.func 21), args := #[Operand.tmp 10, Operand.tmp 11], argTypes := #[26, 26] }, type := 26, pos := "law.go:55", after := #[{ on := 3, ground := Ground.data }, { on := 4, ground := Ground.data }, { on := 2, ground := Ground.chain }], guard := none }
abbrev pop6 : Oper := { dst := some 5, op := Op.alloc 26, type := 0, pos := "law.go:55", after := #[], guard := none }
abbrev pop7 : Oper := { dst := some 6, op := Op.alloc 26, type := 0, pos := "law.go:55", after := #[], guard := none }
abbrev pop8 : Oper := { dst := none, op := Op.store 26 (Operand.tmp 5) (Operand.tmp 9), type := 0, pos := "law.go:55", after := #[{ on := 6, ground := Ground.data }, { on := 2, ground := Ground.data }, { on := 5, ground := Ground.chain }, { on := 0, ground := Ground.phase }, { on := 1, ground := Ground.phase }, { on := 2, ground := Ground.phase }, { on := 3, ground := Ground.textOnly Departure.lateStores }, { on := 4, ground := Ground.textOnly Departure.lateStores }, { on := 5, ground := Ground.textOnly Departure.lateStoresUnsure }, { on := 6, ground := Ground.phase }, { on := 7, ground := Ground.phase }], guard := none }
abbrev pop9 : Oper := { dst := none, op := Op.store 26 (Operand.tmp 6) (Operand.tmp 12), type := 0, pos := "law.go:55", after := #[{ on := 7, ground := Ground.data }, { on := 5, ground := Ground.data }, { on := 8, ground := Ground.chain }, { on := 0, ground := Ground.phase }, { on := 1, ground := Ground.phase }, { on := 2, ground := Ground.phase }, { on := 3, ground := Ground.phase }, { on := 4, ground := Ground.phase }, { on := 5, ground := Ground.phase }, { on := 6, ground := Ground.phase }, { on := 7, ground := Ground.phase }, { on := 8, ground := Ground.phase }], guard := none }
abbrev popsP : Array Oper := #[pop0, pop1, pop2, pop3, pop4, pop5, pop6, pop7, pop8, pop9]
abbrev pfr (v0 v1 v4 : Value) (g : Nat) (x5 x6 y7 y8 y9 y10 y11 y12 : Value) : Act := { tmps := #[v0, v1, .pointer (some ⟨g, 0, none⟩), .pointer (some ⟨g + 1, 0, none⟩), v4, x5, x6, y7, y8, y9, y10, y11, y12, undef, undef, undef, undef, undef, undef, undef, undef, undef, undef, undef, undef, undef, undef, undef, undef, undef, undef, undef, undef, undef, undef, undef, undef, undef, undef, undef, undef, undef, undef, undef, undef, undef, undef, undef, undef, undef, undef, undef, undef], defers := [] }
/-- A block made meanwhile: p if it was stored, else nothing. -/
def Made (w : World) (v : Value) (w' : World) (c : Bool) (p : Nat → Bool) : Prop := ∃ b, v = .pointer (some ⟨b, 0, none⟩) ∧ w.heap.size + 1 < b ∧ Blk w' b (if c = true then p else fun _ => false)
theorem Made.on {w w1 w2 : World} {v : Value} {c : Bool} {p : Nat → Bool} (h : Made w v w1 c p) (hx : Below w1.heap.size w1 w2) : Made w v w2 c p := by
  obtain ⟨b, h1, h2, h3⟩ := h
  exact ⟨b, h1, h2, h3.on hx⟩
theorem Made.old {w w1 : World} {v : Value} {c : Bool} {p : Nat → Bool} (h : Made w v w1 c p) (o : Obj) : Made w v (w1.alloc o) c p := by
  obtain ⟨b, h1, h2, h3⟩ := h
  exact ⟨b, h1, h2, h3.old o⟩
structure PJ (w : World) (p q s t : Nat → Bool) (f : Nat → Bool) (x5 x6 y7 y8 y9 y10 y11 y12 : Value) (w' : World) : Prop where
  held : Held w [(w.heap.size, p), (w.heap.size + 1, q)] w'
  j0 : f 0 = true → y7 = nodes p
  j1 : f 1 = true → y8 = nodes q
  j2 : f 2 = true → y9 = nodes s
  j3 : f 3 = true → y10 = nodes p
  j4 : f 4 = true → y11 = nodes q
  j5 : f 5 = true → y12 = nodes t
  m6 : f 6 = true → Made w x5 w' (f 8) s
  m7 : f 7 = true → Made w x6 w' (f 9) t
  m8 : f 8 = true → f 6 = true
  m9 : f 9 = true → f 7 = true
  ne : f 6 = true → f 7 = true → x5 ≠ x6

theorem PJ.on {w w1 w2 : World} {p q s t f : Nat → Bool} {x5 x6 y7 y8 y9 y10 y11 y12 : Value} (h : PJ w p q s t f x5 x6 y7 y8 y9 y10 y11 y12 w1) (hx : Below w1.heap.size w1 w2) :
    PJ w p q s t f x5 x6 y7 y8 y9 y10 y11 y12 w2 :=
  { h with held := h.held.on hx, m6 := fun g => (h.m6 g).on hx, m7 := fun g => (h.m7 g).on hx }
theorem PJ.old {w w1 : World} {p q s t f : Nat → Bool} {x5 x6 y7 y8 y9 y10 y11 y12 : Value} (h : PJ w p q s t f x5 x6 y7 y8 y9 y10 y11 y12 w1) (o : Obj) :
    PJ w p q s t f x5 x6 y7 y8 y9 y10 y11 y12 (w1.alloc o) :=
  { h with held := h.held.alloc o, m6 := fun g => (h.m6 g).old o, m7 := fun g => (h.m7 g).old o }
theorem ptr_inj {b c : Nat} (h : Value.pointer (some ⟨b, 0, none⟩) = .pointer (some ⟨c, 0, none⟩)) : b = c := by
  injection h with h
  injection h with h
  injection h
theorem Made.ne {w w1 : World} {v : Value} {c : Bool} {p : Nat → Bool} (h : Made w v w1 c p) : Value.pointer (some ⟨w1.heap.size, 0, none⟩) ≠ v := by
  obtain ⟨b, rfl, _, h3⟩ := h
  intro e
  have := ptr_inj e
  have := h3.lt
  omega
theorem PJ.lt {w w1 : World} {p q s t f : Nat → Bool} {x5 x6 y7 y8 y9 y10 y11 y12 : Value} (h : PJ w p q s t f x5 x6 y7 y8 y9 y10 y11 y12 w1) : w.heap.size + 1 < w1.heap.size := h.held.tail.head.lt
theorem Held.put4 {w w1 : World} {p q : Nat → Bool} {b : Nat} (h : Held w [(w.heap.size, p), (w.heap.size + 1, q)] w1) (hb : w.heap.size + 1 < b) (t : Nat → Bool) :
    Held w [(w.heap.size, p), (w.heap.size + 1, q)] ((((w1.setCell ⟨b, 0, none⟩ (.int .u64 (word t 0))).setCell ⟨b, 1, none⟩ (.int .u64 (word t 1))).setCell ⟨b, 2, none⟩ (.int .u64 (word t 2))).setCell ⟨b, 3, none⟩ (.int .u64 (word t 3))) :=
  Held.cons (h.head.others (show w.heap.size ≠ b by omega) _ _ _ _) (Held.one (h.tail.head.others (show w.heap.size + 1 ≠ b by omega) _ _ _ _) (below_stores h.2 (by omega) _ _ _ _))
theorem PJ.store5 {w w1 : World} {p q s t f : Nat → Bool} {b : Nat} {x6 y7 y8 y9 y10 y11 y12 : Value} (h : PJ w p q s t f (.pointer (some ⟨b, 0, none⟩)) x6 y7 y8 y9 y10 y11 y12 w1) (g : f 6 = true) :
    PJ w p q s t (fun k => (k == 8 || f k)) (.pointer (some ⟨b, 0, none⟩)) x6 y7 y8 y9 y10 y11 y12 ((((w1.setCell ⟨b, 0, none⟩ (.int .u64 (word s 0))).setCell ⟨b, 1, none⟩ (.int .u64 (word s 1))).setCell ⟨b, 2, none⟩ (.int .u64 (word s 2))).setCell ⟨b, 3, none⟩ (.int .u64 (word s 3))) := by
  obtain ⟨b', e, hb, hB⟩ := h.m6 g
  obtain rfl := ptr_inj e
  refine { h with held := h.held.put4 hb s, m6 := fun _ => ⟨b, rfl, hb, ?_⟩, m7 := fun g7 => ?_, m8 := fun _ => g }
  · exact hB.stores s
  · obtain ⟨c, e2, hc, hC⟩ := h.m7 g7
    have hne := h.ne g g7
    exact ⟨c, e2, hc, hC.others (fun e3 => hne (by rw [e2, e3])) _ _ _ _⟩
theorem PJ.store6 {w w1 : World} {p q s t f : Nat → Bool} {c : Nat} {x5 y7 y8 y9 y10 y11 y12 : Value} (h : PJ w p q s t f x5 (.pointer (some ⟨c, 0, none⟩)) y7 y8 y9 y10 y11 y12 w1) (g : f 7 = true) :
    PJ w p q s t (fun k => (k == 9 || f k)) x5 (.pointer (some ⟨c, 0, none⟩)) y7 y8 y9 y10 y11 y12 ((((w1.setCell ⟨c, 0, none⟩ (.int .u64 (word t 0))).setCell ⟨c, 1, none⟩ (.int .u64 (word t 1))).setCell ⟨c, 2, none⟩ (.int .u64 (word t 2))).setCell ⟨c, 3, none⟩ (.int .u64 (word t 3))) := by
  obtain ⟨c', e, hc, hC⟩ := h.m7 g
  obtain rfl := ptr_inj e
  refine { h with held := h.held.put4 hc t, m7 := fun _ => ⟨c, rfl, hc, ?_⟩, m6 := fun g6 => ?_, m9 := fun _ => g }
  · obtain ⟨b, e2, hb, hB⟩ := h.m6 g6
    have hne := h.ne g6 g
    exact ⟨b, e2, hb, hB.others (fun e3 => hne (by rw [e2, e3])) _ _ _ _⟩
  · exact hC.stores t

set_option maxRecDepth 100000 in
set_option maxHeartbeats 2000000 in
theorem parts_region (p q s t : Nat → Bool) (w w0 : World) (Q : Exit → Act → World → Prop) {v0 v1 v4 x5 x6 y7 y8 y9 y10 y11 y12 : Value}
    (hs : nodes (fun j => p j && q j) = nodes s) (ht : nodes (fun j => p j && !q j) = nodes t)
    (h0 : Held w [(w.heap.size, p), (w.heap.size + 1, q)] w0)
    (fin : ∀ b c y7 y8 y9 y10 y11 y12 w', Held w [(b, s), (c, t), (w.heap.size, p), (w.heap.size + 1, q)] w' → Q .normal (pfr v0 v1 v4 w.heap.size (.pointer (some ⟨b, 0, none⟩)) (.pointer (some ⟨c, 0, none⟩)) y7 y8 y9 y10 y11 y12) w') :
    (Code.region 1 popsP true).wp Tryd.prog Q (pfr v0 v1 v4 w.heap.size x5 x6 y7 y8 y9 y10 y11 y12) w0 := by
  refine region_upto (by kernel_rfl) (fun f a w' => ∃ x5 x6 y7 y8 y9 y10 y11 y12, a = pfr v0 v1 v4 w.heap.size x5 x6 y7 y8 y9 y10 y11 y12 ∧ PJ w p q s t f x5 x6 y7 y8 y9 y10 y11 y12 w') ?_ ?_ ?_
  · exact ⟨_, _, _, _, _, _, _, _, rfl, ⟨h0.drew, nofun, nofun, nofun, nofun, nofun, nofun, nofun, nofun, nofun, nofun, nofun⟩⟩
  · rintro f a w1 i o ⟨x5, x6, y7, y8, y9, y10, y11, y12, rfl, h⟩ hu ho hall
    have hi : i < 10 := (Array.getElem?_eq_some_iff.1 ho).1
    have hi' : i = 0 ∨ i = 1 ∨ i = 2 ∨ i = 3 ∨ i = 4 ∨ i = 5 ∨ i = 6 ∨ i = 7 ∨ i = 8 ∨ i = 9 := by omega
    obtain ⟨a0, a1, a2, a3⟩ := h.held.head.four
    obtain ⟨b0, b1, b2, b3⟩ := h.held.tail.head.four
    have k := hid h
    clear h h0 fin
    rcases hi' with rfl | rfl | rfl | rfl | rfl | rfl | rfl | rfl | rfl | rfl
    · refine wpOp_of (o := pop0) rfl rfl (wp_hide fun K hK => ?_)
      go_wp2
      exact hK.out.out _ _ ⟨_, _, _, _, _, _, _, _, rfl, { k.out with j0 := fun _ => rfl }⟩
    · refine wpOp_of (o := pop1) rfl rfl (wp_hide fun K hK => ?_)
      go_wp2
      exact hK.out.out _ _ ⟨_, _, _, _, _, _, _, _, rfl, { k.out with j1 := fun _ => rfl }⟩
    · obtain rfl : pop2 = o := Option.some.inj ho
      have e7 := k.out.j0 (hall _ (Array.mem_of_getElem? (i := 0) rfl) rfl)
      have e8 := k.out.j1 (hall _ (Array.mem_of_getElem? (i := 1) rfl) rfl)
      subst e7 e8
      clear ho hall
      refine wpOp_of (o := pop2) rfl rfl (wp_hide fun K hK => ?_)
      go_wp2_with (go_at_call 17; (with_reducible refine (op_and p q _).mono ?_); rintro e w2 ⟨rfl, hx⟩; rw [hs])
      exact hK.out.out _ _ ⟨_, _, _, _, _, _, _, _, rfl, { k.out.on hx with j2 := fun _ => rfl }⟩
    · refine wpOp_of (o := pop3) rfl rfl (wp_hide fun K hK => ?_)
      go_wp2
      exact hK.out.out _ _ ⟨_, _, _, _, _, _, _, _, rfl, { k.out with j3 := fun _ => rfl }⟩
    · refine wpOp_of (o := pop4) rfl rfl (wp_hide fun K hK => ?_)
      go_wp2
      exact hK.out.out _ _ ⟨_, _, _, _, _, _, _, _, rfl, { k.out with j4 := fun _ => rfl }⟩
    · obtain rfl : pop5 = o := Option.some.inj ho
      have e7 := k.out.j3 (hall _ (Array.mem_of_getElem? (i := 0) rfl) rfl)
      have e8 := k.out.j4 (hall _ (Array.mem_of_getElem? (i := 1) rfl) rfl)
      subst e7 e8
      clear ho hall
      refine wpOp_of (o := pop5) rfl rfl (wp_hide fun K hK => ?_)
      go_wp2_with (go_at_call 21; (with_reducible refine (op_not p q _).mono ?_); rintro e w2 ⟨rfl, hx⟩; rw [ht])
      exact hK.out.out _ _ ⟨_, _, _, _, _, _, _, _, rfl, { k.out.on hx with j5 := fun _ => rfl }⟩
    · refine wpOp_of (o := pop6) rfl rfl (wp_hide fun K hK => ?_)
      go_wp2
      have f8 : ¬ f 8 = true := fun e => by rw [k.out.m8 e] at hu; cases hu
      refine hK.out.out _ _ ⟨_, _, _, _, _, _, _, _, rfl, { k.out.old _ with m6 := fun _ => ⟨_, rfl, k.out.lt, ?_⟩, m8 := fun _ => rfl, ne := fun _ g => (k.out.m7 g).ne }⟩
      show Blk _ _ (if f 8 = true then s else _)
      rw [if_neg f8]
      exact Blk.zero w1
    · refine wpOp_of (o := pop7) rfl rfl (wp_hide fun K hK => ?_)
      go_wp2
      have f9 : ¬ f 9 = true := fun e => by rw [k.out.m9 e] at hu; cases hu
      refine hK.out.out _ _ ⟨_, _, _, _, _, _, _, _, rfl, { k.out.old _ with m7 := fun _ => ⟨_, rfl, k.out.lt, ?_⟩, m9 := fun _ => rfl, ne := fun g _ => (k.out.m6 g).ne.symm }⟩
      show Blk _ _ (if f 9 = true then t else _)
      rw [if_neg f9]
      exact Blk.zero w1
    · obtain rfl : pop8 = o := Option.some.inj ho
      have g6 := hall _ (Array.mem_of_getElem? (i := 0) rfl) rfl
      have e9 := k.out.j2 (hall _ (Array.mem_of_getElem? (i := 1) rfl) rfl)
      obtain ⟨b, e5, hb, hB⟩ := k.out.m6 g6
      subst e9 e5
      clear ho hall
      obtain ⟨c0, c1, c2, c3⟩ := hB.four
      obtain ⟨d0, d1, d2, d3⟩ := hB.frees
      have kk := hid (k.out.store5 g6)
      clear hB a0 a1 a2 a3 b0 b1 b2 b3
      refine wpOp_of (o := pop8) rfl rfl (wp_hide fun K hK => ?_)
      go_wp2
      exact hK.out.out _ _ ⟨_, _, _, _, _, _, _, _, rfl, kk.out⟩
    · obtain rfl : pop9 = o := Option.some.inj ho
      have g7 := hall _ (Array.mem_of_getElem? (i := 0) rfl) rfl
      have e12 := k.out.j5 (hall _ (Array.mem_of_getElem? (i := 1) rfl) rfl)
      obtain ⟨c, e6, hc, hC⟩ := k.out.m7 g7
      subst e12 e6
      clear ho hall
      obtain ⟨c0, c1, c2, c3⟩ := hC.four
      obtain ⟨d0, d1, d2, d3⟩ := hC.frees
      have kk := hid (k.out.store6 g7)
      clear hC a0 a1 a2 a3 b0 b1 b2 b3
      refine wpOp_of (o := pop9) rfl rfl (wp_hide fun K hK => ?_)
      go_wp2
      exact hK.out.out _ _ ⟨_, _, _, _, _, _, _, _, rfl, kk.out⟩
  · rintro f a w1 ⟨x5, x6, y7, y8, y9, y10, y11, y12, rfl, h⟩ hall
    have g0 := hall 0 pop0 rfl (by simp)
    have g1 := hall 1 pop1 rfl (by simp)
    have g2 := hall 2 pop2 rfl (by simp [g0, g1])
    have g3 := hall 3 pop3 rfl (by simp)
    have g4 := hall 4 pop4 rfl (by simp)
    have g5 := hall 5 pop5 rfl (by simp [g2, g3, g4])
    have g6 := hall 6 pop6 rfl (by simp)
    have g7 := hall 7 pop7 rfl (by simp)
    have g8 := hall 8 pop8 rfl (by simp [g0, g1, g2, g3, g4, g5, g6, g7])
    have g9 := hall 9 pop9 rfl (by simp [g0, g1, g2, g3, g4, g5, g6, g7, g8])
    obtain ⟨b, rfl, _, hB⟩ := h.m6 g6
    obtain ⟨c, rfl, _, hC⟩ := h.m7 g7
    rw [if_pos g8] at hB
    rw [if_pos g9] at hC
    exact fin b c _ _ _ _ _ _ w1 (Held.cons hB (Held.cons hC h.held))
end Go.Proofs.YtffmcfhanmonkaaDoor
