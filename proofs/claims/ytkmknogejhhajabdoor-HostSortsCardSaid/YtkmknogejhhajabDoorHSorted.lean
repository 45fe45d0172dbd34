/-
  Names in order, by the program.
-/
import Derived.Test.YtkmknogejhhajabDoorHSortM
import Derived.Test.YtkmknogejhhajabDoorHJoin
import Derived.Test.YtkmknogejhhajabDoorSSort
import Derived.Lib.OwnBridge
import Derived.Lib.RowBridge
namespace Go.Proofs.YtkmknogejhhajabDoor
open Go.RowKit

/-- Names of at most 1000 bytes. -/
abbrev Nm := { x : List UInt8 // x.length ≤ 1000 }
instance : Inhabited Nm := ⟨⟨[], Nat.zero_le _⟩⟩
def encN (x : Nm) : Value := .string (str x.1)
def cfN (x y : Nm) : Int := cmpN x.1 y.1
theorem encN_one : OneCell encN := fun _ => rfl
theorem orderN : Sort.SWO (ltOf cfN) := ⟨fun x => names_order.irrefl x.1, fun x y z => names_order.trans x.1 y.1 z.1, fun x y z => names_order.ntrans x.1 y.1 z.1⟩
theorem lift_names (ns : List (List UInt8)) (hx : ∀ x ∈ ns, x.length ≤ 1000) : ∃ zs : List Nm, zs.map (fun z => z.1) = ns := by
  induction ns with
  | nil => exact ⟨[], rfl⟩
  | cons x r ih =>
    obtain ⟨zs, h⟩ := ih fun y hy => hx y (by simp [hy])
    exact ⟨⟨x, hx x (by simp)⟩ :: zs, by rw [List.map_cons, h]⟩
theorem SV_enc (zs : List Nm) : SV (zs.map fun z => z.1) = zs.map encN := by
  unfold SV
  rw [List.map_map]
  rfl
set_option maxRecDepth 100000 in
theorem insertion_none (p : Option Addr) (cap : Nat) (fv : Value) (w : World) :
    Calls Tryd.prog 32 #[.slice p 0 cap, .int .i64 0, .int .i64 0, fv] w fun e w' => e = .returned (.tuple #[]) ∧ w' = w := by
  go_enter Tryd.func32, Tryd.ntmps32
  go_wp2
  refine wp_loop_rounds 1 ?_
  rw [rounds_succ]
  go_wp2
  first | go_end0 | ((try simp only [Exit.inBlock, Exit.then]); refine bodyPost_ret (results_none rfl _ _ _) rfl ?_)
  exact ⟨rfl, rfl⟩
set_option maxRecDepth 100000 in
theorem pdq_none (p : Option Addr) (cap : Nat) (lim : Int) (fv : Value) (w : World) :
    Calls Tryd.prog 22 #[.slice p 0 cap, .int .i64 0, .int .i64 0, .int .i64 lim, fv] w fun e w' => e = .returned (.tuple #[]) ∧ w' = w := by
  have hi := fun W => insertion_none p cap fv W
  go_enter Tryd.func22, Tryd.ntmps22
  go_wp2
  refine wp_loop_rounds 1 ?_
  rw [rounds_succ]
  go_wp2_with (go_at_call 32; refine (hi _).mono ?_; rintro e w' ⟨rfl, rfl⟩)
  first | go_end0 | ((try simp only [Exit.inBlock, Exit.then]); refine bodyPost_ret (results_none rfl _ _ _) rfl ?_)
  exact ⟨rfl, rfl⟩
set_option maxRecDepth 100000 in
theorem sort_none (p : Option Addr) (cap : Nat) (fv : Value) (w : World) :
    Calls Tryd.prog 17 #[.slice p 0 cap, fv] w fun e w' => e = .returned (.tuple #[]) ∧ w' = w := by
  have hp := fun lim W => pdq_none p cap lim fv W
  have hl := fun W => Tryd.bits_Len 0 W (by omega) (by omega)
  go_enter Tryd.func17, Tryd.ntmps17
  go_wp2_with (first | (go_at_call 23; refine (hl _).mono ?_; rintro e w' ⟨rfl, rfl⟩) | (go_at_call 22; refine (hp _ _).mono ?_; rintro e w' ⟨rfl, rfl⟩))
  first | go_end0 | ((try simp only [Exit.inBlock, Exit.then]); refine bodyPost_ret (results_none rfl _ _ _) rfl ?_)
  exact ⟨rfl, rfl⟩
theorem compare_enters : Enters Tryd.prog 18 := enters_of Tryd.func18 (by kernel_rfl) rfl
theorem compare_lays (blk off size : Nat) (w : World) : CmpLays1 Tryd.prog 18 #[] encN cfN blk off size w := fun m os dk _ x y => by
  have h := compare_any (str x.1) (str y.1) (by rw [str_size]; have := x.2; omega) (by rw [str_size]; have := y.2; omega) (sortWorld encN w blk off m dk os)
  rw [bl_str, bl_str] at h
  exact h
theorem sort_names (base : Nat) (v : Value) (ns : List (List UInt8)) (w : World) (h : OwnS w base v ns) (hb : base ≤ w.heap.size) (hl : ns.length ≤ 1000000000) (hx : ∀ x ∈ ns, x.length ≤ 1000) :
    Calls Tryd.prog 17 #[v, .func (.func 18) #[] #[]] w fun e w' => e = .returned (.tuple #[]) ∧ ∃ ks, OwnS w' base v ks ∧ Srt ks ∧ ks.Perm ns ∧ Below base w w' := by
  by_cases h0 : ns = []
  · subst h0
    obtain ⟨A, cap, rfl, _, _, _⟩ := OwnS.shape h
    refine (sort_none A cap _ w).mono ?_
    rintro e w' ⟨rfl, rfl⟩
    exact ⟨rfl, [], h, List.Pairwise.nil, List.Perm.refl _, Below.refl _ _⟩
  · have hv : v ≠ .slice none 0 0 := by
      rintro rfl
      rcases h.2 with ⟨_, hn⟩ | ⟨g, cap, cur, e, _⟩
      · exact h0 (List.eq_nil_of_length_eq_zero hn)
      · cases e
    obtain ⟨zs, rfl⟩ := lift_names ns hx
    have h2 : w.ownsRow base 9 1 v (zs.map fun z => z.1).length (zs.map encN) := by rw [← SV_enc]; exact h
    obtain ⟨g, cap, rfl, hg, hlt, hle, hcm, hzl, hH⟩ := Lib.holds_of_ownsRow (enc := encN) (zs := zs) h2 hv
    have hc := Tryd.slices_SortFunc encN encN_one cfN orderN 18 #[] g 0 cap zs.toArray w compare_enters (compare_lays g 0 _ w) hH hlt (by rw [List.size_toArray]; rw [List.length_map] at hl; omega)
    rw [List.size_toArray] at hc
    rw [List.length_map] at hle h2 ⊢
    refine hc.mono ?_
    rintro e w' ⟨rfl, d', q, os, hp, hs, rfl⟩
    obtain ⟨p1, p2, p3⟩ := hp
    have hsz : d'.toList.length = zs.length := by rw [Array.length_toList, p1, List.size_toArray]
    have hperm : d'.toList.Perm zs := by
      have e1 : d'.extract 0 zs.length = d' := by rw [← hsz, Array.length_toList]; exact Array.extract_size
      have e2 : zs.toArray.extract 0 zs.length = zs.toArray := by rw [← List.size_toArray]; exact Array.extract_size
      rw [e1, e2] at p3
      exact p3
    have ho := Lib.ownsRow_putRow (enc := encN) (q := q) (k := zs.length) (ys := d'.toList) h2 hsz (Nat.le_refl _)
    rw [List.take_of_length_le (by omega)] at ho
    have b1 := Lib.below_putRow (enc := encN) (q := q) (d := d') (Below.refl base w) hg
    have b2 := below_grow (Sort.putRow encN (Sort.ahead w q) g 0 d') 0 os
    refine ⟨rfl, d'.toList.map fun z => z.1, ?_, ?_, hperm.map _, b1.trans (b2.mono (by have := b1.size; omega))⟩
    · unfold OwnS
      rw [SV_enc, List.length_map, hsz]
      exact ownsRow_below ho b2
    · unfold Srt
      rw [List.pairwise_map, List.pairwise_iff_getElem]
      intro i j hi hj hij
      rw [hsz] at hi hj
      have := hs i j (Nat.zero_le _) hij hj
      rw [getElem!_pos d' j (by rw [p1, List.size_toArray]; exact hj), getElem!_pos d' i (by rw [p1, List.size_toArray]; exact hi)] at this
      exact this
theorem clone_any (ls : List (List UInt8)) (A : Option Addr) (cap : Nat) (w : World) (hs : Strs w w.heap.size A ls) (hl : ls.length ≤ 1000) :
    Calls Tryd.prog 16 #[.slice A ls.length cap] w fun e w' => ∃ v, e = .returned v ∧ OwnS w' w.heap.size v ls ∧ Below w.heap.size w w' := by
  cases A with
  | none =>
    obtain rfl : ls = [] := List.eq_nil_of_length_eq_zero (Strs.none_ hs)
    refine (Tryd.slices_Clone_string_nil 0 cap w).mono ?_
    rintro e w' ⟨rfl, rfl⟩
    exact ⟨_, rfl, OwnS.nil _ _, Below.refl _ _⟩
  | some a =>
    by_cases h0 : 0 < ls.length
    · obtain ⟨b, o, e, hb, hc⟩ := hs (by rw [SV_len]; exact h0)
      injection e with e
      subst e
      refine (Tryd.slices_Clone_string b o ls.length cap (ls.map str) w (by rw [List.length_map]; exact Nat.le_refl _) (by omega) (fun j hj => ?_)).mono ?_
      · rw [List.length_map] at hj
        rw [hc j (by rw [SV_len]; exact hj), SV_get _ _ hj, List.getD_eq_getElem?_getD, List.getElem?_eq_getElem (by rw [List.length_map]; exact hj), Option.getD_some, List.getElem_map]
      · rintro e w' ⟨v, rfl, h1, _, h3⟩
        refine ⟨v, rfl, ?_, h3⟩
        rw [List.take_of_length_le (by rw [List.length_map]; exact Nat.le_refl _), List.map_map] at h1
        exact h1
    · obtain rfl : ls = [] := List.eq_nil_of_length_eq_zero (by omega)
      refine (Tryd.slices_Clone_string_zero a cap w).mono ?_
      rintro e w' ⟨v, rfl, h1, _, h3⟩
      exact ⟨v, rfl, h1, h3⟩
set_option maxRecDepth 100000 in
theorem hSorted_any (ls : List (List UInt8)) (A : Option Addr) (cap : Nat) (w : World) (hs : Strs w w.heap.size A ls) (hl : ls.length ≤ 1000) (hx : ∀ x ∈ ls, x.length ≤ 1000) :
    Calls Tryd.prog 9 #[.slice A ls.length cap] w fun e w' => ∃ v, e = .returned v ∧ ∃ ks, OwnS w' w.heap.size v ks ∧ Srt ks ∧ ks.Perm ls ∧ Below w.heap.size w w' := by
  have hc := clone_any ls A cap w hs hl
  have hso := fun v w1 (b1 : Below w.heap.size w w1) h => sort_names w.heap.size v ls w1 h b1.size (by omega) hx
  clear hs hx
  go_enter Tryd.func9, Tryd.ntmps9
  go_wp2_with (first
    | (go_at_call 16; (with_reducible refine hc.mono ?_); rintro e w1 ⟨v1, rfl, o1, b1⟩)
    | (go_at_call 17; (with_reducible refine (hso v1 w1 b1 o1).mono ?_); rintro e w2 ⟨rfl, ks, o2, s2, p2, b2⟩))
  go_ret
  exact ⟨_, rfl, ks, o2, s2, p2, b1.trans b2⟩
end Go.Proofs.YtkmknogejhhajabDoor
