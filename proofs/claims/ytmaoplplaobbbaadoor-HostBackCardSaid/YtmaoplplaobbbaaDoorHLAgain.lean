/-
  HostAgain, walked.
-/
import Derived.Test.YtmaoplplaobbbaaDoorHBound
namespace Go.Proofs.YtmaoplplaobbbaaDoor
open Go.RowKit

set_option maxRecDepth 100000 in
set_option maxHeartbeats 400000 in
theorem again_long (s : ByteArray) (w : World) (hT : Tab w) (h : 5000 < s.size) : Calls Tryd.prog 5 #[.string s] w (BoolPost w true) := by
  have hal := alive_any w hT
  have h1 : (s.size : Int) > 5000 := by omega
  clear h hT
  go_enter Tryd.func5, Tryd.ntmps5
  go_wp2_with (go_at_call 14; (with_reducible refine hal.mono ?_); rintro e w1 ⟨rfl, b1⟩)
  go_ret
  exact ⟨rfl, b1⟩
/-- A text of names that may be, made and read again. -/
theorem again_text (ns : List (List UInt8)) (W : World) (hT : Tab W) (hb : ∀ x ∈ ns, Bare x) (hl : ns.length ≤ 256) (hn : ∀ x ∈ ns, x.length ≤ 6000) : Calls Tryd.prog 16 #[.string (str (compress ns))] W (ExpPost W (ns, 0, 0)) := by
  have h := Expand_any (str (compress ns)) W hT (by
    rw [str_size]
    have h1 := compress_len 6000 ns hn
    have h2 : ns.length * (2 * 6000 + 4) ≤ 256 * (2 * 6000 + 4) := Nat.mul_le_mul_right _ hl
    omega)
  rwa [bl_str, expand_compress ns hb hl] at h
set_option maxRecDepth 100000 in
set_option maxHeartbeats 2000000 in
theorem again_bad (s : ByteArray) (w : World) (hT : Tab w) (h : ¬ 5000 < s.size) (e a : Nat) (hx : expand (bl s) = ([], e, a)) (he : e ≠ 0) : Calls Tryd.prog 5 #[.string s] w (BoolPost w true) := by
  have h1 : ¬ (s.size : Int) > 5000 := by omega
  have hexp := Expand_any s w hT (by omega)
  rw [hx] at hexp
  have hq := neq_fault e a 0 0
  have hne : (!((e : Int) == 0 && (a : Int) == 0)) = true := by
    have : ((e : Int) == 0) = false := by rw [beq_eq_false_iff_ne]; omega
    rw [this]; rfl
  rw [hne] at hq
  replace hT := fhid hT
  clear h hx he hne
  go_enter Tryd.func5, Tryd.ntmps5
  go_wp2_with fail
  refine hexp.mono ?_
  rintro e' w1 ⟨v1, rfl, o1, b1⟩
  obtain ⟨A1, c1, rfl, _, _, _⟩ := o1.shape
  have hal := fun W (b : Below w1.heap.size w1 W) => alive_any W (tab_below hT.out (b1.trans (b.mono b1.size)))
  clear hexp o1
  replace hal := fhid hal
  simp only [List.length_nil]
  go_wp2_with (go_at_call 14
               (with_reducible refine (hal.out _ ((Below.refl _ _).alloc (Nat.le_refl _) _)).mono ?_)
               rintro e'' w2 ⟨rfl, b2⟩)
  go_ret
  exact ⟨rfl, b1.trans (((Below.refl _ _).alloc b1.size _).trans (b2.mono (by rw [World.size_alloc]; have := b1.size; omega)))⟩
set_option maxRecDepth 100000 in
set_option maxHeartbeats 2000000 in
theorem again_good (s : ByteArray) (w : World) (hT : Tab w) (h : ¬ 5000 < s.size) (ns : List (List UInt8)) (hx : expand (bl s) = (ns, 0, 0)) : Calls Tryd.prog 5 #[.string s] w (BoolPost w true) := by
  have h1 : ¬ (s.size : Int) > 5000 := by omega
  have hexp := Expand_any s w hT (by omega)
  have hf := expand_facts (bl s)
  have hm := (expand_more (bl s)).1
  rw [hx] at hexp hf hm
  obtain ⟨hb, hl, _⟩ := hf
  simp only at hb hl hm
  rw [bl_len] at hm
  have hn : ∀ x ∈ ns, x.length ≤ 6000 := fun x h => by have := hm x h; omega
  have hq := neq_fault 0 0 0 0
  have hq2 := eql_fault 0 0 0 0
  have hlI : (ns.length : Int) ≤ 256 := by omega
  replace hT := fhid hT
  replace hb := fhid hb
  replace hl := fhid hl
  replace hn := fhid hn
  clear h hx hm
  go_enter Tryd.func5, Tryd.ntmps5
  go_wp2_with fail
  refine hexp.mono ?_
  rintro e' w1 ⟨v1, rfl, o1, b1⟩
  obtain ⟨A1, c1, rfl, hc1, _, s1⟩ := o1.shape
  have hcmp := fun W (b : Below w1.heap.size w1 W) => Compress_any A1 c1 ns W (tab_below hT.out (b1.trans (b.mono b1.size))) ((s1.below b).more b.size) hc1 (fun y hy => by have := hn.out y hy; omega) (by have := hl.out; omega)
  obtain ⟨SC, hSC⟩ : ∃ S, str (compress ns) = S := ⟨_, rfl⟩
  unfold StrPost at hcmp
  rw [hSC] at hcmp
  have hex2 := fun W (b : Below w1.heap.size w1 W) => again_text ns W (tab_below hT.out (b1.trans (b.mono b1.size))) hb.out hl.out hn.out
  rw [hSC] at hex2
  have hal := fun W (b : Below w1.heap.size w1 W) => alive_any W (tab_below hT.out (b1.trans (b.mono b1.size)))
  clear hexp o1
  replace hal := fhid hal
  replace hcmp := fhid hcmp
  replace hex2 := fhid hex2
  replace s1 := fhid s1
  replace hc1 := fhid hc1
  go_wp2_with fail
  have y1 : Below w1.heap.size w1 (w1.alloc (.cells #[.int .i64 0, .int .i64 0] 33)) := (Below.refl _ _).alloc (Nat.le_refl _) _
  refine (hcmp.out _ y1).mono ?_
  rintro e' w2 ⟨rfl, b2⟩
  have y2 := y1.trans (b2.mono y1.size)
  clear y1 b2
  go_wp2_with fail
  refine (hex2.out _ y2).mono ?_
  rintro e' w3 ⟨v3, rfl, o3, b3⟩
  obtain ⟨A3, c3, rfl, hc3, _, s3⟩ := o3.shape
  have y3 := y2.trans (b3.mono y2.size)
  clear b3 o3 y2
  replace s3 := fhid s3
  go_wp2_with fail
  have y4 := y3.alloc y3.size (.cells #[.int .i64 0, .int .i64 0] 33)
  refine (Same_any A3 A1 ns ns c3 c1 _ _ _ (s3.out.below ((Below.refl _ _).alloc (Nat.le_refl _) _)) (s1.out.below y4) (by have := hl.out; omega)).mono ?_
  rintro e' w4 ⟨rfl, nq, rfl⟩
  rw [decide_eq_true (show ns = ns from rfl)]
  have y5 := below_drewN y4 nq
  generalize (World.drewN _ nq) = W at *
  clear y4 s3
  go_wp2_with (go_at_call 14
               (with_reducible refine (hal.out _ y5).mono ?_)
               rintro e'' w6 ⟨rfl, b6⟩)
  go_ret
  exact ⟨rfl, b1.trans ((y5.trans (b6.mono y5.size)).mono b1.size)⟩
theorem again_walk (s : ByteArray) (w : World) (hT : Tab w) : Calls Tryd.prog 5 #[.string s] w (BoolPost w true) := by
  by_cases h : 5000 < s.size
  · exact again_long s w hT h
  · obtain ⟨_, _, h3⟩ := expand_facts (bl s)
    obtain ⟨_, h4⟩ := expand_more (bl s)
    rcases hx : expand (bl s) with ⟨ns, e, a⟩
    rw [hx] at h3 h4
    simp only at h3 h4
    by_cases he : e = 0
    · rcases h4 with h4 | h4
      · injection h4 with h5 h6
        subst h5
        subst h6
        exact again_good s w hT h ns hx
      · exact absurd he h4
    · have := h3 he
      subst this
      exact again_bad s w hT h e a hx he
end Go.Proofs.YtmaoplplaobbbaaDoor
