/-
  BitsFirst, walked.
-/
import Derived.Test.YtppphpgippchaaaDoorFirstW
namespace Go.Proofs.YtppphpgippchaaaDoor
open Go.RowKit
theorem cnt_first (p : Nat → Bool) (n m : Nat) : cnt (firstP p n) m = min (cnt p m) n := by
  induction m with
  | zero => simp [cnt]
  | succ m ih =>
    cases hp : p m with
    | false =>
      have : firstP p n m = false := by unfold firstP; rw [hp]; rfl
      simp only [cnt, ih, this, hp]; simp
    | true =>
      by_cases h : cnt p m < n
      · have : firstP p n m = true := by unfold firstP; rw [hp, decide_eq_true (by omega)]; rfl
        simp only [cnt, ih, this, hp, if_true]; omega
      · have : firstP p n m = false := by unfold firstP; rw [hp, decide_eq_false (by omega)]; rfl
        simp only [cnt, ih, this, hp, if_true]; simp; omega
set_option maxRecDepth 100000 in
set_option maxHeartbeats 1600000 in
theorem bfirst_no (p : Nat → Bool) (n : Int) (w : World) (hT : Tab w) (hm : n ≤ 9223372036854775807) (h : n < 0 ∨ (cnt p 256 : Int) < n) :
    Calls Tryd.prog 9 #[nodes p, .int .i64 n] w fun e w' => e = .returned (.bool true) ∧ Below w.heap.size w w' := by
  have hT1 := hid hT
  obtain ⟨e1, e2⟩ := first_no p n h
  have e1 := hid e1
  have e2 := hid e2
  clear hT
  have z : Held w [(w.heap.size, p)] (w.alloc (objOf p)) := Held.one (Blk.new w p) ((Below.refl _ _).alloc (Nat.le_refl _) _)
  have heq := fun w => eq_same 0 0 0 0 w
  go_enter Tryd.func9, Tryd.ntmps9
  go_wp2_with fail
  refine (first_any p n _ (z.tab hT1.out) hm).mono ?_
  rintro e w1 ⟨rfl, hx⟩
  rw [e1.out, e2.out]
  have z := (z.on hx).alloc (.cells #[.int .u64 0, .int .u64 0, .int .u64 0, .int .u64 0] 26)
  clear hx
  obtain ⟨c0, c1, c2, c3⟩ := z.head.four
  rcases h with h | h
  · go_wp2_with fail
    refine (alive_any _ (z.tab hT1.out)).mono ?_
    rintro e w2 ⟨rfl, hx⟩
    have z := z.on hx
    clear hx c0 c1 c2 c3
    go_wp2
    go_ret
    exact ⟨rfl, z.2⟩
  · have h1 : ¬ n < 0 := by omega
    go_wp2_with fail
    refine (count_any p _).mono ?_
    rintro e w2 ⟨rfl, hx⟩
    have z := z.on hx
    clear hx c0 c1 c2 c3
    go_wp2_with fail
    refine (alive_any _ (z.tab hT1.out)).mono ?_
    rintro e w3 ⟨rfl, hx⟩
    have z := z.on hx
    clear hx
    go_wp2
    go_ret
    exact ⟨rfl, z.2⟩
set_option maxRecDepth 100000 in
set_option maxHeartbeats 3200000 in
theorem bfirst_yes (p a r : Nat → Bool) (n : Nat) (w : World) (hT : Tab w) (hm : (n : Int) ≤ 9223372036854775807) (h : n ≤ cnt p 256)
    (ha : fstP p n = a) (hr : (fun j => p j && !a j) = r) (hc : cnt a 256 = n) (ho : nodes (fun j => a j || r j) = nodes p)
    (hcase : (n = 0 ∧ nthB a ((n : Int) - 1) = false) ∨ (0 < n ∧ nthB a ((n : Int) - 1) = true ∧ (nthB r 0 = false ∨ (nthB r 0 = true ∧ nthN a ((n : Int) - 1) < nthN r 0)))) :
    Calls Tryd.prog 9 #[nodes p, .int .i64 n] w fun e w' => e = .returned (.bool true) ∧ Below w.heap.size w w' := by
  have hT1 := hid hT
  have e1 := (first_yes p n h).1
  have f1 := hid e1
  have ga := hid ha
  have gr := hid hr
  have gc := hid hc
  have gv := hid ho
  have gcase := hid hcase
  clear hT e1 ha hr hc ho hcase
  have z : Held w [(w.heap.size, p)] (w.alloc (objOf p)) := Held.one (Blk.new w p) ((Below.refl _ _).alloc (Nat.le_refl _) _)
  have heq := eq_same
  go_enter Tryd.func9, Tryd.ntmps9
  go_wp2_with fail
  refine (first_any p n _ (z.tab hT1.out) hm).mono ?_
  rintro e w1 ⟨rfl, hx⟩
  rw [f1.out, ga.out]
  have z : Held w [(w1.heap.size, a), (w.heap.size, p)] (w1.alloc (objOf a)) := Held.cons (Blk.new w1 _) ((z.on hx).alloc _)
  clear hx
  obtain ⟨c0, c1, c2, c3⟩ := z.tail.head.four
  go_wp2_with fail
  refine (op_not p a _).mono ?_
  rintro e w2 ⟨rfl, hx⟩
  rw [gr.out]
  have z := z.on hx
  have z : Held w [(w2.heap.size, r), (w1.heap.size, a), (w.heap.size, p)] (w2.alloc (objOf r)).drew := (Held.cons (Blk.new w2 _) (z.alloc _)).drew
  clear hx c0 c1 c2 c3
  go_wp2_with fail
  generalize w2.alloc (objOf r) = w20 at *
  go_region_held3 (fun w' => w'.cell? ⟨w2.heap.size, 0, none⟩ = some (.int .u64 (word r 0)) ∧ w'.cell? ⟨w2.heap.size, 1, none⟩ = some (.int .u64 (word r 1)) ∧ w'.cell? ⟨w2.heap.size, 2, none⟩ = some (.int .u64 (word r 2)) ∧ w'.cell? ⟨w2.heap.size, 3, none⟩ = some (.int .u64 (word r 3)) ∧ w'.cell? ⟨w1.heap.size, 0, none⟩ = some (.int .u64 (word a 0)) ∧ w'.cell? ⟨w1.heap.size, 1, none⟩ = some (.int .u64 (word a 1)) ∧ w'.cell? ⟨w1.heap.size, 2, none⟩ = some (.int .u64 (word a 2)) ∧ w'.cell? ⟨w1.heap.size, 3, none⟩ = some (.int .u64 (word a 3)) ∧ w'.cell? ⟨w.heap.size, 0, none⟩ = some (.int .u64 (word p 0)) ∧ w'.cell? ⟨w.heap.size, 1, none⟩ = some (.int .u64 (word p 1)) ∧ w'.cell? ⟨w.heap.size, 2, none⟩ = some (.int .u64 (word p 2)) ∧ w'.cell? ⟨w.heap.size, 3, none⟩ = some (.int .u64 (word p 3))) (first | exact held3 z | fail)
    (first
      | (go_at_call 27; refine (count_any a _).mono ?_; rintro e w' ⟨rfl, hx⟩; rw [gc.out]; have z := Held.on z hx)
      | (go_at_call 19; refine (op_or a r _).mono ?_; rintro e w' ⟨rfl, hx⟩; rw [gv.out]; have z := Held.on z hx))
  have w30 := z
  clear w30
  go_wp2_with fail
  refine (nth_any a ((n : Int) - 1) _ (z.tab hT1.out) (by omega)).mono ?_
  rintro e w5 ⟨rfl, hx⟩
  have z := z.on hx
  clear hx
  obtain ⟨c0, c1, c2, c3⟩ := z.head.four
  rcases gcase.out with ⟨h0, hs⟩ | ⟨h0, hs, h1 | ⟨h1, hlt⟩⟩
  · rw [hs]
    have hn0 : ¬ (0 : Int) < n := by omega
    clear hs h0
    go_wp2_with fail
    refine (nth_any r 0 _ (z.tab hT1.out) (by omega)).mono ?_
    rintro e w6 ⟨rfl, hx⟩
    have z := z.on hx
    clear hx c0 c1 c2 c3
    go_wp2_with fail
    refine (alive_any _ (z.tab hT1.out)).mono ?_
    rintro e w7 ⟨rfl, hx⟩
    have z := z.on hx
    clear hx
    go_wp2
    go_ret
    exact ⟨rfl, z.2⟩
  · rw [hs]
    have hn0 : (0 : Int) < n := by omega
    have g1 := hid h1
    clear hs h0 h1
    go_wp2_with fail
    refine (nth_any r 0 _ (z.tab hT1.out) (by omega)).mono ?_
    rintro e w6 ⟨rfl, hx⟩
    rw [g1.out]
    have z := z.on hx
    clear hx c0 c1 c2 c3
    go_wp2_with fail
    refine (alive_any _ (z.tab hT1.out)).mono ?_
    rintro e w7 ⟨rfl, hx⟩
    have z := z.on hx
    clear hx
    go_wp2
    go_ret
    exact ⟨rfl, z.2⟩
  · rw [hs]
    have hn0 : (0 : Int) < n := by omega
    have hlt2 : (nthN a ((n : Int) - 1) : Int) < nthN r 0 := by omega
    have g1 := hid h1
    clear hs h0 h1 hlt
    go_wp2_with fail
    refine (nth_any r 0 _ (z.tab hT1.out) (by omega)).mono ?_
    rintro e w6 ⟨rfl, hx⟩
    rw [g1.out]
    have z := z.on hx
    clear hx c0 c1 c2 c3
    go_wp2_with fail
    refine (alive_any _ (z.tab hT1.out)).mono ?_
    rintro e w7 ⟨rfl, hx⟩
    have z := z.on hx
    clear hx
    go_wp2
    go_ret
    exact ⟨rfl, z.2⟩
theorem bfirst_walk (p : Nat → Bool) (n : Int) (w : World) (hT : Tab w) (hm : n ≤ 9223372036854775807) :
    Calls Tryd.prog 9 #[nodes p, .int .i64 n] w fun e w' => e = .returned (.bool true) ∧ Below w.heap.size w w' := by
  by_cases h : n < 0 ∨ (cnt p 256 : Int) < n
  · exact bfirst_no p n w hT hm h
  · obtain ⟨k, rfl⟩ := Int.eq_ofNat_of_zero_le (show 0 ≤ n by omega)
    have hk : k ≤ cnt p 256 := by omega
    obtain ⟨_, e2⟩ := first_yes p k hk
    have ea : fstP p k = firstP p k := funext e2
    have hc : cnt (fstP p k) 256 = k := by rw [ea, cnt_first]; omega
    refine bfirst_yes p _ _ k w hT hm hk rfl rfl hc (nodes_congr fun j _ => ?_) ?_
    · rw [ea]; unfold firstP; cases p j <;> simp
    · by_cases h0 : k = 0
      · exact .inl ⟨h0, (nth_none _ _ (.inl (by omega))).1⟩
      · have hk1 : ((k : Int) - 1) = ((k - 1 : Nat) : Int) := by omega
        obtain ⟨c, c1, c2, c3, c4, c5⟩ := nth_spec (fstP p k) (k - 1) (by omega)
        rw [hk1]
        refine .inr ⟨by omega, c4, ?_⟩
        cases hB : nthB (fun j => p j && !fstP p k j) 0 with
        | false => exact .inl rfl
        | true =>
          refine .inr ⟨rfl, ?_⟩
          have h0c : 0 < cnt (fun j => p j && !fstP p k j) 256 := by
            unfold nthB at hB
            simp at hB
            omega
          obtain ⟨d, d1, d2, d3, d4, d5⟩ := nth_spec (fun j => p j && !fstP p k j) 0 h0c
          rw [c5, show nthN (fun j => p j && !fstP p k j) 0 = d from d5]
          rw [ea] at c2 d2
          unfold firstP at c2 d2
          simp at c2 d2
          have d6 : k ≤ cnt p d := by
            rcases d2.2 with e | e
            · rw [d2.1] at e; cases e
            · exact e
          have c6 := c2.2
          by_cases hcd : d ≤ c
          · have := cnt_le_of p hcd
            omega
          · omega
end Go.Proofs.YtppphpgippchaaaDoor
