/-
  BitsBack, walked.
-/
import Derived.Test.YtppphpgippchaaaDoorLLists
import Derived.Deep.RegionLaw
import Derived.BigRegion
import Derived.Deep.DeepCutAuto
namespace Go.Proofs.YtppphpgippchaaaDoor
open Go.RowKit
theorem mem_all (p : Nat → Bool) (j : Nat) (hj : j < 256) : memP ((lst p 256).map fun n : Nat => (n : Int)) j = p j := by
  unfold memP
  rw [Bool.eq_iff_iff, decide_eq_true_iff, List.mem_map]
  constructor
  · rintro ⟨n, hn, e⟩
    obtain rfl : n = j := by omega
    exact ((mem_range_lst p n).1 hn).2
  · intro h
    exact ⟨j, (mem_range_lst p j).2 ⟨hj, h⟩, rfl⟩
theorem there_back (p : Nat → Bool) (d l r : Int) (hl : (l = -d ∧ d ≤ 0) ∨ (l = 0 ∧ 0 ≤ d)) (hr : (r = 255 - d ∧ 0 ≤ d) ∨ (r = 255 ∧ d ≤ 0)) (j : Nat) (hj : j < 256) :
    moveP (moveP p d) (-d) j = (p j && spanP l r j) := by
  unfold moveP spanP
  by_cases h : 0 ≤ (j : Int) - -d ∧ (j : Int) - -d < 256
  · rw [decide_eq_true h.1, decide_eq_true h.2, decide_eq_true (by omega), decide_eq_true (by omega), show ((((j : Int) - -d).toNat : Int) - d).toNat = j by omega, decide_eq_true (by omega), decide_eq_true (by omega)]
    simp
  · have : ¬ (l ≤ (j : Int) ∧ (j : Int) ≤ r) := by omega
    rw [Bool.eq_iff_iff]
    simp
    omega
theorem final_held {w w1 : World} {b c : Nat} {o t : Nat → Bool} {l : List (Nat × (Nat → Bool))} (h : Held w ((b, o) :: (c, t) :: l) w1) (hne : c ≠ b) (hb : w.heap.size ≤ b) :
    Held w [(b, t), (c, t)] ((((w1.setCell ⟨b, 0, none⟩ (.int .u64 (word t 0))).setCell ⟨b, 1, none⟩ (.int .u64 (word t 1))).setCell ⟨b, 2, none⟩ (.int .u64 (word t 2))).setCell ⟨b, 3, none⟩ (.int .u64 (word t 3))) :=
  Held.cons (h.head.stores t) (Held.one (h.tail.head.others hne _ _ _ _) (below_stores h.2 hb _ _ _ _))
theorem final_new {w w1 : World} {c : Nat} {t : Nat → Bool} {l : List (Nat × (Nat → Bool))} (h : Held w ((c, t) :: l) w1) : Held w [(w1.heap.size, t), (c, t)] (w1.alloc (objOf t)) :=
  Held.cons (Blk.new w1 t) (Held.one (h.head.old _) (h.2.alloc h.2.size _))
set_option maxRecDepth 100000 in
set_option maxHeartbeats 40000000 in
theorem back_all (p t : Nat → Bool) (n d l r : Int) (w : World) (hT : Tab w) (hd : n.tmod 256 = d) (h1 : -256 < d) (h2 : d < 256)
    (hl : (if d < 0 then -d else 0) = l) (_hl2 : (if 0 < -d then -d else 0) = l) (hr : IntKind.i64.wrap (255 - if 0 < d then d else 0) = r)
    (he : nodes (moveP (moveP p d) (-d)) = nodes t) (hk : nodes (fun j => p j && spanP l r j) = nodes t) :
    Calls Tryd.prog 7 #[nodes p, .int .i64 n] w fun e w' => e = .returned (.bool true) ∧ Below w.heap.size w w' := by
  have hT1 := hid hT
  have hee := hid he
  have hkk := hid hk
  have hll : ((lst p 256).map fun n : Nat => (n : Int)).length ≤ 140737488355328 := by rw [List.length_map]; have := lst_len p 256; omega
  have hll := hid hll
  have hmm := hid (nodes_congr fun j hj => mem_all p j hj)
  clear hT he hk
  have z : Held w [(w.heap.size, p)] (w.alloc (objOf p)).drew := (Held.one (Blk.new w p) ((Below.refl _ _).alloc (Nat.le_refl _) _)).drew
  have heq := eq_same
  go_enter Tryd.func7, Tryd.ntmps7
  go_wp2_with fail
  generalize w.alloc (objOf p) = w0 at *
  go_region_held3 (fun w' => w'.cell? ⟨w.heap.size, 0, none⟩ = some (.int .u64 (word p 0)) ∧ w'.cell? ⟨w.heap.size, 1, none⟩ = some (.int .u64 (word p 1)) ∧ w'.cell? ⟨w.heap.size, 2, none⟩ = some (.int .u64 (word p 2)) ∧ w'.cell? ⟨w.heap.size, 3, none⟩ = some (.int .u64 (word p 3))) (first | exact held1 z | fail)
    (first
      | (go_at_call 30; refine (list_s p _ (Held.tab z hT1.out)).mono ?_; rintro e w' ⟨ao, cap, rfl, hA, hx⟩; have z := Held.on z hx)
      | (go_at_call 11; refine (of_any _ _ _ hA hll.out).mono ?_; rintro e w' ⟨rfl, hx⟩; rw [hmm.out]; have z := Held.on z hx))
  go_wp2_with fail
  obtain ⟨c0, c1, c2, c3⟩ := z.head.four
  refine (move_any p d _).mono ?_
  rintro e w5 ⟨rfl, hx5⟩
  have z := z.on hx5
  clear hx5 c0 c1 c2 c3
  go_wp2_with fail
  refine (move_any (moveP p d) (-d) _).mono ?_
  rintro e w6 ⟨rfl, hx6⟩
  rw [hee.out]
  have z : Held w [(w6.heap.size, t), (w.heap.size, p)] (w6.alloc (objOf t)) := Held.cons (Blk.new w6 t) ((z.on hx6).alloc _)
  clear hx6
  go_upto_region 5 with fail
  generalize w6.alloc (objOf t) = w7 at *
  have zz := z
  have z := z.drew
  have ew : IntKind.i64.wrap (-d) = -d := IntWalk.i64_in _ (by omega)
  obtain ⟨c0, c1, c2, c3⟩ := zz.tail.head.four
  have n5 := zz.tail.head.lt
  have n6 := Nat.ne_of_lt zz.tail.head.lt
  have n7 := zz.head.lt
  have n8 := Nat.ne_of_lt zz.head.lt
  go_cut [6] (fun s6 wx => ∃ b : Nat, s6 = .pointer (some ⟨b, 0, none⟩) ∧ Held w [(b, t), (w6.heap.size, t)] wx)
  case first =>
    go_region_law (first
        | (go_simp; go_at_call 13; (with_reducible refine (span_any l r _).mono ?_); rintro e w' ⟨rfl, hx⟩; (first | (with_reducible have z := Held.on z hx) | (with_reducible have z := Held.on (Held.cons (Blk.zero _) (Held.alloc z _)) hx) | (with_reducible have z := Held.on (Held.drew (Held.cons (Blk.zero _) (Held.alloc zz _))) hx) | fail); obtain ⟨c0, c1, c2, c3⟩ := (z.1 (w.heap.size, p) (by simp)).four; obtain ⟨q0, q1, q2, q3⟩ := z.head.four; obtain ⟨f0, f1, f2, f3⟩ := z.head.frees; have n1 := Nat.ne_of_lt z.head.lt; have n3 := z.head.lt; have n5 := (z.1 (w.heap.size, p) (by simp)).lt; have n6 := Nat.ne_of_lt n5; have n7 := (z.1 (w6.heap.size, t) (by simp)).lt; have n8 := Nat.ne_of_lt n7)
        | (go_simp; go_at_call 17; refine (op_and p (spanP l r) _).mono ?_; rintro e w' ⟨rfl, hx⟩; rw [hkk.out]; (first | (with_reducible have z := Held.on z hx) | (with_reducible have z := Held.on (Held.cons (Blk.zero _) (Held.alloc z _)) hx) | fail); obtain ⟨q0, q1, q2, q3⟩ := z.head.four; obtain ⟨f0, f1, f2, f3⟩ := z.head.frees; have n1 := Nat.ne_of_lt z.head.lt; have n3 := z.head.lt; have n5 := (z.1 (w.heap.size, p) (by simp)).lt; have n6 := Nat.ne_of_lt n5; have n7 := (z.1 (w6.heap.size, t) (by simp)).lt; have n8 := Nat.ne_of_lt n7))
    all_goals
      go_wp2_with fail
      all_goals
        go_meet
        first
        | with_reducible exact ⟨_, rfl, final_new z⟩
        | (refine ⟨_, rfl, ?_⟩; with_reducible refine final_held z ?_ ?_ <;> omega)
        | fail
  case rest =>
    obtain ⟨b, rfl, y⟩ := hcut
    obtain ⟨k0, k1, k2, k3, k4, k5, k6, k7⟩ := held2 y
    have hTy := hid (y.tab hT1.out)
    go_wp2_with fail
    refine (alive_any _ hTy.out).mono ?_
    rintro e wz ⟨rfl, hxz⟩
    go_wp2
    go_ret
    exact ⟨rfl, (y.on hxz).2⟩
theorem back_walk (p : Nat → Bool) (n : Int) (w : World) (hT : Tab w) :
    Calls Tryd.prog 7 #[nodes p, .int .i64 n] w fun e w' => e = .returned (.bool true) ∧ Below w.heap.size w w' := by
  have b1 := Int.tmod_lt_of_pos n (show (0 : Int) < 256 by omega)
  have b2 := Int.lt_tmod_of_pos n (show (0 : Int) < 256 by omega)
  obtain ⟨l, hl⟩ : ∃ l : Int, (if n.tmod 256 < 0 then -(n.tmod 256) else 0) = l := ⟨_, rfl⟩
  obtain ⟨r, hr⟩ : ∃ r : Int, (255 - if 0 < n.tmod 256 then n.tmod 256 else 0) = r := ⟨_, rfl⟩
  have cl : (l = -(n.tmod 256) ∧ n.tmod 256 ≤ 0) ∨ (l = 0 ∧ 0 ≤ n.tmod 256) := by
    rw [← hl]; split
    · exact .inl ⟨rfl, by omega⟩
    · exact .inr ⟨rfl, by omega⟩
  have cr : (r = 255 - n.tmod 256 ∧ 0 ≤ n.tmod 256) ∨ (r = 255 ∧ n.tmod 256 ≤ 0) := by
    rw [← hr]; split
    · exact .inl ⟨rfl, by omega⟩
    · exact .inr ⟨by omega, by omega⟩
  refine back_all p (fun j => p j && spanP l r j) n _ l r w hT rfl (by omega) (by omega) hl ?_ ?_ (nodes_congr fun j hj => there_back p _ l r cl cr j hj) rfl
  · rw [← hl]
    by_cases h : n.tmod 256 < 0
    · rw [if_pos h, if_pos (by omega)]
    · rw [if_neg h, if_neg (by omega)]
  · rw [hr]; exact IntWalk.i64_in _ (by omega)
end Go.Proofs.YtppphpgippchaaaDoor
