/-
  host.compare: how two names stand to each other.
-/
import Derived.Test.YtkmknogejhhajabDoorHCmp
namespace Go.Proofs.YtkmknogejhhajabDoor
open Go.RowKit

theorem or3 (x y z : Int) (g : Nat) (W : World) (h : W.heap[g]? = some (.cells #[.int .i64 x, .int .i64 y, .int .i64 z] 3 (0, 0))) : Calls Tryd.prog 24 #[.slice (some ⟨g, 0, none⟩) 3 3] W fun e w' => e = .returned (.int .i64 (orI [x, y, z])) ∧ W = w' :=
  or_any [x, y, z] g 0 3 3 W rfl (fun j hj => by
    simp only [World.cell?, h, Nat.zero_add]
    match j, hj with
    | 0, _ => rfl
    | 1, _ => rfl
    | 2, _ => rfl) (by show 3 ≤ 1000; omega)
/-- How two names stand to each other: by prefix, number, count of digits. -/
def cmpN (a b : List UInt8) : Int := orI [cmpS (number a).1 (number b).1, Lib.compareInt (number a).2.1 (number b).2.1, Lib.compareInt (number a).2.2.1 (number b).2.2.1]
set_option maxRecDepth 100000 in
set_option maxHeartbeats 4000000 in
theorem compare_any (s t : ByteArray) (hs : s.size ≤ 1125899906842624) (ht : t.size ≤ 1125899906842624) (w : World) : Calls Tryd.prog 18 #[.string s, .string t] w fun r w' => r = .returned (.int .i64 (cmpN (bl s) (bl t))) ∧ Grew w w' := by
  have n1 := fun W => Number_any s W hs
  have n2 := fun W => Number_any t W ht
  unfold NumberPost numberV at n1 n2
  obtain ⟨R, hR⟩ : ∃ R, cmpN (bl s) (bl t) = R := ⟨_, rfl⟩
  rw [hR]
  unfold cmpN at hR
  generalize number (bl s) = P at *
  generalize number (bl t) = Q at *
  obtain ⟨p, np, cp, bp⟩ := P
  obtain ⟨q, nq, cq, bq⟩ := Q
  simp only at n1 n2 hR
  have h1 := fun W => cmp_str (str p) (str q) W
  rw [bl_str, bl_str] at h1
  have h2 := fun W => Tryd.cmp_Compare_int np nq W
  have h3 := fun W => Tryd.cmp_Compare_int cp cq W
  generalize cmpS p q = x at *
  generalize Lib.compareInt np nq = y at *
  generalize Lib.compareInt cp cq = z at *
  have h4 := or3 x y z
  replace hR := fhid hR
  generalize (np : Int) = npI at *
  generalize (nq : Int) = nqI at *
  generalize (cp : Int) = cpI at *
  generalize (cq : Int) = cqI at *
  go_enter Tryd.func18, Tryd.ntmps18
  go_wp2_with (first
    | (go_at_call 5; (with_reducible refine (n1 _).mono ?_); clear n1; rintro e w1 ⟨rfl, g1⟩)
    | (go_at_call 5; (with_reducible refine (n2 _).mono ?_); clear n2; rintro e w2 ⟨rfl, g2⟩)
    | (go_at_call 25; (with_reducible refine (h1 _).mono ?_); rintro e w3 ⟨rfl, rfl⟩)
    | (go_at_call 26; (with_reducible refine (h2 _).mono ?_); clear h2; rintro e w3 ⟨rfl, rfl⟩)
    | (go_at_call 26; (with_reducible refine (h3 _).mono ?_); rintro e w3 ⟨rfl, rfl⟩)
    | (go_at_call 24; (with_reducible refine (h4 _ _ (heap_alloc_new _ _)).mono ?_); rintro e w4 ⟨rfl, rfl⟩))
  go_ret
  exact ⟨fret1 hR.out, (g1.trans g2).alloc _⟩
end Go.Proofs.YtkmknogejhhajabDoor
