/-
  The document's own text of a vector.
-/
import Derived.Test.YtkmknogejhhajaaDoorVDig
namespace Go.Proofs.YtkmknogejhhajaaDoor
open Go.RowKit

set_option maxRecDepth 100000 in
set_option maxHeartbeats 2000000 in
theorem rdigits_any (n : Int) (w : World) (h : I64 n) : Calls Tryd.prog 43 #[.int .i64 n] w fun e w' => e = .returned (.string (str (num n))) ∧ Grew w w' := by
  obtain ⟨h0, h1⟩ := h
  by_cases hp : 0 ≤ n
  · have hD := fun W => Digits_any n.toNat n W (by omega) h1
    rw [← num_pos hp] at hD
    go_enter Tryd.func43, Tryd.ntmps43
    go_wp2_with (go_at_call 56; (with_reducible refine (hD _).mono ?_); rintro e w1 ⟨rfl, g1⟩)
    go_ret
    exact ⟨rfl, g1⟩
  · by_cases h2 : -10 < n
    · have hD := fun W => Digits_any (-n).toNat (-n) W (by omega) (by omega)
      have hE : str [45] ++ str (dec (-n).toNat) = str (num n) := by rw [str_app, num_neg (by omega), show (-n).toNat = n.natAbs by omega]; rfl
      have hl := dec_len_le (-n).toNat (by omega)
      have hz := str_size (dec (-n).toNat)
      have hi : ¬ 9223372036854775807 < 1 + (str (dec (-n).toNat)).size := by omega
      have hw1 : IntKind.i64.wrap (-n) = -n := IntWalk.i64_in _ (by omega)
      rw [show str [45] = ⟨#[45]⟩ from rfl] at hE
      clear hz hl
      generalize str (dec (-n).toNat) = S at *
      replace hE := fhid hE
      go_enter Tryd.func43, Tryd.ntmps43
      go_wp2_with (go_at_call 56; (with_reducible refine (hD _).mono ?_); rintro e w1 ⟨rfl, g1⟩)
      go_ret
      exact ⟨frets hE.out, g1⟩
    · have hq0 : n.tdiv 10 = -((-n / 10 : Int)) := by
        obtain ⟨m, rfl⟩ : ∃ m : Nat, n = -(m : Int) := ⟨n.natAbs, by omega⟩
        rw [Int.neg_tdiv, Int.neg_neg]; rfl
      have hr0 : n.tmod 10 = -((-n % 10 : Int)) := by
        obtain ⟨m, rfl⟩ : ∃ m : Nat, n = -(m : Int) := ⟨n.natAbs, by omega⟩
        rw [Int.neg_tmod, Int.neg_neg]; rfl
      have hE := congrArg str (num_split (n := n) (by omega))
      rw [show (45 :: (dec (-(n.tdiv 10)).toNat ++ dec (-(n.tmod 10)).toNat)) = ([45] ++ dec (-(n.tdiv 10)).toNat) ++ dec (-(n.tmod 10)).toNat from rfl, ← str_app, ← str_app] at hE
      have hD := fun W => Digits_any (-(n.tdiv 10)).toNat (-(n.tdiv 10)) W (by omega) (by omega)
      have hF := fun W => Digits_any (-(n.tmod 10)).toNat (-(n.tmod 10)) W (by omega) (by omega)
      have hl := dec_len_le (-(n.tdiv 10)).toNat (by omega)
      have hz := str_size (dec (-(n.tdiv 10)).toNat)
      have hl2 := dec_len_le (-(n.tmod 10)).toNat (by omega)
      have hz2 := str_size (dec (-(n.tmod 10)).toNat)
      have hi : ¬ 9223372036854775807 < 1 + (str (dec (-(n.tdiv 10)).toNat)).size := by omega
      have hi2 : ¬ 9223372036854775807 < (str [45] ++ str (dec (-(n.tdiv 10)).toNat)).size + (str (dec (-(n.tmod 10)).toNat)).size := by
        rw [str_app, str_size, List.length_append, List.length_singleton]; omega
      have hw1 : IntKind.i64.wrap (n.tdiv 10) = n.tdiv 10 := IntWalk.i64_in _ (by omega)
      have hw2 : IntKind.i64.wrap (n.tmod 10) = n.tmod 10 := IntWalk.i64_in _ (by omega)
      have hw3 : IntKind.i64.wrap (-(n.tdiv 10)) = -(n.tdiv 10) := IntWalk.i64_in _ (by omega)
      have hw4 : IntKind.i64.wrap (-(n.tmod 10)) = -(n.tmod 10) := IntWalk.i64_in _ (by omega)
      rw [show str [45] = ⟨#[45]⟩ from rfl] at hE hi2
      clear hz hl hz2 hl2
      replace hE := fhid hE
      generalize str (dec (-(n.tdiv 10)).toNat) = S at *
      generalize str (dec (-(n.tmod 10)).toNat) = T at *
      clear hq0 hr0
      go_enter Tryd.func43, Tryd.ntmps43
      go_wp2_with (first
        | (go_at_call 56; (with_reducible refine (hD _).mono ?_); clear hD; rintro e w1 ⟨rfl, g1⟩)
        | (go_at_call 56; (with_reducible refine (hF _).mono ?_); rintro e w2 ⟨rfl, g2⟩))
      go_ret
      exact ⟨frets hE.out.symm, g1.trans g2⟩
end Go.Proofs.YtkmknogejhhajaaDoor
