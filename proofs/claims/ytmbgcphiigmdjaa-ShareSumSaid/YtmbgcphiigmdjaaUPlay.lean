/-
  A script that is not too long; what a script comes to.
-/
import Derived.Test.YtmbgcphiigmdjaaUActs
import Derived.Test.YtmbgcphiigmdjaaUAlive
namespace Go.Proofs.Ytmbgcphiigmdjaa
open Go.RowKit Ss Ds

def shortL (l : List Act3) : List Act3 := l.take 300
theorem short_mem {l : List Act3} {a : Act3} (h : a ∈ shortL l) : a ∈ l := List.mem_of_mem_take h
theorem short_len (l : List Act3) : (shortL l).length ≤ 300 := by unfold shortL; rw [List.length_take]; omega
set_option maxRecDepth 100000 in
set_option maxHeartbeats 1000000 in
theorem short_any (A : Option Addr) (l : List Act3) (cap : Nat) (w : World) (h : RdS w A l.length cap (AVs l)) :
    Calls Try.prog 13 #[.slice A l.length cap] w fun e w' => ∃ c', e = .returned (.slice A (shortL l).length c') ∧ RdS w A (shortL l).length c' (AVs (shortL l)) ∧ w' = w := by
  obtain ⟨h1, h2, h3⟩ := h
  have hl : (shortL l).length = min l.length 300 := by unfold shortL; rw [List.length_take]; omega
  have hp : RdS w A (shortL l).length cap (AVs (shortL l)) := by
    refine ⟨by omega, h2, fun h0 => ?_⟩
    have e : AVs l = AVs (shortL l) ++ AVs (l.drop 300) := by unfold AVs shortL; rw [← List.flatMap_append, List.take_append_drop]
    have hle : (AVs (shortL l)).length ≤ (AVs l).length := by rw [e, List.length_append]; omega
    obtain ⟨b, o, ea, hb, hc⟩ := h3 (by omega)
    refine ⟨b, o, ea, hb, fun j hj => ?_⟩
    rw [hc j (by omega)]
    congr 1
    simp only [e]
    exact List.getElem_append_left hj
  have hm : min (l.length : Int) 300 = ((shortL l).length : Nat) := by rw [hl]; omega
  have hm1 : (0 : Int) ≤ ((shortL l).length : Nat) := by omega
  have hm2 : (((shortL l).length : Nat) : Int) ≤ cap := by rw [hl]; omega
  have hcz : (cap : Int) ≤ 9223372036854775807 := by unfold maxLen at h2; omega
  generalize (shortL l).length = m at *
  generalize AVs (shortL l) = xs at *
  clear h3 hl
  replace hp := fhid hp
  go_enter Try.func13, Try.ntmps13
  go_wp2_with fail
  go_ret
  exact ⟨_, rfl, hp.out, rfl⟩
theorem short_rds {w : World} {A : Option Addr} {l : List Act3} {cp : Nat} (h : RdS w A l.length cp (AVs l)) : RdS w A (shortL l).length cp (AVs (shortL l)) := by
  obtain ⟨h1, h2, h3⟩ := h
  have hl : (shortL l).length = min l.length 300 := by unfold shortL; rw [List.length_take]; omega
  refine ⟨by omega, h2, fun h0 => ?_⟩
  have e : AVs l = AVs (shortL l) ++ AVs (l.drop 300) := by unfold AVs shortL; rw [← List.flatMap_append, List.take_append_drop]
  have hle : (AVs (shortL l)).length ≤ (AVs l).length := by rw [e, List.length_append]; omega
  obtain ⟨b, o, ea, hb, hc⟩ := h3 (by omega)
  refine ⟨b, o, ea, hb, fun j hj => ?_⟩
  rw [hc j (by omega)]
  congr 1
  simp only [e]
  exact List.getElem_append_left hj
/-- One act of a script, the last time that was taken. -/
def stepP (h : Int) (s : List Usr × Int) (a : Act3) : List Usr × Int := ((addP h s.1 a.1 a.2.1 a.2.2).1, if (addP h s.1 a.1 a.2.1 a.2.2).2 = 0 then max s.2 a.2.2 else s.2)
def playP (h : Int) (l : List Act3) : List Usr × Int := l.foldl (stepP h) ([], 0)
theorem play_snoc (h : Int) (l : List Act3) (a : Act3) : playP h (l ++ [a]) = stepP h (playP h l) a := by unfold playP; rw [List.foldl_append]; rfl
theorem play_take (h : Int) (l : List Act3) (k : Nat) (hk : k < l.length) : playP h (l.take (k + 1)) = stepP h (playP h (l.take k)) l[k] := by
  rw [List.take_succ_eq_append_getElem hk, play_snoc]
/-- What holds behind a script. -/
structure Played (s : List Usr × Int) : Prop where
  good : Good s.1
  till : Till s.1 s.2
  t0 : 0 ≤ s.2
  t1 : s.2 ≤ 1099511627776
theorem Played.start : Played ([], 0) := ⟨Good.nil, (fun _ h => by cases h), Int.le_refl _, (show (0 : Int) ≤ 1099511627776 by decide)⟩
theorem Played.step {h : Int} {s : List Usr × Int} (h1 : 1 ≤ h) (p : Played s) (a : Act3) : Played (stepP h s a) := by
  obtain ⟨M, last⟩ := s
  obtain ⟨nm, am, now⟩ := a
  obtain ⟨g, t, t0, t1⟩ := p
  simp only at g t t0 t1
  by_cases he : (addP h M nm am now).2 = 0
  · have e : stepP h (M, last) (nm, am, now) = ((addP h M nm am now).1, max last now) := by unfold stepP; simp only; rw [if_pos he]
    rw [e]
    obtain ⟨n0, n1⟩ := add_now he
    exact ⟨add_good h1 g, add_till h1 g t he, (show 0 ≤ max last now by omega), (show max last now ≤ 1099511627776 by omega)⟩
  · have e : stepP h (M, last) (nm, am, now) = (M, last) := by
      unfold stepP
      simp only
      rw [if_neg he]
      rcases add_err h M nm am now with h2 | h2
      · exact absurd h2 he
      · rw [h2]
    rw [e]
    exact ⟨g, t, t0, t1⟩
theorem play_played {h : Int} (h1 : 1 ≤ h) : ∀ (l : List Act3) {s : List Usr × Int}, Played s → Played (l.foldl (stepP h) s)
  | [], _, p => p
  | a :: l, _, p => play_played h1 l (p.step h1 a)
theorem play_ok {h : Int} (h1 : 1 ≤ h) (l : List Act3) : Played (playP h l) := play_played h1 l Played.start
end Go.Proofs.Ytmbgcphiigmdjaa
