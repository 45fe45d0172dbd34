/-
  Parts: ZLRefused ZTwo.
-/
import Derived.Test.YtmnmcikbbfcjcaaGreatDoorZ2
import Derived.Test.YtmnmcikbbfcjcaaGreatDoorZ3
import Derived.Test.YtmnmcikbbfcjcaaGreatDoorC2
import Derived.Test.YtmnmcikbbfcjcaaGreatDoorZ4
set_option linter.unusedSimpArgs false
set_option linter.unusedVariables false
/-
  PoolRefused, walked.
-/
namespace Go.Proofs.YtmnmcikbbfcjcaaGreatDoor.Ps
open Go.RowKit Go.Shelf Vs Ns

/-- Below the law's start nothing turns while its pool does. -/
theorem below_fx {w W W' : World} {p : Nat} (hp : w.heap.size ≤ p) (hb : Below w.heap.size w W) (hf : FX (At3 p) W W') : Below w.heap.size w W' := hb.trans (hf.below (B := w.heap.size) (fun j hj => by have hj : j = p := hj; rw [hj]; exact hp) hb.size)
/-- One call of a script, the pool being the call's own. -/
theorem script_step {w W : World} {p : Nat} {P0 : Pl} {L : List ActC} (hw : Env12 w) (hp : w.heap.size ≤ p) (hG : Good P0) (ok : ∀ a ∈ L, okA a) (k : Nat) (hk : k < L.length) (hb : Below w.heap.size w W) (hP : PB W p (playP P0 (L.take k))) :
    Calls Tryz.prog 10 #[.pointer (some ⟨p, 0, none⟩), .agg (actV L[k]).toArray] W fun e w' => (∃ s er, e = .returned (.tuple #[Bs.nodes s, .int .i64 er])) ∧ PB w' p (playP P0 (L.take (k + 1))) ∧ FX (At3 p) W w' ∧ Below w.heap.size w w' := by
  have hg := (play_good hG (L.take k)).1
  have hE := hw.below hb
  refine (Does_any p _ L[k] W hP hg hE.tab hE.bit (ok _ (List.getElem_mem hk))).mono ?_
  rintro e w' ⟨he, h1, h2⟩
  exact ⟨⟨_, _, he⟩, by rw [play_snoc P0 L k hk]; exact h1, h2, below_fx hp hb h2⟩
/-- The script's row, as far as it is played. -/
theorem short_rds {w : World} {A : Option Addr} {l : List ActC} {cp : Nat} (h : RdS w A l.length cp (AVs l)) : RdS w A (shortL l).length cp (AVs (shortL l)) := by
  obtain ⟨h1, h2, h3⟩ := h
  have hl : (shortL l).length = min l.length 200 := by unfold shortL; rw [List.length_take]; omega
  refine ⟨by omega, h2, fun h0 => ?_⟩
  have e : AVs l = AVs (shortL l) ++ AVs (l.drop 200) := by unfold AVs shortL; rw [← List.flatMap_append, List.take_append_drop]
  have hle : (AVs (shortL l)).length ≤ (AVs l).length := by rw [e, List.length_append]; omega
  obtain ⟨b, o, ea, hb, hc⟩ := h3 (by omega)
  refine ⟨b, o, ea, hb, fun j hj => ?_⟩
  rw [hc j (by omega)]
  congr 1
  simp only [e]
  exact List.getElem_append_left hj
end Go.Proofs.YtmnmcikbbfcjcaaGreatDoor.Ps
/-
  A pool loaded from its own bytes; two pools side by side.
-/
namespace Go.Proofs.YtmnmcikbbfcjcaaGreatDoor.Ps
open Go.RowKit Go.Shelf Vs Ns

theorem save_len {P : Pl} (hG : Good P) : (saveP P).length ≤ 7690 := by
  have hn0 := hG.n0
  have hn1 := hG.n1
  have hl := hG.l2
  have h1 := Cs.nb_ten P.now (by omega) (by omega)
  have h2 := flat_len (L := P.L) hn1 hG.ns
  unfold saveP
  rw [List.length_append]
  omega
end Go.Proofs.YtmnmcikbbfcjcaaGreatDoor.Ps
