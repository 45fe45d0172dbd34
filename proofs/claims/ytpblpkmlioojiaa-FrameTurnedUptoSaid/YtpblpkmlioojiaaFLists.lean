/-
  Two lists of bytes are the same where their bytes are.
-/
import Derived.Test.YtpblpkmlioojiaaFRows
import Derived.Test.YtpblpkmlioojiaaFSame
import Derived.BigQuiet
import Derived.Deep.QuietTactic
namespace Go.Proofs.Ytpblpkmlioojiaa
open Go.RowKit

set_option maxRecDepth 100000 in
set_option maxHeartbeats 1000000 in
theorem Lists_other (A Bo : Option Addr) (n m ca cb : Nat) (w : World) (h : n ≠ m) :
    Calls Try.prog 20 #[.slice A n ca, .slice Bo m cb] w fun e w' => e = .returned (.bool false) ∧ w = w' := by
  have h2 : ¬ (n : Int) = m := by omega
  go_enter Try.func20, Try.ntmps20
  go_wp2
  go_ret
  exact ⟨rfl, rfl⟩
theorem take_all_eq {ps qs : List (List UInt8)} {k : Nat} (h : ps.length = qs.length) (hk : k < ps.length) (hp : ps.take k = qs.take k) :
    (ps[k] = qs[k]'(h ▸ hk) → ps.take (k + 1) = qs.take (k + 1)) := by
  intro he
  rw [List.take_succ_eq_append_getElem hk, List.take_succ_eq_append_getElem (h ▸ hk), hp, he]
set_option maxRecDepth 100000 in
set_option maxHeartbeats 1000000 in
theorem Lists_any (A Bo : Option Addr) (ps qs : List (List UInt8)) (ca cb B : Nat) (w : World) (ha : SegRows w B A ps) (hb : SegRows w B Bo qs) (hl : ps.length = qs.length) (hmax : ps.length ≤ 140737488355328) :
    Calls Try.prog 20 #[.slice A ps.length ca, .slice Bo qs.length cb] w fun e w' => e = .returned (.bool (decide (ps = qs))) ∧ ∃ n, w' = w.drewN n := by
  rw [← hl]
  replace ha := fhid ha
  replace hb := fhid hb
  replace hl := fhid hl
  go_enter Try.func20, Try.ntmps20
  go_wp2
  go_loopw [5] (fun i wr => ∃ k : Nat, k ≤ ps.length ∧ i = .int .i64 k ∧ ps.take k = qs.take k ∧ ∃ n, wr = w.drewN n) (fun i _ => ps.length - (intOf i).toNat)
  case atStart => exact ⟨0, by omega, rfl, rfl, 0, rfl⟩
  case round =>
    obtain ⟨k, hk, rfl, hp, q, hq⟩ := hrel
    have hcw : ∀ p, wr.cell? p = w.cell? p := fun p => by rw [hq]; rfl
    replace hcw := fhid hcw
    replace hq := fhid hq
    replace hp := fhid hp
    by_cases hlt : k < ps.length
    · have hlt2 : k < qs.length := by rw [← hl.out]; exact hlt
      obtain ⟨b, o, rfl, _, hc⟩ := ha.out (by omega)
      obtain ⟨b', o', rfl, _, hc'⟩ := hb.out (by omega)
      obtain ⟨Aj, cj, x1, _, s1⟩ := hc k hlt
      obtain ⟨Bj, dj, x2, _, s2⟩ := hc' k hlt2
      replace x1 := (hcw.out _).trans x1
      replace x2 := (hcw.out _).trans x2
      clear hc hc'
      have cs := fun u (e : ∀ p, u.cell? p = wr.cell? p) => (Same_any Aj Bj ps[k] qs[k] cj dj B B u (s1.keep fun p _ => (e p).trans (hcw.out p)) (s2.keep fun p _ => (e p).trans (hcw.out p))).mono (R' := fun e w' => e = .returned (.bool (decide (ps[k] = qs[k]))) ∧ w' = u) fun e w' ⟨a, b⟩ => ⟨a, b.symm⟩
      have i1 : (0 : Int) ≤ k := by omega
      have i2 : (k : Int) < ps.length := by omega
      have hnx := fhid (take_all_eq hl.out hlt hp.out)
      have hne := fhid (show ps[k] ≠ qs[k] → decide (ps = qs) = false by
        intro hn
        refine decide_eq_false (fun e => hn ?_)
        subst e; rfl)
      clear s1 s2
      generalize ps[k] = p at *
      generalize qs[k] = q1 at *
      by_cases he : p = q1
      · subst he
        rw [decide_eq_true rfl] at cs
        have hny := fhid (hnx.out rfl)
        clear hnx
        go_wp2_with fail
        go_quiet ((go_at_call 15; exact Calls.quiet_of_same (cs _ (fun _ => rfl))))
        go_wp2_with fail
        go_roundw
        case rel => exact ⟨k + 1, by omega, by go_num, hny.out, _, by rw [hq.out, World.drewN_drewN]⟩
        case measure => simp [intOf]; omega
      · rw [decide_eq_false he] at cs
        have E := fhid (hne.out he)
        go_wp2_with fail
        go_quiet ((go_at_call 15; exact Calls.quiet_of_same (cs _ (fun _ => rfl))))
        go_wp2_with fail
        go_ret
        exact ⟨fretb E.out.symm, _, by rw [hq.out, World.drewN_drewN]⟩
    · have hk2 : k = ps.length := by omega
      have h2 : ¬ (k : Int) < ps.length := by omega
      have E := fhid (show decide (ps = qs) = true by
        rw [hk2, List.take_length] at hp
        have := hp.out
        rw [hl.out, List.take_length] at this
        exact decide_eq_true this)
      clear hk2
      go_wp2
      go_ret
      exact ⟨fretb E.out.symm, ⟨_, hq.out⟩⟩
end Go.Proofs.Ytpblpkmlioojiaa
