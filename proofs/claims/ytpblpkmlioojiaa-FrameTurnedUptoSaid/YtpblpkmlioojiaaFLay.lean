/-
  The law's own laying of frames.
-/
import Derived.Test.YtpblpkmlioojiaaFLayM
import Derived.Test.YtpblpkmlioojiaaFAll
namespace Go.Proofs.Ytpblpkmlioojiaa
open Go.RowKit

def Fit (ps : List (List UInt8)) : Prop := ∀ p ∈ ps, p.length ≤ 65536
def GivesLay (w : World) (ps : List (List UInt8)) (e : Ending) (w' : World) : Prop :=
  (Fit ps → Gives w w.heap.size (fun v => .tuple #[v, .bool true]) (laid ps) e w') ∧
  (¬ Fit ps → e = .returned (.tuple #[.slice none 0 0, .bool false]) ∧ Below w.heap.size w w')
set_option maxRecDepth 100000 in
set_option maxHeartbeats 2000000 in
/-- Up to the first list that is too long. -/
theorem lay_some (A : Option Addr) (ps : List (List UInt8)) (cap : Nat) (w : World) (h : SegRows w w.heap.size A ps) (hl : (laid ps).length ≤ 12582912) (hm : ps.length ≤ 1048576) :
    Calls Try.prog 21 #[.slice A ps.length cap] w (GivesLay w ps) := by
  replace h := fhid h
  go_enter Try.func21, Try.ntmps21
  go_wp2
  go_loopw [4, 11] (fun v i wr => ∃ k : Nat, k ≤ ps.length ∧ i = .int .i64 k ∧ Own wr w.heap.size v (laid (ps.take k)) ∧ Below w.heap.size w wr ∧ (Fit (ps.take k))) (fun _ i _ => ps.length - (intOf i).toNat)
  case atStart => exact ⟨0, Nat.zero_le _, rfl, Own.none_ _ _, Below.refl _ _, fun p hp => by simp at hp⟩
  case round =>
    obtain ⟨k, hk, rfl, hO, hB, hall⟩ := hrel
    replace hall := fhid hall
    by_cases hlt : k < ps.length
    · obtain ⟨b, o, rfl, hb, hc⟩ := h.out (by omega)
      obtain ⟨Aj, cj, x1, hcj, s1⟩ := hc k hlt
      replace x1 := (hB.cell (p := ⟨b, o + k, none⟩) hb).trans x1
      have s2 := (s1.below hB).more hB.size
      have i1 : (0 : Int) ≤ k := by omega
      have i2 : (k : Int) < ps.length := by omega
      have hlk := laid_take_le ps k
      have hnx := fhid (laid_take ps k hlt)
      have hal := fhid (show ps[k].length ≤ 65536 → ∀ p ∈ ps.take (k + 1), p.length ≤ 65536 by
        intro hp p hm
        rw [List.take_succ_eq_append_getElem hlt, List.mem_append] at hm
        rcases hm with hm | hm
        · exact hall.out p hm
        · simp at hm; subst hm; exact hp)
      have hno := fhid (show ¬ ps[k].length ≤ 65536 → ¬ ∀ p ∈ ps, p.length ≤ 65536 from fun hn ha => hn (ha _ (List.getElem_mem hlt)))
      have hsz := hB.size
      obtain ⟨Av, cv, hv, _, _, sv⟩ := hO.shape
      clear hc s1 hO
      subst hv
      generalize ps[k] = p at *
      by_cases hp : p.length ≤ 65536
      · have cP := Put_any Av Aj (laid (ps.take k)) p cv cj wr sv s2 hp (by omega) hcj
        have hal2 := fhid (hal.out hp)
        clear hal hno sv s2
        generalize laid (ps.take k) = lk at *
        go_wp2_with (go_at_call 13; (with_reducible refine cP.mono ?_); rintro e w1 ⟨v1, rfl, o1, b1⟩)
        go_roundw
        case rel => exact ⟨k + 1, by omega, by go_num, by rw [hnx.out]; exact own_mono o1 hsz, hB.trans (b1.mono hsz), hal2.out⟩
        case measure => simp [intOf]; omega
      · have cP := Put_many Av Aj (laid (ps.take k)).length p.length cv cj wr (by omega)
        have hno2 := fhid (hno.out hp)
        clear hal hno sv s2
        generalize laid (ps.take k) = lk at *
        go_wp2_with (go_at_call 13; (with_reducible refine cP.mono ?_); rintro e w1 ⟨rfl, rfl⟩)
        go_ret2
        exact ⟨fun ha => absurd ha hno2.out, fun _ => ⟨rfl, hB⟩⟩
    · have hke : k = ps.length := by omega
      have h2 : ¬ (k : Int) < ps.length := by omega
      have E := fhid (show ps.take k = ps by rw [hke, List.take_length])
      have hO2 := fhid hO
      clear hke hO
      go_wp2
      go_ret2
      refine ⟨fun _ => ⟨_, rfl, by have := hO2.out; rw [E.out] at this; exact this, hB⟩, fun hn => absurd (by have := hall.out; rw [E.out] at this; exact this) hn⟩
end Go.Proofs.Ytpblpkmlioojiaa
