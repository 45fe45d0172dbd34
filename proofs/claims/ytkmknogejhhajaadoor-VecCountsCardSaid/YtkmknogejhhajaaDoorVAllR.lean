/-
  Lists of vectors in memory; whether all may be; Into and the document's.
-/
import Derived.Test.YtkmknogejhhajaaDoorVInto
namespace Go.Proofs.YtkmknogejhhajaaDoor
open Go.RowKit

/-- The slice at address A reads as these vectors. -/
def SegV (w : World) (B : Nat) (A : Option Addr) (l : List V3) : Prop :=
  0 < l.length → ∃ b o, A = some ⟨b, o, none⟩ ∧ b < B ∧ ∀ j (h : j < l.length), w.cell? ⟨b, o + j * 3, none⟩ = some (.int .i64 l[j].1) ∧ w.cell? ⟨b, o + j * 3 + 1, none⟩ = some (.int .i64 l[j].2.1) ∧ w.cell? ⟨b, o + j * 3 + 2, none⟩ = some (.int .i64 l[j].2.2)
theorem SegV.below {w w' : World} {B : Nat} {A : Option Addr} {l : List V3} (h : SegV w B A l) (hb : Below B w w') : SegV w' B A l := fun h0 => by
  obtain ⟨b, o, e, hlt, hc⟩ := h h0
  refine ⟨b, o, e, hlt, fun j hj => ?_⟩
  obtain ⟨h1, h2, h3⟩ := hc j hj
  exact ⟨(hb.cell (p := ⟨b, _, none⟩) hlt).trans h1, (hb.cell (p := ⟨b, _, none⟩) hlt).trans h2, (hb.cell (p := ⟨b, _, none⟩) hlt).trans h3⟩
theorem SegV.more {w : World} {B B' : Nat} {A : Option Addr} {l : List V3} (h : SegV w B A l) (hB : B ≤ B') : SegV w B' A l := fun h0 => by
  obtain ⟨b, o, e, hlt, hc⟩ := h h0
  exact ⟨b, o, e, by omega, hc⟩
def allR (l : List V3) : Bool := l.all fun v => right v.1 v.2.1 v.2.2
theorem allR_drop (l : List V3) (k : Nat) (h : k < l.length) : allR (l.drop k) = (right l[k].1 l[k].2.1 l[k].2.2 && allR (l.drop (k + 1))) := by
  rw [List.drop_eq_getElem_cons h]; rfl
set_option maxRecDepth 100000 in
set_option maxHeartbeats 2000000 in
theorem allRight_any (A : Option Addr) (l : List V3) (cap : Nat) (w : World) (h : SegV w w.heap.size A l) (hl : l.length ≤ 9223372036854775807) :
    Calls Tryd.prog 32 #[.slice A l.length cap] w (BP w (allR l)) := by
  obtain ⟨R, hR⟩ : ∃ R, allR l = R := ⟨_, rfl⟩
  rw [hR]
  replace h := fhid h
  replace hR := fhid hR
  go_enter Tryd.func32, Tryd.ntmps32
  go_wp2
  go_loopw [7] (fun i wr => ∃ k : Nat, k ≤ l.length ∧ i = .int .i64 (k : Int) ∧ R = allR (l.drop k) ∧ Grew w wr) (fun i _ => l.length - (intOf i).toNat)
  case atStart => exact ⟨0, Nat.zero_le _, rfl, hR.out.symm, Grew.refl w⟩
  case round =>
    obtain ⟨k, hk, rfl, hE, hg⟩ := hrel
    replace hE := fhid hE
    have i2 : (l.length : Int) ≤ 9223372036854775807 := by omega
    by_cases hlt : k < l.length
    · have i1 : (k : Int) < l.length := by omega
      obtain ⟨b, o, rfl, hb, hc⟩ := (h.out.below hg.below) (by omega)
      obtain ⟨c0, c1, c2⟩ := hc k hlt
      have hd := allR_drop l k hlt
      have hr := fun W => Right_any l[k].1 l[k].2.1 l[k].2.2 W
      generalize l[k].1 = x at *
      generalize l[k].2.1 = y at *
      generalize l[k].2.2 = z at *
      generalize right x y z = q at *
      clear hc hb
      cases q with
      | true =>
        rw [Bool.true_and] at hd
        replace hd := fhid hd
        go_wp2_with (go_at_call 10; (with_reducible refine (hr _).mono ?_); rintro e w1 ⟨rfl, g1⟩)
        go_roundw
        case rel => exact ⟨k + 1, hlt, by go_num, hE.out.trans hd.out, (hg.alloc _).trans g1⟩
        case measure => simp [intOf]; omega
      | false =>
        rw [Bool.false_and] at hd
        replace hd := fhid hd
        go_wp2_with (go_at_call 10; (with_reducible refine (hr _).mono ?_); rintro e w1 ⟨rfl, g1⟩)
        go_ret
        exact BP.mk' (hE.out.trans hd.out).symm ((hg.alloc _).trans g1)
    · have i1 : ¬ (k : Int) < l.length := by omega
      obtain rfl : k = l.length := by omega
      have hd := fhid (show allR (l.drop l.length) = true by rw [List.drop_length]; rfl)
      go_wp2
      go_ret
      exact BP.mk' (hE.out.trans hd.out).symm hg
theorem segV_two (a b c d e f : Int) (g : Nat) (W : World) (h : W.heap[g]? = some (.cells #[.int .i64 a, .int .i64 b, .int .i64 c, .int .i64 d, .int .i64 e, .int .i64 f] 23 (0, 0))) : SegV W W.heap.size (some ⟨g, 0, none⟩) [(a, b, c), (d, e, f)] := fun _ => by
  refine ⟨g, 0, rfl, lt_of_block h, fun j hj => ?_⟩
  simp only [World.cell?, h]
  match j, hj with
  | 0, _ => exact ⟨rfl, rfl, rfl⟩
  | 1, _ => exact ⟨rfl, rfl, rfl⟩
theorem allTwo (a b c d e f : Int) (g : Nat) (W : World) (h : W.heap[g]? = some (.cells #[.int .i64 a, .int .i64 b, .int .i64 c, .int .i64 d, .int .i64 e, .int .i64 f] 23 (0, 0))) : Calls Tryd.prog 32 #[.slice (some ⟨g, 0, none⟩) 2 2] W (BP W (right a b c && right d e f)) := by
  have := allRight_any (some ⟨g, 0, none⟩) [(a, b, c), (d, e, f)] 2 W (segV_two a b c d e f g W h) (by simp)
  unfold allR at this
  simp only [List.all_cons, List.all_nil, Bool.and_true] at this
  exact this
end Go.Proofs.YtkmknogejhhajaaDoor
