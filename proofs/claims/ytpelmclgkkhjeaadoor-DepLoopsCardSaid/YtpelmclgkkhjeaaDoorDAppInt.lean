/-
  strconv.AppendInt at base 10, of a number that is not below 0, behind bytes in a row that may bear a mark.
-/
import Derived.Test.YtpelmclgkkhjeaaDoorDMark
import Derived.Test.YtpelmclgkkhjeaaDoorSShelf
import Derived.Lib.AppendIntMem
namespace Go.Proofs.YtpelmclgkkhjeaaDoor
open Go.RowKit

/-- The library's table of powers of ten reads as the program's text lays it. -/
def Tab (w : World) : Prop := Lib.TabIs Tryd.prog w "internal/strconv.uint64pow10" .u64 Lib.pow10Tab
theorem tab_below {w w' : World} (h : Tab w) (hb : Below w.heap.size w w') : Tab w' := ((Lib.tabBelow_of_tabIs h).on hb).here
/-- What a call that puts digits behind bytes hands back. -/
def DigPost (w : World) (base : Nat) (l : List UInt8) (e : Ending) (w' : World) : Prop := ∃ v', e = .returned v' ∧ OwnB w' base v' l ∧ Below base w w'
theorem dec_len (u : Nat) (h : u < 18446744073709551616) : (dec u).length ≤ 20 := by
  unfold dec
  rw [Lib.decDigits_length]
  by_cases h0 : u < 10
  · rw [Lib.nDigits_small h0]; omega
  · have := Lib.numDigits_eq u (by omega) h
    split at this <;> omega
set_option maxRecDepth 100000 in
set_option maxHeartbeats 2000000 in
theorem AppendUint_small (base u : Nat) (hu : u < 100) (v : Value) (l : List UInt8) (w : World) (hown : OwnB w base v l) (hb : base ≤ w.heap.size) (hlen : l.length ≤ 1000000000) :
    Calls Tryd.prog 53 #[v, .int .u64 u, .int .i64 10] w (DigPost w base (l ++ dec u)) := by
  have hd := dec_len u (by omega)
  have hE := fhid (show bl (⟨(Lib.decDigits u).toArray⟩ : ByteArray) = dec u from rfl)
  have hz : l.length + (⟨(Lib.decDigits u).toArray⟩ : ByteArray).size ≤ 1099511627776 := by
    show l.length + (Lib.decDigits u).toArray.size ≤ _
    simp only [List.size_toArray]
    have : (Lib.decDigits u).length ≤ 20 := hd
    omega
  have hs := fun W => Tryd.internal_strconv_small u hu W
  have iu : (u : Int) < 100 := by omega
  have iu0 : (0 : Int) ≤ u := by omega
  generalize (⟨(Lib.decDigits u).toArray⟩ : ByteArray) = S at *
  replace hown := fhid hown
  go_enter Tryd.func53, Tryd.ntmps53
  go_wp2_with (first
    | (go_at_call 62; (with_reducible refine (hs _).mono ?_); rintro e w1 ⟨rfl, rfl⟩)
    | (at_builtin; (refine app_mark_str rfl _ _ rfl base v l rfl hown.out S rfl hz hb ?_; intro v2 w2 o2 b2)))
  go_ret
  exact ⟨_, rfl, by rw [← hE.out]; exact o2, b2⟩
set_option maxRecDepth 100000 in
set_option maxHeartbeats 4000000 in
theorem AppendUint_big (base u : Nat) (hu : 100 ≤ u) (hu64 : u < 18446744073709551616) (v : Value) (l : List UInt8) (w : World) (hT : Tab w) (hown : OwnB w base v l) (hb : base ≤ w.heap.size) (hlen : l.length ≤ 1000000000) :
    Calls Tryd.prog 53 #[v, .int .u64 u, .int .i64 10] w (DigPost w base (l ++ dec u)) := by
  have hd := dec_len u hu64
  have hnl : (Lib.decDigits u).length = Lib.nDigits u := Lib.decDigits_length u
  have hnd : Lib.nDigits u ≤ 20 := by rw [← hnl]; exact hd
  have hnu := fun W hW => Tryd.internal_strconv_numDigits u (by omega) hu64 W hW
  have hH0 := Lib.holds_zero0 w 112 (Lib.nDigits u) (by omega)
  have hfmt := Tryd.internal_strconv_formatBase10 w.heap.size 0 24 u (Array.replicate (Lib.nDigits u) 0) (w.alloc (.cells Lib.zeros24 112)) hH0 (by rw [Array.size_replicate]; exact Lib.lt_pow_nDigits u) hu64 (by rw [Array.size_replicate]; omega)
  rw [Array.size_replicate] at hfmt
  have iu : ¬ (u : Int) < 100 := by omega
  have iu0 : (0 : Int) ≤ u := by omega
  have hal : Tryd.prog.arrayLen 112 = 24 := by kernel_rfl
  have hsl : ∀ W, (Instr.sliceAt 112 (.pointer (some ⟨w.heap.size, 0, none⟩)) none (some (.int .i64 (Lib.nDigits u : Int))) none).run Tryd.prog W = .ok (.slice (some ⟨w.heap.size, 0, none⟩) (Lib.nDigits u) 24) W := fun W => by
    rw [run_sliceAt_array_h W 112 ⟨w.heap.size, 0, none⟩ (by simp [Program.arrayLen, Program.elem, Tryd.underlying112]) .i64 (Lib.nDigits u : Int) (by omega) (by rw [hal]; omega)]
    go_simp
  have fin : ∀ (dk : Array UInt8) (k v' : Nat), Lib.FmtInv (Lib.nDigits u) u 0 v' dk → ∃ W, (Sort.putRow (fun (b : UInt8) => Value.int .u8 (b.toNat : Int)) (w.alloc (.cells Lib.zeros24 112)) w.heap.size 0 dk).drewN k = W ∧ Below w.heap.size w W ∧ ∀ j u', (Lib.byteCells (dec u))[j]? = some u' → W.cell? ((⟨w.heap.size, 0, none⟩ : Addr).add j) = some u' := by
    intro dk k v' hF
    obtain ⟨os, eo⟩ := Lib.fin_at w (.cells Lib.zeros24 112) dk k 0
    refine ⟨_, rfl, by rw [eo]; exact Lib.below_grow w.heap.size w (Nat.le_refl _) k os, fun j u' hj => ?_⟩
    have hjl : j < (Lib.decDigits u).length := by
      have h5 := (List.getElem?_eq_some_iff.1 hj).1
      rwa [Lib.byteCells_length] at h5
    have e5 : (Lib.byteCells (dec u))[j]? = some (Value.int .u8 ((Lib.decDigits u)[j].toNat : Int)) := by simp [Lib.byteCells, hjl, dec]
    rw [e5] at hj
    cases hj
    rw [Lib.row_is_numeral hF j hjl, Lib.add_plain, World.cell?_drewN]
    exact Sort.cell?_putRow (fun (b : UInt8) => Value.int .u8 (b.toNat : Int)) _ w.heap.size 0 _ dk hH0 (by rw [hF.size, Array.size_replicate]) j (by rw [hF.size]; omega)
  have hm : Lib.nDigits u = (dec u).length := hnl.symm
  replace hown := fhid hown
  replace fin := fhid fin
  clear hH0 hal hnl
  replace hm := fhid hm
  replace hT := fhid hT
  generalize Lib.nDigits u = nd at *
  go_enter Tryd.func53, Tryd.ntmps53
  go_wp2_with (first
    | (go_at_call 63; (refine (hnu _ (tab_below hT.out ((Below.refl _ _).alloc (Nat.le_refl _) _))).mono ?_); rintro e w1 ⟨rfl, rfl⟩)
    | (go_at_call 64; refine hfmt.mono ?_; rintro e w1 ⟨rfl, k, v', dk, rfl, hF⟩
       obtain ⟨W, hW, bW, hc⟩ := fin.out dk k v' hF
       rw [hW]
       clear hW hF hfmt
       replace hc := fhid hc)
    | (at_builtin; (refine app_mark rfl _ _ rfl base v l (dec u) rfl (hown.out.below bW) ⟨w.heap.size, 0, none⟩ nd 24 rfl hm.out hc.out (by omega) (Nat.le_trans hb bW.size) ?_; intro v2 w2 o2 b2)))
  go_ret
  exact ⟨_, rfl, o2, (bW.mono hb).trans b2⟩
theorem AppendUint_any (base u : Nat) (hu64 : u < 18446744073709551616) (v : Value) (l : List UInt8) (w : World) (hT : Tab w) (hown : OwnB w base v l) (hb : base ≤ w.heap.size) (hlen : l.length ≤ 1000000000) :
    Calls Tryd.prog 53 #[v, .int .u64 u, .int .i64 10] w (DigPost w base (l ++ dec u)) := by
  by_cases h : u < 100
  · exact AppendUint_small base u h v l w hown hb hlen
  · exact AppendUint_big base u (by omega) hu64 v l w hT hown hb hlen
set_option maxRecDepth 100000 in
set_option maxHeartbeats 2000000 in
theorem AppendInt_in (base u : Nat) (hu : u < 9223372036854775808) (v : Value) (l : List UInt8) (w : World) (hT : Tab w) (hown : OwnB w base v l) (hb : base ≤ w.heap.size) (hlen : l.length ≤ 1000000000) :
    Calls Tryd.prog 39 #[v, .int .i64 u, .int .i64 10] w (DigPost w base (l ++ dec u)) := by
  have hu1 := AppendUint_any base u (by omega) v l w hT hown hb hlen
  have i0 : ¬ (u : Int) < 0 := by omega
  have i1 : (0 : Int) ≤ u := by omega
  have i2 : (u : Int) ≤ 9223372036854775807 := by omega
  replace hown := fhid hown
  replace hT := fhid hT
  go_enter Tryd.func39, Tryd.ntmps39
  go_wp2_with (go_at_call 53; (with_reducible refine hu1.mono ?_); rintro e w1 ⟨v1, rfl, o1, b1⟩)
  go_ret
  exact ⟨_, rfl, o1, b1⟩
set_option maxHeartbeats 2000000 in
theorem AppendInt_any (base u : Nat) (ui : Int) (hui : ui = u) (hu : u < 9223372036854775808) (v : Value) (l : List UInt8) (w : World) (hT : Tab w) (hown : OwnB w base v l) (hb : base ≤ w.heap.size) (hlen : l.length ≤ 1000000000) :
    Calls Tryd.prog 32 #[v, .int .i64 ui, .int .i64 10] w (DigPost w base (l ++ dec u)) := by
  subst hui
  have hu1 := AppendInt_in base u hu v l w hT hown hb hlen
  replace hown := fhid hown
  replace hT := fhid hT
  go_enter Tryd.func32, Tryd.ntmps32
  go_wp2_with (go_at_call 39; (with_reducible refine hu1.mono ?_); rintro e w1 ⟨v1, rfl, o1, b1⟩)
  go_ret
  exact ⟨_, rfl, o1, b1⟩
end Go.Proofs.YtpelmclgkkhjeaaDoor
