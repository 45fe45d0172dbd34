/-
  The frame that begins bytes.
-/
import Derived.Test.YtpblpkmlioojiaaFSame
import Derived.Test.YtpblpkmlioojiaaFPut
import Derived.Laws.CopyOwn
import Derived.Deep.RegionWith
import Derived.Deep.DeepCutAuto
namespace Go.Proofs.Ytpblpkmlioojiaa
open Go.RowKit

/-- What begins these bytes: the error; the bytes; how many the whole frame has. -/
def getErr (l : List UInt8) : Nat :=
  if l.length < 4 then 4 else if 65536 < num (l.take 4) then 5 else if l.length < num (l.take 4) + 12 then 4
  else if sumOf ((l.drop 4).take (num (l.take 4))) = num ((l.drop (4 + num (l.take 4))).take 8) then 0 else 8
def getBytes (l : List UInt8) : List UInt8 := if getErr l = 0 then (l.drop 4).take (num (l.take 4)) else []
def getLen (l : List UInt8) : Nat := if getErr l = 0 then num (l.take 4) + 12 else 0

theorem seg_window {w : World} {B b o : Nat} {l : List UInt8} (hb : b < B) (hc : ∀ j (h : j < l.length), w.cell? ⟨b, o + j, none⟩ = some (.int .u8 (l[j].toNat : Int))) (i m : Nat) :
    Seg w B (some ⟨b, o + i, none⟩) ((l.drop i).take m) := fun _ => ⟨b, o + i, rfl, hb, fun j hj => by
  rw [List.length_take, List.length_drop] at hj
  rw [List.getElem_take, List.getElem_drop, Nat.add_assoc]
  exact hc (i + j) (by omega)⟩
theorem made_block {w : World} {base g n cap : Nat} {xs : List Value} (h : w.ownsRow base 5 1 (.slice (some ⟨g, 0, none⟩) n cap) n xs) : ∃ cur : List Value, w.heap[g]? = some (.cells cur.toArray 5 (0, 0)) ∧ cur.length = cap := by
  rcases h.2 with ⟨h, _⟩ | ⟨g', cap', cur, hv, _, hh, _, _, hs, _⟩
  · cases h
  · cases hv
    exact ⟨cur.toList, hh, by rw [Array.length_toList, hs]; omega⟩
theorem own_copied {w : World} {base g n : Nat} {cur : List Value} {l : List UInt8} (h : w.heap[g]? = some (.cells (splice cur 0 (BV l)).toArray 5 (0, 0))) (hc : cur.length = n) (hl : l.length = n) (hb : base ≤ g) (hm : n ≤ maxLen) :
    Own w base (.slice (some ⟨g, 0, none⟩) n n) l := by
  subst hl
  have e : splice cur 0 (BV l) = BV l := by
    unfold splice
    rw [BV_len, Nat.zero_add, List.drop_of_length_le (by omega)]
    simp
  rw [e] at h
  exact ⟨by rw [BV_len]; omega, .inr ⟨g, l.length, (BV l).toArray, rfl, hb, h, Nat.le_refl _, hm, by simp [BV_len], by rw [List.take_of_length_le (by simp [BV_len])]⟩⟩
theorem fret3 {v : Value} {a b c d : Int} (h : a = b) (h' : c = d) : Ending.returned (.tuple #[v, .int .i64 a, .int .i64 c]) = .returned (.tuple #[v, .int .i64 b, .int .i64 d]) := by rw [h, h']
theorem infoSize : (Try.prog.info? 5).map (·.size) = some 1 := by kernel_rfl
def GivesGet (w : World) (base : Nat) (l : List UInt8) (e : Ending) (w' : World) : Prop :=
  ∃ v, e = .returned (.tuple #[v, .int .i64 ((getLen l : Nat) : Int), .int .i64 ((getErr l : Nat) : Int)]) ∧ Own w' base v (getBytes l) ∧ Below base w w'

set_option maxRecDepth 100000 in
set_option maxHeartbeats 2000000 in
theorem Get_any (A : Option Addr) (l : List UInt8) (cap : Nat) (w : World) (h : Seg w w.heap.size A l) (hc : l.length ≤ cap) (hl : l.length ≤ 140737488355328) :
    Calls Try.prog 16 #[.slice A l.length cap] w (GivesGet w w.heap.size l) := by
  by_cases h4 : l.length < 4
  · have E := fhid (show getErr l = 4 ∧ getBytes l = [] ∧ getLen l = 0 by
      have : getErr l = 4 := by unfold getErr; rw [if_pos h4]
      exact ⟨this, by unfold getBytes; rw [this]; rfl, by unfold getLen; rw [this]; rfl⟩)
    have h2 : (l.length : Int) < 4 := by omega
    clear h
    go_enter Try.func16, Try.ntmps16
    go_wp2
    go_ret3
    exact ⟨_, by rw [E.out.1, E.out.2.2]; rfl, by rw [E.out.2.1]; exact Own.none_ _ _, Below.refl _ _⟩
  · have h2 : ¬ (l.length : Int) < 4 := by omega
    obtain ⟨b, o, rfl, hb, hcell⟩ := h (by omega)
    have hn4 := number_any (some ⟨b, o, none⟩) (l.take 4) cap w.heap.size w (h.take 4) (by rw [List.length_take]; omega)
    rw [show (l.take 4).length = 4 by rw [List.length_take]; omega] at hn4
    have hnw := num_word (l.take 4) (by rw [List.length_take]; omega)
    by_cases h5 : 65536 < num (l.take 4)
    · have E := fhid (show getErr l = 5 ∧ getBytes l = [] ∧ getLen l = 0 by
        have : getErr l = 5 := by unfold getErr; rw [if_neg h4, if_pos h5]
        exact ⟨this, by unfold getBytes; rw [this]; rfl, by unfold getLen; rw [this]; rfl⟩)
      generalize num (l.take 4) = n at *
      have h6 : (n : Int) > 65536 := by omega
      clear h hcell
      go_enter Try.func16, Try.ntmps16
      go_wp2_with (go_at_call 23; refine hn4.mono ?_; rintro e w' ⟨rfl, rfl⟩)
      go_ret3
      exact ⟨_, by rw [E.out.1, E.out.2.2]; rfl, by rw [E.out.2.1]; exact Own.none_ _ _, Below.refl _ _⟩
    · by_cases h7 : l.length < num (l.take 4) + 12
      · have E := fhid (show getErr l = 4 ∧ getBytes l = [] ∧ getLen l = 0 by
          have : getErr l = 4 := by unfold getErr; rw [if_neg h4, if_neg h5, if_pos h7]
          exact ⟨this, by unfold getBytes; rw [this]; rfl, by unfold getLen; rw [this]; rfl⟩)
        generalize num (l.take 4) = n at *
        have h6 : ¬ (n : Int) > 65536 := by omega
        have h8 : (l.length : Int) < 4 + n + 8 := by omega
        have e1 : IntKind.i64.wrap (n : Int) = n := by simp [IntKind.wrap, IntKind.bits, IntKind.signed]; omega
        clear h hcell
        go_enter Try.func16, Try.ntmps16
        go_wp2_with (go_at_call 23; refine hn4.mono ?_; rintro e w' ⟨rfl, rfl⟩)
        go_ret3
        exact ⟨_, by rw [E.out.1, E.out.2.2]; rfl, by rw [E.out.2.1]; exact Own.none_ _ _, Below.refl _ _⟩
      · have hsi := seg_window (o := o) hb hcell 4 (num (l.take 4))
        have hst := seg_window (o := o) hb hcell (4 + num (l.take 4)) 8
        have hli : ((l.drop 4).take (num (l.take 4))).length = num (l.take 4) := by rw [List.length_take, List.length_drop]; omega
        have hlt : ((l.drop (4 + num (l.take 4))).take 8).length = 8 := by rw [List.length_take, List.length_drop]; omega
        have E := fhid (show getErr l = (if sumOf ((l.drop 4).take (num (l.take 4))) = num ((l.drop (4 + num (l.take 4))).take 8) then 0 else 8) by
          unfold getErr; rw [if_neg h4, if_neg h5, if_neg h7])
        have Eb := fhid (show getErr l = 0 → getBytes l = (l.drop 4).take (num (l.take 4)) ∧ getLen l = num (l.take 4) + 12 by
          intro h; unfold getBytes getLen; rw [if_pos h, if_pos h]; exact ⟨rfl, rfl⟩)
        have Ez := fhid (show getErr l = 8 → getBytes l = [] ∧ getLen l = 0 by
          intro h; unfold getBytes getLen; rw [h]; exact ⟨rfl, rfl⟩)
        have hnum8 := fhid (num_small _ (show ((l.drop (4 + num (l.take 4))).take 8).length ≤ 8 by omega))
        have hsum8 := fhid (sumOf_lt ((l.drop 4).take (num (l.take 4))))
        generalize (l.drop 4).take (num (l.take 4)) = inner at *
        generalize (l.drop (4 + num (l.take 4))).take 8 = tail at *
        generalize num (l.take 4) = n at *
        have hsrc := fhid (fun w' (hw : Below w.heap.size w w') j u (hu : (BV inner)[j]? = some u) => (show w'.cell? ((⟨b, o + 4, none⟩ : Addr).add j) = some u by
          obtain ⟨hj, rfl⟩ := BV_get inner j u hu
          obtain ⟨b', o', e, _, hx⟩ := (hsi.below hw) (by omega)
          cases e
          have := hx j hj
          unfold Addr.add
          by_cases hz : j = 0
          · subst hz; simpa using this
          · rw [if_neg hz]; exact this))
        have cS := fun w' (hw : Below w.heap.size w w') => (Sum_any (some ⟨b, o + 4, none⟩) inner (cap - 4) w' ((hsi.below hw).more hw.size) (by omega) (by omega)).mono (R' := fun e w'' => e = .returned (.int .u64 ((sumOf inner : Nat) : Int)) ∧ Below w.heap.size w w'') fun e w'' ⟨he, hx⟩ => ⟨he, hw.trans (hx.mono hw.size)⟩
        have cN := fun w' (hw : Below w.heap.size w w') => number_any (some ⟨b, o + (4 + n), none⟩) tail (cap - (4 + n)) w.heap.size w' (hst.below hw) (by omega)
        rw [hli] at cS
        rw [hlt] at cN
        have h6 : ¬ (n : Int) > 65536 := by omega
        have h8 : ¬ (l.length : Int) < 4 + n + 8 := by omega
        have e1 : IntKind.i64.wrap (n : Int) = n := by simp [IntKind.wrap, IntKind.bits, IntKind.signed]; omega
        have hne : ¬ cap = 4 := by omega
        have hne2 : ¬ cap = 4 + n := by omega
        have f1 : 4 + n - 4 = n := by omega
        have f2 : 4 + n + 8 - (4 + n) = 8 := by omega
        have d0 : Below w.heap.size w w.drew := below_drewN (Below.refl _ _) 1
        generalize sumOf inner = s at *
        generalize num tail = t at *
        clear h hcell hsi hst
        go_enter Try.func16, Try.ntmps16
        go_upto_region 11 with (go_at_call 23; refine hn4.mono ?_; rintro e w' ⟨rfl, rfl⟩)
        by_cases hs : s = t
        · subst hs
          rw [if_pos rfl] at E
          have e8 := Eb.out E.out
          replace e8 := fhid e8
          obtain ⟨i0, hi, hz0, hz1, hz2⟩ := info_parts infoByte
          have hsb := infoSize
          go_wp2_with fail
          go_region_with (first
            | (go_at_call 10; with_reducible refine (cS _ (by first | assumption | exact d0)).mono ?_; rintro e w1 ⟨rfl, z⟩)
            | (go_at_call 23; with_reducible refine (cN _ (by first | assumption | exact d0)).mono ?_; rintro e w1 ⟨rfl, rfl⟩))
          all_goals
            clear cS cN hn4 d0
            have hsz := z.size
            go_wp2_with (first
              | (at_make
                 refine wpList_make_full _ rfl _ _ 22 rfl w.heap.size 5 i0 (.int .u8 0) 1 Try.underlying22 hi hz0 hz1 _ _ _ _ n rfl rfl rfl rfl (by rw [hz2]; omega) (by unfold maxLen; omega) hsz ?_
                 intro w2 ho2 hg2
                 have b2 : Below w.heap.size w w2 := z.grown hg2 hsz (fun k h => by cases h)
                 obtain ⟨cur, hcur, hcl⟩ := made_block ho2
                 replace hcur := fhid hcur
                 replace hcl := fhid hcl)
              | (with_reducible refine wpList_copy_splice rfl (.tmp 40) (.tmp 41) 22 22 rfl 5 Try.underlying22 hsb (some ⟨w1.heap.size, 0, none⟩) (some ⟨b, o + 4, none⟩) n n n (cap - 4) rfl rfl w1.heap.size 0 cur 5 hcur.out (BV inner) (by rw [BV_len, hli]; exact (Nat.min_self n).symm) (fun _ => ⟨rfl, _, rfl, hsrc.out w2 b2⟩) (by rw [BV_len, hli, hcl.out]; omega) (BV_one inner) w.heap.size w b2 hsz ?_
                 intro w3 hg3 b3))
            go_ret3
            refine ⟨.slice (some ⟨w1.heap.size, 0, none⟩) n n, fret3 (by rw [e8.out.2]; omega) (by rw [E.out]; rfl), ?_, b3⟩
            rw [e8.out.1]
            exact own_copied hg3.out hcl.out hli hsz (by unfold maxLen; omega)
        · rw [if_neg hs] at E
          have hs2 : ¬ (s : Int) = (t : Int) := by omega
          have e8 := fhid (Ez.out E.out)
          go_wp2_with fail
          go_region_with (first
            | (go_at_call 10; with_reducible refine (cS _ (by first | assumption | exact d0)).mono ?_; rintro e w1 ⟨rfl, z⟩)
            | (go_at_call 23; with_reducible refine (cN _ (by first | assumption | exact d0)).mono ?_; rintro e w1 ⟨rfl, rfl⟩))
          all_goals
            clear cS cN hn4 d0
            go_wp2
            go_ret3
            exact ⟨_, by rw [E.out, e8.out.2]; rfl, by rw [e8.out.1]; exact Own.none_ _ _, z⟩
end Go.Proofs.Ytpblpkmlioojiaa
