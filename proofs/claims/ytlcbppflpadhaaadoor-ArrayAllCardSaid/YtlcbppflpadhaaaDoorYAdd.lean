/-
  A range's indexes put to those that came.
-/
import Derived.Test.YtlcbppflpadhaaaDoorYSet
namespace Go.Proofs.YtlcbppflpadhaaaDoor
open Go.RowKit

theorem OwnI.seg {w : World} {base : Nat} {v : Value} {ns : List Int} (h : OwnI w base v ns) : ∃ A cap, v = .slice A ns.length cap ∧ ns.length ≤ cap ∧ cap ≤ maxLen ∧ SegP w (fun k => base ≤ k ∧ k < w.heap.size) A (IV ns) := by
  obtain ⟨hl, ⟨rfl, h0⟩ | ⟨g, cap, cur, rfl, hge, hg, hle, hcm, hsz, ht⟩⟩ := h
  · have : ns = [] := List.eq_nil_of_length_eq_zero h0
    subst this
    exact ⟨none, 0, rfl, Nat.le_refl _, by unfold maxLen; omega, SegP.nil _ _ _⟩
  · refine ⟨some ⟨g, 0, none⟩, cap, rfl, hle, hcm, fun h0 => ⟨g, 0, rfl, ⟨hge, lt_of_block hg⟩, fun j hj => ?_⟩⟩
    have hj' : j < ns.length * 1 := by rw [← hl]; exact hj
    have e : (cur.toList.take (ns.length * 1))[j]? = some (IV ns)[j] := by rw [ht, List.getElem?_eq_getElem hj]
    rw [List.getElem?_take, if_pos hj', Array.getElem?_toList] at e
    simp only [World.cell?, hg, Nat.zero_add]
    simpa using e
theorem below_map {w w' : World} {b B : Nat} (h : w.grownBy w' (some b)) (hB : B ≤ b) (hb : B ≤ w.heap.size) : Below B w w' :=
  ⟨h.os, h.tape, h.output, h.size, fun k hk => h.block k (by omega) (by intro e; injection e with e; omega)⟩
/-- Whether a range's indexes may be put to those that came. -/
def mayAdd (came : List Int) (x : Sp) : Bool := decide (¬ (256 < came.length + spN x ∨ ¬ ∀ n ∈ spL x, n ∉ came))
/-- What a call that puts them hands back. -/
def AddPost (B b : Nat) (came : List Int) (x : Sp) (w : World) (e : Ending) (w' : World) : Prop := e = .returned (.bool (mayAdd came x)) ∧ (mayAdd came x = true → KMap w' b (came ++ spL x)) ∧ Below B w w'
theorem AddPost.bad {B b : Nat} {came : List Int} {x : Sp} {w : World} {e : Ending} {w' : World} (h : mayAdd came x = false) (he : e = .returned (.bool false)) (hb : Below B w w') : AddPost B b came x w e w' := ⟨by rw [h]; exact he, fun h2 => (by rw [h] at h2; cases h2), hb⟩
set_option maxRecDepth 100000 in
set_option maxHeartbeats 4000000 in
theorem add_any (B b : Nat) (came : List Int) (x y st : Int) (w : World) (hx : SpOk (x, y, st)) (hm : KMap w b came) (hB : B ≤ b) (hl : came.length ≤ 256) :
    Calls Tryd.prog 32 #[.map (some b), .agg #[.int .i64 x, .int .i64 y, .int .i64 st]] w (AddPost B b came (x, y, st) w) := by
  have hbl := hm.lt
  have hct := fun W => count_any x y st hx W
  have hix := fun W => indexes_any x y st hx W
  have hnd := fhid (spL_facts hx.1 hx.2.1 hx.2.2.2.1).1
  have hmany := (sp_many hx).2
  have hll := fhid (spL_len (x, y, st))
  have hmy := fhid (show mayAdd came (x, y, st) = decide (¬ (256 < came.length + spN (x, y, st) ∨ ¬ ∀ n ∈ spL (x, y, st), n ∉ came)) from rfl)
  have hbad := fhid (show ∀ e w', mayAdd came (x, y, st) = false → e = .returned (.bool false) → Below B w w' → AddPost B b came (x, y, st) w e w' from fun _ _ => AddPost.bad)
  have hpost := fhid (show ∀ e w', (e = .returned (.bool (mayAdd came (x, y, st))) ∧ (mayAdd came (x, y, st) = true → KMap w' b (came ++ spL (x, y, st))) ∧ Below B w w') → AddPost B b came (x, y, st) w e w' from fun _ _ h => h)
  generalize AddPost B b came (x, y, st) w = P at *
  generalize mayAdd came (x, y, st) = r at *
  generalize spL (x, y, st) = L at *
  generalize spN (x, y, st) = N at *
  have p0 : SB (w.alloc (.cells #[.int .i64 x, .int .i64 y, .int .i64 st] TSp)) w.heap.size x y st := heap_alloc_new w _
  have b0 : Below w.heap.size w (w.alloc (.cells #[.int .i64 x, .int .i64 y, .int .i64 st] TSp)) := (Below.refl _ _).alloc (Nat.le_refl _) _
  have z0 := World.size_alloc w (.cells #[.int .i64 x, .int .i64 y, .int .i64 st] TSp)
  have i1 : (0 : Int) ≤ came.length := by omega
  have i2 : (came.length : Int) ≤ 256 := by omega
  have i3 : (0 : Int) ≤ N := by omega
  have i4 : (N : Int) ≤ 1000000 := by omega
  go_enter Tryd.func32, Tryd.ntmps32
  go_upto_region 1 with fail
  generalize w.alloc _ = w1 at *
  have hm1 := hm.below b0 hbl
  obtain ⟨c0, c1, c2, _, _, _, _⟩ := p0.facts
  have hlen := fun (W : World) (h : KMap W b came) T => h.len T
  replace p0 := fhid p0
  replace z0 := fhid z0
  replace hm := fhid hm
  replace hlen := fhid hlen
  by_cases h256 : (256 : Int) - came.length < N
  · have hr : r = false := by
      rw [hmy.out]
      exact decide_eq_false fun h => h (.inl (by omega))
    clear hmy
    go_wp2_with (go_at_call 39; (with_reducible refine (hct _).mono ?_); rintro e w2 ⟨rfl, b2⟩
                 have hlw := hlen.out w2 (hm1.below b2 (by have := z0.out; omega)))
    exact hbad.out _ _ hr rfl ((b0.trans (b2.mono b0.size)).mono (by omega))
  · have i5 : (N : Int) ≤ 256 - came.length := by omega
    go_upto_region 3 with (go_at_call 39; (with_reducible refine (hct _).mono ?_); rintro e w2 ⟨rfl, b2⟩
                           have hlw := hlen.out w2 (hm1.below b2 (by have := z0.out; omega)))
    have hz2 := b2.size
    have hz0 := z0.out
    obtain ⟨d0, d1, d2, _, _, _, _⟩ := (p0.out.below b2 (by omega)).facts
    have hm2 := hm1.below b2 (by omega)
    have g2 := b0.trans (b2.mono b0.size)
    clear c0 c1 c2 hlw
    replace hm2 := fhid hm2
    go_upto_region 4 with (go_at_call 40; (with_reducible refine (hix _).mono ?_); rintro e w3 ⟨v, rfl, o3, b3⟩
                           obtain ⟨A, cap, rfl, hc1, hc2, hsg⟩ := o3.seg)
    have hm3 := hm2.out.below b3 (by omega)
    have g3 := (g2.trans (b3.mono g2.size)).mono (B' := B) (by omega)
    have hz3 := b3.size
    have hsg3 : SegP w3 (fun k => b < k ∧ k < w3.heap.size) A (IV L) := hsg.imp fun k _ hk => ⟨by have := hk.1; omega, hk.2⟩
    have hL : L.length = N := hll.out
    rw [hL] at hc1 ⊢
    clear hsg o3 d0 d1 d2 b3 hm2 g2 hm1 b0 b2 hct hix
    replace hL := fhid hL
    go_loopw [18] (fun i wr => ∃ j : Nat, j ≤ N ∧ i = .int .i64 (j : Int) ∧ KMap wr b (came ++ L.take j) ∧ (∀ n ∈ L.take j, n ∉ came) ∧ SegP wr (fun k => b < k ∧ k < w3.heap.size) A (IV L) ∧ Below B w wr ∧ w3.heap.size ≤ wr.heap.size) (fun i _ => N - (intOf i).toNat)
    case atStart => exact ⟨0, Nat.zero_le _, rfl, by rw [List.take_zero, List.append_nil]; exact hm3, by simp, hsg3, g3, Nat.le_refl _⟩
    case round =>
      obtain ⟨j, hjN, rfl, hM, hno, hS, hBw, hsz⟩ := hrel
      have hbz := hM.lt
      by_cases hlt : j < N
      · have hjL : j < L.length := by rw [hL.out]; exact hlt
        obtain ⟨bb, o, rfl, ⟨hbb, hbs⟩, hc⟩ := Ints.at_ hS hjL
        have hsn : L.take (j + 1) = L.take j ++ [L[j]] := List.take_succ_eq_append_getElem hjL
        have hnj : L[j] ∉ L.take j := fun h => by
          obtain ⟨k, hk, e⟩ := List.getElem_of_mem h
          rw [List.getElem_take] at e
          rw [List.length_take] at hk
          exact List.pairwise_iff_getElem.1 hnd.out k j (by omega) hjL (by omega) e
        have hin : L[j] ∈ L := List.getElem_mem hjL
        have j1 : (j : Int) < N := by omega
        have j0 : (0 : Int) ≤ j := by omega
        generalize L[j] = n at *
        have hM2 := fhid (fun (W : World) (h : W.heap[b]? = wr.heap[b]?) => hM.keep (w' := W) h)
        by_cases hn : n ∈ came
        · have hr : r = false := by
            rw [hmy.out]
            exact decide_eq_false fun h => h (.inr fun h2 => h2 n hin hn)
          have hd : decide (n ∈ came ++ L.take j) = true := decide_eq_true (by simp [hn])
          have hBw' := fhid hBw
          clear hmy hsn hnj hin hno hn hM
          replace hS := fhid hS
          go_wp2_with (at_lookup; refine kmap_look rfl _ _ rfl b _ rfl (hM2.out _ rfl) n rfl true hd ?_)
          exact hbad.out _ _ hr rfl (hBw'.out.alloc (by have := hBw'.out.size; omega) _)
        · have hd : decide (n ∈ came ++ L.take j) = false := decide_eq_false (by simp [hn, hnj])
          have hnin := fhid (show n ∉ came ++ L.take j by simp [hn, hnj])
          have hno2 := fhid (show ∀ m ∈ L.take (j + 1), m ∉ came from fun m hm => by
            rw [hsn] at hm
            rcases List.mem_append.1 hm with hm | hm
            · exact hno m hm
            · rw [List.mem_singleton.1 hm]; exact hn)
          have hE := fhid (show (came ++ L.take j) ++ [n] = came ++ L.take (j + 1) by rw [hsn, List.append_assoc])
          have hBw' := fhid hBw
          clear hsn hnj hin hno hn hM hBw
          replace hS := fhid hS
          go_wp2_with (first
            | (at_lookup; refine kmap_look rfl _ _ rfl b _ rfl (hM2.out _ rfl) n rfl false hd ?_)
            | (at_mapUpdate; refine kmap_put rfl _ _ _ rfl b (came ++ L.take j) rfl (hM2.out _ (Below.heap_alloc _ _ _ hbz)) n rfl rfl hnin.out ?_; intro w4 m4 g4 z4))
          go_roundw
          case rel => exact ⟨j + 1, by omega, by go_num, by rw [← hE.out]; exact m4, hno2.out, hS.out.keep (fun k hk => (g4.block k (by rw [World.size_alloc]; omega) (by intro e; injection e with e; omega)).trans (Below.heap_alloc _ _ _ (by omega))), (hBw'.out.alloc (by have := hBw'.out.size; omega) _).trans (below_map g4 hB (by rw [World.size_alloc]; have := hBw'.out.size; omega)), by rw [z4, World.size_alloc]; omega⟩
          case measure => simp [intOf]; omega
      · obtain rfl : j = N := by omega
        have hLL : L.take j = L := List.take_of_length_le (by rw [hL.out]; omega)
        rw [hLL] at hM hno
        have hr : r = true := by
          rw [hmy.out]
          exact decide_eq_true fun h => by
            rcases h with h | h
            · omega
            · exact h hno
        have hpost2 := fhid (fun e w' (he : e = .returned (.bool true)) (h1 : KMap w' b (came ++ L)) (h2 : Below B w w') => hpost.out e w' ⟨by rw [hr]; exact he, fun _ => h1, h2⟩)
        have j1 : ¬ (j : Int) < j := by omega
        clear hmy hno hLL hr hpost hbad
        replace hM := fhid hM
        replace hS := fhid hS
        replace hBw := fhid hBw
        go_wp2_with fail
        exact hpost2.out _ _ rfl hM.out hBw.out
end Go.Proofs.YtlcbppflpadhaaaDoor
