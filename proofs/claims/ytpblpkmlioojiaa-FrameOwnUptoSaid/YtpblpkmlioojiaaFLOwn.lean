/-
  FrameOwn's walk: bytes are not turned, and what was answered may be written over.
-/
import Derived.Test.YtpblpkmlioojiaaFFull
import Derived.Deep.AppendLies
namespace Go.Proofs.Ytpblpkmlioojiaa
open Go.RowKit

theorem Own.form2 {w : World} {base k : Nat} {A : Option Addr} {l : List UInt8} (h : Own w base (.slice A l.length k) l) (hn : 0 < l.length) : ∃ g, A = some ⟨g, 0, none⟩ ∧ base ≤ g := by
  obtain ⟨g, cap, hv, hb, _⟩ := World.ownsRow.form h hn
  injection hv with hA _ _
  exact ⟨g, hA, hb⟩
/-- The bytes ahead of the room. -/
theorem Own.front {w : World} {base g n m : Nat} {l : List UInt8} (h : Own w base (.slice (some ⟨g, 0, none⟩) n n) (l ++ List.replicate m 0)) (hn : n = l.length + m) :
    Seg w (g + 1) (some ⟨g, 0, none⟩) l ∧ (∀ j, j < m → w.cell? ⟨g, l.length + j, none⟩ = some (.int .u8 0)) := by
  have hlen : (l ++ List.replicate m 0).length = n := by rw [List.length_append, List.length_replicate, hn]
  rw [← hlen] at h
  refine ⟨fun h0 => ⟨g, 0, rfl, Nat.lt_succ_self _, fun j hj => ?_⟩, fun j hj => ?_⟩
  · have := (h.cell_at j (by rw [List.length_append]; omega)).1
    rw [List.getElem_append_left hj] at this
    rw [Nat.zero_add]
    exact this
  · have := (h.cell_at (l.length + j) (by rw [List.length_append, List.length_replicate]; omega)).1
    rw [List.getElem_append_right (by omega)] at this
    simpa using this
theorem Own.base_leq {w : World} {base g n cap : Nat} {l : List UInt8} (h : Own w base (.slice (some ⟨g, 0, none⟩) n cap) l) : base ≤ g ∧ g < w.heap.size := by
  rcases h.2 with ⟨hv, _⟩ | ⟨g', cap', cur, hv, hb, hg, _⟩
  · cases hv
  · injection hv with h1 _ _
    injection h1 with h1
    injection h1 with h1
    subst h1
    exact ⟨hb, (Array.getElem?_eq_some_iff.1 hg).1⟩
theorem Own.base_le' {w : World} {base g n m : Nat} {l : List UInt8} (h : Own w base (.slice (some ⟨g, 0, none⟩) n n) (l ++ List.replicate m 0)) (hn : n = l.length + m := by rfl) : g + 1 ≤ w.heap.size := by
  have hlen : (l ++ List.replicate m 0).length = n := by rw [List.length_append, List.length_replicate, hn]
  rcases h.2 with ⟨hv, _⟩ | ⟨g', cap', cur, hv, hb, hg, _⟩
  · cases hv
  · injection hv with h1 _ _
    injection h1 with h1
    injection h1 with h1
    subst h1
    exact (Array.getElem?_eq_some_iff.1 hg).1
theorem frame_len_two (l m : List UInt8) : (l ++ frame m).length = l.length + (m.length + 12) := by
  rw [List.length_append, frame_length]
set_option maxRecDepth 100000 in
set_option maxHeartbeats 2000000 in
theorem own_many (A : Option Addr) (l : List UInt8) (cap : Nat) (w : World) (h : Seg w w.heap.size A l) (hl : l.length ≤ 1048576) (hm : 65536 < l.length) :
    Calls Try.prog 9 #[.slice A l.length cap] w fun e w' => e = .returned (.bool true) ∧ Below w.heap.size w w' := by
  have k1 := conv_seg w w.heap.size A l cap h
  have cP := fun w1 g => Put_many (some ⟨g, 0, none⟩) A l.length l.length (l.length + 40) cap w1 hm
  replace h := fhid h
  go_enter Try.func9, Try.ntmps9
  go_wp2_with (first
    | (at_make
       refine make_room rfl _ _ rfl _ (l.length + 40) rfl rfl (by omega) (by omega) ?_
       intro w1 o1 b1)
    | (at_builtin
       refine app_room rfl _ _ rfl w.heap.size w.heap.size (l.length + 40) 40 rfl o1 w.heap.size A l cap rfl (h.out.below b1) rfl ?_
       intro w2 o2 b2)
    | (go_at_call 13; (with_reducible refine (cP _ _).mono ?_); rintro e w3 ⟨rfl, rfl⟩)
    | (go_at_call 12; refine (alive_any _).mono ?_; rintro e w6 ⟨rfl, b6⟩))
  go_ret
  exact ⟨rfl, (b1.trans b2).trans (b6.mono (b1.trans b2).size)⟩

set_option maxRecDepth 100000 in
set_option maxHeartbeats 2000000 in
theorem own_some (A : Option Addr) (l : List UInt8) (cap : Nat) (w : World) (h : Seg w w.heap.size A l) (hc : l.length ≤ cap) (hl : l.length ≤ 1048576) (hm : l.length ≤ 65536) :
    Calls Try.prog 9 #[.slice A l.length cap] w fun e w' => e = .returned (.bool true) ∧ Below w.heap.size w w' := by
  have k1 := conv_seg w w.heap.size A l cap h
  replace h := fhid h
  go_enter Try.func9, Try.ntmps9
  go_wp2_with (first
    | (at_make
       refine make_room rfl _ _ rfl _ (l.length + 40) rfl rfl (by omega) (by omega) ?_
       intro w1 o1 b1)
    | (at_builtin
       refine app_room rfl _ _ rfl w.heap.size w.heap.size (l.length + 40) 40 rfl o1 w.heap.size A l cap rfl (h.out.below b1) rfl ?_
       intro w2 o2 b2
       have x2 := b1.trans b2
       obtain ⟨f2, z2⟩ := o2.front rfl
       have g2 := o2.base_le' 
       replace z2 := fhid z2)
    | (go_at_call 13
       (with_reducible refine (Put_any (some ⟨w.heap.size, 0, none⟩) A l l (l.length + 40) cap w2 (f2.more g2) ((h.out.below x2).more x2.size) hm (by omega) hc).mono ?_)
       rintro e w3 ⟨v3, rfl, o3, b3⟩
       obtain ⟨A3, k3, hv3, hk3, _, _⟩ := o3.shape
       have x3 := x2.trans (b3.mono x2.size)
       obtain ⟨N3, hN3⟩ : ∃ N3, (l ++ frame l).length = N3 := ⟨_, rfl⟩
       have hN4 : N3 ≤ 131084 := by rw [← hN3, frame_len_two]; omega
       rw [hN3] at hv3
       subst hv3
       replace hN3 := fhid hN3))
  go_loopw [39] (fun i wr => ∃ (j : Nat) (xs : List UInt8), j ≤ N3 ∧ i = .int .i64 j ∧ xs.length = N3 ∧ Own wr w2.heap.size (.slice A3 xs.length k3) xs ∧ Below w2.heap.size w2 wr) (fun i _ => N3 - (intOf i).toNat)
  case atStart => exact ⟨0, l ++ frame l, Nat.zero_le _, rfl, hN3.out, by rw [hN3.out]; exact o3, b3⟩
  case round =>
    obtain ⟨j, xs, hj, rfl, hxs, hO, hB⟩ := hrel
    by_cases hlt : j < N3
    · obtain ⟨g3, rfl, hg3⟩ := Own.form2 hO (by omega)
      obtain ⟨e1, e2⟩ := hO.cell_at j (by omega)
      have hS := fhid (Own.stored hO j (xs[j] ^^^ 255))
      have e3 : bits .xor .u8 (xs[j].toNat : Int) 255 = ((xs[j] ^^^ 255).toNat : Int) := xor_byte xs[j] 255
      have i1 : (0 : Int) ≤ j := by omega
      have i2 : (j : Int) < N3 := by omega
      have hxl := fhid (show (xs.set j (xs[j] ^^^ 255)).length = xs.length from List.length_set)
      replace hxs := fhid hxs
      clear hO
      generalize hz : xs[j] ^^^ 255 = z at *
      generalize xs[j].toNat = cn at *
      go_wp2
      go_roundw
      case rel => exact ⟨j + 1, xs.set j z, by omega, by go_num, by rw [hxl.out, hxs.out], by rw [hxl.out]; exact hS.out, hB.setCell (p := ⟨g3, j, none⟩) hg3 _⟩
      case measure => simp [intOf]; omega
    · have h2 : ¬ (j : Int) < N3 := by omega
      have xr := x2.trans (hB.mono x2.size)
      have hne : ¬ l.length + 40 = l.length := by omega
      have hne2 : l.length + 40 - l.length = 40 := by omega
      clear hO hxs o3 b3 x3 b1 o1
      have fr := f2.more g2
      have fr := (fr.below hB).more hB.size
      have hzr := fhid (fun j (hj : j < 40) => (hB.cell (p := ⟨w.heap.size, l.length + j, none⟩) g2).trans (z2.out j hj))
      have cP2 := Put_any none A [] l 0 cap wr (Seg.nil _ _ _) ((h.out.below xr).more xr.size) hm (by simp) hc
      rw [List.nil_append, List.length_nil] at cP2
      have hfg := frame_get l [] hm
      rw [List.append_nil] at hfg
      have cG := fun (A4 : Option Addr) (k4 : Nat) (u : World) (hs : Seg u u.heap.size A4 (frame l)) (hk : (frame l).length ≤ k4) => Get_any A4 (frame l) k4 u hs hk (by rw [frame_length]; omega)
      unfold GivesGet at cG
      rw [hfg.1, hfg.2.1, hfg.2.2.1] at cG
      clear hfg f2 z2 hB hN3 hN4 hlt hk3 hj
      generalize hfl : frame l = fl at *
      replace hfl := fhid hfl
      go_wp2_with fail
      go_loop [59] (fun i => ∃ m : Nat, m ≤ 40 ∧ i = .int .i64 m) (fun i => 40 - (intOf i).toNat)
      case atStart => exact ⟨0, by omega, rfl⟩
      case round =>
        obtain ⟨m, hm40, rfl⟩ := hrel
        by_cases hlt : m < 40
        · have c0 := hzr.out m hlt
          have i1 : (0 : Int) ≤ m := by omega
          have i2 : (m : Int) < 40 := by omega
          go_wp2
          go_round
          case rel => exact ⟨m + 1, by omega, by go_num⟩
          case measure => simp [intOf]; omega
        · have h2 : ¬ (m : Int) < 40 := by omega
          clear hzr
          go_wp2_with (first
            | (go_at_call 13
               (with_reducible refine cP2.mono ?_)
               rintro e w4 ⟨v4, rfl, o4, b4⟩
               obtain ⟨A4, k4, hv4, hk4, _, s4⟩ := o4.shape
               subst hv4
               have x4 := xr.trans (b4.mono xr.size))
            | (go_at_call 16
               (with_reducible refine (cG A4 k4 w4 s4 hk4).mono ?_)
               rintro e w5 ⟨v5, rfl, o5, b5⟩
               obtain ⟨A5, k5, hv5, hk5, _, _⟩ := o5.shape
               subst hv5))
          have fr4 := (fr.below b4).more b4.size
          clear cP2 b4 hlt hm40 fr
          go_loopw [79] (fun i u => ∃ (q : Nat) (xs : List UInt8), q ≤ l.length ∧ i = .int .i64 q ∧ xs.length = l.length ∧ Own u w4.heap.size (.slice A5 xs.length k5) xs ∧ Below w4.heap.size w4 u) (fun i _ => l.length - (intOf i).toNat)
          case atStart => exact ⟨0, l, Nat.zero_le _, rfl, rfl, o5, b5⟩
          case round =>
            rename_i u _ _ _ _ _ _ _ _ _
            obtain ⟨q, ys, hq, rfl, hys, hO, hB⟩ := hrel
            by_cases hlt : q < l.length
            · obtain ⟨g5, rfl, hg5⟩ := Own.form2 hO (by omega)
              obtain ⟨e1, e2⟩ := hO.cell_at q (by omega)
              have hS := fhid (Own.stored hO q (ys[q] ^^^ 255))
              have e3 : bits .xor .u8 (ys[q].toNat : Int) 255 = ((ys[q] ^^^ 255).toNat : Int) := xor_byte ys[q] 255
              have i1 : (0 : Int) ≤ q := by omega
              have i2 : (q : Int) < l.length := by omega
              have hxl := fhid (show (ys.set q (ys[q] ^^^ 255)).length = ys.length from List.length_set)
              replace hys := fhid hys
              clear hO o5
              generalize hz : ys[q] ^^^ 255 = z at *
              generalize ys[q].toNat = cn at *
              go_wp2
              go_roundw
              case rel => exact ⟨q + 1, ys.set q z, by omega, by go_num, by rw [hxl.out, hys.out], by rw [hxl.out]; exact hS.out, hB.setCell (p := ⟨g5, q, none⟩) hg5 _⟩
              case measure => simp [intOf]; omega
            · have h2 : ¬ (q : Int) < l.length := by omega
              have xu := x4.trans (hB.mono x4.size)
              have cG2 := cG A4 k4 _ ((s4.below hB).more hB.size) hk4
              have fru := (fr4.below hB).more hB.size
              clear cG hO o5 fr4 hys
              go_wp2_with (first
                | (go_at_call 16
                   (with_reducible refine cG2.mono ?_)
                   rintro e w7 ⟨v7, rfl, o7, b7⟩
                   obtain ⟨A7, k7, hv7, _, _, s7⟩ := o7.shape
                   subst hv7
                   have x7 := xu.trans (b7.mono xu.size)
                   have c1 := conv_seg w7 _ A l cap (h.out.below x7)
                   have c2 := conv_seg w7 _ (some ⟨w.heap.size, 0, none⟩) l (l.length + 40) (fru.below b7)
                   have c3 := conv_seg w7 _ A7 l k7 s7
                   clear cG2 o7 fru)
                | (go_at_call 12; refine (alive_any _).mono ?_; rintro e w8 ⟨rfl, b8⟩))
              go_ret
              exact ⟨rfl, x7.trans (b8.mono x7.size)⟩
end Go.Proofs.Ytpblpkmlioojiaa
