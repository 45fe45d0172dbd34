/-
  Parts: KSetOf KDiffer KRNodes KRParts KRightC KRep KReader.
-/
import Derived.Test.YtmnmcikbbfcjcaaGreatDoorK1
import Derived.Test.YtmnmcikbbfcjcaaGreatDoorV1
import Derived.Test.YtmnmcikbbfcjcaaGreatDoorB1
import Derived.Test.YtmnmcikbbfcjcaaGreatDoorB2
import Derived.Laws.CopyRow
import Derived.Laws.MakeOwn
set_option linter.unusedSimpArgs false
set_option linter.unusedVariables false
/-
  The set of a list's nodes.
-/
namespace Go.Proofs.YtmnmcikbbfcjcaaGreatDoor
open Go.RowKit Go.Shelf Vs

theorem memP_mem (l : List Nat) : ∀ j, j < 256 → Bs.memP (l.map fun n : Nat => (n : Int)) j = memL l j := by
  intro j _
  unfold Bs.memP memL
  congr 1
  rw [List.mem_map, eq_iff_iff]
  constructor
  · rintro ⟨a, ha, e⟩
    have : a = j := by omega
    exact this ▸ ha
  · exact fun h => ⟨j, h, rfl⟩
theorem reads_ints {w : World} {A : Option Addr} {l : List Nat} {cap : Nat} (h : Ints w w.heap.size A l) : Bs.Reads w (.slice A l.length cap) (l.map fun n : Nat => (n : Int)) := by
  by_cases h0 : l = []
  · subst h0
    exact .inl ⟨rfl, A, cap, rfl⟩
  · have hp : 0 < l.length := List.length_pos_iff.2 h0
    obtain ⟨b, o, rfl, hb, hc⟩ := h (by rw [IV_len]; exact hp)
    refine .inr ⟨b, o, cap, by rw [List.length_map], hb, fun k x hx => ?_⟩
    obtain ⟨hk, hx⟩ := List.getElem?_eq_some_iff.1 hx
    rw [List.length_map] at hk
    rw [hc k (by rw [IV_len]; exact hk), IV_get l k hk]
    simp only [List.getElem_map] at hx
    rw [hx]
theorem setGo_nil (c : Cfg) (l : List Nat) : setGo c [] l = some l := by unfold setGo; rfl
theorem setGo_none {c : Cfg} {n : Str} {ns : List Str} {l : List Nat} (h : nodeAt c n = none) : setGo c (n :: ns) l = none := by unfold setGo; rw [h]
theorem setGo_some {c : Cfg} {n : Str} {ns : List Str} {l : List Nat} {i : Nat} (h : nodeAt c n = some i) : setGo c (n :: ns) l = setGo c ns (l ++ [i]) := by rw [setGo, h]
theorem Box.twelve {w : World} {b : Nat} {T : TypeId} {c0 c1 c2 c3 c4 c5 c6 c7 c8 c9 c10 c11 : Value} (h : Box w b T [c0, c1, c2, c3, c4, c5, c6, c7, c8, c9, c10, c11]) :
    w.cell? ⟨b, 0, none⟩ = some c0 ∧ w.cell? ⟨b, 1, none⟩ = some c1 ∧ w.cell? ⟨b, 2, none⟩ = some c2 ∧ w.cell? ⟨b, 3, none⟩ = some c3 ∧ w.cell? ⟨b, 4, none⟩ = some c4 ∧ w.cell? ⟨b, 5, none⟩ = some c5 ∧ w.cell? ⟨b, 6, none⟩ = some c6 ∧ w.cell? ⟨b, 7, none⟩ = some c7 ∧ w.cell? ⟨b, 8, none⟩ = some c8 ∧ w.cell? ⟨b, 9, none⟩ = some c9 ∧ w.cell? ⟨b, 10, none⟩ = some c10 ∧ w.cell? ⟨b, 11, none⟩ = some c11 :=
  ⟨Box.cell h 0, Box.cell h 1, Box.cell h 2, Box.cell h 3, Box.cell h 4, Box.cell h 5, Box.cell h 6, Box.cell h 7, Box.cell h 8, Box.cell h 9, Box.cell h 10, Box.cell h 11⟩
theorem Box.four {w : World} {b : Nat} {T : TypeId} {c0 c1 c2 c3 : Value} (h : Box w b T [c0, c1, c2, c3]) :
    (w.cell? ⟨b, 0, none⟩ = some c0 ∧ w.cell? ⟨b, 1, none⟩ = some c1 ∧ w.cell? ⟨b, 2, none⟩ = some c2 ∧ w.cell? ⟨b, 3, none⟩ = some c3) ∧ w.frozen? ⟨b, 0, none⟩ = false ∧ w.frozen? ⟨b, 1, none⟩ = false ∧ w.frozen? ⟨b, 2, none⟩ = false ∧ w.frozen? ⟨b, 3, none⟩ = false :=
  ⟨⟨Box.cell h 0, Box.cell h 1, Box.cell h 2, Box.cell h 3⟩, Box.free h 0, Box.free h 1, Box.free h 2, Box.free h 3⟩
theorem below4 {B b : Nat} {w w' : World} {v0 v1 v2 v3 : Value} (h : Below B w w') (hb : B ≤ b) :
    Below B w ((((w'.setCell ⟨b, 0, none⟩ v0).setCell ⟨b, 1, none⟩ v1).setCell ⟨b, 2, none⟩ v2).setCell ⟨b, 3, none⟩ v3) :=
  (((h.setCell (p := ⟨b, 0, none⟩) hb v0).setCell (p := ⟨b, 1, none⟩) hb v1).setCell (p := ⟨b, 2, none⟩) hb v2).setCell (p := ⟨b, 3, none⟩) hb v3
abbrev TNodes : TypeId := 46
abbrev TConf : TypeId := 40
theorem words_none : Bs.nodes (memL []) = .agg #[.int .u64 0, .int .u64 0, .int .u64 0, .int .u64 0] := by
  have h : (memL []) = fun _ => false := by funext j; simp [memL]
  rw [h]
  simp only [Bs.nodes, Bs.zero_word]
  rfl
def setV (r : (Nat → Bool) × Nat) : Value := .tuple #[Bs.nodes r.1, .int .i64 (r.2 : Int)]
theorem setV_mem (l : List Nat) : setV (memL l, 0) = .tuple #[Bs.nodes (Bs.memP (l.map fun n : Nat => (n : Int))), .int .i64 0] := by
  unfold setV
  rw [Bs.nodes_congr (memP_mem l)]
  rfl
/-- The loop over a list's names: what has been met. -/
def SI (w2 : World) (c : Cfg) (ns : List Str) (k : Nat) (l : List Nat) (v : Value) (wr : World) : Prop := OwnI wr w2.heap.size v l ∧ Below w2.heap.size w2 wr ∧ setGo c ns [] = setGo c (ns.drop k) l ∧ l.length = k
end Go.Proofs.YtmnmcikbbfcjcaaGreatDoor
/-
  Whether no two of a list have one name.
-/
namespace Go.Proofs.YtmnmcikbbfcjcaaGreatDoor
open Go.RowKit Go.Shelf Vs

theorem RdS.name {w : World} {A : Option Addr} {cap : Nat} {l : List Str} (h : RdS w A l.length cap (SV l)) {k : Nat} (hk : k < l.length) : ∃ b o, A = some ⟨b, o, none⟩ ∧ b < w.heap.size ∧ w.cell? ⟨b, o + k, none⟩ = some (.string (str l[k])) := by
  obtain ⟨b, o, e, hb, hc⟩ := h.2.2 (by rw [SV_len]; omega)
  refine ⟨b, o, e, hb, ?_⟩
  rw [hc k (by rw [SV_len]; exact hk), SV_get l k hk]
theorem flat_cell {α : Type} {w : World} {b o k : Nat} {f : α → List Value} (hf : ∀ x, (f x).length = k) {l : List α} (hc : ∀ j (h : j < (l.flatMap f).length), w.cell? ⟨b, o + j, none⟩ = some (l.flatMap f)[j]) {i : Nat} (hi : i < l.length) {j : Nat} (hj : j < k) :
    w.cell? ⟨b, o + i * k + j, none⟩ = (f l[i])[j]? := by
  have hlt : i * k + j < (l.flatMap f).length := by
    rw [flat_len f k hf]
    have : i * k + k ≤ l.length * k := by rw [← Nat.succ_mul]; exact Nat.mul_le_mul_right k hi
    omega
  have := hc (i * k + j) hlt
  rw [Nat.add_assoc, this, ← flat_get f k hf l i j hi hj, List.getElem?_eq_getElem hlt]
theorem RdS.part {w : World} {A : Option Addr} {cap : Nat} {l : List PartC} (h : RdS w A l.length cap (PVs l)) {k : Nat} (hk : k < l.length) : ∃ b o, A = some ⟨b, o, none⟩ ∧ b < w.heap.size ∧
    w.cell? ⟨b, o + k * 8, none⟩ = some (.string (str l[k].name)) ∧ w.cell? ⟨b, o + k * 8 + 1, none⟩ = some (.int .u64 (Bs.word l[k].nodes 0)) ∧ w.cell? ⟨b, o + k * 8 + 2, none⟩ = some (.int .u64 (Bs.word l[k].nodes 1)) ∧ w.cell? ⟨b, o + k * 8 + 3, none⟩ = some (.int .u64 (Bs.word l[k].nodes 2)) ∧ w.cell? ⟨b, o + k * 8 + 4, none⟩ = some (.int .u64 (Bs.word l[k].nodes 3)) ∧
    w.cell? ⟨b, o + k * 8 + 5, none⟩ = some (.int .i64 l[k].max) ∧ w.cell? ⟨b, o + k * 8 + 6, none⟩ = some (.int .i64 l[k].time) ∧ w.cell? ⟨b, o + k * 8 + 7, none⟩ = some (.int .i64 l[k].prio) := by
  obtain ⟨b, o, e, hb, hc⟩ := h.2.2 (by rw [PVs_len]; omega)
  have q := fun j (hj : j < 8) => flat_cell (f := partV) (k := 8) (fun _ => rfl) hc hk hj
  exact ⟨b, o, e, hb, q 0 (by decide), q 1 (by decide), q 2 (by decide), q 3 (by decide), q 4 (by decide), q 5 (by decide), q 6 (by decide), q 7 (by decide)⟩
theorem RdS.qos {w : World} {A : Option Addr} {cap : Nat} {l : List QosC} (h : RdS w A l.length cap (QVs l)) {k : Nat} (hk : k < l.length) : ∃ b o, A = some ⟨b, o, none⟩ ∧ b < w.heap.size ∧
    w.cell? ⟨b, o + k * 3, none⟩ = some (.string (str l[k].name)) ∧ w.cell? ⟨b, o + k * 3 + 1, none⟩ = some (.int .i64 l[k].prio) ∧ w.cell? ⟨b, o + k * 3 + 2, none⟩ = some (.int .i64 l[k].max) := by
  obtain ⟨b, o, e, hb, hc⟩ := h.2.2 (by rw [QVs_len]; omega)
  have q := fun j (hj : j < 3) => flat_cell (f := qosV) (k := 3) (fun _ => rfl) hc hk hj
  exact ⟨b, o, e, hb, q 0 (by decide), q 1 (by decide), q 2 (by decide)⟩
theorem RdS.vec {w : World} {A : Option Addr} {cap : Nat} {l : List V3} (h : RdS w A l.length cap (VVs l)) {k : Nat} (hk : k < l.length) : ∃ b o, A = some ⟨b, o, none⟩ ∧ b < w.heap.size ∧
    w.cell? ⟨b, o + k * 3, none⟩ = some (.int .i64 l[k].1) ∧ w.cell? ⟨b, o + k * 3 + 1, none⟩ = some (.int .i64 l[k].2.1) ∧ w.cell? ⟨b, o + k * 3 + 2, none⟩ = some (.int .i64 l[k].2.2) := by
  obtain ⟨b, o, e, hb, hc⟩ := h.2.2 (by rw [VVs_len]; omega)
  have q := fun j (hj : j < 3) => flat_cell (f := fun v : V3 => [Value.int .i64 v.1, .int .i64 v.2.1, .int .i64 v.2.2]) (k := 3) (fun _ => rfl) hc hk hj
  exact ⟨b, o, e, hb, q 0 (by decide), q 1 (by decide), q 2 (by decide)⟩
theorem nodup_take {l : List Str} {k : Nat} (hk : k < l.length) (h : (l.take k).Nodup) (hn : l[k] ∉ l.take k) : (l.take (k + 1)).Nodup := by
  rw [List.take_succ_eq_append_getElem hk, List.nodup_append]
  exact ⟨h, by simp, fun a ha b hb => by simp at hb; subst hb; exact fun e => hn (e ▸ ha)⟩
theorem nodup_not {l : List Str} {k : Nat} (hk : k < l.length) (hn : l[k] ∈ l.take k) : ¬ l.Nodup := by
  intro h
  have h2 : (l.take (k + 1)).Nodup := h.sublist (List.take_sublist _ _)
  rw [List.take_succ_eq_append_getElem hk, List.nodup_append] at h2
  exact h2.2.2 _ hn _ (by simp) rfl
set_option maxRecDepth 100000 in
theorem nameOf_string (s : ByteArray) (w : World) : Calls Tryz.prog 66 #[.string s] w fun e w' => e = .returned (.string s) ∧ Below w.heap.size w w' := by
  go_enter Tryz.func66, Tryz.ntmps66
  go_wp2
  go_ret
  exact ⟨rfl, Below.refl _ _⟩
set_option maxRecDepth 100000 in
theorem nameOf_part (s : ByteArray) (x0 x1 x2 x3 x y z : Int) (w : World) : Calls Tryz.prog 69 #[.agg #[.string s, .int .u64 x0, .int .u64 x1, .int .u64 x2, .int .u64 x3, .int .i64 x, .int .i64 y, .int .i64 z]] w fun e w' => e = .returned (.string s) ∧ Below w.heap.size w w' := by
  go_enter Tryz.func69, Tryz.ntmps69
  go_wp2
  go_ret
  exact ⟨rfl, (Below.refl _ _).alloc (Nat.le_refl _) _⟩
set_option maxRecDepth 100000 in
theorem nameOf_qos (s : ByteArray) (x y : Int) (w : World) : Calls Tryz.prog 73 #[.agg #[.string s, .int .i64 x, .int .i64 y]] w fun e w' => e = .returned (.string s) ∧ Below w.heap.size w w' := by
  go_enter Tryz.func73, Tryz.ntmps73
  go_wp2
  go_ret
  exact ⟨rfl, (Below.refl _ _).alloc (Nat.le_refl _) _⟩
set_option maxRecDepth 100000 in
set_option maxHeartbeats 8000000 in
theorem differS_any (A : Option Addr) (cap : Nat) (l : List Str) (w : World) (h : RdS w A l.length cap (SV l)) (hl : l.length ≤ 256) : Calls Tryz.prog 65 #[.slice A l.length cap, .func (.func 66) #[] #[]] w (BoolP w (decide (l).Nodup)) := by
  have hadd := fun (m : Nat) (l : List Str) (s : Str) (W : World) (h : SMap W m l) => add_any m l s W h
  unfold AddP at hadd
  obtain ⟨R, hR⟩ : ∃ R : Bool, R = decide (l).Nodup := ⟨_, rfl⟩
  have hpost := fhid (show ∀ (b : Bool) (W : World), decide (l).Nodup = b → Below w.heap.size w W → BoolP w R (.returned (.bool b)) W from fun b W h1 h2 => ⟨by rw [hR, h1], h2⟩)
  rw [← hR]
  clear hR
  have hml : (l).length = l.length := rfl
  have hstart := fhid (show SMap (w.alloc (.map #[] 0)) w.heap.size ((l).take 0) from SMap.new w)
  have hb0 := fhid ((Below.refl w.heap.size w).alloc (Nat.le_refl _) (.map #[] 0))
  generalize BoolP w R = P at *
  have hmm := @run_makeMap Tryz.prog
  replace h := fhid h
  replace hml := fhid hml
  go_enter Tryz.func65, Tryz.ntmps65
  go_wp2
  go_loopw [11] (fun i wr => ∃ k : Nat, k ≤ l.length ∧ i = .int .i64 k ∧ Hid ((l).take k).Nodup ∧ SMap wr w.heap.size ((l).take k) ∧ Below w.heap.size w wr) (fun i _ => l.length - (intOf i).toNat)
  case atStart => exact ⟨0, Nat.zero_le _, rfl, fhid (by simp), hstart.out, hb0.out⟩
  case round =>
    obtain ⟨k, hk, rfl, hN, hS, hB⟩ := hrel
    have i0 : (0 : Int) ≤ k := by omega
    have i2 : (l.length : Int) ≤ 256 := by omega
    by_cases hlt : k < l.length
    · have i1 : (k : Int) < l.length := by omega
      have hm2 := hml.out
      have hnk : (l)[k]'(by omega) = l[k] := rfl
      have hyes := nodup_take (l := l) (k := k) (by omega) hN.out
      have hnot := nodup_not (l := l) (k := k) (by omega)
      have htk : (l).take (k + 1) = (l).take k ++ [l[k]] := by rw [List.take_succ_eq_append_getElem (by omega), hnk]
      rw [hnk] at hyes hnot
      have had := hadd w.heap.size ((l).take k) (l[k])
      obtain ⟨bb, oo, rfl, hbb, c0⟩ := (h.out.below hB).name hlt
      generalize l[k] = NM at *
      generalize str NM = NS at *
      generalize hT : (l).take k = TK at *
      replace hyes := fhid hyes
      replace hnot := fhid hnot
      replace htk := fhid htk
      replace hN := fhid hN.out
      replace hB := fhid hB
      replace hS := fhid hS
      replace hT := fhid hT
      clear hadd hnk hm2
      by_cases hin : NM ∈ TK
      · rw [decide_eq_false (by simpa using hin)] at had
        have hd := fhid (decide_eq_false (hnot.out hin))
        clear hyes hnot
        replace hin := fhid hin
        go_wp2_with (first
          | (go_at_call 66; (with_reducible refine (nameOf_string _ _).mono ?_); rintro e w1 ⟨rfl, b1⟩)
          | (go_at_call 108; (with_reducible refine (had _ (hS.out.below b1 hS.out.lt)).mono ?_); rintro e w2 ⟨rfl, s2, a2⟩))
        exact hpost.out _ _ hd.out ((hB.out.trans (b1.mono hB.out.size)).trans (a2.below (Nat.le_refl _) (Nat.le_trans hB.out.size b1.size)))
      · rw [decide_eq_true (by simpa using hin), if_neg hin] at had
        have hN2 := fhid (hyes.out hin)
        clear hyes hnot
        replace hin := fhid hin
        go_wp2_with (first
          | (go_at_call 66; (with_reducible refine (nameOf_string _ _).mono ?_); rintro e w1 ⟨rfl, b1⟩)
          | (go_at_call 108; (with_reducible refine (had _ (hS.out.below b1 hS.out.lt)).mono ?_); rintro e w2 ⟨rfl, s2, a2⟩))
        go_roundw
        case rel => exact ⟨k + 1, hlt, by go_num, hN2, by rw [htk.out]; exact s2, (hB.out.trans (b1.mono hB.out.size)).trans (a2.below (Nat.le_refl _) (Nat.le_trans hB.out.size b1.size))⟩
        case measure => simp [intOf]; omega
    · obtain rfl : k = l.length := by omega
      have hd := fhid (decide_eq_true (show (l).Nodup from by have := hN.out; rwa [List.take_of_length_le (by have := hml.out; omega)] at this))
      clear hadd
      replace hS := fhid hS
      go_wp2
      exact hpost.out _ _ hd.out hB
set_option maxRecDepth 100000 in
set_option maxHeartbeats 8000000 in
theorem differP_any (A : Option Addr) (cap : Nat) (l : List PartC) (w : World) (h : RdS w A l.length cap (PVs l)) (hl : l.length ≤ 256) : Calls Tryz.prog 68 #[.slice A l.length cap, .func (.func 69) #[] #[]] w (BoolP w (decide (l.map (·.name)).Nodup)) := by
  have hadd := fun (m : Nat) (l : List Str) (s : Str) (W : World) (h : SMap W m l) => add_any m l s W h
  unfold AddP at hadd
  obtain ⟨R, hR⟩ : ∃ R : Bool, R = decide (l.map (·.name)).Nodup := ⟨_, rfl⟩
  have hpost := fhid (show ∀ (b : Bool) (W : World), decide (l.map (·.name)).Nodup = b → Below w.heap.size w W → BoolP w R (.returned (.bool b)) W from fun b W h1 h2 => ⟨by rw [hR, h1], h2⟩)
  rw [← hR]
  clear hR
  have hml : (l.map (·.name)).length = l.length := by simp
  have hstart := fhid (show SMap (w.alloc (.map #[] 0)) w.heap.size ((l.map (·.name)).take 0) from SMap.new w)
  have hb0 := fhid ((Below.refl w.heap.size w).alloc (Nat.le_refl _) (.map #[] 0))
  generalize BoolP w R = P at *
  have hmm := @run_makeMap Tryz.prog
  replace h := fhid h
  replace hml := fhid hml
  go_enter Tryz.func68, Tryz.ntmps68
  go_wp2
  go_loopw [11] (fun i wr => ∃ k : Nat, k ≤ l.length ∧ i = .int .i64 k ∧ Hid ((l.map (·.name)).take k).Nodup ∧ SMap wr w.heap.size ((l.map (·.name)).take k) ∧ Below w.heap.size w wr) (fun i _ => l.length - (intOf i).toNat)
  case atStart => exact ⟨0, Nat.zero_le _, rfl, fhid (by simp), hstart.out, hb0.out⟩
  case round =>
    obtain ⟨k, hk, rfl, hN, hS, hB⟩ := hrel
    have i0 : (0 : Int) ≤ k := by omega
    have i2 : (l.length : Int) ≤ 256 := by omega
    by_cases hlt : k < l.length
    · have i1 : (k : Int) < l.length := by omega
      have hm2 := hml.out
      have hnk : (l.map (·.name))[k]'(by omega) = l[k].name := by simp
      have hyes := nodup_take (l := l.map (·.name)) (k := k) (by omega) hN.out
      have hnot := nodup_not (l := l.map (·.name)) (k := k) (by omega)
      have htk : (l.map (·.name)).take (k + 1) = (l.map (·.name)).take k ++ [l[k].name] := by rw [List.take_succ_eq_append_getElem (by omega), hnk]
      rw [hnk] at hyes hnot
      have had := hadd w.heap.size ((l.map (·.name)).take k) (l[k].name)
      obtain ⟨bb, oo, rfl, hbb, c0, c1, c2, c3, c4, c5, c6, c7⟩ := (h.out.below hB).part hlt
      generalize l[k].name = NM at *
      generalize (Bs.word l[k].nodes 0 : Int) = x0 at *
      generalize (Bs.word l[k].nodes 1 : Int) = x1 at *
      generalize (Bs.word l[k].nodes 2 : Int) = x2 at *
      generalize (Bs.word l[k].nodes 3 : Int) = x3 at *
      generalize l[k].max = y0 at *
      generalize l[k].time = y1 at *
      generalize l[k].prio = y2 at *
      generalize str NM = NS at *
      generalize hT : (l.map (·.name)).take k = TK at *
      replace hyes := fhid hyes
      replace hnot := fhid hnot
      replace htk := fhid htk
      replace hN := fhid hN.out
      replace hB := fhid hB
      replace hS := fhid hS
      replace hT := fhid hT
      clear hadd hnk hm2
      by_cases hin : NM ∈ TK
      · rw [decide_eq_false (by simpa using hin)] at had
        have hd := fhid (decide_eq_false (hnot.out hin))
        clear hyes hnot
        replace hin := fhid hin
        go_wp2_with (first
          | (go_at_call 69; (with_reducible refine (nameOf_part _ _ _ _ _ _ _ _ _).mono ?_); rintro e w1 ⟨rfl, b1⟩
             replace b1 := ((Below.refl wr.heap.size wr).alloc (Nat.le_refl _) _).trans (b1.mono (by simp)))
          | (go_at_call 108; (with_reducible refine (had _ (hS.out.below b1 hS.out.lt)).mono ?_); rintro e w2 ⟨rfl, s2, a2⟩))
        exact hpost.out _ _ hd.out ((hB.out.trans (b1.mono hB.out.size)).trans (a2.below (Nat.le_refl _) (Nat.le_trans hB.out.size b1.size)))
      · rw [decide_eq_true (by simpa using hin), if_neg hin] at had
        have hN2 := fhid (hyes.out hin)
        clear hyes hnot
        replace hin := fhid hin
        go_wp2_with (first
          | (go_at_call 69; (with_reducible refine (nameOf_part _ _ _ _ _ _ _ _ _).mono ?_); rintro e w1 ⟨rfl, b1⟩
             replace b1 := ((Below.refl wr.heap.size wr).alloc (Nat.le_refl _) _).trans (b1.mono (by simp)))
          | (go_at_call 108; (with_reducible refine (had _ (hS.out.below b1 hS.out.lt)).mono ?_); rintro e w2 ⟨rfl, s2, a2⟩))
        go_roundw
        case rel => exact ⟨k + 1, hlt, by go_num, hN2, by rw [htk.out]; exact s2, (hB.out.trans (b1.mono hB.out.size)).trans (a2.below (Nat.le_refl _) (Nat.le_trans hB.out.size b1.size))⟩
        case measure => simp [intOf]; omega
    · obtain rfl : k = l.length := by omega
      have hd := fhid (decide_eq_true (show (l.map (·.name)).Nodup from by have := hN.out; rwa [List.take_of_length_le (by have := hml.out; omega)] at this))
      clear hadd
      replace hS := fhid hS
      go_wp2
      exact hpost.out _ _ hd.out hB
set_option maxRecDepth 100000 in
set_option maxHeartbeats 8000000 in
theorem differQ_any (A : Option Addr) (cap : Nat) (l : List QosC) (w : World) (h : RdS w A l.length cap (QVs l)) (hl : l.length ≤ 256) : Calls Tryz.prog 72 #[.slice A l.length cap, .func (.func 73) #[] #[]] w (BoolP w (decide (l.map (·.name)).Nodup)) := by
  have hadd := fun (m : Nat) (l : List Str) (s : Str) (W : World) (h : SMap W m l) => add_any m l s W h
  unfold AddP at hadd
  obtain ⟨R, hR⟩ : ∃ R : Bool, R = decide (l.map (·.name)).Nodup := ⟨_, rfl⟩
  have hpost := fhid (show ∀ (b : Bool) (W : World), decide (l.map (·.name)).Nodup = b → Below w.heap.size w W → BoolP w R (.returned (.bool b)) W from fun b W h1 h2 => ⟨by rw [hR, h1], h2⟩)
  rw [← hR]
  clear hR
  have hml : (l.map (·.name)).length = l.length := by simp
  have hstart := fhid (show SMap (w.alloc (.map #[] 0)) w.heap.size ((l.map (·.name)).take 0) from SMap.new w)
  have hb0 := fhid ((Below.refl w.heap.size w).alloc (Nat.le_refl _) (.map #[] 0))
  generalize BoolP w R = P at *
  have hmm := @run_makeMap Tryz.prog
  replace h := fhid h
  replace hml := fhid hml
  go_enter Tryz.func72, Tryz.ntmps72
  go_wp2
  go_loopw [11] (fun i wr => ∃ k : Nat, k ≤ l.length ∧ i = .int .i64 k ∧ Hid ((l.map (·.name)).take k).Nodup ∧ SMap wr w.heap.size ((l.map (·.name)).take k) ∧ Below w.heap.size w wr) (fun i _ => l.length - (intOf i).toNat)
  case atStart => exact ⟨0, Nat.zero_le _, rfl, fhid (by simp), hstart.out, hb0.out⟩
  case round =>
    obtain ⟨k, hk, rfl, hN, hS, hB⟩ := hrel
    have i0 : (0 : Int) ≤ k := by omega
    have i2 : (l.length : Int) ≤ 256 := by omega
    by_cases hlt : k < l.length
    · have i1 : (k : Int) < l.length := by omega
      have hm2 := hml.out
      have hnk : (l.map (·.name))[k]'(by omega) = l[k].name := by simp
      have hyes := nodup_take (l := l.map (·.name)) (k := k) (by omega) hN.out
      have hnot := nodup_not (l := l.map (·.name)) (k := k) (by omega)
      have htk : (l.map (·.name)).take (k + 1) = (l.map (·.name)).take k ++ [l[k].name] := by rw [List.take_succ_eq_append_getElem (by omega), hnk]
      rw [hnk] at hyes hnot
      have had := hadd w.heap.size ((l.map (·.name)).take k) (l[k].name)
      obtain ⟨bb, oo, rfl, hbb, c0, c1, c2⟩ := (h.out.below hB).qos hlt
      generalize l[k].name = NM at *
      generalize l[k].prio = y0 at *
      generalize l[k].max = y1 at *
      generalize str NM = NS at *
      generalize hT : (l.map (·.name)).take k = TK at *
      replace hyes := fhid hyes
      replace hnot := fhid hnot
      replace htk := fhid htk
      replace hN := fhid hN.out
      replace hB := fhid hB
      replace hS := fhid hS
      replace hT := fhid hT
      clear hadd hnk hm2
      by_cases hin : NM ∈ TK
      · rw [decide_eq_false (by simpa using hin)] at had
        have hd := fhid (decide_eq_false (hnot.out hin))
        clear hyes hnot
        replace hin := fhid hin
        go_wp2_with (first
          | (go_at_call 73; (with_reducible refine (nameOf_qos _ _ _ _).mono ?_); rintro e w1 ⟨rfl, b1⟩
             replace b1 := ((Below.refl wr.heap.size wr).alloc (Nat.le_refl _) _).trans (b1.mono (by simp)))
          | (go_at_call 108; (with_reducible refine (had _ (hS.out.below b1 hS.out.lt)).mono ?_); rintro e w2 ⟨rfl, s2, a2⟩))
        exact hpost.out _ _ hd.out ((hB.out.trans (b1.mono hB.out.size)).trans (a2.below (Nat.le_refl _) (Nat.le_trans hB.out.size b1.size)))
      · rw [decide_eq_true (by simpa using hin), if_neg hin] at had
        have hN2 := fhid (hyes.out hin)
        clear hyes hnot
        replace hin := fhid hin
        go_wp2_with (first
          | (go_at_call 73; (with_reducible refine (nameOf_qos _ _ _ _).mono ?_); rintro e w1 ⟨rfl, b1⟩
             replace b1 := ((Below.refl wr.heap.size wr).alloc (Nat.le_refl _) _).trans (b1.mono (by simp)))
          | (go_at_call 108; (with_reducible refine (had _ (hS.out.below b1 hS.out.lt)).mono ?_); rintro e w2 ⟨rfl, s2, a2⟩))
        go_roundw
        case rel => exact ⟨k + 1, hlt, by go_num, hN2, by rw [htk.out]; exact s2, (hB.out.trans (b1.mono hB.out.size)).trans (a2.below (Nat.le_refl _) (Nat.le_trans hB.out.size b1.size))⟩
        case measure => simp [intOf]; omega
    · obtain rfl : k = l.length := by omega
      have hd := fhid (decide_eq_true (show (l.map (·.name)).Nodup from by have := hN.out; rwa [List.take_of_length_le (by have := hml.out; omega)] at this))
      clear hadd
      replace hS := fhid hS
      go_wp2
      exact hpost.out _ _ hd.out hB
end Go.Proofs.YtmnmcikbbfcjcaaGreatDoor
/-
  Whether a config's nodes may be.
-/
namespace Go.Proofs.YtmnmcikbbfcjcaaGreatDoor
open Go.RowKit Go.Shelf Vs

abbrev conf12 (AN : Option Addr) (nN cN : Nat) (AV : Option Addr) (nV cV : Nat) (AP : Option Addr) (nP cP : Nat) (AQ : Option Addr) (nQ cQ : Nat) (a0 a1 a2 a3 a4 a5 a6 a7 : Int) : List Value :=
  [.slice AN nN cN, .slice AV nV cV, .slice AP nP cP, .slice AQ nQ cQ, .int .i64 a0, .int .i64 a1, .int .i64 a2, .int .i64 a3, .int .i64 a4, .int .i64 a5, .int .i64 a6, .int .i64 a7]
def goodN (x : Str × V3) : Bool := nodeNameP x.1 && Vs.right x.2.1 x.2.2.1 x.2.2.2
theorem zip_step {a : List Str} {b : List V3} {k : Nat} (ha : k < a.length) (hb : k < b.length) : ((a.zip b).take (k + 1)).all goodN = (((a.zip b).take k).all goodN && goodN (a[k], b[k])) := by
  have hk : k < (a.zip b).length := by rw [List.length_zip]; omega
  rw [List.take_succ_eq_append_getElem hk, List.all_append]
  simp [List.getElem_zip]
theorem zip_bad {a : List Str} {b : List V3} {k : Nat} (ha : k < a.length) (hb : k < b.length) (h : goodN (a[k], b[k]) = false) : (a.zip b).all goodN = false := by
  rw [List.all_eq_false]
  have hk : k < (a.zip b).length := by rw [List.length_zip]; omega
  exact ⟨(a.zip b)[k], List.getElem_mem hk, by rw [List.getElem_zip, h]; simp⟩
set_option maxRecDepth 100000 in
set_option maxHeartbeats 16000000 in
theorem rightNodes_any (v : Value) (c : Cfg) (w : World) (h : CR w v c) (hw : Env w) : Calls Tryz.prog 37 #[v] w (BoolP w (rightNodesP c)) := by
  obtain ⟨AN, cN, AV, cV, AP, cP, AQ, cQ, a0, a1, a2, a3, a4, a5, a6, a7, rfl, ev, r1, r2, r3, r4⟩ := h
  have hpost := fhid (show ∀ (b : Bool) (W : World), rightNodesP c = b → Below w.heap.size w W → BoolP w (rightNodesP c) (.returned (.bool b)) W from fun b W h1 h2 => ⟨by rw [h1], h2⟩)
  generalize BoolP w (rightNodesP c) = P at *
  have hRP : rightNodesP c = (!c.names.isEmpty && decide (c.names.length ≤ 256) && decide (c.names.length = c.vecs.length) && (c.names.zip c.vecs).all goodN && decide c.names.Nodup) := rfl
  have hem : c.names.isEmpty = decide (c.names.length = 0) := by rw [Bool.eq_iff_iff]; simp
  rw [hem] at hRP
  generalize rightNodesP c = R at *
  have hnn := fun (x : Str) (W : World) (hb : Below w.heap.size w W) => isNodeName_any (str x) W (hw.below hb)
  simp only [bl_str] at hnn
  unfold BoolP at hnn
  have hvr := fun (x : V3) W => Right_any x.1 x.2.1 x.2.2 W
  unfold BP at hvr
  have hdf := fun (W : World) (hb : Below w.heap.size w W) (hl : c.names.length ≤ 256) => differS_any AN cN c.names W (r1.below hb) hl
  unfold BoolP at hdf
  have hle := r1.1
  have hle2 := r1.2.1
  have hlv := r2.1
  have hlv2 := r2.2.1
  unfold maxLen at hle2 hlv2
  clear r3 r4 ev
  generalize hnN : c.names.length = nN at *
  generalize hnV : c.vecs.length = nV at *
  generalize c.parts.length = nP at *
  generalize c.qos.length = nQ at *
  have hf0 := Box.new w TConf (conf12 AN nN cN AV nV cV AP nP cP AQ nQ cQ a0 a1 a2 a3 a4 a5 a6 a7)
  have hB0 : Below w.heap.size w (w.alloc (.cells (conf12 AN nN cN AV nV cV AP nP cP AQ nQ cQ a0 a1 a2 a3 a4 a5 a6 a7).toArray TConf)) := (Below.refl _ _).alloc (Nat.le_refl _) _
  have hz0 : (w.alloc (.cells (conf12 AN nN cN AV nV cV AP nP cP AQ nQ cQ a0 a1 a2 a3 a4 a5 a6 a7).toArray TConf)).heap.size = w.heap.size + 1 := by simp
  replace hnN := fhid hnN
  replace hnV := fhid hnV
  go_enter Tryz.func37, Tryz.ntmps37
  go_upto_region 1 with fail
  generalize w.alloc _ = W1 at *
  have y12 := Box.twelve hf0
  obtain ⟨x0, x1, x2, x3, -, -, -, -, -, -, -, -⟩ := y12
  have xl := Box.lt hf0
  replace hf0 := fhid hf0
  replace hz0 := fhid hz0
  replace r1 := fhid r1
  replace r2 := fhid r2
  by_cases g1 : nN = 0
  · have hE := fhid (show R = false from by rw [hRP, decide_eq_true g1]; rfl)
    subst g1
    clear hRP hnn hvr hdf
    go_wp2_with fail
    exact hpost.out _ _ hE.out hB0
  · have j1 : ((nN : Int) == 0) = false := by simp; omega
    have j1' : ¬ (nN : Int) = 0 := by omega
    by_cases g2 : nN ≤ 256
    · have j2 : ¬ (nN : Int) > 256 := by omega
      have j2' : decide ((nN : Int) > 256) = false := decide_eq_false j2
      by_cases g3 : nN = nV
      · subst g3
        rw [decide_eq_false g1, decide_eq_true g2, decide_eq_true (rfl : nN = nN)] at hRP
        simp only [Bool.not_false, Bool.true_and] at hRP
        replace hRP := fhid hRP
        have hdf2 := fun (W : World) (hb : Below w.heap.size w W) => hdf W hb g2
        clear hdf
        go_wp2_with fail
        go_loopw [27] (fun i wr => ∃ k : Nat, k ≤ nN ∧ i = .int .i64 k ∧ Hid (((c.names.zip c.vecs).take k).all goodN = true) ∧ Below W1.heap.size W1 wr) (fun i _ => nN - (intOf i).toNat)
        case atStart => exact ⟨0, Nat.zero_le _, rfl, fhid (by simp), Below.refl _ _⟩
        case round =>
          obtain ⟨k, hk, rfl, hN, hB⟩ := hrel
          have hBw := hB0.trans (hB.mono hB0.size)
          have x0 := (hB.cell (p := ⟨w.heap.size, 0, none⟩) xl).trans x0
          have x1 := (hB.cell (p := ⟨w.heap.size, 1, none⟩) xl).trans x1
          have xl2 : w.heap.size < wr.heap.size := Nat.lt_of_lt_of_le xl hB.size
          have i0 : (0 : Int) ≤ k := by omega
          have i2 : (nN : Int) ≤ 256 := by omega
          by_cases hlt : k < nN
          · have i1 : (k : Int) < nN := by omega
            have hk1 : k < c.names.length := by have := hnN.out; omega
            have hk2 : k < c.vecs.length := by have := hnV.out; omega
            have hst := zip_step hk1 hk2
            have hbd := @zip_bad c.names c.vecs k hk1 hk2
            have hgd : goodN (c.names[k], c.vecs[k]) = (nodeNameP c.names[k] && Vs.right c.vecs[k].1 c.vecs[k].2.1 c.vecs[k].2.2) := rfl
            rw [hgd] at hst hbd
            clear hgd
            have rr1 := r1.out.below hBw
            have rr2 := r2.out.below hBw
            rw [← hnN.out] at rr1
            rw [← hnV.out] at rr2
            obtain ⟨bb, oo, rfl, hbb, c0⟩ := rr1.name hk1
            obtain ⟨b2, o2, rfl, hb2, d0, d1, d2⟩ := rr2.vec hk2
            clear rr1 rr2
            have hn1 := hnn c.names[k]
            have hv1 := hvr c.vecs[k]
            generalize c.names[k] = NM at *
            generalize c.vecs[k] = VC at *
            obtain ⟨q0, q1, q2⟩ := VC
            simp only at d0 d1 d2 hst hbd hv1
            generalize nodeNameP NM = N1 at *
            generalize Vs.right q0 q1 q2 = N2 at *
            generalize str NM = NS at *
            replace hst := fhid hst
            replace hN := fhid hN.out
            clear hnn hvr hdf2
            replace hlt := fhid hlt
            replace hk1 := fhid hk1
            replace hk2 := fhid hk2
            cases N1 with
            | false =>
              have hbd2 := fhid (hbd rfl)
              clear hbd
              go_wp2_with (go_at_call 63; (with_reducible refine (hn1 _ hBw).mono ?_); rintro e w1 ⟨rfl, b1⟩)
              exact hpost.out _ _ (by rw [hRP.out]; show (_ && _) = false; rw [show (c.names.zip c.vecs).all goodN = false from hbd2.out]; rfl) (hBw.trans (b1.mono hBw.size))
            | true =>
              cases N2 with
              | false =>
                have hbd2 := fhid (hbd rfl)
                clear hbd
                go_wp2_with (first
                  | (go_at_call 63; (with_reducible refine (hn1 _ hBw).mono ?_); rintro e w1 ⟨rfl, b1⟩
                     replace d0 := (b1.cell (p := ⟨b2, _, none⟩) hb2).trans d0
                     replace d1 := (b1.cell (p := ⟨b2, _, none⟩) hb2).trans d1
                     replace d2 := (b1.cell (p := ⟨b2, _, none⟩) hb2).trans d2
                     have x1' := (b1.cell (p := ⟨w.heap.size, 1, none⟩) xl2).trans x1
                     have xl3 : w.heap.size < w1.heap.size := Nat.lt_of_lt_of_le xl2 b1.size
                     have hb3 : b2 < w1.heap.size := Nat.lt_of_lt_of_le hb2 b1.size)
                  | (go_at_call 64; (with_reducible refine (hv1 _).mono ?_); rintro e w2 ⟨rfl, g2⟩))
                exact hpost.out _ _ (by rw [hRP.out]; show (_ && _) = false; rw [show (c.names.zip c.vecs).all goodN = false from hbd2.out]; rfl) ((hBw.trans (b1.mono hBw.size)).trans (g2.below.mono (Nat.le_trans hBw.size b1.size)))
              | true =>
                clear hbd
                go_wp2_with (first
                  | (go_at_call 63; (with_reducible refine (hn1 _ hBw).mono ?_); rintro e w1 ⟨rfl, b1⟩
                     replace d0 := (b1.cell (p := ⟨b2, _, none⟩) hb2).trans d0
                     replace d1 := (b1.cell (p := ⟨b2, _, none⟩) hb2).trans d1
                     replace d2 := (b1.cell (p := ⟨b2, _, none⟩) hb2).trans d2
                     have x1' := (b1.cell (p := ⟨w.heap.size, 1, none⟩) xl2).trans x1
                     have xl3 : w.heap.size < w1.heap.size := Nat.lt_of_lt_of_le xl2 b1.size
                     have hb3 : b2 < w1.heap.size := Nat.lt_of_lt_of_le hb2 b1.size)
                  | (go_at_call 64; (with_reducible refine (hv1 _).mono ?_); rintro e w2 ⟨rfl, g2⟩))
                go_roundw
                case rel => exact ⟨k + 1, hlt.out, by go_num, fhid (by rw [hst.out, hN.out]; rfl), (hB.trans (b1.mono hB.size)).trans (g2.below.mono (Nat.le_trans hB.size b1.size))⟩
                case measure => have := hlt.out; simp [intOf]; omega
          · obtain rfl : k = nN := by omega
            have hall := fhid (show (c.names.zip c.vecs).all goodN = true from by
              have := hN.out
              rwa [List.take_of_length_le (by rw [List.length_zip]; have := hnN.out; omega)] at this)
            have hd2 := hdf2 _ hBw
            generalize decide c.names.Nodup = DD at *
            clear hnn hvr hdf2
            go_wp2_with (go_at_call 65; (with_reducible refine hd2.mono ?_); rintro e w1 ⟨rfl, b1⟩)
            exact hpost.out _ _ (by rw [hRP.out, hall.out]; rfl) (hBw.trans (b1.mono hBw.size))
      · have hE := fhid (show R = false from by rw [hRP, decide_eq_false g3]; simp)
        have j3 : ((nN : Int) != nV) = true := by simp; omega
        have j3' : ¬ (nN : Int) = nV := by omega
        clear hRP hnn hvr hdf
        go_wp2_with fail
        exact hpost.out _ _ hE.out hB0
    · have j2 : (nN : Int) > 256 := by omega
      have hE := fhid (show R = false from by rw [hRP, decide_eq_false g2]; simp)
      clear hRP hnn hvr hdf
      go_wp2_with fail
      exact hpost.out _ _ hE.out hB0
end Go.Proofs.YtmnmcikbbfcjcaaGreatDoor
/-
  Whether a config's partitions may be.
-/
namespace Go.Proofs.YtmnmcikbbfcjcaaGreatDoor
open Go.RowKit Go.Shelf Vs

theorem within_cnt (n : Nat) (p : Nat → Bool) : decide (((Bs.cnt (fun j => p j && !Bs.spanP 0 ((n : Int) - 1) j) 256 : Nat) : Int) > 0) = !within n p := by
  have h := cnt_none (fun j => p j && !Bs.spanP 0 ((n : Int) - 1) j) 256
  have e : within n p = decide (Bs.cnt (fun j => p j && !Bs.spanP 0 ((n : Int) - 1) j) 256 = 0) := by
    rw [Bool.eq_iff_iff, decide_eq_true_eq, h]
    unfold within
    rw [List.all_eq_true]
    constructor
    · intro g j hj
      have := g j (List.mem_range.2 hj)
      cases hp : p j with
      | false => rfl
      | true =>
        rw [hp] at this
        simp at this
        simp [Bs.spanP]
        omega
    · intro g j hj
      have := g j (List.mem_range.1 hj)
      cases hp : p j with
      | false => rfl
      | true =>
        rw [hp] at this
        simp [Bs.spanP] at this
        simp
        omega
  rw [e, Bool.eq_iff_iff]
  simp
  omega
def goodP (n : Nat) (p : PartC) : Bool := !partWrong p && within n p.nodes
theorem all_step {α : Type} {l : List α} {k : Nat} {f : α → Bool} (h : k < l.length) : (l.take (k + 1)).all f = ((l.take k).all f && f l[k]) := by
  rw [List.take_succ_eq_append_getElem h, List.all_append]
  simp
theorem all_bad {α : Type} {l : List α} {k : Nat} {f : α → Bool} (hk : k < l.length) (h : f l[k] = false) : l.all f = false := by
  rw [List.all_eq_false]
  exact ⟨l[k], List.getElem_mem hk, by rw [h]; simp⟩
set_option maxRecDepth 100000 in
set_option maxHeartbeats 16000000 in
theorem rightParts_any (v : Value) (c : Cfg) (w : World) (h : CR w v c) : Calls Tryz.prog 38 #[v] w (BoolP w (rightPartsP c)) := by
  obtain ⟨AN, cN, AV, cV, AP, cP, AQ, cQ, a0, a1, a2, a3, a4, a5, a6, a7, rfl, ev, r1, r2, r3, r4⟩ := h
  have hpost := fhid (show ∀ (b : Bool) (W : World), rightPartsP c = b → Below w.heap.size w W → BoolP w (rightPartsP c) (.returned (.bool b)) W from fun b W h1 h2 => ⟨by rw [h1], h2⟩)
  generalize BoolP w (rightPartsP c) = P at *
  have hRP : rightPartsP c = (!c.parts.isEmpty && decide (c.parts.length ≤ 16) && c.parts.all (goodP c.names.length) && decide (c.parts.map (·.name)).Nodup) := rfl
  have hem : c.parts.isEmpty = decide (c.parts.length = 0) := by rw [Bool.eq_iff_iff]; simp
  rw [hem] at hRP
  generalize rightPartsP c = R at *
  have hwr := fun (p : PartC) (W : World) => partWrong0 p W
  unfold BoolP at hwr
  have hdf := fun (W : World) (hb : Below w.heap.size w W) (hl : c.parts.length ≤ 256) => differP_any AP cP c.parts W (r3.below hb) hl
  unfold BoolP at hdf
  have hsp := fun W => Bs.span_any 0 ((c.names.length : Int) - 1) W
  have hnt := fun (p : Nat → Bool) W => Bs.op_not p (Bs.spanP 0 ((c.names.length : Int) - 1)) W
  have hct := fun (p : Nat → Bool) W => Bs.count_any (fun j => p j && !Bs.spanP 0 ((c.names.length : Int) - 1) j) W
  have hwi := fun (p : Nat → Bool) => within_cnt c.names.length p
  simp only [Bs.nodes] at hsp hnt hct
  have hle := r3.1
  have hle2 := r3.2.1
  have hll := r1.1
  have hll2 := r1.2.1
  unfold maxLen at hle2 hll2
  clear r1 r2 r4 ev
  generalize hnN : c.names.length = nN at *
  generalize c.vecs.length = nV at *
  generalize hnP : c.parts.length = nP at *
  generalize c.qos.length = nQ at *
  have hf0 := Box.new w TConf (conf12 AN nN cN AV nV cV AP nP cP AQ nQ cQ a0 a1 a2 a3 a4 a5 a6 a7)
  have hB0 : Below w.heap.size w (w.alloc (.cells (conf12 AN nN cN AV nV cV AP nP cP AQ nQ cQ a0 a1 a2 a3 a4 a5 a6 a7).toArray TConf)) := (Below.refl _ _).alloc (Nat.le_refl _) _
  have hz0 : (w.alloc (.cells (conf12 AN nN cN AV nV cV AP nP cP AQ nQ cQ a0 a1 a2 a3 a4 a5 a6 a7).toArray TConf)).heap.size = w.heap.size + 1 := by simp
  replace hnN := fhid hnN
  replace hnP := fhid hnP
  go_enter Tryz.func38, Tryz.ntmps38
  go_upto_region 1 with fail
  generalize w.alloc _ = W1 at *
  have y12 := Box.twelve hf0
  obtain ⟨x0, -, x2, -, -, -, -, -, -, -, -, -⟩ := y12
  have xl := Box.lt hf0
  replace hf0 := fhid hf0
  replace hz0 := fhid hz0
  replace r3 := fhid r3
  by_cases g1 : nP = 0
  · have hE := fhid (show R = false from by rw [hRP, decide_eq_true g1]; rfl)
    subst g1
    clear hRP hwr hdf hsp hnt hct hwi
    go_wp2_with fail
    exact hpost.out _ _ hE.out hB0
  · have j1 : ((nP : Int) == 0) = false := by simp; omega
    have j1' : ¬ (nP : Int) = 0 := by omega
    by_cases g2 : nP ≤ 16
    · have j2 : ¬ (nP : Int) > 16 := by omega
      have j2' : decide ((nP : Int) > 16) = false := decide_eq_false j2
      rw [decide_eq_false g1, decide_eq_true g2] at hRP
      simp only [Bool.not_false, Bool.true_and] at hRP
      replace hRP := fhid hRP
      have hdf2 := fun (W : World) (hb : Below w.heap.size w W) => hdf W hb (by omega)
      clear hdf
      have hnI : (nN : Int) ≤ 9223372036854775807 := by omega
      have hwrp : IntKind.i64.wrap ((nN : Int) - 1) = (nN : Int) - 1 := IntWalk.i64_in _ (by omega)
      generalize (Bs.word (Bs.spanP 0 ((nN : Int) - 1)) 0 : Int) = s0 at *
      generalize (Bs.word (Bs.spanP 0 ((nN : Int) - 1)) 1 : Int) = s1 at *
      generalize (Bs.word (Bs.spanP 0 ((nN : Int) - 1)) 2 : Int) = s2 at *
      generalize (Bs.word (Bs.spanP 0 ((nN : Int) - 1)) 3 : Int) = s3 at *
      go_upto_region 4 with (go_at_call 49; (with_reducible refine (hsp _).mono ?_); rintro e w1 ⟨rfl, b1⟩)
      have k0 := fhid ((Box.below hf0.out b1 xl).below ((Below.refl w1.heap.size w1).alloc (Nat.le_refl _) (.cells #[.int .u64 s0, .int .u64 s1, .int .u64 s2, .int .u64 s3] TNodes)) (Nat.lt_of_lt_of_le xl b1.size))
      have k1 := fhid (Box.new w1 TNodes [.int .u64 s0, .int .u64 s1, .int .u64 s2, .int .u64 s3])
      have kB := fhid ((hB0.trans (b1.mono hB0.size)).trans (((Below.refl w1.heap.size w1).alloc (Nat.le_refl _) (.cells #[.int .u64 s0, .int .u64 s1, .int .u64 s2, .int .u64 s3] TNodes)).mono (Nat.le_trans hB0.size b1.size)))
      have x2' : (w1.alloc (.cells #[.int .u64 s0, .int .u64 s1, .int .u64 s2, .int .u64 s3] TNodes)).cell? ⟨w.heap.size, 2, none⟩ = some (.slice AP nP cP) := (Box.twelve k0.out).2.2.1
      have xl' : w.heap.size < (w1.alloc (.cells #[.int .u64 s0, .int .u64 s1, .int .u64 s2, .int .u64 s3] TNodes)).heap.size := Box.lt k0.out
      have hzb := fhid (show w1.heap.size < (w1.alloc (.cells #[.int .u64 s0, .int .u64 s1, .int .u64 s2, .int .u64 s3] TNodes)).heap.size from by simp)
      generalize w1.heap.size = B2 at *
      generalize w1.alloc _ = W2 at *
      clear x2 x0 xl hsp b1
      have xl := xl'
      go_wp2_with fail
      go_loopw [24] (fun i wr => ∃ k : Nat, k ≤ nP ∧ i = .int .i64 k ∧ Hid ((c.parts.take k).all (goodP nN) = true) ∧ Below W2.heap.size W2 wr) (fun i _ => nP - (intOf i).toNat)
      case atStart => exact ⟨0, Nat.zero_le _, rfl, fhid (by simp), Below.refl _ _⟩
      case round =>
        obtain ⟨k, hk, rfl, hN, hB⟩ := hrel
        have hBw := kB.out.trans (hB.mono kB.out.size)
        have x2 := (hB.cell (p := ⟨w.heap.size, 2, none⟩) xl).trans x2'
        have kk := Box.below k1.out hB hzb.out
        have i0 : (0 : Int) ≤ k := by omega
        have i2 : (nP : Int) ≤ 16 := by omega
        have xl2 : w.heap.size < wr.heap.size := Nat.lt_of_lt_of_le xl hB.size
        by_cases hlt : k < nP
        · have i1 : (k : Int) < nP := by omega
          have hk1 : k < c.parts.length := by have := hnP.out; omega
          have hst := all_step (f := goodP nN) hk1
          have hbd := @all_bad PartC c.parts k (goodP nN) hk1
          have hgd : goodP nN c.parts[k] = (!partWrong c.parts[k] && within nN c.parts[k].nodes) := rfl
          rw [hgd] at hst hbd
          have rr := r3.out.below hBw
          rw [← hnP.out] at rr
          obtain ⟨bb, oo, rfl, hbb, c0, c1, c2, c3, c4, c5, c6, c7⟩ := rr.part hk1
          have hw1 := hwr c.parts[k]
          have hn1 := hnt c.parts[k].nodes
          have hc1 := hct c.parts[k].nodes
          have hv1 := hwi c.parts[k].nodes
          clear hgd rr hwr hnt hct hwi hdf2
          generalize c.parts[k] = PT at *
          obtain ⟨nm, nd, y0, y1, y2⟩ := PT
          simp only [partV] at c0 c1 c2 c3 c4 c5 c6 c7 hst hbd hw1 hn1 hc1 hv1
          generalize partWrong ⟨nm, nd, y0, y1, y2⟩ = N1 at *
          generalize within nN nd = N2 at *
          generalize str nm = NS at *
          generalize ((Bs.cnt (fun j => nd j && !Bs.spanP 0 ((nN : Int) - 1) j) 256 : Nat) : Int) = CT at *
          generalize (Bs.word (fun j => nd j && !Bs.spanP 0 ((nN : Int) - 1) j) 0 : Int) = t0 at *
          generalize (Bs.word (fun j => nd j && !Bs.spanP 0 ((nN : Int) - 1) j) 1 : Int) = t1 at *
          generalize (Bs.word (fun j => nd j && !Bs.spanP 0 ((nN : Int) - 1) j) 2 : Int) = t2 at *
          generalize (Bs.word (fun j => nd j && !Bs.spanP 0 ((nN : Int) - 1) j) 3 : Int) = t3 at *
          generalize (Bs.word nd 0 : Int) = v0 at *
          generalize (Bs.word nd 1 : Int) = v1 at *
          generalize (Bs.word nd 2 : Int) = v2 at *
          generalize (Bs.word nd 3 : Int) = v3 at *
          have kA := (Below.refl wr.heap.size wr).alloc (Nat.le_refl _) (.cells #[.string NS, .int .u64 v0, .int .u64 v1, .int .u64 v2, .int .u64 v3, .int .i64 y0, .int .i64 y1, .int .i64 y2] TPart)
          have kP := Box.new wr TPart [.string NS, .int .u64 v0, .int .u64 v1, .int .u64 v2, .int .u64 v3, .int .i64 y0, .int .i64 y1, .int .i64 y2]
          have kS := Box.below kk kA (Box.lt kk)
          have kz : (wr.alloc (.cells #[.string NS, .int .u64 v0, .int .u64 v1, .int .u64 v2, .int .u64 v3, .int .i64 y0, .int .i64 y1, .int .i64 y2] TPart)).heap.size = wr.heap.size + 1 := by simp
          have hst2 := fhid hst
          have hN2 := fhid hN.out
          clear hst hN hk1
          replace hlt := fhid hlt
          cases N1 with
          | true =>
            have hbd2 := fhid (hbd rfl)
            clear hbd
            replace kA := fhid kA
            replace kP := fhid kP
            replace kS := fhid kS
            replace kk := fhid kk
            replace kz := fhid kz
            go_wp2_with (go_at_call 67; (with_reducible refine (hw1 _).mono ?_); rintro e w3 ⟨rfl, b3⟩)
            exact hpost.out _ _ (by rw [hRP.out, hbd2.out]; rfl) ((hBw.trans (kA.out.mono hBw.size)).trans (b3.mono (Nat.le_trans hBw.size kA.out.size)))
          | false =>
            replace kA := fhid kA
            replace kP := fhid kP
            replace kS := fhid kS
            replace kk := fhid kk
            replace kz := fhid kz
            cases N2 with
            | false =>
              have hbd2 := fhid (hbd rfl)
              clear hbd
              rw [Bool.not_false] at hv1
              have hv2 := of_decide_eq_true hv1
              replace hv1 := fhid hv1
              go_wp2_with (first
                | (go_at_call 67; (with_reducible refine (hw1 _).mono ?_); rintro e w3 ⟨rfl, b3⟩
                   have m1 := Box.eight (Box.below kP.out b3 (Box.lt kP.out))
                   have m2 := Box.four (Box.below kS.out b3 (Box.lt kS.out))
                   have m3 := Box.lt (Box.below kS.out b3 (Box.lt kS.out))
                   obtain ⟨⟨d0, -⟩, ⟨d1, -⟩, ⟨d2, -⟩, ⟨d3, -⟩, ⟨d4, -⟩, -, -, -, ml⟩ := m1
                   obtain ⟨⟨f0, f1, f2, f3⟩, -, -, -, -⟩ := m2)
                | (go_at_call 48; (with_reducible refine (hn1 _).mono ?_); rintro e w4 ⟨rfl, b4⟩)
                | (go_at_call 29; (with_reducible refine (hc1 _).mono ?_); rintro e w5 ⟨rfl, b5⟩))
              have q1 := (hBw.trans (kA.out.mono hBw.size)).trans (b3.mono (Nat.le_trans hBw.size kA.out.size))
              have q2 := q1.trans (b4.mono q1.size)
              exact hpost.out _ _ (by rw [hRP.out, hbd2.out]; rfl) (q2.trans (b5.mono q2.size))
            | true =>
              clear hbd
              rw [Bool.not_true] at hv1
              have hv2 := of_decide_eq_false hv1
              go_wp2_with (first
                | (go_at_call 67; (with_reducible refine (hw1 _).mono ?_); rintro e w3 ⟨rfl, b3⟩
                   have m1 := Box.eight (Box.below kP.out b3 (Box.lt kP.out))
                   have m2 := Box.four (Box.below kS.out b3 (Box.lt kS.out))
                   have m3 := Box.lt (Box.below kS.out b3 (Box.lt kS.out))
                   obtain ⟨⟨d0, -⟩, ⟨d1, -⟩, ⟨d2, -⟩, ⟨d3, -⟩, ⟨d4, -⟩, -, -, -, ml⟩ := m1
                   obtain ⟨⟨f0, f1, f2, f3⟩, -, -, -, -⟩ := m2)
                | (go_at_call 48; (with_reducible refine (hn1 _).mono ?_); rintro e w4 ⟨rfl, b4⟩)
                | (go_at_call 29; (with_reducible refine (hc1 _).mono ?_); rintro e w5 ⟨rfl, b5⟩))
              have q1 := (hB.trans (kA.out.mono hB.size)).trans (b3.mono (Nat.le_trans hB.size kA.out.size))
              have q2 := q1.trans (b4.mono q1.size)
              go_roundw
              case rel => exact ⟨k + 1, hlt.out, by go_num, fhid (by rw [hst2.out, hN2.out]; rfl), q2.trans (b5.mono q2.size)⟩
              case measure => have := hlt.out; simp [intOf]; omega
        · obtain rfl : k = nP := by omega
          have hall := fhid (show c.parts.all (goodP nN) = true from by
            have := hN.out
            rwa [List.take_of_length_le (by have := hnP.out; omega)] at this)
          have hd2 := hdf2 _ hBw
          generalize decide (c.parts.map (·.name)).Nodup = DD at *
          clear hwr hdf2 hnt hct hwi
          go_wp2_with (go_at_call 68; (with_reducible refine hd2.mono ?_); rintro e w3 ⟨rfl, b3⟩)
          exact hpost.out _ _ (by rw [hRP.out, hall.out]; rfl) (hBw.trans (b3.mono hBw.size))
    · have j2 : (nP : Int) > 16 := by omega
      have hE := fhid (show R = false from by rw [hRP, decide_eq_false g2]; simp)
      clear hRP hwr hdf hsp hnt hct hwi
      go_wp2_with fail
      exact hpost.out _ _ hE.out hB0
end Go.Proofs.YtmnmcikbbfcjcaaGreatDoor
/-
  Whether a config may be.
-/
namespace Go.Proofs.YtmnmcikbbfcjcaaGreatDoor
open Go.RowKit Go.Shelf Vs

set_option maxRecDepth 100000 in
set_option maxHeartbeats 4000000 in
theorem idxQ_any (A : Option Addr) (cap : Nat) (l : List QosC) (w : World) (h : RdS w A l.length cap (QVs l)) (hl : l.length ≤ 256) :
    Calls Tryz.prog 111 #[.slice A l.length cap, .func (.func 71) #[] #[]] w fun e w' => (∃ x : Int, e = .returned (.int .i64 x) ∧ (x = -1 ∧ l.any qosWrong = false ∨ 0 ≤ x ∧ l.any qosWrong = true)) ∧ Below w.heap.size w w' := by
  have hpost := fhid (show ∀ (x : Int) (W : World), (x = -1 ∧ l.any qosWrong = false ∨ 0 ≤ x ∧ l.any qosWrong = true) → Below w.heap.size w W → (fun (e : Ending) w' => (∃ x : Int, e = .returned (.int .i64 x) ∧ (x = -1 ∧ l.any qosWrong = false ∨ 0 ≤ x ∧ l.any qosWrong = true)) ∧ Below w.heap.size w w') (.returned (.int .i64 x)) W from fun x W h1 h2 => ⟨⟨x, rfl, h1⟩, h2⟩)
  generalize (fun (e : Ending) w' => (∃ x : Int, e = .returned (.int .i64 x) ∧ (x = -1 ∧ l.any qosWrong = false ∨ 0 ≤ x ∧ l.any qosWrong = true)) ∧ Below w.heap.size w w') = P at *
  have hw := fun (q : QosC) (W : World) => qosWrong0 q W
  unfold BoolP at hw
  replace h := fhid h
  go_enter Tryz.func111, Tryz.ntmps111
  go_wp2
  go_loopw [8] (fun i wr => ∃ k : Nat, k ≤ l.length ∧ i = .int .i64 k ∧ Hid ((l.take k).any qosWrong = false) ∧ Below w.heap.size w wr) (fun i _ => l.length - (intOf i).toNat)
  case atStart => exact ⟨0, Nat.zero_le _, rfl, fhid (by simp), Below.refl _ _⟩
  case round =>
    obtain ⟨k, hk, rfl, hno, hB⟩ := hrel
    have i0 : (0 : Int) ≤ k := by omega
    have i2 : (l.length : Int) ≤ 256 := by omega
    by_cases hlt : k < l.length
    · have i1 : (k : Int) < l.length := by omega
      obtain ⟨bb, oo, rfl, hbb, c0, c1, c2⟩ := (h.out.below hB).qos hlt
      have hw1 := hw l[k]
      have hst : (l.take (k + 1)).any qosWrong = ((l.take k).any qosWrong || qosWrong l[k]) := by
        rw [List.take_succ_eq_append_getElem hlt, List.any_append]; simp
      have hyes : qosWrong l[k] = true → l.any qosWrong = true := fun e => List.any_eq_true.2 ⟨_, List.getElem_mem hlt, e⟩
      generalize l[k] = QT at *
      obtain ⟨nm, y0, y1⟩ := QT
      simp only [qosV] at hw1
      simp only at c0 c1 c2
      generalize qosWrong ⟨nm, y0, y1⟩ = N1 at *
      generalize str nm = NS at *
      replace hst := fhid hst
      replace hno := fhid hno.out
      replace hlt := fhid hlt
      replace hB := fhid hB
      clear hw
      cases N1 with
      | true =>
        have hy := fhid (hyes rfl)
        clear hyes
        go_wp2_with (go_at_call 71; (with_reducible refine (hw1 _).mono ?_); rintro e w1 ⟨rfl, b1⟩)
        exact hpost.out _ _ (.inr ⟨by omega, hy.out⟩) (hB.out.trans (b1.mono hB.out.size))
      | false =>
        clear hyes
        go_wp2_with (go_at_call 71; (with_reducible refine (hw1 _).mono ?_); rintro e w1 ⟨rfl, b1⟩)
        go_roundw
        case rel => exact ⟨k + 1, hlt.out, by go_num, fhid (by rw [hst.out, hno.out]; rfl), hB.out.trans (b1.mono hB.out.size)⟩
        case measure => have := hlt.out; simp [intOf]; omega
    · obtain rfl : k = l.length := by omega
      have hall := fhid (show l.any qosWrong = false from by have := hno.out; rwa [List.take_of_length_le (Nat.le_refl _)] at this)
      clear hw
      go_wp2
      exact hpost.out _ _ (.inl ⟨rfl, hall.out⟩) hB
set_option maxRecDepth 100000 in
set_option maxHeartbeats 1000000 in
theorem anyQ_any (A : Option Addr) (cap : Nat) (l : List QosC) (w : World) (h : RdS w A l.length cap (QVs l)) (hl : l.length ≤ 256) :
    Calls Tryz.prog 70 #[.slice A l.length cap, .func (.func 71) #[] #[]] w (BoolP w (l.any qosWrong)) := by
  have hi := idxQ_any A cap l w h hl
  unfold BoolP
  clear h
  generalize l.any qosWrong = R at *
  go_enter Tryz.func70, Tryz.ntmps70
  go_wp2_with fail
  refine hi.mono ?_
  rintro e w1 ⟨⟨x, rfl, hx⟩, b1⟩
  rcases hx with ⟨rfl, rfl⟩ | ⟨h1, rfl⟩
  · go_wp2
    go_ret
    exact ⟨rfl, b1⟩
  · have h2 : x ≥ 0 := h1
    go_wp2
    go_ret
    exact ⟨fretb (by simp), b1⟩
set_option maxRecDepth 100000 in
set_option maxHeartbeats 4000000 in
theorem rightQos_any (v : Value) (c : Cfg) (w : World) (h : CR w v c) : Calls Tryz.prog 39 #[v] w (BoolP w (rightQosP c)) := by
  obtain ⟨AN, cN, AV, cV, AP, cP, AQ, cQ, a0, a1, a2, a3, a4, a5, a6, a7, rfl, ev, r1, r2, r3, r4⟩ := h
  have hRP : rightQosP c = (decide (c.qos.length ≤ 16) && !c.qos.any qosWrong && decide (c.qos.map (·.name)).Nodup) := by
    unfold rightQosP
    congr 2
    rw [List.all_eq_not_any_not]
    congr 1
    congr 1
    funext q
    simp
  have hpost := fhid (show ∀ (b : Bool) (W : World), rightQosP c = b → Below w.heap.size w W → BoolP w (rightQosP c) (.returned (.bool b)) W from fun b W h1 h2 => ⟨by rw [h1], h2⟩)
  generalize BoolP w (rightQosP c) = P at *
  have hdf := fun (W : World) (hb : Below w.heap.size w W) (hl : c.qos.length ≤ 256) => differQ_any AQ cQ c.qos W (r4.below hb) hl
  have han := fun (W : World) (hb : Below w.heap.size w W) (hl : c.qos.length ≤ 256) => anyQ_any AQ cQ c.qos W (r4.below hb) hl
  unfold BoolP at hdf han
  have hle := r4.1
  clear r1 r2 r3 r4 ev
  replace hRP := fhid hRP
  generalize decide (c.qos.map (·.name)).Nodup = D1 at *
  generalize c.qos.any qosWrong = D2 at *
  generalize c.names.length = nN at *
  generalize c.vecs.length = nV at *
  generalize c.parts.length = nP at *
  generalize c.qos.length = nQ at *
  have hf0 := Box.new w TConf (conf12 AN nN cN AV nV cV AP nP cP AQ nQ cQ a0 a1 a2 a3 a4 a5 a6 a7)
  have hB0 : Below w.heap.size w (w.alloc (.cells (conf12 AN nN cN AV nV cV AP nP cP AQ nQ cQ a0 a1 a2 a3 a4 a5 a6 a7).toArray TConf)) := (Below.refl _ _).alloc (Nat.le_refl _) _
  go_enter Tryz.func39, Tryz.ntmps39
  go_upto_region 1 with fail
  generalize w.alloc _ = W1 at *
  have y12 := Box.twelve hf0
  obtain ⟨-, -, -, x3, -, -, -, -, -, -, -, -⟩ := y12
  have xl := Box.lt hf0
  replace hf0 := fhid hf0
  by_cases g2 : nQ ≤ 16
  · have j2 : (nQ : Int) ≤ 16 := by omega
    have hR2 := fhid (hRP.out.trans (by rw [decide_eq_true g2, Bool.true_and]))
    have hd2 := fun (W : World) (hb : Below w.heap.size w W) => hdf W hb (by omega)
    have ha2 := han _ hB0 (by omega)
    clear hdf han
    cases D2 with
    | true =>
      go_wp2_with (go_at_call 70; (with_reducible refine ha2.mono ?_); rintro e w1 ⟨rfl, b1⟩)
      exact hpost.out _ _ (by rw [hR2.out]; rfl) (hB0.trans (b1.mono hB0.size))
    | false =>
      go_wp2_with (first
        | (go_at_call 70; (with_reducible refine ha2.mono ?_); rintro e w1 ⟨rfl, b1⟩
           have x3' := (b1.cell (p := ⟨w.heap.size, 3, none⟩) xl).trans x3
           have xl' := Nat.lt_of_lt_of_le xl b1.size)
        | (go_at_call 72; (with_reducible refine (hd2 _ (hB0.trans (b1.mono hB0.size))).mono ?_); rintro e w2 ⟨rfl, b2⟩))
      have q1 := hB0.trans (b1.mono hB0.size)
      exact hpost.out _ _ (by rw [hR2.out]; simp) (q1.trans (b2.mono q1.size))
  · have j2 : ¬ (nQ : Int) ≤ 16 := by omega
    have hR2 := fhid (hRP.out.trans (by rw [decide_eq_false g2, Bool.false_and, Bool.false_and]))
    clear hdf han
    go_wp2_with fail
    exact hpost.out _ _ hR2.out hB0
/-- The names are not long. -/
def Short (c : Cfg) : Prop := (∀ p ∈ c.parts, p.name.length ≤ 65536) ∧ ∀ p ∈ c.qos, p.name.length ≤ 65536
set_option maxRecDepth 100000 in
set_option maxHeartbeats 16000000 in
theorem Right_any8 (v : Value) (c : Cfg) (w : World) (h : CR w v c) (hw : Env w) : Calls Tryz.prog 18 #[v] w (BoolP w (rightC c)) := by
  have h0 := h
  obtain ⟨AN, cN, AV, cV, AP, cP, AQ, cQ, a0, a1, a2, a3, a4, a5, a6, a7, rfl, ev, r1, r2, r3, r4⟩ := h
  have hpost := fhid (show ∀ (b : Bool) (W : World), rightC c = b → Below w.heap.size w W → BoolP w (rightC c) (.returned (.bool b)) W from fun b W h1 h2 => ⟨by rw [h1], h2⟩)
  generalize BoolP w (rightC c) = P at *
  have hRP : rightC c = (rightNodesP c && rightPartsP c && rightQosP c && rightV valS [a0, a1, a2, a3, a4, a5, a6, a7] && decide (a4 ≤ a5)) := by
    unfold rightC; rw [ev]; rfl
  generalize rightC c = R at *
  have hn := fun (W : World) (hb : Below w.heap.size w W) => rightNodes_any _ c W (h0.below hb) (hw.below hb)
  have hp := fun (W : World) (hb : Below w.heap.size w W) => rightParts_any _ c W (h0.below hb)
  have hq := fun (W : World) (hb : Below w.heap.size w W) => rightQos_any _ c W (h0.below hb)
  have hva := fun b W => values_any b W
  have hrn := fun g b W AN cN nN AV cV nV AP cP nP AQ cQ nQ hN (hV : VBox W b TConf [.slice AN nN cN, .slice AV nV cV, .slice AP nP cP, .slice AQ nQ cQ] [a0, a1, a2, a3, a4, a5, a6, a7] []) => rightNumbers_any g b valS 4 TConf [.slice AN nN cN, .slice AV nV cV, .slice AP nP cP, .slice AQ nQ cQ] [a0, a1, a2, a3, a4, a5, a6, a7] [] W hN hV rfl rfl (by decide)
  unfold MadeN at hva
  unfold BoolP at hn hp hq hrn
  rw [show valS.length = 8 from rfl] at hva hrn
  generalize rightV valS [a0, a1, a2, a3, a4, a5, a6, a7] = N4 at *
  generalize rightNodesP c = N1 at *
  generalize rightPartsP c = N2 at *
  generalize rightQosP c = N3 at *
  clear r1 r2 r3 r4 ev h0
  generalize c.names.length = nN at *
  generalize c.vecs.length = nV at *
  generalize c.parts.length = nP at *
  generalize c.qos.length = nQ at *
  have hf0 := Box.new w TConf (conf12 AN nN cN AV nV cV AP nP cP AQ nQ cQ a0 a1 a2 a3 a4 a5 a6 a7)
  have hB0 : Below w.heap.size w (w.alloc (.cells (conf12 AN nN cN AV nV cV AP nP cP AQ nQ cQ a0 a1 a2 a3 a4 a5 a6 a7).toArray TConf)) := (Below.refl _ _).alloc (Nat.le_refl _) _
  replace hw := fhid hw
  go_enter Tryz.func18, Tryz.ntmps18
  go_upto_region 1 with fail
  generalize w.alloc _ = W1 at *
  have xl := Box.lt hf0
  have y12 := fun (W : World) (hb : Below W1.heap.size W1 W) => Box.twelve (Box.below hf0 hb xl)
  obtain ⟨x0, x1, x2, x3, x4, x5, x6, x7, x8, x9, x10, x11⟩ := y12 _ (Below.refl _ _)
  have hVB := fun (W : World) (hb : Below W1.heap.size W1 W) => (show VBox W w.heap.size TConf [.slice AN nN cN, .slice AV nV cV, .slice AP nP cP, .slice AQ nQ cQ] [a0, a1, a2, a3, a4, a5, a6, a7] [] from Box.below hf0 hb xl)
  replace hf0 := fhid hf0
  have hnn := hn _ hB0
  clear hn
  replace hRP := fhid hRP
  cases N1 with
  | false =>
    clear hp hq hva hrn y12
    go_wp2_with (go_at_call 37; (with_reducible refine hnn.mono ?_); rintro e w1 ⟨rfl, b1⟩)
    exact hpost.out _ _ (by rw [hRP.out]; rfl) (hB0.trans (b1.mono hB0.size))
  | true =>
    cases N2 with
    | false =>
      clear hq hva hrn
      go_wp2_with (first
        | (go_at_call 37; (with_reducible refine hnn.mono ?_); rintro e w1 ⟨rfl, b1⟩
           have q1 := hB0.trans (b1.mono hB0.size)
           obtain ⟨z0, z1, z2, z3, z4, z5, z6, z7, z8, z9, z10, z11⟩ := y12 _ b1
           have zl := Nat.lt_of_lt_of_le xl b1.size)
        | (go_at_call 38; (with_reducible refine (hp _ q1).mono ?_); rintro e w2 ⟨rfl, b2⟩))
      exact hpost.out _ _ (by rw [hRP.out]; rfl) (q1.trans (b2.mono q1.size))
    | true =>
      cases N3 with
      | false =>
        clear hva hrn
        go_wp2_with (first
          | (go_at_call 37; (with_reducible refine hnn.mono ?_); rintro e w1 ⟨rfl, b1⟩
             have q1 := hB0.trans (b1.mono hB0.size)
             obtain ⟨z0, z1, z2, z3, z4, z5, z6, z7, z8, z9, z10, z11⟩ := y12 _ b1
             have zl := Nat.lt_of_lt_of_le xl b1.size)
          | (go_at_call 38; (with_reducible refine (hp _ q1).mono ?_); rintro e w2 ⟨rfl, b2⟩
             have q2 := q1.trans (b2.mono q1.size)
             have p2 := b1.trans (b2.mono b1.size)
             obtain ⟨z0, z1, z2, z3, z4, z5, z6, z7, z8, z9, z10, z11⟩ := y12 _ p2
             have zl := Nat.lt_of_lt_of_le xl p2.size)
          | (go_at_call 39; (with_reducible refine (hq _ q2).mono ?_); rintro e w3 ⟨rfl, b3⟩))
        exact hpost.out _ _ (by rw [hRP.out]; rfl) (q2.trans (b3.mono q2.size))
      | true =>
        have hd := fhid (show decide (a4 ≤ a5) = decide (a4 ≤ a5) from rfl)
        cases N4 with
        | false =>
          go_wp2_with (first
            | (go_at_call 37; (with_reducible refine hnn.mono ?_); rintro e w1 ⟨rfl, b1⟩
               have q1 := hB0.trans (b1.mono hB0.size)
               obtain ⟨z0, z1, z2, z3, z4, z5, z6, z7, z8, z9, z10, z11⟩ := y12 _ b1
               have zl := Nat.lt_of_lt_of_le xl b1.size)
            | (go_at_call 38; (with_reducible refine (hp _ q1).mono ?_); rintro e w2 ⟨rfl, b2⟩
               have q2 := q1.trans (b2.mono q1.size)
               have p2 := b1.trans (b2.mono b1.size)
               obtain ⟨z0, z1, z2, z3, z4, z5, z6, z7, z8, z9, z10, z11⟩ := y12 _ p2
               have zl := Nat.lt_of_lt_of_le xl p2.size)
            | (go_at_call 39; (with_reducible refine (hq _ q2).mono ?_); rintro e w3 ⟨rfl, b3⟩
               have q3 := q2.trans (b3.mono q2.size)
               have p3 := p2.trans (b3.mono p2.size))
            | (go_at_call 41; (with_reducible refine (hva _ _).mono ?_); rintro e w4 ⟨g, rfl, hg, hN, b4⟩
               have q4 := q3.trans (b4.mono q3.size)
               have p4 := p3.trans (b4.mono p3.size))
            | (go_at_call 40; (with_reducible refine (hrn _ _ _ AN cN nN AV cV nV AP cP nP AQ cQ nQ hN (hVB _ p4)).mono ?_); rintro e w5 ⟨rfl, b5⟩
               have q5 := q4.trans (b5.mono q4.size)
               have p5 := p4.trans (b5.mono p4.size)
               obtain ⟨-, -, -, -, -, -, -, -, z8', z9', -, -⟩ := y12 _ p5
               have zl5 := Nat.lt_of_lt_of_le xl p5.size))
          exact hpost.out _ _ (by rw [hRP.out]; rfl) q5
        | true =>
          go_wp2_with (first
            | (go_at_call 37; (with_reducible refine hnn.mono ?_); rintro e w1 ⟨rfl, b1⟩
               have q1 := hB0.trans (b1.mono hB0.size)
               obtain ⟨z0, z1, z2, z3, z4, z5, z6, z7, z8, z9, z10, z11⟩ := y12 _ b1
               have zl := Nat.lt_of_lt_of_le xl b1.size)
            | (go_at_call 38; (with_reducible refine (hp _ q1).mono ?_); rintro e w2 ⟨rfl, b2⟩
               have q2 := q1.trans (b2.mono q1.size)
               have p2 := b1.trans (b2.mono b1.size)
               obtain ⟨z0, z1, z2, z3, z4, z5, z6, z7, z8, z9, z10, z11⟩ := y12 _ p2
               have zl := Nat.lt_of_lt_of_le xl p2.size)
            | (go_at_call 39; (with_reducible refine (hq _ q2).mono ?_); rintro e w3 ⟨rfl, b3⟩
               have q3 := q2.trans (b3.mono q2.size)
               have p3 := p2.trans (b3.mono p2.size))
            | (go_at_call 41; (with_reducible refine (hva _ _).mono ?_); rintro e w4 ⟨g, rfl, hg, hN, b4⟩
               have q4 := q3.trans (b4.mono q3.size)
               have p4 := p3.trans (b4.mono p3.size))
            | (go_at_call 40; (with_reducible refine (hrn _ _ _ AN cN nN AV cV nV AP cP nP AQ cQ nQ hN (hVB _ p4)).mono ?_); rintro e w5 ⟨rfl, b5⟩
               have q5 := q4.trans (b5.mono q4.size)
               have p5 := p4.trans (b5.mono p4.size)
               obtain ⟨-, -, -, -, -, -, -, -, z8', z9', -, -⟩ := y12 _ p5
               have zl5 := Nat.lt_of_lt_of_le xl p5.size))
          exact hpost.out _ _ (by rw [hRP.out]; rfl) q5
end Go.Proofs.YtmnmcikbbfcjcaaGreatDoor
/-
  slices.Repeat of one vector.
-/
namespace Go.Proofs.YtmnmcikbbfcjcaaGreatDoor
open Go.RowKit Go.Shelf Vs

abbrev TVec : TypeId := 120
theorem infoVec : (Tryz.prog.info? TVec).map (fun i => (i.zero, i.size, i.bytes)) = some (some (.agg #[.int .i64 0, .int .i64 0, .int .i64 0]), 3, 24) := by kernel_rfl
theorem run_copy_k {P : Program} (w : World) (dT sT ty elem : TypeId) (g o dLen dCap : Nat) (a : Addr) (sLen sCap k : Nat) (cur : Array Value) (t : TypeId) (cs : List Value)
    (hu : P.underlying dT = some (.slice elem)) (hs : (P.info? elem).map (·.size) = some k)
    (hg : w.heap[g]? = some (.cells cur t (0, 0))) (hn : cs.length = Nat.min sLen dLen * k)
    (hsrc : ∀ j v, cs[j]? = some v → w.cell? (a.add j) = some v) (hfit : o + cs.length ≤ cur.size) (h1 : ∀ v ∈ cs, v.oneCell' = true) :
    (Builtin.copy_ #[dT, sT] ty #[.slice (some ⟨g, o, none⟩) dLen dCap, .slice (some a) sLen sCap]).run P w =
      .ok (goInt (Nat.min sLen dLen)) (w.setRow g (cur.toList.take o ++ cs ++ cur.toList.drop (o + cs.length)).toArray) := by
  have hl := run_loadCells_list (P := P) w a cs hsrc
  have hst := run_storeCells_at P g o t cs 0 cur w hg (by simpa using hfit) h1
  cases hq : P.info? elem with
  | none => simp [hq] at hs
  | some i =>
    have hi : i.size = k := by simpa [hq] using hs
    simp [Builtin.copy_, run_underlying hu, Builtin.lenOf, Builtin.firstCells, sizeOf, typeInfo, hq, hi, ← hn, hl, hst]
theorem VVs_app (a b : List V3) : VVs (a ++ b) = VVs a ++ VVs b := List.flatMap_append
theorem VVs_one (l : List V3) : ∀ v ∈ VVs l, v.oneCell' = true := by
  intro v hv
  obtain ⟨x, _, hx⟩ := List.mem_flatMap.1 hv
  simp at hx
  rcases hx with rfl | rfl | rfl <;> rfl
/-- A slice of the call's own holds these vectors. -/
def OwnV (w : World) (base : Nat) (v : Value) (l : List V3) : Prop := w.ownsRow base TVec 3 v l.length (VVs l)
end Go.Proofs.YtmnmcikbbfcjcaaGreatDoor
/-
  The reader of a config in memory, and what turns in it.
-/
namespace Go.Proofs.YtmnmcikbbfcjcaaGreatDoor
open Go.RowKit Go.Shelf Vs

/-- Values put behind a row of the call's own, as an equation. -/
theorem app_run {w : World} (T e : TypeId) (z : Value) (size bytes : Nat)
    (hT : Tryz.prog.underlying T = some (.slice e)) (hinfo : (Tryz.prog.info? e).map (fun i => (i.zero, i.size, i.bytes)) = some (some z, size, bytes)) (hzs : z.cells.size = size) (hsz : 0 < size) (ty : TypeId)
    (base : Nat) (v : Value) (n : Nat) (xs : List Value) (hown : w.ownsRow base e size v n xs)
    (B : Nat) (A : Option Addr) (m c : Nat) (us : List Value) (hr : SegC w B A us) (hl : us.length = m * size) (h1 : ∀ u ∈ us, u.oneCell' = true)
    (hlen : (n + m) * bytes ≤ 140737488355328) (hnm : n + m ≤ 140737488355328) (hbase : base ≤ w.heap.size) :
    ∃ v' w', (Builtin.append_ #[T, T] ty #[v, .slice A m c]).run Tryz.prog w = .ok v' w' ∧ w'.ownsRow base e size v' (n + m) (xs ++ us) ∧ w.grownBy w' v.ownBlock ∧ (v'.ownBlock = v.ownBlock ∨ v'.ownBlock = some w.heap.size) := by
  obtain ⟨i0, hi, hz0, hz1, hz2⟩ := info_parts hinfo
  by_cases h0 : 0 < m
  · obtain ⟨b, of, rfl, _, hc⟩ := hr (by rw [hl]; exact Nat.mul_pos h0 hsz)
    obtain ⟨v', w', hrun, h2, h3, _, h5⟩ := run_append_own_at (P := Tryz.prog) w base T ty e i0 z size bytes hT hi hz0 hz1 hz2 hzs hsz v n xs hown ⟨b, of, none⟩ m c us hl (fun j u hu => by
        obtain ⟨hj, rfl⟩ := List.getElem?_eq_some_iff.1 hu
        have := hc j hj
        unfold Addr.add
        by_cases hz : j = 0
        · subst hz; rw [if_pos rfl]; exact this
        · rw [if_neg hz]; exact this) h1 (by unfold maxLen; omega) hlen hbase
    exact ⟨v', w', hrun, h2, h3, h5⟩
  · have hm : m = 0 := by omega
    subst hm
    have hu : us = [] := List.eq_nil_of_length_eq_zero (by omega)
    subst hu
    cases A with
    | none =>
      refine ⟨v, w, ?_, by simpa using hown, ⟨rfl, rfl, rfl, Nat.le_refl _, fun _ _ _ => rfl⟩, .inl rfl⟩
      rcases hown.2 with ⟨rfl, rfl⟩ | ⟨g, cap, cur, rfl, _, _, hnc, _⟩
      · simp [Builtin.append_, run_underlying hT, sizeOf, typeInfo, hi, Builtin.lenOf, Builtin.firstCells]
      · simp [Builtin.append_, run_underlying hT, sizeOf, typeInfo, hi, Builtin.lenOf, Builtin.firstCells, hnc, storeCells]
    | some ad =>
      obtain ⟨v', w', hrun, h2, h3, _, h5⟩ := run_append_own_at (P := Tryz.prog) w base T ty e i0 z size bytes hT hi hz0 hz1 hz2 hzs hsz v n xs hown ad 0 c [] (by simp) (fun j u hu => by simp at hu) (fun u hu => by simp at hu) (by unfold maxLen; omega) hlen hbase
      exact ⟨v', w', hrun, h2, h3, h5⟩
/-- An append that is known, as one step of a region that draws its order. -/
theorem step_app {w : World} {ops : Array Oper} {o : Oper} {a : Act} {K : Act → World → Prop} {Q : Exit → Act → World → Prop} {E : Prop} (T : TypeId) (hgd : o.guard = none) (s x : Operand) (ho : o.op = .call { callee := .builtin .append, args := #[s, x], argTypes := #[T, T] })
    (vs vx : Value) (hs : a.eval s = vs) (hx : a.eval x = vx) (v' : Value) (w' : World) (hrun : (Builtin.append_ #[T, T] o.type #[vs, vx]).run Tryz.prog w = .ok v' w') (h : K (a.put o.dst v') w') : if Region.wanted o (yielded ops a.tmps) = true then Oper.wp Tryz.prog o a w K Q else E := by
  have hwt : Region.wanted o (yielded ops a.tmps) = true := by simp [Region.wanted, hgd]
  rw [if_pos hwt]
  unfold Oper.wp
  simp [execOp, ho, resolve, invoke, builtin, hs, hx, hrun, Result.andThen]
  exact h
abbrev TStr : TypeId := 9
theorem infoPart : (Tryz.prog.info? TPart).map (fun i => (i.zero, i.size, i.bytes)) = some (some (.agg #[.string ⟨#[]⟩, .int .u64 0, .int .u64 0, .int .u64 0, .int .u64 0, .int .i64 0, .int .i64 0, .int .i64 0]), 8, 72) := by kernel_rfl
theorem infoQos : (Tryz.prog.info? TQos).map (fun i => (i.zero, i.size, i.bytes)) = some (some (.agg #[.string ⟨#[]⟩, .int .i64 0, .int .i64 0]), 3, 32) := by kernel_rfl
section
variable {w w' : World} {row : Option Nat}
theorem Box.grown {b : Nat} {T : TypeId} {cs : List Value} (h : Box w b T cs) (hg : w.grownBy w' row) (hr : some b ≠ row) : Box w' b T cs := (hg.block b (Box.lt h) hr).trans h
theorem SMap.grown {b : Nat} {l : List Str} (h : SMap w b l) (hg : w.grownBy w' row) (hr : some b ≠ row) : SMap w' b l := h.keep (hg.block b h.lt hr)
theorem own_grown {base : Nat} {e : TypeId} {size n : Nat} {v : Value} {xs : List Value} (h : w.ownsRow base e size v n xs) (hg : w.grownBy w' row) (hr : ∀ k, v.ownBlock = some k → some k ≠ row) : w'.ownsRow base e size v n xs := by
  refine ⟨h.1, ?_⟩
  rcases h.2 with ⟨rfl, hn⟩ | ⟨g, cap, cur, rfl, hb, hh, rest⟩
  · exact .inl ⟨rfl, hn⟩
  · exact .inr ⟨g, cap, cur, rfl, hb, (hg.block g (Array.getElem?_eq_some_iff.1 hh).1 (hr g rfl)).trans hh, rest⟩
theorem own_box {b base : Nat} {e T : TypeId} {size n : Nat} {v : Value} {xs cs : List Value} (h : w.ownsRow base e size v n xs) (hb : Box w b T cs) (hT : T ≠ e) : ∀ k, v.ownBlock = some k → k ≠ b := fun k hk he => own_tag h hb hT (by rw [hk, he])
theorem own_own {b1 b2 : Nat} {e1 e2 : TypeId} {s1 s2 n1 n2 : Nat} {v1 v2 : Value} {xs1 xs2 : List Value} (h1 : w.ownsRow b1 e1 s1 v1 n1 xs1) (h2 : w.ownsRow b2 e2 s2 v2 n2 xs2) (he : e1 ≠ e2) : ∀ k, v1.ownBlock = some k → some k ≠ v2.ownBlock := by
  intro k hk
  obtain ⟨_, ⟨rfl, _⟩ | ⟨g, cap, cur, rfl, _, hg, _⟩⟩ := h1
  · simp [Value.ownBlock] at hk
  · have : g = k := by simpa [Value.ownBlock] using hk
    subst this
    exact own_tag h2 hg he
theorem box_map {b m : Nat} {T : TypeId} {cs : List Value} {l : List Str} (h : Box w b T cs) (hm : SMap w m l) : b ≠ m := by
  intro e
  subst e
  obtain ⟨es, c, h2, _⟩ := hm
  unfold Box at h
  rw [h] at h2
  cases h2
end
section
variable {B : Nat} {w w' : World} {b : Nat} {ns : List Str} {vs : List V3} {ps : List PartC} {qs : List QosC} {vals : List Int} {l0 l1 l2 : List Str} {vN vV vP vQ : Value} {m0 m1 m2 : Nat}
theorem own_set {b base : Nat} {e T : TypeId} {size n : Nat} {v : Value} {xs cs : List Value} (h : w.ownsRow base e size v n xs) (hb : Box w b T cs) (hT : T ≠ e) (i : Nat) (u : Value) : (w.setCell ⟨b, i, none⟩ u).ownsRow base e size v n xs :=
  own_grown h (row := some b) (Aft.set (Aft.of (Below.refl _ _)) i u) fun k hk e => own_box h hb hT k hk (by injection e)
theorem map_set {b m : Nat} {T : TypeId} {cs : List Value} {l : List Str} (h : SMap w m l) (hb : Box w b T cs) (i : Nat) (u : Value) : SMap (w.setCell ⟨b, i, none⟩ u) m l :=
  h.grown (row := some b) (Aft.set (Aft.of (Below.refl _ _)) i u) fun e => box_map hb h (by injection e with e; exact e.symm)
end
/-- The blocks that are the reader's own. -/
def Own (b : Nat) (vN vV vP vQ : Value) (m0 m1 m2 : Nat) (k : Nat) : Prop := k = b ∨ k = m0 ∨ k = m1 ∨ k = m2 ∨ vN.ownBlock = some k ∨ vV.ownBlock = some k ∨ vP.ownBlock = some k ∨ vQ.ownBlock = some k
/-- Of what there was but these blocks have turned. -/
structure FX (X : Nat → Prop) (w w' : World) : Prop where
  os : w'.os = w.os
  tape : w'.tape = w.tape
  output : w'.output = w.output
  size : w.heap.size ≤ w'.heap.size
  block : ∀ k, k < w.heap.size → ¬ X k → w'.heap[k]? = w.heap[k]?
theorem FX.of {X : Nat → Prop} {w w' : World} (h : Below w.heap.size w w') : FX X w w' := ⟨h.os, h.tape, h.output, h.size, fun k hk _ => h.block k hk⟩
theorem FX.step {X : Nat → Prop} {w w1 w2 : World} {row : Option Nat} (h : FX X w w1) (hg : w1.grownBy w2 row) (hr : ∀ k, row = some k → X k ∨ w.heap.size ≤ k) : FX X w w2 :=
  ⟨hg.os.trans h.os, hg.tape.trans h.tape, hg.output.trans h.output, Nat.le_trans h.size hg.size, fun k hk hx => (hg.block k (Nat.lt_of_lt_of_le hk h.size) (fun e => by
    rcases hr k e.symm with h1 | h1
    · exact hx h1
    · omega)).trans (h.block k hk hx)⟩
theorem FX.on {X : Nat → Prop} {w w1 w2 : World} (h : FX X w w1) (hb : Below w1.heap.size w1 w2) : FX X w w2 :=
  ⟨hb.os.trans h.os, hb.tape.trans h.tape, hb.output.trans h.output, Nat.le_trans h.size hb.size, fun k hk hx => (hb.block k (Nat.lt_of_lt_of_le hk h.size)).trans (h.block k hk hx)⟩
theorem FX.set {X : Nat → Prop} {w w1 : World} (h : FX X w w1) {b : Nat} (hb : X b) (i : Nat) (v : Value) : FX X w (w1.setCell ⟨b, i, none⟩ v) :=
  h.step (row := some b) (Aft.set (Aft.of (Below.refl _ _)) i v) fun k e => .inl (by injection e with e; exact e ▸ hb)
end Go.Proofs.YtmnmcikbbfcjcaaGreatDoor
