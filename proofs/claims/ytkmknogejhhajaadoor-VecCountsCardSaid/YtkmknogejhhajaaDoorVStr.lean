/-
  The library's strings: Cut at '=', Atoi, Itoa, Index at ','.
-/
import Derived.Test.YtkmknogejhhajaaDoorVMath
import Derived.Test.YtkmknogejhhajaaDoorVLeaf
import Derived.Lib.AppendIntMem
import Derived.Laws.IdiomStrings
import Derived.Lib.ConvBytes
namespace Go.Proofs.YtkmknogejhhajaaDoor
open Go.RowKit

/-- The library's table of powers of ten reads as the program's text lays it. -/
def Tab (w : World) : Prop := Lib.TabIs Tryd.prog w "internal/strconv.uint64pow10" .u64 Lib.pow10Tab
theorem tab_below {w w' : World} (h : Tab w) (hb : Below w.heap.size w w') : Tab w' := ((Lib.tabBelow_of_tabIs h).on hb).here
/-- The table, and the library's two errors. -/
def Env (w : World) : Prop := Tab w ∧ (∃ t p, w.cell? ⟨1, 0, none⟩ = some (.iface t p)) ∧ (∃ t p, w.cell? ⟨2, 0, none⟩ = some (.iface t p))
theorem Env.below {w w' : World} (h : Env w) (hb : Below w.heap.size w w') : Env w' := by
  obtain ⟨h1, ⟨t, p, h2⟩, u, q, h3⟩ := h
  exact ⟨tab_below h1 hb, ⟨t, p, (hb.cell (block_lt_of_cell h2)).trans h2⟩, u, q, (hb.cell (block_lt_of_cell h3)).trans h3⟩
theorem Env.grew {w w' : World} (h : Env w) (g : Grew w w') : Env w' := h.below g.below
theorem bytes_grew (w : World) (s : ByteArray) : Grew w (Lib.bytesWorld w 5 s) := by
  have h1 := run_bytes_of_string (P := Tryd.prog) w 9 81 5 s Tryd.underlying9 Tryd.underlying81 Tryd.underlying5
  have h2 := Lib.run_convert_string_bytes (P := Tryd.prog) w 9 81 5 s Tryd.underlying9 Tryd.underlying81 Tryd.underlying5
  rw [h1] at h2
  injection h2 with _ h2
  rw [← h2]
  exact ((Grew.refl w).drew).alloc _
/-- What Atoi answers: a number, or some number and an error. -/
def AtoiPost (w : World) (l : List UInt8) (e : Ending) (w' : World) : Prop :=
  (match Lib.atoiAll l with
  | .ok n => e = .returned (.tuple #[.int .i64 n, .nilIface])
  | _ => ∃ n N, e = .returned (.tuple #[.int .i64 n, .iface 112 (.pointer (some ⟨N, 0, none⟩))])) ∧ Below w.heap.size w w'
theorem atoi_any (s : ByteArray) (hs : s.size ≤ 140737488355328) (w : World) (hw : Env w) : Calls Tryd.prog 51 #[.string s] w (AtoiPost w (bl s)) := by
  obtain ⟨_, ⟨t, p, h2⟩, u, q, h3⟩ := hw
  unfold AtoiPost
  cases h : Lib.atoiAll (bl s) with
  | ok n =>
    refine (Tryd.strconv_Atoi_ok s (by omega) n h w).mono ?_
    rintro e w' ⟨rfl, rfl | ⟨t, rfl⟩⟩
    · exact ⟨rfl, Below.refl _ _⟩
    · exact ⟨rfl, (bytes_grew w t).below⟩
  | range =>
    refine (Tryd.strconv_Atoi_range s (by omega) h _ w h3 (.inr ⟨_, _, rfl⟩)).mono ?_
    rintro e w' ⟨N, rfl, _, _, hb⟩
    exact ⟨⟨_, _, rfl⟩, hb⟩
  | _ =>
    refine (Tryd.strconv_Atoi_syntax s (by omega) h _ w h2 (.inr ⟨_, _, rfl⟩)).mono ?_
    rintro e w' ⟨N, rfl, _, _, hb⟩
    exact ⟨⟨_, _, rfl⟩, hb⟩
theorem itoa_any (n : Int) (w : World) (hw : Env w) (h : I64 n) : Calls Tryd.prog 52 #[.int .i64 n] w fun e w' => e = .returned (.string (str (num n))) ∧ Grew w w' := by
  refine (Tryd.strconv_Itoa n h.1 h.2 w hw.1).mono ?_
  rintro e w' ⟨rfl, k, os, rfl⟩
  exact ⟨rfl, k, os, rfl⟩
theorem idx_none {c : UInt8} {l : List UInt8} (h : c ∉ l) : Lib.indexByte l c = -1 := by
  induction l with
  | nil => rfl
  | cons x r ih =>
    unfold Lib.indexByte
    rw [if_neg (by simpa using fun e : x = c => h (by rw [e]; simp)), ih (fun e => h (by simp [e]))]
    rfl
theorem idx_some {c : UInt8} {l : List UInt8} (h : c ∈ l) : Lib.indexByte l c = ((upTo c l).length : Int) ∧ (upTo c l).length < l.length := by
  induction l with
  | nil => simp at h
  | cons x r ih =>
    unfold Lib.indexByte
    rw [upTo_cons]
    by_cases e : x = c
    · rw [if_pos (by simp [e]), if_pos e]; simp
    · obtain ⟨h1, h2⟩ := ih (by rcases List.mem_cons.1 h with h | h; exact absurd h.symm e; exact h)
      rw [if_neg (by simpa using e), if_neg e, h1, if_neg (by simp)]
      simp; omega
theorem upTo_take (c : UInt8) (l : List UInt8) : upTo c l = l.take (upTo c l).length := by
  exact List.prefix_iff_eq_take.1 (List.takeWhile_prefix _)
def cutV (l : List UInt8) : Value := .tuple #[.string (str (upTo 61 l)), .string (str (behind 61 l)), .bool (decide (61 ∈ l))]
set_option maxRecDepth 100000 in
set_option maxHeartbeats 1000000 in
theorem cut0_any (s : ByteArray) (hs : s.size ≤ 140737488355328) (w : World) : Calls Tryd.prog 61 #[.string s, .string ⟨#[61]⟩] w fun e w' => e = .returned (cutV (bl s)) ∧ Grew w w' := by
  have hi := fun W => Tryd.stringslite_Index_one s 61 W
  by_cases h : 61 ∈ bl s
  · obtain ⟨h1, h2⟩ := idx_some h
    have h1' : Lib.indexByte s.data.toList 61 = ((upTo 61 (bl s)).length : Int) := h1
    rw [h1'] at hi
    rw [bl_len] at h2
    have e1 : s.extract 0 (upTo 61 (bl s)).length = str (upTo 61 (bl s)) := by rw [ext_to, ← upTo_take]
    have e2 : s.extract ((upTo 61 (bl s)).length + 1) s.size = str (behind 61 (bl s)) := by rw [ext_from]; rfl
    have hE := fhid (show cutV (bl s) = .tuple #[.string (str (upTo 61 (bl s))), .string (str (behind 61 (bl s))), .bool true] by unfold cutV; rw [decide_eq_true h])
    clear h h1 h1'
    generalize str (upTo 61 (bl s)) = A1 at *
    generalize str (behind 61 (bl s)) = A2 at *
    generalize (upTo 61 (bl s)).length = k at *
    have i1 : (0 : Int) ≤ k := by omega
    have i2 : (k : Int) < s.size := by omega
    have i3 : (s.size : Int) ≤ 140737488355328 := by omega
    have i4 : ((k : Int) + 1).toNat = k + 1 := by omega
    have i5 : (k : Int) + 1 ≤ s.size := by omega
    go_enter Tryd.func61, Tryd.ntmps61
    go_wp2_with (go_at_call 80; (with_reducible refine (hi _).mono ?_); rintro e w1 ⟨rfl, rfl⟩)
    go_quiet (fail)
    go_wp2_with fail
    exact bodyPost_ret (v := .tuple #[.string A1, .string A2, .bool true]) (by simp [results, Tryd.results61, go_sem]) rfl ⟨by rw [hE.out], (Grew.refl _).drewN _⟩
  · have h1' : Lib.indexByte s.data.toList 61 = -1 := idx_none h
    rw [h1'] at hi
    have hE := fhid (show cutV (bl s) = .tuple #[.string s, .string ⟨#[]⟩, .bool false] by
      unfold cutV
      rw [decide_eq_false h, upTo_no h, str_bl]
      unfold behind
      rw [upTo_no h, List.drop_of_length_le (by omega)]
      rfl)
    clear h1' h
    go_enter Tryd.func61, Tryd.ntmps61
    go_wp2_with (go_at_call 80; (with_reducible refine (hi _).mono ?_); rintro e w1 ⟨rfl, rfl⟩)
    exact bodyPost_ret (v := .tuple #[.string s, .string ⟨#[]⟩, .bool false]) (by simp [results, Tryd.results61, go_sem]) rfl ⟨by rw [hE.out], Grew.refl _⟩
set_option maxRecDepth 100000 in
set_option maxHeartbeats 1000000 in
theorem cut_any (s : ByteArray) (hs : s.size ≤ 140737488355328) (w : World) : Calls Tryd.prog 50 #[.string s, .string ⟨#[61]⟩] w fun e w' => e = .returned (cutV (bl s)) ∧ Grew w w' := by
  have h := fun W => cut0_any s hs W
  have hE := fhid (show cutV (bl s) = .tuple #[.string (str (upTo 61 (bl s))), .string (str (behind 61 (bl s))), .bool (decide (61 ∈ bl s))] from rfl)
  simp only [hE.out] at h ⊢
  generalize str (upTo 61 (bl s)) = A1 at *
  generalize str (behind 61 (bl s)) = A2 at *
  generalize decide (61 ∈ bl s) = A3 at *
  clear hE
  go_enter Tryd.func50, Tryd.ntmps50
  go_wp2_with (go_at_call 61; (with_reducible refine (h _).mono ?_); rintro e w1 ⟨rfl, g1⟩)
  exact bodyPost_ret (v := .tuple #[.string A1, .string A2, .bool A3]) (by simp [results, Tryd.results50, go_sem]) rfl ⟨rfl, g1⟩
end Go.Proofs.YtkmknogejhhajaaDoor
