/-
  Parts: HRDig HRRead HRNum HRRng.
-/
import Derived.Test.YtmnmcikbbfcjcaaGreatDoorH2
import Derived.Laws.IdiomStrings
import Derived.BigQuiet
import Derived.Deep.QuietTactic
set_option linter.unusedSimpArgs false
set_option linter.unusedVariables false
/-
  The document's own digits.
-/
namespace Go.Proofs.YtmnmcikbbfcjcaaGreatDoor.Hs
open Go.RowKit

theorem dec_step (u : Nat) : dec u = (if u / 10 = 0 then [] else dec (u / 10)) ++ [UInt8.ofNat (48 + u % 10)] := by
  by_cases h : u < 10
  · rw [dec_small h, if_pos (by omega), show u % 10 = u by omega]; rfl
  · rw [dec_big h, if_neg (by omega)]
def sizeOf_ : Value → Nat
  | .string b => b.size
  | _ => 0
def bitOf_ : Value → Nat
  | .bool true => 1
  | _ => 0
def left (u : Nat) (b : Bool) : List UInt8 := if u = 0 ∧ b = false then [] else dec u
theorem left_step (u : Nat) (b : Bool) (h : ¬ (u = 0 ∧ b = false)) (t : List UInt8) : left u b ++ t = left (u / 10) false ++ (UInt8.ofNat (48 + u % 10) :: t) := by
  unfold left
  rw [if_neg h, dec_step u]
  by_cases h0 : u / 10 = 0 <;> simp [h0]
theorem left_done (t : List UInt8) : left 0 false ++ t = t := by simp [left]
theorem pad_more (k : Nat) (l : List UInt8) : str [48] ++ str (List.replicate k 48 ++ l) = str (List.replicate (k + 1) 48 ++ l) := by
  rw [str_app]
  simp [List.replicate_succ]
theorem conv_one (w : World) (u : Nat) (g : Nat) (hg : g = w.heap.size) : (convert 51 9 (.slice (some ⟨g, 0, none⟩) 1 1)).run Tryz.prog (w.alloc (.cells #[.int .u8 (48 + (u : Int) % 10)] 5)) = .ok (.string (str [UInt8.ofNat (48 + u % 10)])) (w.alloc (.cells #[.int .u8 (48 + (u : Int) % 10)] 5)) := by
  subst hg
  refine run_convert_bytes_back _ 51 9 5 ⟨w.heap.size, 0, none⟩ 1 [UInt8.ofNat (48 + u % 10)] Tryz.underlying51 Tryz.underlying5 Tryz.underlying9 (fun j hj => ?_)
  have : j = 0 := by simpa using hj
  subst this
  have e : ((UInt8.ofNat (48 + u % 10)).toNat : Int) = 48 + (u : Int) % 10 := by rw [UInt8.toNat_ofNat']; omega
  have hh := heap_alloc_new w (.cells #[.int .u8 (48 + (u : Int) % 10)] 5)
  rw [List.getElem_singleton, e]
  generalize (48 + (u : Int) % 10) = x at *
  generalize w.alloc (.cells #[.int .u8 x] 5) = w' at *
  simp [World.cell?, Addr.add, hh]
theorem str_hid {l m : List UInt8} (h : l = m) : str l = str m := by rw [h]
set_option maxRecDepth 100000 in
set_option maxHeartbeats 2000000 in
theorem Rdigits_any (N W : Nat) (ni wi : Int) (w : World) (hni : ni = N) (hwi : wi = W) (hn : N ≤ 1000000000) (hw : W ≤ 1000) :
    Calls Tryz.prog 147 #[.int .i64 ni, .int .i64 wi] w fun e w' => e = .returned (.string (str (dig N W))) ∧ Below w.heap.size w w' := by
  subst hni
  subst hwi
  have hl : (dec N).length ≤ 10 := dec_len_le 10 N (by omega) (by omega)
  have hwI : (W : Int) ≤ 1000 := by omega
  have hw0 : (0 : Int) ≤ W := by omega
  go_enter Tryz.func147, Tryz.ntmps147
  go_wp2_with fail
  go_loopw [0, 5, 6] (fun n s f wr => ∃ (u : Nat) (t : List UInt8) (b : Bool), n = .int .i64 u ∧ s = .string (str t) ∧ f = .bool b ∧ u ≤ N ∧ left u b ++ t = dec N ∧ Below w.heap.size w wr) (fun n _ f _ => (intOf n).toNat + bitOf_ f)
  case atStart => exact ⟨N, [], true, rfl, rfl, rfl, Nat.le_refl _, by simp [left], Below.refl _ _⟩
  case round =>
    obtain ⟨u, t, b, rfl, rfl, rfl, hu, hlt, hb⟩ := hrel
    have htl : t.length ≤ 10 := by
      have := congrArg List.length hlt
      rw [List.length_append] at this
      omega
    by_cases hc : u = 0 ∧ b = false
    · obtain ⟨rfl, rfl⟩ := hc
      rw [left_done] at hlt
      subst hlt
      have hD := fhid (str_hid (show List.replicate 0 48 ++ dec N = dec N from rfl))
      go_wp2_with fail
      go_loopw [5] (fun s wr => ∃ k : Nat, k ≤ W - (dec N).length ∧ s = .string (str (List.replicate k 48 ++ dec N)) ∧ Below w.heap.size w wr) (fun s _ => W - sizeOf_ s)
      case atStart => exact ⟨0, by omega, rfl, hb⟩
      case round =>
        obtain ⟨k, hk, rfl, hb2⟩ := hrel
        have hsz := str_size (List.replicate k 48 ++ dec N)
        rw [List.length_append, List.length_replicate] at hsz
        have q1 := pad_more k (dec N)
        rw [show str [48] = ⟨#[48]⟩ from rfl] at q1
        have hN : ¬ 9223372036854775807 < 1 + (str (List.replicate k 48 ++ dec N)).size := by rw [hsz]; omega
        have hsz2 := str_size (List.replicate (k + 1) 48 ++ dec N)
        rw [List.length_append, List.length_replicate] at hsz2
        by_cases hm : k + (dec N).length < W
        · have i1 : ((str (List.replicate k 48 ++ dec N)).size : Int) < W := by rw [hsz]; omega
          have hk1 : k + 1 ≤ W - (dec N).length := by omega
          have hms : W - (str (List.replicate (k + 1) 48 ++ dec N)).size < W - (str (List.replicate k 48 ++ dec N)).size := by rw [hsz, hsz2]; omega
          clear hsz hsz2
          generalize hQ : str (List.replicate (k + 1) 48 ++ dec N) = Q at *
          replace hQ := fhid hQ
          generalize hS : str (List.replicate k 48 ++ dec N) = S at *
          replace hS := fhid hS
          go_wp2_with fail
          go_roundw
          case rel => exact ⟨k + 1, hk1, by rw [hQ.out], hb2⟩
          case measure => exact hms
        · have i1 : ¬ ((str (List.replicate k 48 ++ dec N)).size : Int) < W := by rw [hsz]; omega
          have hE := fhid (show str (List.replicate k 48 ++ dec N) = str (dig N W) by
            unfold dig
            rw [show W - (dec N).length = k by omega])
          clear hsz hsz2 q1
          generalize str (List.replicate k 48 ++ dec N) = S at *
          go_wp2_with fail
          go_ret
          exact ⟨frets hE.out, hb2⟩
    · have hstep := left_step u b hc t
      rw [hlt] at hstep
      replace hstep := fhid hstep
      have hc' : b = true ∨ (b = false ∧ 0 < u) := by
        cases b with
        | true => exact .inl rfl
        | false => exact .inr ⟨rfl, by simp at hc; omega⟩
      have i1 : (0 : Int) ≤ u := by omega
      have i2 : (u : Int) ≤ 1000000000 := by omega
      have hsz := str_size t
      have hN : ¬ 9223372036854775807 < 1 + (str t).size := by rw [hsz]; omega
      have hcv := conv_one wr u wr.heap.size rfl
      have q1 : str [UInt8.ofNat (48 + u % 10)] ++ str t = str (UInt8.ofNat (48 + u % 10) :: t) := str_app _ _
      have hz := str_size [UInt8.ofNat (48 + u % 10)]
      rw [List.length_singleton] at hz
      generalize str [UInt8.ofNat (48 + u % 10)] = C at *
      have hN2 : ¬ 9223372036854775807 < C.size + (str t).size := by rw [hz]; exact hN
      have hqq : IntKind.i64.wrap ((u : Int).tdiv 10) = ((u / 10 : Nat) : Int) := by
        rw [show (u : Int).tdiv 10 = ((u / 10 : Nat) : Int) from rfl]
        exact IntWalk.i64_in _ (by omega)
      have hu3 := fhid (show u / 10 ≤ N by omega)
      clear hz hsz hN
      generalize hQ : str (UInt8.ofNat (48 + u % 10) :: t) = Q at *
      replace hQ := fhid hQ
      generalize hT : str t = T at *
      replace hT := fhid hT
      rcases hc' with rfl | ⟨rfl, hpos⟩
      · go_wp2_with fail
        go_roundw
        case rel => exact ⟨u / 10, _, false, by go_num, by rw [← hQ.out], rfl, hu3.out, hstep.out.symm, hb.alloc hb.size _⟩
        case measure => simp [intOf, bitOf_]; omega
      · have i3 : (0 : Int) < u := by omega
        go_wp2_with fail
        go_roundw
        case rel => exact ⟨u / 10, _, false, by go_num, by rw [← hQ.out], rfl, hu3.out, hstep.out.symm, hb.alloc hb.size _⟩
        case measure => simp [intOf, bitOf_]; omega
end Go.Proofs.YtmnmcikbbfcjcaaGreatDoor.Hs
/-
  The document's reader: its block, the next byte, the first fault, digits.
-/
namespace Go.Proofs.YtmnmcikbbfcjcaaGreatDoor.Hs
open Go.RowKit

theorem blk_set {w : World} {b : Nat} {cs : Array Value} {t : TypeId} (i : Nat) (u : Value) (h : w.heap[b]? = some (.cells cs t (0, 0))) : (w.setCell ⟨b, i, none⟩ u).heap[b]? = some (.cells (cs.setIfInBounds i u) t (0, 0)) := by
  have hlt := lt_of_block h
  have h' : w.heap[b] = .cells cs t (0, 0) := by simpa [Array.getElem?_eq_getElem hlt] using h
  show (w.heap.modify b _)[b]? = _
  rw [Array.getElem?_eq_getElem (by simpa using hlt), Array.getElem_modify_self, h']
  rfl
/-- The reader's block. -/
def RB (w : World) (b : Nat) (s : ByteArray) (a y f : Int) : Prop := w.heap[b]? = some (.cells #[.string s, .int .i64 a, .int .i64 y, .int .i64 f] 185 (0, 0))
section
variable {w w' : World} {b : Nat} {s : ByteArray} {a y f : Int}
theorem RB.facts (h : RB w b s a y f) : w.cell? ⟨b, 0, none⟩ = some (.string s) ∧ w.cell? ⟨b, 1, none⟩ = some (.int .i64 a) ∧ w.cell? ⟨b, 2, none⟩ = some (.int .i64 y) ∧ w.cell? ⟨b, 3, none⟩ = some (.int .i64 f) ∧
    w.frozen? ⟨b, 1, none⟩ = false ∧ w.frozen? ⟨b, 2, none⟩ = false ∧ w.frozen? ⟨b, 3, none⟩ = false ∧ b < w.heap.size := by
  unfold RB at h
  exact ⟨by simp [World.cell?, h], by simp [World.cell?, h], by simp [World.cell?, h], by simp [World.cell?, h], by simp [World.frozen?, h], by simp [World.frozen?, h], by simp [World.frozen?, h], lt_of_block h⟩
theorem RB.below {B : Nat} (h : RB w b s a y f) (hb : Below B w w') (hB : b < B) : RB w' b s a y f := (hb.block b hB).trans h
theorem RB.set1 (h : RB w b s a y f) (a' : Int) : RB (w.setCell ⟨b, 1, none⟩ (.int .i64 a')) b s a' y f := blk_set 1 _ h
theorem RB.set2 (h : RB w b s a y f) (y' : Int) : RB (w.setCell ⟨b, 2, none⟩ (.int .i64 y')) b s a y' f := blk_set 2 _ h
theorem RB.set3 (h : RB w b s a y f) (f' : Int) : RB (w.setCell ⟨b, 3, none⟩ (.int .i64 f')) b s a y f' := blk_set 3 _ h
theorem RB.drew (h : RB w b s a y f) (n : Nat) : RB (w.drewN n) b s a y f := h
end
/-- Nothing but this block has changed, and none is new. -/
structure Chg (b : Nat) (w w' : World) : Prop where
  below : Below b w w'
  size : w'.heap.size = w.heap.size
  other : ∀ j, j ≠ b → w'.heap[j]? = w.heap[j]?
section
variable {w w' w'' : World} {b : Nat}
theorem Chg.refl (b : Nat) (w : World) : Chg b w w := ⟨Below.refl _ _, rfl, fun _ _ => rfl⟩
theorem Chg.trans (h : Chg b w w') (h' : Chg b w' w'') : Chg b w w'' := ⟨h.below.trans h'.below, h'.size.trans h.size, fun j hj => (h'.other j hj).trans (h.other j hj)⟩
theorem Chg.drew (h : Chg b w w') (n : Nat) : Chg b w (w'.drewN n) := ⟨below_drewN h.below n, h.size, h.other⟩
theorem Chg.set (h : Chg b w w') (i : Nat) (u : Value) : Chg b w (w'.setCell ⟨b, i, none⟩ u) := ⟨h.below.setCell (p := ⟨b, i, none⟩) (Nat.le_refl _) u, by rw [← h.size]; exact Array.size_modify, fun j hj => (Below.heap_setCell _ _ _ _ hj).trans (h.other j hj)⟩
end
/-- The byte that the reader is at; nought where there is none. -/
def pk (s : ByteArray) (a : Nat) (y : Int) : UInt8 := if h : a < s.size ∧ y = 0 then s[a]'h.1 else 0
set_option maxRecDepth 100000 in
set_option maxHeartbeats 1000000 in
theorem peek_any (b : Nat) (s : ByteArray) (a : Nat) (y f : Int) (w : World) (hs : s.size ≤ 140737488355328) (h : RB w b s a y f) : Calls Tryz.prog 131 #[.pointer (some ⟨b, 0, none⟩)] w
    fun e w' => e = .returned (.int .u8 ((pk s a y).toNat : Int)) ∧ ∃ n, w' = w.drewN n := by
  obtain ⟨c0, c1, c2, c3, _, _, _, _⟩ := h.facts
  clear h
  have a0 : (0 : Int) ≤ a := by omega
  by_cases h1 : a < s.size
  · have i1 : (a : Int) < s.size := by omega
    have i3 : ¬ s.size ≤ a := by omega
    have i2 : ¬ (s.size : Int) ≤ a := by omega
    by_cases h2 : y = 0
    · have e := fhid (show pk s a y = s[a] by unfold pk; rw [dif_pos ⟨h1, h2⟩])
      subst h2
      go_enter Tryz.func131, Tryz.ntmps131
      go_wp2_with fail
      go_quiet (fail)
      go_wp2_with fail
      go_quiet (fail)
      go_wp2_with fail
      go_ret
      exact ⟨by rw [e.out]; rfl, _, by rw [World.drewN_drewN]⟩
    · have e := fhid (show pk s a y = 0 by unfold pk; rw [dif_neg (fun h => h2 h.2)])
      go_enter Tryz.func131, Tryz.ntmps131
      go_wp2_with fail
      go_quiet (fail)
      go_wp2_with fail
      go_ret
      exact ⟨by rw [e.out]; rfl, _, rfl⟩
  · have i2 : (s.size : Int) ≤ a := by omega
    have i3 : s.size ≤ a := by omega
    have e := fhid (show pk s a y = 0 by unfold pk; rw [dif_neg (fun h => h1 h.1)])
    clear h1
    go_enter Tryz.func131, Tryz.ntmps131
    go_wp2_with fail
    go_quiet (fail)
    go_wp2_with fail
    go_ret
    exact ⟨by rw [e.out]; rfl, _, rfl⟩
/-- The same, as its callers ask for it. -/
theorem peek_chg (b : Nat) (s : ByteArray) (a : Nat) (y f : Int) (ai : Int) (w : World) (hai : ai = a) (hs : s.size ≤ 140737488355328) (h : RB w b s ai y f) : Calls Tryz.prog 131 #[.pointer (some ⟨b, 0, none⟩)] w
    fun e w' => e = .returned (.int .u8 ((pk s a y).toNat : Int)) ∧ RB w' b s ai y f ∧ Chg b w w' := by
  subst hai
  refine (peek_any b s a y f w hs h).mono ?_
  rintro e w' ⟨rfl, n, rfl⟩
  exact ⟨rfl, h, (Chg.refl _ _).drew n⟩
/-- The reader has a fault, and is where it was. -/
def Faulty (w : World) (b : Nat) (s : ByteArray) (a : Int) (e : Ending) (w' : World) : Prop := e = .returned (.tuple #[]) ∧ ∃ y' f', y' ≠ 0 ∧ RB w' b s a y' f' ∧ Chg b w w'
set_option maxRecDepth 100000 in
set_option maxHeartbeats 1000000 in
theorem fault_set (b : Nat) (s : ByteArray) (a y f at_ : Int) (w : World) (h : RB w b s a y f) : Calls Tryz.prog 132 #[.pointer (some ⟨b, 0, none⟩), .int .i64 at_] w
    (Faulty w b s a) := by
  obtain ⟨c0, c1, c2, c3, z1, z2, z3, hz⟩ := h.facts
  by_cases h2 : y = 0
  · subst h2
    by_cases h1 : (s.size : Int) ≤ at_
    · go_enter Tryz.func132, Tryz.ntmps132
      go_wp2_with fail
      exact bodyPost_end (v := .tuple #[]) (by simp [results, Tryz.results132, go_sem]) rfl ⟨rfl, 4, at_, by decide, (h.set2 4).set3 at_, ((Chg.refl _ _).set 2 _).set 3 _⟩
    · go_enter Tryz.func132, Tryz.ntmps132
      go_wp2_with fail
      exact bodyPost_end (v := .tuple #[]) (by simp [results, Tryz.results132, go_sem]) rfl ⟨rfl, 3, at_, by decide, (h.set2 3).set3 at_, ((Chg.refl _ _).set 2 _).set 3 _⟩
  · go_enter Tryz.func132, Tryz.ntmps132
    go_wp2_with fail
    exact bodyPost_end (v := .tuple #[]) (by simp [results, Tryz.results132, go_sem]) rfl ⟨rfl, y, f, h2, h, Chg.refl _ _⟩
set_option maxHeartbeats 400000 in
theorem rdigit_any (c : UInt8) (w : World) : Calls Tryz.prog 144 #[.int .u8 (c.toNat : Int)] w fun e w' => e = .returned (.bool (isDig c)) ∧ w = w' := by
  have h := isDig_iff c
  generalize isDig c = r at *
  generalize c.toNat = n at *
  by_cases h1 : (48 : Int) ≤ n
  · by_cases h2 : (n : Int) ≤ 57
    · have e : r = true := h.2 (by omega)
      subst e
      clear h
      go_enter Tryz.func144, Tryz.ntmps144
      go_wp2
      go_ret
      exact ⟨rfl, rfl⟩
    · have e : r = false := by cases r with | false => rfl | true => exact absurd (h.1 rfl) (by omega)
      subst e
      clear h
      go_enter Tryz.func144, Tryz.ntmps144
      go_wp2
      go_ret
      exact ⟨rfl, rfl⟩
  · have e : r = false := by cases r with | false => rfl | true => exact absurd (h.1 rfl) (by omega)
    subst e
    clear h
    go_enter Tryz.func144, Tryz.ntmps144
    go_wp2
    go_ret
    exact ⟨rfl, rfl⟩
set_option maxHeartbeats 1000000 in
theorem rbare_any (c : UInt8) (w : World) : Calls Tryz.prog 130 #[.int .u8 (c.toNat : Int)] w fun e w' => e = .returned (.bool (isBare c)) ∧ w = w' := by
  have h := isBare_iff c
  have hd := rdigit_any c w
  generalize isDig c = r at *
  generalize isBare c = q at *
  generalize c.toNat = n at *
  replace h := fhid h
  cases r with
  | true =>
    go_enter Tryz.func130, Tryz.ntmps130
    go_wp2_with (go_at_call 144; (with_reducible refine hd.mono ?_); rintro e w1 ⟨rfl, rfl⟩)
    go_ret
    exact ⟨fretb (by rw [h.out]; rfl), rfl⟩
  | false =>
    go_enter Tryz.func130, Tryz.ntmps130
    go_wp2_with (go_at_call 144; (with_reducible refine hd.mono ?_); rintro e w1 ⟨rfl, rfl⟩)
    all_goals
      go_ret
      refine ⟨fretb ?_, rfl⟩
      rw [h.out, Bool.eq_iff_iff]
      simp
      try omega
theorem dval_app_le (l : List UInt8) (h : l.all isDig = true) (h6 : l.length ≤ 6) : dval l < 1000000 := by
  have := dval_lt l.length l rfl h
  have : (10 : Nat) ^ l.length ≤ 10 ^ 6 := Nat.pow_le_pow_right (by decide) h6
  omega
set_option maxRecDepth 100000 in
set_option maxHeartbeats 1000000 in
theorem value_any (t : List UInt8) (w : World) (h : t.all isDig = true) (h6 : t.length ≤ 6) : Calls Tryz.prog 146 #[.string (str t)] w fun e w' => e = .returned (.int .i64 (dval t : Nat)) ∧ w = w' := by
  obtain ⟨S, hS⟩ : ∃ S, str t = S := ⟨_, rfl⟩
  rw [hS]
  have hz : S.size = t.length := by rw [← hS, str_size]
  have hg : ∀ j (h : j < t.length) (h' : j < S.size), S[j] = t[j] := fun j h h' => by
    subst hS
    have := bl_get (str t) j h' (by rw [bl_str]; exact h)
    rw [← this]
    congr 1
  have h6I : (t.length : Int) ≤ 6 := by omega
  replace h := fhid h
  replace hg := fhid hg
  clear hS
  go_enter Tryz.func146, Tryz.ntmps146
  go_wp2_with fail
  go_loop [3, 4] (fun n i => ∃ j : Nat, j ≤ t.length ∧ i = .int .i64 j ∧ n = .int .i64 ((dval (t.take j) : Nat) : Int)) (fun _ i => t.length - (intOf i).toNat)
  case atStart => exact ⟨0, by omega, rfl, rfl⟩
  case round =>
    obtain ⟨j, hj, rfl, rfl⟩ := hrel
    have j0 : (0 : Int) ≤ j := by omega
    have hn := dval_app_le (t.take j) (by
      have := h.out
      rw [List.all_eq_true] at this ⊢
      exact fun x hx => this x (List.mem_of_mem_take hx)) (by rw [List.length_take]; omega)
    have n0 : (0 : Int) ≤ (dval (t.take j) : Nat) := by omega
    have n1 : ((dval (t.take j) : Nat) : Int) < 1000000 := by omega
    by_cases hlt : j < t.length
    · have i1 : (j : Int) < t.length := by omega
      have g := hg.out j hlt (by omega)
      have hd : isDig t[j] = true := List.all_eq_true.1 h.out _ (List.getElem_mem hlt)
      have hs := fhid (dval_take_succ t j hlt)
      have hdI := (isDig_iff _).1 hd
      have c0 : (48 : Int) ≤ (t[j].toNat : Int) := by omega
      have c1 : (t[j].toNat : Int) ≤ 57 := by omega
      have hv := fhid (show (dv t[j] : Int) = (t[j].toNat : Int) - 48 by unfold dv; omega)
      generalize t[j] = c at *
      generalize dval (t.take j) = D at *
      clear hn hd hdI
      go_wp2_with fail
      go_round
      case rel =>
        refine ⟨j + 1, by omega, by go_num, ?_⟩
        rw [hs.out]
        have := hv.out
        congr 1
        omega
      case measure => simp [intOf]; omega
    · have i1 : ¬ (j : Int) < t.length := by omega
      have e := fhid (show t.take j = t by rw [show j = t.length by omega, List.take_length])
      go_wp2_with fail
      go_ret
      exact ⟨by rw [e.out]; rfl, rfl⟩
end Go.Proofs.YtmnmcikbbfcjcaaGreatDoor.Hs
/-
  The document's reader reads digits.
-/
namespace Go.Proofs.YtmnmcikbbfcjcaaGreatDoor.Hs
open Go.RowKit

theorem all_take {r : List UInt8} {j : Nat} (h : AllTo r j) (hj : j ≤ r.length) : (r.take j).all isDig = true := by
  rw [List.all_eq_true]
  intro x hx
  obtain ⟨i, hi, rfl⟩ := List.getElem_of_mem hx
  rw [List.length_take] at hi
  rw [List.getElem_take]
  exact h i (by omega) (by omega)
theorem pk_dig {s : ByteArray} {a : Nat} {y : Int} (h : isDig (pk s a y) = true) : ∃ h : a < s.size, y = 0 ∧ pk s a y = s[a] := by
  unfold pk at h ⊢
  split at h
  · rename_i h1
    exact ⟨h1.1, h1.2, by rw [dif_pos h1]⟩
  · cases h
/-- Where the reader is, as the world tells it. -/
def atOf (w : World) (b : Nat) : Nat := match w.cell? ⟨b, 1, none⟩ with
  | some (.int _ x) => x.toNat
  | _ => 0
theorem RB.at_ {w : World} {b : Nat} {s : ByteArray} {a y f : Int} (h : RB w b s a y f) : atOf w b = a.toNat := by
  unfold atOf
  rw [h.facts.2.1]
end Go.Proofs.YtmnmcikbbfcjcaaGreatDoor.Hs
/-
  The document's reader reads ranges.
-/
namespace Go.Proofs.YtmnmcikbbfcjcaaGreatDoor.Hs
open Go.RowKit

/-- Of what there was nothing but this block has changed. -/
structure ChgA (b : Nat) (w w' : World) : Prop where
  below : Below b w w'
  other : ∀ j, j ≠ b → j < w.heap.size → w'.heap[j]? = w.heap[j]?
section
variable {w w' w'' : World} {b : Nat}
theorem Chg.a (h : Chg b w w') : ChgA b w w' := ⟨h.below, fun j hj _ => h.other j hj⟩
theorem ChgA.refl (b : Nat) (w : World) : ChgA b w w := (Chg.refl b w).a
theorem ChgA.trans (h : ChgA b w w') (h' : ChgA b w' w'') : ChgA b w w'' := ⟨h.below.trans h'.below, fun j hj hl => (h'.other j hj (by have := h.below.size; omega)).trans (h.other j hj hl)⟩
theorem ChgA.of (h : Below w.heap.size w w') (hb : b < w.heap.size) : ChgA b w w' := ⟨h.mono (by omega), fun j _ hl => h.block j hl⟩
theorem ChgA.own {w0 : World} (h : ChgA b w0 w) (hb : Below w0.heap.size w w') (hz : b < w0.heap.size) : ChgA b w0 w' := ⟨h.below.trans (hb.mono (by omega)), fun j hj hl => (hb.block j hl).trans (h.other j hj hl)⟩
theorem RB.kept {s : ByteArray} {a y f : Int} {base n : Nat} {v : Value} {xs : List Value} (h : RB w b s a y f) (g : w.grownBy w' v.ownBlock) (ho : w.ownsRow base 9 1 v n xs) : RB w' b s a y f := keep_block h g ho (by decide)
theorem OwnS.chg {base : Nat} {v : Value} {ns : List (List UInt8)} (h : OwnS w base v ns) (hc : ChgA b w w') (hb : b < base) : OwnS w' base v ns := by
  refine ⟨h.1, ?_⟩
  rcases h.2 with ⟨rfl, hn⟩ | ⟨g, cap, cur, rfl, hg, hh, rest⟩
  · exact .inl ⟨rfl, hn⟩
  · exact .inr ⟨g, cap, cur, rfl, hg, (hc.other g (by omega) (lt_of_block hh)).trans hh, rest⟩
end
theorem pk_is {s : ByteArray} {a : Nat} {y : Int} {c : UInt8} (h : pk s a y = c) (hc : c ≠ 0) : a < s.size := by
  unfold pk at h
  split at h
  · rename_i h1; exact h1.1
  · exact absurd h.symm hc
end Go.Proofs.YtmnmcikbbfcjcaaGreatDoor.Hs
