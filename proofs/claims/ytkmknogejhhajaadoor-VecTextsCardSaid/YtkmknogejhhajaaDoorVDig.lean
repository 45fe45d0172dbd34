/-
  The document's own digits of a number, without a width.
-/
import Derived.Test.YtkmknogejhhajaaDoorVMath
import Derived.Test.YtkmknogejhhajaaDoorVFmt
import Derived.Laws.IdiomStrings
namespace Go.Proofs.YtkmknogejhhajaaDoor
open Go.RowKit

theorem dec_step (u : Nat) : dec u = (if u / 10 = 0 then [] else dec (u / 10)) ++ [UInt8.ofNat (48 + u % 10)] := by
  by_cases h : u < 10
  · rw [dec_small h, if_pos (by omega), show u % 10 = u by omega]; rfl
  · rw [dec_big h, if_neg (by omega)]
def bitOf_ : Value → Nat
  | .bool true => 1
  | _ => 0
def left (u : Nat) (b : Bool) : List UInt8 := if u = 0 ∧ b = false then [] else dec u
theorem left_step (u : Nat) (b : Bool) (h : ¬ (u = 0 ∧ b = false)) (t : List UInt8) : left u b ++ t = left (u / 10) false ++ (UInt8.ofNat (48 + u % 10) :: t) := by
  unfold left
  rw [if_neg h, dec_step u]
  by_cases h0 : u / 10 = 0 <;> simp [h0]
theorem left_done (t : List UInt8) : left 0 false ++ t = t := by simp [left]
theorem conv_one (w : World) (u : Nat) (g : Nat) (hg : g = w.heap.size) : (convert 81 9 (.slice (some ⟨g, 0, none⟩) 1 1)).run Tryd.prog (w.alloc (.cells #[.int .u8 (48 + (u : Int) % 10)] 5)) = .ok (.string (str [UInt8.ofNat (48 + u % 10)])) (w.alloc (.cells #[.int .u8 (48 + (u : Int) % 10)] 5)) := by
  subst hg
  refine run_convert_bytes_back _ 81 9 5 ⟨w.heap.size, 0, none⟩ 1 [UInt8.ofNat (48 + u % 10)] Tryd.underlying81 Tryd.underlying5 Tryd.underlying9 (fun j hj => ?_)
  have : j = 0 := by simpa using hj
  subst this
  have e : ((UInt8.ofNat (48 + u % 10)).toNat : Int) = 48 + (u : Int) % 10 := by rw [UInt8.toNat_ofNat']; omega
  have hh := heap_alloc_new w (.cells #[.int .u8 (48 + (u : Int) % 10)] 5)
  rw [List.getElem_singleton, e]
  generalize (48 + (u : Int) % 10) = x at *
  generalize w.alloc (.cells #[.int .u8 x] 5) = w' at *
  simp [World.cell?, Addr.add, hh]
theorem dec_len_le (N : Nat) (h : (N : Int) ≤ 9223372036854775807) : (dec N).length ≤ 21 := by
  have := num_len (N : Int) ⟨by omega, by omega⟩
  rw [num_pos (by omega), show ((N : Int)).toNat = N by omega] at this
  exact this
set_option maxRecDepth 100000 in
set_option maxHeartbeats 2000000 in
theorem Digits_any (N : Nat) (ni : Int) (w : World) (hni : ni = N) (hn : ni ≤ 9223372036854775807) :
    Calls Tryd.prog 56 #[.int .i64 ni, .int .i64 0] w fun e w' => e = .returned (.string (str (dec N))) ∧ Grew w w' := by
  subst hni
  have hl : (dec N).length ≤ 21 := dec_len_le N hn
  go_enter Tryd.func56, Tryd.ntmps56
  go_wp2_with fail
  go_loopw [0, 5, 6] (fun n s f wr => ∃ (u : Nat) (t : List UInt8) (b : Bool), n = .int .i64 u ∧ s = .string (str t) ∧ f = .bool b ∧ u ≤ N ∧ left u b ++ t = dec N ∧ Grew w wr) (fun n _ f _ => (intOf n).toNat + bitOf_ f)
  case atStart => exact ⟨N, [], true, rfl, rfl, rfl, Nat.le_refl _, by simp [left], Grew.refl _⟩
  case round =>
    obtain ⟨u, t, b, rfl, rfl, rfl, hu, hlt, hb⟩ := hrel
    have htl : t.length ≤ 21 := by
      have := congrArg List.length hlt
      rw [List.length_append] at this
      omega
    by_cases hc : u = 0 ∧ b = false
    · obtain ⟨rfl, rfl⟩ := hc
      rw [left_done] at hlt
      subst hlt
      go_wp2_with fail
      go_loopw [5] (fun s wr => s = .string (str (dec N)) ∧ Grew w wr) (fun _ _ => 0)
      case atStart => exact ⟨rfl, hb⟩
      case round =>
        obtain ⟨rfl, hb2⟩ := hrel
        have i1 : ¬ ((str (dec N)).size : Int) < 0 := by omega
        generalize hS : str (dec N) = S at *
        replace hS := fhid hS
        go_wp2_with fail
        go_ret
        exact ⟨frets hS.out.symm, hb2⟩
    · have hstep := left_step u b hc t
      rw [hlt] at hstep
      replace hstep := fhid hstep
      have hc' : b = true ∨ (b = false ∧ 0 < u) := by
        cases b with
        | true => exact .inl rfl
        | false => exact .inr ⟨rfl, by simp at hc; omega⟩
      have i1 : (0 : Int) ≤ u := by omega
      have i2 : (u : Int) ≤ 9223372036854775807 := by omega
      have hsz := str_size t
      have hN : ¬ 9223372036854775807 < 1 + (str t).size := by rw [hsz]; omega
      have hcv := conv_one wr u wr.heap.size rfl
      have q1 : str [UInt8.ofNat (48 + u % 10)] ++ str t = str (UInt8.ofNat (48 + u % 10) :: t) := str_app _ _
      have hz := str_size [UInt8.ofNat (48 + u % 10)]
      rw [List.length_singleton] at hz
      generalize str [UInt8.ofNat (48 + u % 10)] = C at *
      have hN2 : ¬ 9223372036854775807 < C.size + (str t).size := by rw [hz]; exact hN
      have hqq : IntKind.i64.wrap ((u : Int).tdiv 10) = ((u / 10 : Nat) : Int) := by
        rw [show (u : Int).tdiv 10 = ((u / 10 : Nat) : Int) from rfl]
        exact IntWalk.i64_in _ (by omega)
      have hu3 := fhid (show u / 10 ≤ N by omega)
      clear hz hsz hN
      generalize hQ : str (UInt8.ofNat (48 + u % 10) :: t) = Q at *
      replace hQ := fhid hQ
      generalize hT : str t = T at *
      replace hT := fhid hT
      rcases hc' with rfl | ⟨rfl, hpos⟩
      · go_wp2_with fail
        go_roundw
        case rel => exact ⟨u / 10, _, false, by go_num, by rw [← hQ.out], rfl, hu3.out, hstep.out.symm, hb.alloc _⟩
        case measure => simp [intOf, bitOf_]; omega
      · have i3 : (0 : Int) < u := by omega
        go_wp2_with fail
        go_roundw
        case rel => exact ⟨u / 10, _, false, by go_num, by rw [← hQ.out], rfl, hu3.out, hstep.out.symm, hb.alloc _⟩
        case measure => simp [intOf, bitOf_]; omega
theorem num_split {n : Int} (h : n ≤ -10) : num n = 45 :: (dec (-(n.tdiv 10)).toNat ++ dec (-(n.tmod 10)).toNat) := by
  obtain ⟨m, rfl⟩ : ∃ m : Nat, n = -(m : Int) := ⟨n.natAbs, by omega⟩
  have hm : ¬ m < 10 := by omega
  rw [num_neg (by omega), show (-(m : Int)).natAbs = m by omega, dec_big hm, Int.neg_tdiv, Int.neg_tmod, Int.neg_neg, Int.neg_neg,
    show (m : Int).tdiv 10 = ((m / 10 : Nat) : Int) from rfl, show (m : Int).tmod 10 = ((m % 10 : Nat) : Int) from rfl, Int.toNat_natCast, Int.toNat_natCast, dec_small (Nat.mod_lt m (by decide))]
end Go.Proofs.YtkmknogejhhajaaDoor
