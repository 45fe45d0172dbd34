/-
  One's use added to, by the program; a new ledger.
-/
import Derived.Test.YtmbgcphiigmdjaaUParts
namespace Go.Proofs.Ytmbgcphiigmdjaa
open Go.RowKit Ss Ds

/-- What a call of Add comes to. -/
def AddPost (w : World) (p m : Nat) (h : Int) (r : List Usr × Int) (e : Ending) (w' : World) : Prop := e = .returned (.int .i64 r.2) ∧ LB w' p m h r.1 ∧ w.grownBy w' (some m)
set_option maxRecDepth 100000 in
set_option maxHeartbeats 4000000 in
/-- Where the time, or the user, is refused. -/
theorem Add_bad {w : World} {pa : Option Addr} {s : Str} {am now : Int} {E : Int} {v : Value} (hE : E ≠ 0) (hv : ∃ a t : Int, v = .agg #[.int .i64 a, .int .i64 t]) (h : Calls Try.prog 29 #[.pointer pa, .string (str s), .int .i64 now] w fun e w' => e = .returned (.tuple #[v, .int .i64 E]) ∧ Below w.heap.size w w') :
    Calls Try.prog 14 #[.pointer pa, .string (str s), .int .i64 am, .int .i64 now] w fun e w' => e = .returned (.int .i64 E) ∧ Below w.heap.size w w' := by
  obtain ⟨a, t, rfl⟩ := hv
  have bE : (E != 0) = true := by simpa using hE
  go_enter Try.func14, Try.ntmps14
  go_wp2_with (go_at_call 29; (with_reducible refine h.mono ?_); rintro e w' ⟨rfl, b1⟩)
  go_ret
  exact ⟨rfl, b1.alloc b1.size _⟩
set_option maxRecDepth 100000 in
set_option maxHeartbeats 8000000 in
theorem Add_name {w : World} {p m : Nat} {h : Int} {M : List Usr} (l : LB w p m h M) {s : Str} {am now a t : Int} (hn : ¬ nameB s am) (hsl : s.length ≤ 9223372036854775807) (hat : Calls Try.prog 29 #[.pointer (some ⟨p, 0, none⟩), .string (str s), .int .i64 now] w fun e w' => e = .returned (.tuple #[.agg #[.int .i64 a, .int .i64 t], .int .i64 0]) ∧ Below w.heap.size w w') :
    Calls Try.prog 14 #[.pointer (some ⟨p, 0, none⟩), .string (str s), .int .i64 am, .int .i64 now] w fun e w' => e = .returned (.int .i64 1) ∧ Below w.heap.size w w' := by
  clear l
  have hz := str_size s
  by_cases h0 : s = []
  · subst h0
    have se : str [] = ⟨#[]⟩ := rfl
    rw [se] at hat ⊢
    go_enter Try.func14, Try.ntmps14
    go_wp2_with (go_at_call 29; (with_reducible refine hat.mono ?_); rintro e w' ⟨rfl, b1⟩)
    go_ret
    exact ⟨rfl, b1.alloc b1.size _⟩
  · have hemp : s.isEmpty = false := by simpa using h0
    have hne : (str s).toList = s := by rw [ByteArray.toList_eq]; rfl
    have hW : ((s.length : Int) > 16 ∨ (¬ (s.length : Int) > 16 ∧ am < 0) ∨ (¬ (s.length : Int) > 16 ∧ ¬ am < 0 ∧ am > 1099511627776)) := by
      unfold nameB at hn
      by_cases h1 : (s.length : Int) > 16
      · exact .inl h1
      · by_cases h2 : am < 0
        · exact .inr (.inl ⟨h1, h2⟩)
        · refine .inr (.inr ⟨h1, h2, ?_⟩)
          by_cases h3 : am > 1099511627776
          · exact h3
          · exact absurd ⟨h0, by omega, by omega, by omega⟩ hn
    clear hn h0
    obtain h1 | ⟨h1, h2⟩ | ⟨h1, h2, h3⟩ := hW
    all_goals
      go_enter Try.func14, Try.ntmps14
      go_wp2_with (go_at_call 29; (with_reducible refine hat.mono ?_); rintro e w' ⟨rfl, b1⟩)
      go_ret
      exact ⟨rfl, b1.alloc b1.size _⟩
set_option maxRecDepth 100000 in
set_option maxHeartbeats 8000000 in
theorem Add_full {w : World} {p m : Nat} {h : Int} {M : List Usr} (l : LB w p m h M) {s : Str} {am now a t : Int} (hn : nameB s am) (hl : lookG s M = none) (hM : M.length = 1024) (hat : Calls Try.prog 29 #[.pointer (some ⟨p, 0, none⟩), .string (str s), .int .i64 now] w fun e w' => e = .returned (.tuple #[.agg #[.int .i64 a, .int .i64 t], .int .i64 0]) ∧ Below w.heap.size w w') :
    Calls Try.prog 14 #[.pointer (some ⟨p, 0, none⟩), .string (str s), .int .i64 am, .int .i64 now] w fun e w' => e = .returned (.int .i64 5) ∧ Below w.heap.size w w' := by
  have hz := str_size s
  obtain ⟨n0, n1, n2, n3⟩ := hn
  have hemp : s.isEmpty = false := by simpa using n0
  have hne : (str s).toList = s := by rw [ByteArray.toList_eq]; rfl
  have h1 : ¬ (s.length : Int) > 16 := by omega
  have h2 : ¬ am < 0 := by omega
  have h3 : ¬ am > 1099511627776 := by omega
  clear n0
  go_enter Try.func14, Try.ntmps14
  go_upto_region 6 with (go_at_call 29; (with_reducible refine hat.mono ?_); rintro e w' ⟨rfl, b1⟩)
  have b2 := fhid (b1.alloc b1.size (.cells #[.int .i64 a, .int .i64 t] TUse))
  have l2 := l.below b2.out
  clear b1 l hat
  generalize w'.alloc _ = w2 at *
  have hlk := run_sm_look true Try.underlying59 Try.underlying9 (zeroUse w2) l2.2 s
  rw [look_UL, hl] at hlk
  simp only [Option.map_none, Option.getD_none, Option.isSome_none, if_true] at hlk
  unfold useV at hlk
  have b3 := fhid (b2.out.alloc b2.out.size (.cells #[.int .i64 0, .int .i64 0] TUse))
  have l3 := l2.alloc (.cells #[.int .i64 0, .int .i64 0] TUse)
  obtain ⟨c0, c1, _, _⟩ := l2.cells
  have hp2 := l2.lt.1
  replace l2 := fhid l2
  replace l3 := fhid l3
  go_upto_region 7 with fail
  generalize w2.alloc _ = w3 at *
  clear hlk c0 c1 l2
  obtain ⟨c0, c1, _, _⟩ := l3.out.cells
  have hlen := fun T => l3.out.2.len (M := TMap) (by kernel_rfl) T
  rw [UL_len, hM] at hlen
  have hp3 := l3.out.lt.1
  go_wp2_with fail
  go_ret
  exact ⟨rfl, b3.out⟩
end Go.Proofs.Ytmbgcphiigmdjaa
