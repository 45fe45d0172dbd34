/-
  What each statement asks beside: a node boots; the document's node as the program's.
-/
import Derived.Test.YtmdebbkmhcfpfaaDoorENext
import Derived.ChangeKeysEq
namespace Go.Proofs.YtmdebbkmhcfpfaaDoor
open Go.RowKit

theorem eql_nd (a b c d e f : Int) (w : World) : (binOp .eql 30 (.agg #[.int .i64 a, .int .i64 b, .int .i64 c]) (.agg #[.int .i64 d, .int .i64 e, .int .i64 f])).run Tryd.prog w = .ok (.bool (decide (a = d ∧ b = e ∧ c = f))) w := by
  have hS : Tryd.prog.underlying 30 = some (.struct (Tryd.prog.fieldsOf 30)) := by kernel_rfl
  have hp : Tryd.prog.stoodInHeld 30 = false := by kernel_rfl
  rw [run_eql_struct, show (10000 : Nat) = 9999 + 1 from rfl, run_equalIn_agg w 9999 30 _ _ hS hp]
  simp only [Program.fieldsOf, Tryd.underlying30]
  go_simp
  by_cases h1 : a = d <;> by_cases h2 : b = e <;> by_cases h3 : c = f <;> simp [h1, h2, h3]
def NodePost (w : World) (n : N3) (e : Ending) (w' : World) : Prop := e = .returned (nv n) ∧ Below w.heap.size w w'
set_option maxHeartbeats 1000000 in
theorem theirs_any (n : N3) (w : World) : Calls Tryd.prog 16 #[nv n] w (NodePost w n) := by
  obtain ⟨a, b, c⟩ := n
  unfold NodePost nv
  simp only
  go_enter Tryd.func16, Tryd.ntmps16
  go_wp2_with fail
  exact bodyPost_ret (v := .agg #[.int .i64 a, .int .i64 b, .int .i64 c]) (by simp [results, Tryd.results16, go_sem]) rfl ⟨rfl, ((Below.refl _ _).alloc (Nat.le_refl _) _).alloc (by simp) _⟩
theorem up_any (s : Int) (w : World) : Calls Tryd.prog 11 #[.int .i64 s] w fun e w' => e = .returned (.bool (upB s)) ∧ w' = w := by
  obtain ⟨b, hb⟩ : ∃ b, upB s = b := ⟨_, rfl⟩
  rw [hb]
  by_cases h2 : s = 2
  · subst h2
    obtain rfl : true = b := hb
    go_enter Tryd.func11, Tryd.ntmps11
    go_wp2
    go_ret
    exact ⟨rfl, rfl⟩
  · by_cases h3 : s = 3
    · subst h3
      obtain rfl : true = b := hb
      go_enter Tryd.func11, Tryd.ntmps11
      go_wp2
      go_ret
      exact ⟨rfl, rfl⟩
    · by_cases h4 : s = 4
      · subst h4
        obtain rfl : true = b := hb
        go_enter Tryd.func11, Tryd.ntmps11
        go_wp2
        go_ret
        exact ⟨rfl, rfl⟩
      · by_cases h5 : s = 5
        · subst h5
          obtain rfl : true = b := hb
          go_enter Tryd.func11, Tryd.ntmps11
          go_wp2
          go_ret
          exact ⟨rfl, rfl⟩
        · have hb : b = false := by rw [← hb]; exact decide_eq_false (by omega)
          subst hb
          have b2 : (s == 2) = false := by simpa using h2
          have b3 : (s == 3) = false := by simpa using h3
          have b4 : (s == 4) = false := by simpa using h4
          have b5 : (s == 5) = false := by simpa using h5
          go_enter Tryd.func11, Tryd.ntmps11
          go_wp2
          go_ret
          exact ⟨rfl, rfl⟩
set_option maxRecDepth 100000 in
set_option maxHeartbeats 4000000 in
theorem alive_any (w : World) (hT : TabW w) : Calls Tryd.prog 18 #[] w (BoolPost w true) := by
  have hn1 : Calls Tryd.prog 19 #[.agg #[.int .i64 0, .int .i64 0, .int .i64 0], .int .i64 1, .int .i64 5, .int .i64 3] w (NextPost w ((1, 5, 0), 0)) := Next_any (0, 0, 0) 1 5 3 w hT
  have hn2 : ∀ W, Below w.heap.size w W → Calls Tryd.prog 19 #[.agg #[.int .i64 1, .int .i64 5, .int .i64 0], .int .i64 2, .int .i64 9, .int .i64 3] W (NextPost W ((2, 9, 0), 0)) := fun W hW => Next_any (1, 5, 0) 2 9 3 W (hT.below hW)
  have hup := fun W => up_any 2 W
  rw [show upB 2 = true from rfl] at hup
  have hq := eql_nd 2 9 0 2 9 0
  unfold NextPost nv at hn1 hn2
  simp only at hn1 hn2
  replace hT := fhid hT
  go_enter Tryd.func18, Tryd.ntmps18
  go_upto_region 2 with (go_at_call 19; (with_reducible refine hn1.mono ?_); rintro e w1 ⟨rfl, b1⟩)
  have p1 : NB (w1.alloc (.cells #[.int .i64 1, .int .i64 5, .int .i64 0] TNd)) w1.heap.size TNd (1, 5, 0) := NB.new w1 TNd (1, 5, 0)
  have g1 : Below w.heap.size w (w1.alloc (.cells #[.int .i64 1, .int .i64 5, .int .i64 0] TNd)) := b1.alloc b1.size _
  generalize w1.alloc _ = w2 at *
  obtain ⟨c0, c1, c2, _, _, _, z1⟩ := p1.facts
  have hb1 := b1.size
  go_upto_region 3 with (go_at_call 19; (with_reducible refine (hn2 _ g1).mono ?_); rintro e w3 ⟨rfl, b3⟩)
  have p3 := p1.below b3 z1
  have q3 : NB (w3.alloc (.cells #[.int .i64 2, .int .i64 9, .int .i64 0] TNd)) w3.heap.size TNd (2, 9, 0) := NB.new w3 TNd (2, 9, 0)
  have p4 := p3.alloc (.cells #[.int .i64 2, .int .i64 9, .int .i64 0] TNd)
  have g3 : Below w.heap.size w (w3.alloc (.cells #[.int .i64 2, .int .i64 9, .int .i64 0] TNd)) := (g1.trans (b3.mono g1.size)).alloc (by have := b3.size; have := g1.size; omega) _
  clear c0 c1 c2
  generalize w3.alloc _ = w4 at *
  obtain ⟨c0, c1, c2, _⟩ := p4.facts
  obtain ⟨d0, d1, d2, _⟩ := q3.facts
  go_wp2_with (go_at_call 11; (with_reducible refine (hup _).mono ?_); rintro e w5 ⟨rfl, rfl⟩)
  go_ret
  exact ⟨rfl, g3⟩
end Go.Proofs.YtmdebbkmhcfpfaaDoor
