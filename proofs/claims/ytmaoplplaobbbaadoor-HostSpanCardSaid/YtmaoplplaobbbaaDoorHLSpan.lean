/-
  HostSpan, walked.
-/
import Derived.Test.YtmaoplplaobbbaaDoorHBound
import Derived.Test.YtmaoplplaobbbaaDoorHRDig
namespace Go.Proofs.YtmaoplplaobbbaaDoor
open Go.RowKit

theorem span_names (a n wd : Nat) (h : wd = 0 ∨ (dec a).length ≤ wd) : spanNames [120, 45] (a, a + n, (dig a wd).length) = (List.range (n + 1)).map fun i => [120, 45] ++ dig (a + i) wd := by
  unfold spanNames
  show (List.range (a + n + 1 - a)).map _ = _
  rw [show a + n + 1 - a = n + 1 by omega]
  refine List.map_congr_left fun i _ => ?_
  rw [span_width a i wd h]
/-- How wide the law asks the numbers to be. -/
def Wide (a k wd : Nat) : Prop := (0 < k ∧ (dec a).length + k ≤ 6 ∧ wd = (dec a).length + k) ∨ (0 < k ∧ ¬ (dec a).length + k ≤ 6 ∧ wd = 0) ∨ (k = 0 ∧ wd = 0)
theorem wide_facts {a k wd : Nat} (h : Wide a k wd) (ha : a < 1000000) : wd ≤ 6 ∧ (wd = 0 ∨ (dec a).length ≤ wd) ∧ (dig a wd).length ≤ 6 := by
  have := dec_len_le 6 a (by omega) (by omega)
  have hd := dig_len a wd
  rcases h with ⟨_, _, rfl⟩ | ⟨_, _, rfl⟩ | ⟨_, rfl⟩ <;> omega
theorem span_text (a n k wd : Nat) (ha : a ≤ 65535) (hn : n < 300) (h : Wide a k wd) (t : List UInt8) (ht : t = [120, 45, 91] ++ dig a wd ++ [45] ++ dig (a + n) 0 ++ [93]) :
    expand t = if 256 < n + 1 then ([], 5, 0) else ((List.range (n + 1)).map fun i => [120, 45] ++ dig (a + i) wd, 0, 0) := by
  obtain ⟨_, h2, h3⟩ := wide_facts h (by omega)
  have h4 := dec_len_le 6 (a + n) (by omega) (by omega)
  have := expand_span [120, 45] a (a + n) wd 0 ⟨by simp, by decide⟩ h3 (by rw [dig_zero]; exact h4) (by omega) t (by rw [ht]; simp)
  rw [this, span_names a n wd h2, show a + n + 1 - a = n + 1 by omega]
/-- The same, as the walk asks for it: in numbers that may be below nought, behind the first digits' text. -/
def WideI (d kI : Int) (wd : Nat) : Prop := (0 < kI ∧ d + kI ≤ 6 ∧ (wd : Int) = d + kI) ∨ (0 < kI ∧ ¬ d + kI ≤ 6 ∧ wd = 0) ∨ (kI = 0 ∧ wd = 0)
/-- What the walk needs of texts, by itself. -/
structure Texts (F n wd : Nat) (D0 D1 D2 Q1 Q2 Q3 Q4 : ByteArray) : Prop where
  z0 : D0.size ≤ 6
  q1 : (⟨#[120, 45, 91]⟩ : ByteArray) ++ D1 = Q1
  q2 : Q1 ++ ⟨#[45]⟩ = Q2
  q3 : Q2 ++ D2 = Q3
  q4 : Q3 ++ ⟨#[93]⟩ = Q4
  b1 : ¬ 9223372036854775807 < 3 + D1.size
  b2 : ¬ 9223372036854775807 < Q1.size + 1
  b3 : ¬ 9223372036854775807 < Q2.size + D2.size
  b4 : ¬ 9223372036854775807 < Q3.size + 1
  d0 : ∀ W : World, Calls Tryd.prog 18 #[.int .i64 F, .int .i64 0] W fun e w' => e = .returned (.string D0) ∧ Below W.heap.size W w'
  d1 : ∀ (wi : Int) (_ : wi = wd) (W : World), Calls Tryd.prog 18 #[.int .i64 F, .int .i64 wi] W fun e w' => e = .returned (.string D1) ∧ Below W.heap.size W w'
  d2 : ∀ (ni : Int) (_ : ni = (F : Int) + n) (W : World), Calls Tryd.prog 18 #[.int .i64 ni, .int .i64 0] W fun e w' => e = .returned (.string D2) ∧ Below W.heap.size W w'
theorem texts (F n wd : Nat) (hF : F ≤ 65535) (hn : n < 300) (hwd : wd ≤ 6) : ∃ D0 D1 D2 Q1 Q2 Q3 Q4, Texts F n wd D0 D1 D2 Q1 Q2 Q3 Q4 ∧ D0.size = (dec F).length ∧ Q4 = str ([120, 45, 91] ++ dig F wd ++ [45] ++ dig (F + n) 0 ++ [93]) ∧ Q4.size ≤ 1000 := by
  have hl1 := dec_len_le 6 F (by omega) (by omega)
  have hl2 := dec_len_le 6 (F + n) (by omega) (by omega)
  have hl3 := dig_len F wd
  have hl4 : (dig (F + n) 0).length = (dec (F + n)).length := by rw [dig_zero]
  refine ⟨str (dec F), str (dig F wd), str (dig (F + n) 0), str ([120, 45, 91] ++ dig F wd), str ([120, 45, 91] ++ dig F wd ++ [45]), str ([120, 45, 91] ++ dig F wd ++ [45] ++ dig (F + n) 0), str ([120, 45, 91] ++ dig F wd ++ [45] ++ dig (F + n) 0 ++ [93]), ⟨?_, str_app [120, 45, 91] _, str_app _ [45], str_app _ _, str_app _ [93], ?_, ?_, ?_, ?_, fun W => ?_, fun wi h W => ?_, fun ni h W => ?_⟩, str_size _, rfl, ?_⟩
  · rw [str_size]; omega
  · rw [str_size]; omega
  · rw [str_size]; simp only [List.length_append, List.length_cons, List.length_nil]; omega
  · rw [str_size, str_size]; simp only [List.length_append, List.length_cons, List.length_nil]; omega
  · rw [str_size]; simp only [List.length_append, List.length_cons, List.length_nil]; omega
  · have := Rdigits_any F 0 F 0 W rfl rfl (by omega) (by omega)
    rwa [dig_zero] at this
  · exact Rdigits_any F wd F wi W rfl h (by omega) (by omega)
  · exact Rdigits_any (F + n) 0 ni 0 W (by omega) rfl (by omega) (by omega)
  · rw [str_size]; simp only [List.length_append, List.length_cons, List.length_nil]; omega
set_option maxRecDepth 100000 in
set_option maxHeartbeats 4000000 in
theorem span_many (F M K n : Nat) (kI : Int) (wd : Nat) (hF : F ≤ 65535) (hM0 : M ≤ 65535) (hM : M % 300 = n) (hn : 256 ≤ n) (hK : (K : Int) % 4 = kI) (D0 D1 D2 Q1 Q2 Q3 Q4 : ByteArray) (ht : Texts F n wd D0 D1 D2 Q1 Q2 Q3 Q4) (hw : WideI D0.size kI wd) (w : World) (hT : Tab w)
    (hexp : ∀ W, Below w.heap.size w W → Calls Tryd.prog 16 #[.string Q4] W (ExpPost W ([], 5, 0))) :
    Calls Tryd.prog 7 #[.int .u16 F, .int .u16 M, .int .u8 K] w (BoolPost w true) := by
  have hn3 : n < 300 := by omega
  have hFI : (F : Int) % 900000 = F := by omega
  have hMI : (M : Int) % 300 = n := by omega
  have hF0 : (0 : Int) ≤ F := by omega
  have hF1 : (F : Int) ≤ 65535 := by omega
  have hn0 : (256 : Int) ≤ n := by omega
  have hm0 : (0 : Int) ≤ M := by omega
  have hm1 : (M : Int) ≤ 65535 := by omega
  have hn1 : (n : Int) < 300 := by omega
  have hk0 : (0 : Int) ≤ kI := by omega
  have hk1 : kI < 4 := by omega
  have hal := fun W (b : Below w.heap.size w W) => alive_any W (tab_below hT b)
  obtain ⟨z0, q1, q2, q3, q4, b1, b2, b3, b4, hd0, hd1, hd2⟩ := ht
  have z1 : (D0.size : Int) ≤ 6 := by omega
  have z2 : (0 : Int) ≤ D0.size := by omega
  have hq := eql_fault 5 0 5 0
  replace hal := fhid hal
  replace hexp := fhid hexp
  replace hd0 := fhid hd0
  replace hd1 := fhid hd1
  replace hd2 := fhid hd2
  clear hT hF hM hM0 hn hn3 z0
  rcases hw with ⟨c1, c2, c3⟩ | ⟨c1, c2, c3⟩ | ⟨c1, c3⟩
  all_goals
    try subst c1
    replace c3 := fhid c3
    go_enter Tryd.func7, Tryd.ntmps7
    go_wp2_with fail
    refine (hd0.out _).mono ?_
    rintro e w1 ⟨rfl, x1⟩
    go_wp2_with fail
    refine (hd1.out _ (by have := c3.out; omega) _).mono ?_
    rintro e w2 ⟨rfl, x2⟩
    replace x2 := x1.trans (x2.mono x1.size)
    clear x1
    go_wp2_with fail
    refine (hd2.out _ (by omega) _).mono ?_
    rintro e w3 ⟨rfl, x3⟩
    replace x3 := x2.trans (x3.mono x2.size)
    clear x2
    go_wp2_with fail
    refine (hexp.out _ x3).mono ?_
    rintro e w4 ⟨v, rfl, o4, x4⟩
    obtain ⟨A, c, rfl, hc, _, s4⟩ := o4.shape
    replace x4 := x3.trans (x4.mono x3.size)
    clear x3 o4 s4
    simp only [List.length_nil]
    go_wp2_with (go_at_call 14
                 (with_reducible refine (hal.out _ (x4.alloc x4.size _)).mono ?_)
                 rintro e'' w5 ⟨rfl, x5⟩)
    go_ret
    exact ⟨rfl, (x4.alloc x4.size _).trans (x5.mono (by rw [World.size_alloc]; have := x4.size; omega))⟩
set_option maxRecDepth 100000 in
set_option maxHeartbeats 4000000 in
theorem span_few (F M K n : Nat) (kI : Int) (wd : Nat) (hF : F ≤ 65535) (hM0 : M ≤ 65535) (hM : M % 300 = n) (hn : n < 256) (hwd6 : wd ≤ 6) (hK : (K : Int) % 4 = kI) (D0 D1 D2 Q1 Q2 Q3 Q4 : ByteArray) (ht : Texts F n wd D0 D1 D2 Q1 Q2 Q3 Q4) (hw : WideI D0.size kI wd) (w : World) (hT : Tab w)
    (L : List (List UInt8)) (hL : L.length = n + 1) (hget : ∀ j (h : j < L.length), L[j] = [120, 45] ++ dig (F + j) wd)
    (hexp : ∀ W, Below w.heap.size w W → Calls Tryd.prog 16 #[.string Q4] W (ExpPost W (L, 0, 0))) :
    Calls Tryd.prog 7 #[.int .u16 F, .int .u16 M, .int .u8 K] w (BoolPost w true) := by
  have hFI : (F : Int) % 900000 = F := by omega
  have hMI : (M : Int) % 300 = n := by omega
  have hF0 : (0 : Int) ≤ F := by omega
  have hF1 : (F : Int) ≤ 65535 := by omega
  have hn0 : (0 : Int) ≤ n := by omega
  have hn1 : (n : Int) < 256 := by omega
  have hm0 : (0 : Int) ≤ M := by omega
  have hm1 : (M : Int) ≤ 65535 := by omega
  have hk0 : (0 : Int) ≤ kI := by omega
  have hk1 : kI < 4 := by omega
  have hal := fun W (b : Below w.heap.size w W) => alive_any W (tab_below hT b)
  obtain ⟨z0, q1, q2, q3, q4, b1, b2, b3, b4, hd0, hd1, hd2⟩ := ht
  have z1 : (D0.size : Int) ≤ 6 := by omega
  have z2 : (0 : Int) ≤ D0.size := by omega
  have hq := neq_fault 0 0 0 0
  have hLI : (L.length : Int) = (n : Int) + 1 := by omega
  replace hal := fhid hal
  replace hexp := fhid hexp
  replace hd0 := fhid hd0
  replace hd1 := fhid hd1
  replace hd2 := fhid hd2
  replace hget := fhid hget
  replace hL := fhid hL
  replace hF := fhid hF
  replace hwd6 := fhid hwd6
  clear hT hM hM0 z0
  rcases hw with ⟨c1, c2, c3⟩ | ⟨c1, c2, c3⟩ | ⟨c1, c3⟩
  all_goals
    try subst c1
    replace c3 := fhid c3
    go_enter Tryd.func7, Tryd.ntmps7
    go_wp2_with fail
    refine (hd0.out _).mono ?_
    rintro e w1 ⟨rfl, x1⟩
    go_wp2_with fail
    refine (hd1.out _ (by have := c3.out; omega) _).mono ?_
    rintro e w2 ⟨rfl, x2⟩
    replace x2 := x1.trans (x2.mono x1.size)
    clear x1
    go_wp2_with fail
    refine (hd2.out _ (by omega) _).mono ?_
    rintro e w3 ⟨rfl, x3⟩
    replace x3 := x2.trans (x3.mono x2.size)
    clear x2
    go_wp2_with fail
    refine (hexp.out _ x3).mono ?_
    rintro e w4 ⟨v, rfl, o4, x4⟩
    obtain ⟨A, c, rfl, hc, _, s4⟩ := o4.shape
    replace x4 := x3.trans (x4.mono x3.size)
    clear x3 o4
    replace s4 := fhid s4
    replace hc := fhid hc
    go_wp2_with fail
    go_loopw [80] (fun i wr => ∃ j : Nat, j ≤ n + 1 ∧ i = .int .i64 j ∧ Below w4.heap.size w4 wr) (fun i _ => n + 1 - (intOf i).toNat)
    case atStart => exact ⟨0, by omega, rfl, (Below.refl _ _).alloc (Nat.le_refl _) _⟩
    case round =>
      obtain ⟨j, hj, rfl, y⟩ := hrel
      have j0 : (0 : Int) ≤ j := by omega
      have j1 : (j : Int) ≤ (n : Int) + 1 := by omega
      by_cases hlt : j < n + 1
      · have j2 : (j : Int) < (n : Int) + 1 := by omega
        have hjL : j < L.length := by rw [hL.out]; exact hlt
        obtain ⟨b, o, rfl, hb, cc⟩ := s4.out.at_ hjL
        rw [hget.out j hjL] at cc
        replace cc := (y.cell (p := ⟨b, o + j, none⟩) hb).trans cc
        have q5 : (⟨#[120, 45]⟩ : ByteArray) ++ str (dig (F + j) wd) = str ([120, 45] ++ dig (F + j) wd) := str_app [120, 45] _
        have hd4 := fun (ni wi : Int) (h : ni = (F + j : Nat)) (h' : wi = wd) W => Rdigits_any (F + j) wd ni wi W h h' (by have := hF.out; omega) (by have := hwd6.out; omega)
        have b5 : ¬ 9223372036854775807 < 2 + (str (dig (F + j) wd)).size := by
          have h1 := dig_len (F + j) wd
          have h2 := dec_len_le 6 (F + j) (by omega) (by have := hF.out; omega)
          have h3 := hwd6.out
          rw [str_size]; omega
        generalize str ([120, 45] ++ dig (F + j) wd) = P at *
        generalize str (dig (F + j) wd) = T at *
        replace hd4 := fhid hd4
        go_wp2_with fail
        refine (hd4.out _ _ (by omega) (by have := c3.out; omega) _).mono ?_
        rintro e w5 ⟨rfl, x5⟩
        go_wp2_with fail
        go_roundw
        case rel => exact ⟨j + 1, by omega, by go_num, y.trans (x5.mono y.size)⟩
        case measure => simp [intOf]; omega
      · have j2 : ¬ (j : Int) < (n : Int) + 1 := by omega
        go_wp2_with (go_at_call 14
                     (with_reducible refine (hal.out _ (x4.trans (y.mono x4.size))).mono ?_)
                     rintro e'' w5 ⟨rfl, x5⟩)
        go_ret
        exact ⟨rfl, (x4.trans (y.mono x4.size)).trans (x5.mono (by have := x4.size; have := y.size; omega))⟩
theorem span_walk (F M K : Nat) (hF : F ≤ 65535) (hM : M ≤ 65535) (w : World) (hT : Tab w) :
    Calls Tryd.prog 7 #[.int .u16 F, .int .u16 M, .int .u8 K] w (BoolPost w true) := by
  obtain ⟨n, hn⟩ : ∃ n, M % 300 = n := ⟨_, rfl⟩
  obtain ⟨k, hk⟩ : ∃ k, K % 4 = k := ⟨_, rfl⟩
  have hn3 : n < 300 := by omega
  obtain ⟨wd, hw⟩ : ∃ wd, Wide F k wd := by
    by_cases h0 : k = 0
    · exact ⟨0, .inr (.inr ⟨h0, rfl⟩)⟩
    · by_cases h6 : (dec F).length + k ≤ 6
      · exact ⟨_, .inl ⟨by omega, h6, rfl⟩⟩
      · exact ⟨0, .inr (.inl ⟨by omega, h6, rfl⟩)⟩
  obtain ⟨hwd6, _, _⟩ := wide_facts hw (by omega)
  obtain ⟨D0, D1, D2, Q1, Q2, Q3, Q4, ht, hz, hQ, hQ4⟩ := texts F n wd hF hn3 hwd6
  have hwI : WideI D0.size (k : Int) wd := by
    rw [hz]
    rcases hw with ⟨h1, h2, h3⟩ | ⟨h1, h2, h3⟩ | ⟨h1, h3⟩
    · exact .inl ⟨by omega, by omega, by omega⟩
    · exact .inr (.inl ⟨by omega, by omega, h3⟩)
    · exact .inr (.inr ⟨by omega, h3⟩)
  have hexp := fun W (b : Below w.heap.size w W) => Expand_any Q4 W (tab_below hT b) (by omega)
  have hE : expand (bl Q4) = if 256 < n + 1 then ([], 5, 0) else ((List.range (n + 1)).map fun i => [120, 45] ++ dig (F + i) wd, 0, 0) := by
    rw [hQ, bl_str]
    exact span_text F n k wd hF hn3 hw _ rfl
  rw [hE] at hexp
  by_cases h : 256 < n + 1
  · rw [if_pos h] at hexp
    exact span_many F M K n k wd hF hM hn (by omega) (by omega) D0 D1 D2 Q1 Q2 Q3 Q4 ht hwI w hT hexp
  · rw [if_neg h] at hexp
    exact span_few F M K n k wd hF hM hn (by omega) hwd6 (by omega) D0 D1 D2 Q1 Q2 Q3 Q4 ht hwI w hT _ (by simp) (fun j hj => by simp) hexp
end Go.Proofs.YtmaoplplaobbbaaDoor
