/-
  Parts: KRDTop.
-/
import Derived.Test.YtmnmcikbbfcjcaaGreatDoorD8
import Derived.Test.YtmnmcikbbfcjcaaGreatDoorD7
import Derived.Deep.CutBlock
set_option linter.unusedSimpArgs false
set_option linter.unusedVariables false
/-
  The document's Parse, walked.
-/
namespace Go.Proofs.YtmnmcikbbfcjcaaGreatDoor
open Go.RowKit Go.Shelf Vs

theorem ownz_nil (w : World) (base : Nat) (e : TypeId) (size : Nat) : w.ownsRow base e size (.slice none 0 0) 0 [] := World.ownsRow_nil _ _ _ _
theorem di_start (w : World) (s : Str) : DI w s 0 0 startC (.slice none 0 0) (.slice none 0 0) (.slice none 0 0) (.slice none 0 0) (((w.alloc (.cells #[.slice none 0 0, .slice none 0 0, .slice none 0 0, .slice none 0 0, .int .i64 0, .int .i64 0, .int .i64 0, .int .i64 0, .int .i64 0, .int .i64 0, .int .i64 0, .int .i64 0] TRConf9)).alloc (.cells #[.int .i64 0, .int .i64 0] TFault)).alloc (.cells #[.slice none 0 0, .slice none 0 0, .slice none 0 0, .slice none 0 0, .int .i64 100, .int .i64 10, .int .i64 5, .int .i64 1000, .int .i64 0, .int .i64 256, .int .i64 16, .int .i64 3] TRConf9)) := by
  have hn : ∀ (u : World) (o : Obj) (k : Nat), u.heap.size = k → (u.alloc o).heap[k]? = some o ∧ (u.alloc o).heap.size = k + 1 := fun u o k h => by subst h; exact ⟨heap_alloc_new u o, by simp⟩
  have ho : ∀ (u : World) (o : Obj) (k : Nat) (c : Option Obj), k < u.heap.size → u.heap[k]? = c → (u.alloc o).heap[k]? = c := fun u o k c hk h => (Below.heap_alloc u o k hk).trans h
  obtain ⟨a1, z1⟩ := hn w (.cells zeros12.toArray TRConf9) _ rfl
  obtain ⟨a2, z2⟩ := hn _ (.cells #[.int .i64 0, .int .i64 0] TFault) _ z1
  obtain ⟨a3, z3⟩ := hn _ (.cells #[.slice none 0 0, .slice none 0 0, .slice none 0 0, .slice none 0 0, .int .i64 100, .int .i64 10, .int .i64 5, .int .i64 1000, .int .i64 0, .int .i64 256, .int .i64 16, .int .i64 3] TRConf9) _ z2
  have b1 := ho _ (.cells #[.int .i64 0, .int .i64 0] TFault) _ _ (by omega) a1
  have b2 := ho _ (.cells #[.slice none 0 0, .slice none 0 0, .slice none 0 0, .slice none 0 0, .int .i64 100, .int .i64 10, .int .i64 5, .int .i64 1000, .int .i64 0, .int .i64 256, .int .i64 16, .int .i64 3] TRConf9) _ _ (by omega) b1
  have b3 := ho _ (.cells #[.slice none 0 0, .slice none 0 0, .slice none 0 0, .slice none 0 0, .int .i64 100, .int .i64 10, .int .i64 5, .int .i64 1000, .int .i64 0, .int .i64 256, .int .i64 16, .int .i64 3] TRConf9) _ _ (by omega) a2
  refine ⟨⟨a3, rfl, ownz_nil _ _ _ _, ownz_nil _ _ _ _, ownz_nil _ _ _ _, ownz_nil _ _ _ _, by omega⟩, start_gd, b2, b3, (((Below.refl _ _).alloc (Nat.le_refl _) _).alloc (by simp only [World.size_alloc]; omega) _).alloc (by simp only [World.size_alloc]; omega) _, Nat.le_refl _, .inl ⟨Nat.zero_le _, rfl⟩⟩
/-- From one line to the next. -/
theorem di_next {w W W' : World} {s : Str} {a n e : Nat} {c c' : Cfg} {vN vV vP vQ vN' vV' vP' vQ' : Value} (h : DI w s a n c vN vV vP vQ W) (ha : a < s.length) (hl : lines (s.drop a) = (s.drop a).take (e - a) :: (if e < s.length then lines (s.drop (e + 1)) else [])) (hae : a ≤ e) (he : e ≤ s.length) (hc : lineP c ((s.drop a).take (e - a)) = .ok c')
    (hB : Below (w.heap.size + 2) W W') (hD : Doc (w.heap.size + 2) W' (w.heap.size + 2) c' vN' vV' vP' vQ') : DI w s (e + 1) (n + 1) c' vN' vV' vP' vQ' W' := by
  obtain ⟨h1, h2, h3, h4, h5, h6, h7⟩ := h
  refine ⟨hD, lineP_gd h2 _ hc, Box.below h3 hB (by omega), Box.below h4 hB (by omega), h5.trans (hB.mono (by omega)), by omega, ?_⟩
  have hq : linesP 1 startC (lines s) = linesP (n + 1) c (lines (s.drop a)) := by
    rcases h7 with ⟨_, h⟩ | ⟨h, _⟩
    · exact h
    · omega
  rw [hl, linesP_cons, hc] at hq
  simp only at hq
  by_cases hlt : e < s.length
  · rw [if_pos hlt] at hq
    exact .inl ⟨by omega, hq⟩
  · rw [if_neg hlt, linesP_nil] at hq
    exact .inr ⟨by omega, hq⟩
theorem di_bad {w W : World} {s : Str} {a n e x : Nat} {c : Cfg} {vN vV vP vQ : Value} (h : DI w s a n c vN vV vP vQ W) (ha : a < s.length) (hl : lines (s.drop a) = (s.drop a).take (e - a) :: (if e < s.length then lines (s.drop (e + 1)) else [])) (hc : lineP c ((s.drop a).take (e - a)) = .error x) : linesP 1 startC (lines s) = .error (x, n + 1) := by
  obtain ⟨h1, h2, h3, h4, h5, h6, h7⟩ := h
  have hq : linesP 1 startC (lines s) = linesP (n + 1) c (lines (s.drop a)) := by
    rcases h7 with ⟨_, h⟩ | ⟨h, _⟩
    · exact h
    · omega
  rw [hq, hl, linesP_cons, hc]
set_option maxRecDepth 100000 in
set_option maxHeartbeats 40000000 in
theorem rParse_any9 (s : ByteArray) (w : World) (hs : s.size ≤ 140737488355328) : Calls Tryz.prog 27 #[.string s] w (ParseP w (parseC (bl s))) := by
  have hpc : parseC (bl s) = if 65536 < (bl s).length then (noCfg, 5, 0) else match linesP 1 startC (lines (bl s)) with
    | .error (e, k) => (noCfg, e, k)
    | .ok c => if rightC c = true then (c, 0, 0) else (noCfg, 12, 0) := rfl
  by_cases hbig : 65536 < s.size
  · have hE := fhid (hpc.trans (if_pos (by rw [bl_len]; exact hbig)))
    have i1 : (s.size : Int) > 65536 := by omega
    clear hpc
    go_enter Tryz.func27, Tryz.ntmps27
    go_wp2
    have hsz : (w.alloc (.cells zeros12.toArray TRConf9)).heap.size = w.heap.size + 1 := by simp
    have r0 : Box ((w.alloc (.cells zeros12.toArray TRConf9)).alloc (.cells #[.int .i64 5, .int .i64 0] TFault)) w.heap.size TRConf9 zeros12 := (Below.heap_alloc _ _ _ (by simp)).trans (heap_alloc_new w _)
    have r1 : Box ((w.alloc (.cells zeros12.toArray TRConf9)).alloc (.cells #[.int .i64 5, .int .i64 0] TFault)) (w.heap.size + 1) TFault [.int .i64 5, .int .i64 0] := by
      have := Box.new (w.alloc (.cells zeros12.toArray TRConf9)) TFault [.int .i64 5, .int .i64 0]
      rwa [hsz] at this
    have hB : Below w.heap.size w ((w.alloc (.cells zeros12.toArray TRConf9)).alloc (.cells #[.int .i64 5, .int .i64 0] TFault)) := ((Below.refl _ _).alloc (Nat.le_refl _) _).alloc (by simp) _
    generalize (w.alloc _).alloc _ = w2 at *
    obtain ⟨c0, c1, c2, c3, c4, c5, c6, c7, c8, c9, c10, c11⟩ := Box.twelve r0
    have f0 : w2.cell? ⟨w.heap.size + 1, 0, none⟩ = some (.int .i64 5) := Box.cell r1 0
    have f1 : w2.cell? ⟨w.heap.size + 1, 1, none⟩ = some (.int .i64 0) := Box.cell r1 1
    refine bodyPost_ret (v := .tuple #[.agg zeros12.toArray, .agg #[.int .i64 5, .int .i64 0]]) (by simp [results, Tryz.results27, go_sem, c0, c1, c2, c3, c4, c5, c6, c7, c8, c9, c10, c11, f0, f1]) rfl ?_
    rw [hE.out]
    exact ⟨_, rfl, cr_none _, hB⟩
  · have hE := fhid (hpc.trans (if_neg (by rw [bl_len]; exact hbig)))
    have i1 : ¬ (s.size : Int) > 65536 := by omega
    have hszI : (s.size : Int) ≤ 65536 := by omega
    have hz := bl_len s
    have hD0 := fhid (di_start w (bl s))
    have hbad := fhid (show ∀ (W : World) (e k : Nat), linesP 1 startC (lines (bl s)) = .error (e, k) → Below w.heap.size w W → ParseP w (parseC (bl s)) (.returned (.tuple #[.agg zeros12.toArray, .agg #[.int .i64 (e : Int), .int .i64 (k : Int)]])) W from fun W e k h hb => by
      rw [hE.out, h]; exact parse_no e k hb)
    have hnot := fhid (show ∀ (W : World) (c : Cfg), linesP 1 startC (lines (bl s)) = .ok c → rightC c = false → Below w.heap.size w W → ParseP w (parseC (bl s)) (.returned (.tuple #[.agg zeros12.toArray, .agg #[.int .i64 12, .int .i64 0]])) W from fun W c h hr hb => by
      rw [hE.out, h]
      simp only [hr]
      exact parse_no 12 0 hb)
    have hgood := fhid (show ∀ (W : World) (c : Cfg) (v : Value), linesP 1 startC (lines (bl s)) = .ok c → rightC c = true → CR W v c → Below w.heap.size w W → ParseP w (parseC (bl s)) (.returned (.tuple #[v, .agg #[.int .i64 0, .int .i64 0]])) W from fun W c v h hr hc hb => by
      rw [hE.out, h]
      simp only [hr]
      exact parse_yes hc hb)
    clear hpc hE
    generalize ParseP w (parseC (bl s)) = P at *
    replace hz := fhid hz
    go_enter Tryz.func27, Tryz.ntmps27
    go_upto_region 5 with fail
    generalize ((w.alloc _).alloc _).alloc _ = W0 at *
    go_wp2_with fail
    go_loopw [5, 6] (fun n f wr => ∃ (k a : Nat) (c : Cfg) (vN vV vP vQ : Value), n = .int .i64 k ∧ f = .int .i64 a ∧ DI w (bl s) a k c vN vV vP vQ wr) (fun _ f _ => s.size + 1 - (intOf f).toNat)
    case atStart => exact ⟨0, 0, startC, _, _, _, _, rfl, rfl, hD0.out⟩
    case round =>
      obtain ⟨k, a, c, vN, vV, vP, vQ, rfl, rfl, hD⟩ := hrel
      have k0 : (0 : Int) ≤ k := by omega
      have a0 : (0 : Int) ≤ a := by omega
      have hka : k ≤ a := hD.2.2.2.2.2.1
      have haz : a ≤ s.size + 1 := by
        rcases hD.2.2.2.2.2.2 with ⟨h, _⟩ | ⟨h, _⟩
        · have := hz.out; omega
        · have := hz.out; omega
      have hkI : (k : Int) ≤ 65537 := by omega
      replace hD := fhid hD
      clear hD0
      by_cases hlt : a < s.size
      · have i2 : (a : Int) < s.size := by omega
        have hltb : a < (bl s).length := by have := hz.out; omega
        go_upto_block 2 with fail
        go_cut [7, 8] from 26 to 46 (fun e f wx => (∃ (en : Nat) (fi : Int), e = .int .i64 en ∧ f = .int .i64 fi ∧ LI (bl s) a en fi ∧ (en = s.size ∨ ∃ h : en < s.size, s[en] = 10)) ∧ wr = wx)
        case first =>
          go_wp2_with fail
          go_loop [7, 8] (fun e f => ∃ (en : Nat) (fi : Int), e = .int .i64 en ∧ f = .int .i64 fi ∧ LI (bl s) a en fi) (fun e _ => s.size - (intOf e).toNat)
          case atStart => exact ⟨a, -1, rfl, rfl, li_start _ _ (by omega)⟩
          case round =>
            obtain ⟨en, fi, rfl, rfl, hL⟩ := hrel
            have e0 : (0 : Int) ≤ en := by omega
            have e1 : en ≤ s.size := by have := hL.2.1; have := hz.out; omega
            have hfi : -1 ≤ fi := by
              rcases hL.2.2.2 with ⟨h, _⟩ | ⟨m, h, _⟩ <;> omega
            by_cases h1 : en < s.size
            · have j1 : (en : Int) < s.size := by omega
              have hlb : en < (bl s).length := by have := hz.out; omega
              have hget : (bl s)[en] = s[en] := bl_get s en h1 hlb
              by_cases h10 : s[en] = 10
              · have x10 : (s[en].toNat : Int) = 10 := by rw [h10]; rfl
                have x10a : ((s[en].toNat : Int) == 10) = true := by simp; omega
                have x10b : ((s[en].toNat : Int) != 10) = false := by simp; omega
                have hm := fhid (show (∃ (en' : Nat) (fi' : Int), Value.int .i64 (en : Int) = .int .i64 en' ∧ Value.int .i64 fi = .int .i64 fi' ∧ LI (bl s) a en' fi' ∧ (en' = s.size ∨ ∃ h : en' < s.size, s[en'] = 10)) from ⟨en, fi, rfl, rfl, hL, .inr ⟨h1, h10⟩⟩)
                clear h10 hget hL
                go_wp2_with fail
                go_meet
                exact ⟨hm.out, rfl⟩
              · have x10 : ¬ (s[en].toNat : Int) = 10 := fun h => h10 (UInt8.toNat_inj.1 (by show s[en].toNat = 10; omega))
                have x10a : ((s[en].toNat : Int) == 10) = false := by simpa using x10
                have x10b : ((s[en].toNat : Int) != 10) = true := by simpa using x10
                by_cases h35 : s[en] = 35
                · have x35 : (s[en].toNat : Int) = 35 := by rw [h35]; rfl
                  have x35a : ((s[en].toNat : Int) == 35) = true := by simp; omega
                  by_cases hf0 : fi < 0
                  · have hfm : fi = -1 := by omega
                    have hnx := fhid (show LI (bl s) a (en + 1) (en : Int) from li_note (hfm ▸ hL) hlb (hget.trans h35))
                    clear h10 h35 hget hL hfm
                    go_wp2_with fail
                    go_round
                    case rel => exact ⟨en + 1, en, by go_num, rfl, hnx.out⟩
                    case measure => simp [intOf]; omega
                  · have hnx := fhid (li_plain hL hlb (by rw [hget]; exact h10) (.inr (by omega)))
                    have hf1 : (0 : Int) ≤ fi := by omega
                    have hf2 : decide (fi < 0) = false := by simpa using hf1
                    clear h10 h35 hget hL hf0
                    go_wp2_with fail
                    go_round
                    case rel => exact ⟨en + 1, fi, by go_num, rfl, hnx.out⟩
                    case measure => simp [intOf]; omega
                · have x35 : ¬ (s[en].toNat : Int) = 35 := fun h => h35 (UInt8.toNat_inj.1 (by show s[en].toNat = 35; omega))
                  have x35a : ((s[en].toNat : Int) == 35) = false := by simpa using x35
                  have hnx := fhid (li_plain hL hlb (by rw [hget]; exact h10) (.inl (by rw [hget]; exact h35)))
                  clear h10 h35 hget hL
                  go_wp2_with fail
                  go_round
                  case rel => exact ⟨en + 1, fi, by go_num, rfl, hnx.out⟩
                  case measure => simp [intOf]; omega
            · obtain rfl : en = s.size := by omega
              have j1 : ¬ (s.size : Int) < s.size := by omega
              have hm := fhid (show (∃ (en' : Nat) (fi' : Int), Value.int .i64 (s.size : Int) = .int .i64 en' ∧ Value.int .i64 fi = .int .i64 fi' ∧ LI (bl s) a en' fi' ∧ (en' = s.size ∨ ∃ h : en' < s.size, s[en'] = 10)) from ⟨s.size, fi, rfl, rfl, hL, .inl rfl⟩)
              clear hL
              go_wp2_with fail
              go_meet
              exact ⟨hm.out, rfl⟩
        case rest =>
          obtain ⟨⟨en, fi, rfl, rfl, hL, hx⟩, rfl⟩ := hcut
          have hae := hL.1
          have heb := hL.2.1
          have hes : en ≤ s.size := by have := hz.out; omega
          have hlf := lines_from hae heb hL.2.2.1 (by
            rcases hx with h | ⟨h, h10⟩
            · left; rw [h]; exact hz.out.symm
            · right
              have hlb : en < (bl s).length := by have := hz.out; omega
              exact ⟨hlb, (bl_get s en h hlb).trans h10⟩)
          have hnx := fhid (fun c' vN' vV' vP' vQ' W' hc hB hDD => di_next (W' := W') (c' := c') (vN' := vN') (vV' := vV') (vP' := vP') (vQ' := vQ') hD.out hltb hlf hae heb hc hB hDD)
          have hbd := fhid (fun x hc W hb => Hid.out hbad W x (k + 1) (di_bad (x := x) hD.out hltb hlf hc) hb)
          have hul : (Vs.upTo 35 (((bl s).drop a).take (en - a))).length ≤ 65536 := by
            have h1 : ∀ l : Str, (Vs.upTo 35 l).length ≤ l.length := fun l => by
              unfold Vs.upTo
              exact (List.takeWhile_prefix _).length_le
            have := h1 (((bl s).drop a).take (en - a))
            simp only [List.length_take, List.length_drop] at this
            have := hz.out
            omega
          obtain ⟨u, hu⟩ : ∃ u, Vs.upTo 35 (((bl s).drop a).take (en - a)) = u := ⟨_, rfl⟩
          have hlp : lineP c (((bl s).drop a).take (en - a)) = wordsP c (words u) := by unfold lineP; rw [hu]
          have e0 : (0 : Int) ≤ en := by omega
          have e1 : (a : Int) ≤ en := by omega
          have e2 : (en : Int) ≤ s.size := by omega
          obtain ⟨X, hXu, hform⟩ : ∃ X, bl X = u ∧ ((fi = -1 ∧ s.extract a en = X) ∨ ∃ m : Nat, fi = m ∧ a ≤ m ∧ m < en ∧ s.extract a m = X) := by
            rcases hL.2.2.2 with ⟨h1, h2⟩ | ⟨m, h1, h2, h3, h4⟩
            · refine ⟨_, ?_, .inl ⟨h1, rfl⟩⟩
              rw [ext_str, bl_str, ← hu, Vs.upTo_no h2]
            · refine ⟨_, ?_, .inr ⟨m, h1, h2, h3, rfl⟩⟩
              rw [ext_str, bl_str, ← hu, h4]
          rw [hu] at hul
          have hXs : X.size ≤ 1000000 := by rw [← bl_len, hXu]; omega
          have rW := fun W => rWords_any X W hXs
          rw [hXu] at rW
          have hwn := words_ne u
          have hwl := words_len u
          have hwc := words_count u
          clear hlf hL hx hu
          replace hXu := fhid hXu
          replace hXs := fhid hXs
          replace hlp := fhid hlp
          generalize words u = ws at *
          cases ws with
          | nil =>
            have hc := fhid (show lineP c (((bl s).drop a).take (en - a)) = .ok c from hlp.out)
            have rW2 : ∀ W, Calls Tryz.prog 54 #[.string X] W fun e w' => ∃ A cap, e = .returned (.slice A 0 cap) ∧ Below W.heap.size W w' := fun W => (rW W).mono fun e w' h => by
              obtain ⟨v, h1, own, h3⟩ := h
              obtain ⟨A9, cap9, rfl, -⟩ := ownsRow_shape own
              exact ⟨A9, cap9, h1, h3⟩
            clear rW hwn hwl hwc hbd
            rcases hform with ⟨rfl, hXe⟩ | ⟨m, rfl, m1, m2, hXe⟩
            all_goals
              try (have m0 : (0 : Int) ≤ m := by omega)
              try (have m3 : (a : Int) ≤ m := by omega)
              try (have m4 : (m : Int) ≤ s.size := by omega)
              go_wp2_with (go_at_call 54; (with_reducible refine (rW2 _).mono ?_); rintro e w2 ⟨A9, cap9, rfl, b2⟩)
              go_roundw
              case rel =>
                have hD1 := hD.out.1
                have hs2 : w.heap.size + 2 ≤ wr.heap.size := Nat.le_of_lt hD1.lt
                exact ⟨k + 1, en + 1, c, _, _, _, _, by go_num, by go_num, hnx.out _ _ _ _ _ _ hc.out (b2.mono hs2) (hD1.below b2)⟩
              case measure => simp [intOf]; omega
          | cons kw os =>
            have hos : ∀ x ∈ os, x.length ≤ 65536 := fun x hx => Nat.le_trans (hwl x (by simp [hx])) hul
            have hone : ∀ x ∈ os, x ≠ [] := fun x hx => hwn x (by simp [hx])
            have hwsl : os.length ≤ 1000000 := by simp only [List.length_cons] at hwc; omega
            have rW2 : ∀ W, Calls Tryz.prog 54 #[.string X] W fun e w' => ∃ A cap, e = .returned (.slice A (kw :: os).length cap) ∧ Strs w' w'.heap.size A (kw :: os) ∧ (kw :: os).length ≤ cap ∧ cap ≤ 9223372036854775807 ∧ Below W.heap.size W w' := fun W => (rW W).mono fun e w' h => by
              obtain ⟨v, h1, own, h3⟩ := h
              obtain ⟨A9, cap9, rfl, q1, q2, q3⟩ := ownsRow_shape own
              exact ⟨A9, cap9, h1, q3, q1, by unfold maxLen at q2; omega, h3⟩
            have hN : (0 : Int) < (((kw :: os).length : Nat) : Int) := by simp
            have hN2 : (((kw :: os).length : Nat) : Int) > 0 := hN
            have hN3 : 0 < (kw :: os).length := by simp
            have hli := fun (A : Option Addr) (cap : Nat) (W : World) (b2 : Below wr.heap.size wr W) (hS : Strs W W.heap.size A (kw :: os)) (h1 : (kw :: os).length ≤ cap) (h2 : cap ≤ 9223372036854775807) => rline_any (w.heap.size + 2) (w.heap.size + 2) c vN vV vP vQ A cap kw os W (hD.out.1.below b2) hD.out.2.1 hS hos hone hwsl h1 h2
            have hbl := hD.out.1.lt
            clear rW hwn hwl hwc
            replace hos := fhid hos
            replace hone := fhid hone
            generalize (kw :: os).length = N at *
            cases hlq : wordsP c (kw :: os) with
            | error x =>
              have hx0 := wordsP_ne hlq
              have hc := fhid (show lineP c (((bl s).drop a).take (en - a)) = .error x from hlp.out.trans hlq)
              rw [hlq] at hli
              unfold LineD at hli
              simp only at hli
              have j1 : ((x : Int) != 0) = true := by simp; omega
              have j2 : ¬ (x : Int) = 0 := by omega
              replace hlq := fhid hlq
              clear hnx hx0
              have hend := fhid (hbd.out x hc.out)
              obtain ⟨-, -, h3, h4, h5, -, -⟩ := hD.out
              replace h3 := fhid h3
              replace h4 := fhid h4
              replace h5 := fhid h5
              have hs2 : w.heap.size + 2 ≤ wr.heap.size := Nat.le_of_lt hbl
              rcases hform with ⟨rfl, hXe⟩ | ⟨m, rfl, m1, m2, hXe⟩
              all_goals
                try (have m0 : (0 : Int) ≤ m := by omega)
                try (have m3 : (a : Int) ≤ m := by omega)
                try (have m4 : (m : Int) ≤ s.size := by omega)
                go_wp2_with (first
                  | (go_at_call 54; (with_reducible refine (rW2 _).mono ?_); rintro e w2 ⟨A9, cap9, rfl, q1, q2, q3, b2⟩
                     have hl2 := hli A9 cap9 w2 b2 q1 q2 q3)
                  | (go_at_call 55; (with_reducible refine hl2.mono ?_); rintro e w3 ⟨b3, rfl⟩
                     have rcB := (Box.below h3.out b2 (Box.lt h3.out)).below b3 (by omega)
                     have rfB := (Box.below h4.out b2 (Box.lt h4.out)).below b3 (by omega)
                     have oldB := fhid ((h5.out.trans (b2.mono h5.out.size)).trans (b3.mono (by omega)))
                     obtain ⟨c0, c1, c2, c3, c4, c5, c6, c7, c8, c9, c10, c11⟩ := Box.twelve rcB
                     have fr := Box.free rcB
                     have rl := Box.lt rcB
                     have f0 : w3.cell? ⟨w.heap.size + 1, 0, none⟩ = some (.int .i64 0) := Box.cell rfB 0
                     have f1 : w3.cell? ⟨w.heap.size + 1, 1, none⟩ = some (.int .i64 0) := Box.cell rfB 1
                     have ff := Box.free rfB
                     have fl := Box.lt rfB
                     replace rcB := fhid rcB
                     replace rfB := fhid rfB))
                have k2 := wg_rcT (v0 := .slice none 0 0) (v1 := .slice none 0 0) (v2 := .slice none 0 0) (v3 := .slice none 0 0) (v4 := .int .i64 0) (v5 := .int .i64 0) (v6 := .int .i64 0) (v7 := .int .i64 0) (v8 := .int .i64 0) (v9 := .int .i64 0) (v10 := .int .i64 0) (v11 := .int .i64 0) (x := .int .i64 (x : Int)) (y := .int .i64 ((k : Int) + 1)) rcB.out
                have k3 := wg_rf (v0 := .slice none 0 0) (v1 := .slice none 0 0) (v2 := .slice none 0 0) (v3 := .slice none 0 0) (v4 := .int .i64 0) (v5 := .int .i64 0) (v6 := .int .i64 0) (v7 := .int .i64 0) (v8 := .int .i64 0) (v9 := .int .i64 0) (v10 := .int .i64 0) (v11 := .int .i64 0) (x := .int .i64 (x : Int)) (y := .int .i64 ((k : Int) + 1)) rfB.out
                have hB5 := wg_below (v0 := .slice none 0 0) (v1 := .slice none 0 0) (v2 := .slice none 0 0) (v3 := .slice none 0 0) (v4 := .int .i64 0) (v5 := .int .i64 0) (v6 := .int .i64 0) (v7 := .int .i64 0) (v8 := .int .i64 0) (v9 := .int .i64 0) (v10 := .int .i64 0) (v11 := .int .i64 0) (x := .int .i64 (x : Int)) (y := .int .i64 ((k : Int) + 1)) oldB.out
                unfold WG at k2 k3 hB5
                clear c0 c1 c2 c3 c4 c5 c6 c7 c8 c9 c10 c11 f0 f1 fr rl ff fl
                generalize World.setCell _ _ _ = W6 at *
                obtain ⟨d0, d1, d2, d3, d4, d5, d6, d7, d8, d9, d10, d11⟩ := Box.twelve k2
                have f0 : W6.cell? ⟨w.heap.size + 1, 0, none⟩ = some (.int .i64 (x : Int)) := Box.cell k3 0
                have f1 : W6.cell? ⟨w.heap.size + 1, 1, none⟩ = some (.int .i64 ((k : Int) + 1)) := Box.cell k3 1
                refine bodyPost_ret (v := .tuple #[.agg zeros12.toArray, .agg #[.int .i64 (x : Int), .int .i64 ((k : Int) + 1)]]) (by simp [results, Tryz.results27, go_sem, d0, d1, d2, d3, d4, d5, d6, d7, d8, d9, d10, d11, f0, f1]) rfl ?_
                have hq := hend.out W6 hB5
                rwa [show ((k + 1 : Nat) : Int) = (k : Int) + 1 from by omega] at hq
            | ok c' =>
              have hc := fhid (show lineP c (((bl s).drop a).take (en - a)) = .ok c' from hlp.out.trans hlq)
              rw [hlq] at hli
              unfold LineD at hli
              simp only at hli
              replace hlq := fhid hlq
              clear hbd
              have hs2 : w.heap.size + 2 ≤ wr.heap.size := Nat.le_of_lt hbl
              rcases hform with ⟨rfl, hXe⟩ | ⟨m, rfl, m1, m2, hXe⟩
              all_goals
                try (have m0 : (0 : Int) ≤ m := by omega)
                try (have m3 : (a : Int) ≤ m := by omega)
                try (have m4 : (m : Int) ≤ s.size := by omega)
                go_wp2_with (first
                  | (go_at_call 54; (with_reducible refine (rW2 _).mono ?_); rintro e w2 ⟨A9, cap9, rfl, q1, q2, q3, b2⟩
                     have hl2 := hli A9 cap9 w2 b2 q1 q2 q3)
                  | (go_at_call 55; (with_reducible refine hl2.mono ?_); rintro e w3 ⟨b3, rfl, vN', vV', vP', vQ', D3⟩))
                go_roundw
                case rel => exact ⟨k + 1, en + 1, c', _, _, _, _, by go_num, by go_num, hnx.out _ _ _ _ _ _ hc.out ((b2.mono hs2).trans b3) D3⟩
                case measure => simp [intOf]; omega
      · have i2 : ¬ (a : Int) < s.size := by omega
        have hok := di_end hD.out (by have := hz.out; omega)
        obtain ⟨h1, h2, h3, h4, h5, h6, h7⟩ := hD.out
        obtain ⟨AN, cN, AV, cV, AP, cP, AQ, cQ, a0', a1, a2, a3, a4, a5, a6, a7, rfl, rfl, rfl, rfl, ev, hbx, hcr⟩ := doc_cr h1
        have hri := rRight_gd _ c wr hcr h2
        obtain ⟨g0, g1, g2, g3, g4, g5, g6, g7, g8, g9, g10, g11⟩ := Box.twelve hbx
        have gl := Box.lt hbx
        clear h7 h6
        unfold BoolP at hri
        replace h1 := fhid h1
        replace h2 := fhid h2
        replace h3 := fhid h3
        replace h4 := fhid h4
        replace h5 := fhid h5
        replace hcr := fhid hcr
        replace hbx := fhid hbx
        replace hok := fhid hok
        replace ev := fhid ev
        clear hD
        cases hr : rightC c with
        | false =>
          rw [hr] at hri
          have hend := fhid (fun (W : World) (hb : Below w.heap.size w W) => hnot.out W c hok.out hr hb)
          replace hr := fhid hr
          go_wp2_with (go_at_call 56; (with_reducible refine hri.mono ?_); rintro e w2 ⟨rfl, b2⟩
                       have rcB := Box.below h3.out b2 (Box.lt h3.out)
                       have rfB := Box.below h4.out b2 (Box.lt h4.out)
                       have oldB := fhid (h5.out.trans (b2.mono h5.out.size))
                       obtain ⟨c0, c1, c2, c3, c4, c5, c6, c7, c8, c9, c10, c11⟩ := Box.twelve rcB
                       have fr := Box.free rcB
                       have rl := Box.lt rcB
                       have f0 : w2.cell? ⟨w.heap.size + 1, 0, none⟩ = some (.int .i64 0) := Box.cell rfB 0
                       have f1 : w2.cell? ⟨w.heap.size + 1, 1, none⟩ = some (.int .i64 0) := Box.cell rfB 1
                       have ff := Box.free rfB
                       have fl := Box.lt rfB
                       replace rcB := fhid rcB
                       replace rfB := fhid rfB)
          have k2 := wg_rcT (v0 := .slice none 0 0) (v1 := .slice none 0 0) (v2 := .slice none 0 0) (v3 := .slice none 0 0) (v4 := .int .i64 0) (v5 := .int .i64 0) (v6 := .int .i64 0) (v7 := .int .i64 0) (v8 := .int .i64 0) (v9 := .int .i64 0) (v10 := .int .i64 0) (v11 := .int .i64 0) (x := .int .i64 12) (y := .int .i64 0) rcB.out
          have k3 := wg_rf (v0 := .slice none 0 0) (v1 := .slice none 0 0) (v2 := .slice none 0 0) (v3 := .slice none 0 0) (v4 := .int .i64 0) (v5 := .int .i64 0) (v6 := .int .i64 0) (v7 := .int .i64 0) (v8 := .int .i64 0) (v9 := .int .i64 0) (v10 := .int .i64 0) (v11 := .int .i64 0) (x := .int .i64 12) (y := .int .i64 0) rfB.out
          have hB5 := wg_below (v0 := .slice none 0 0) (v1 := .slice none 0 0) (v2 := .slice none 0 0) (v3 := .slice none 0 0) (v4 := .int .i64 0) (v5 := .int .i64 0) (v6 := .int .i64 0) (v7 := .int .i64 0) (v8 := .int .i64 0) (v9 := .int .i64 0) (v10 := .int .i64 0) (v11 := .int .i64 0) (x := .int .i64 12) (y := .int .i64 0) oldB.out
          unfold WG at k2 k3 hB5
          clear c0 c1 c2 c3 c4 c5 c6 c7 c8 c9 c10 c11 f0 f1 fr rl ff fl
          generalize World.setCell _ _ _ = W6 at *
          obtain ⟨d0, d1, d2, d3, d4, d5, d6, d7, d8, d9, d10, d11⟩ := Box.twelve k2
          have f0 : W6.cell? ⟨w.heap.size + 1, 0, none⟩ = some (.int .i64 12) := Box.cell k3 0
          have f1 : W6.cell? ⟨w.heap.size + 1, 1, none⟩ = some (.int .i64 0) := Box.cell k3 1
          refine bodyPost_ret (v := .tuple #[.agg zeros12.toArray, .agg #[.int .i64 12, .int .i64 0]]) (by simp [results, Tryz.results27, go_sem, d0, d1, d2, d3, d4, d5, d6, d7, d8, d9, d10, d11, f0, f1]) rfl ?_
          exact hend.out W6 hB5
        | true =>
          rw [hr] at hri
          have hend := fhid (fun (W : World) (v : Value) (hc : CR W v c) (hb : Below w.heap.size w W) => hgood.out W c v hok.out hr hc hb)
          replace hr := fhid hr
          go_wp2_with (go_at_call 56; (with_reducible refine hri.mono ?_); rintro e w2 ⟨rfl, b2⟩
                       have D2 := fhid (h1.out.below b2)
                       have rcB := Box.below h3.out b2 (Box.lt h3.out)
                       have rfB := Box.below h4.out b2 (Box.lt h4.out)
                       have oldB := fhid (h5.out.trans (b2.mono h5.out.size))
                       have hbx2 := Box.below hbx.out b2 gl
                       clear g0 g1 g2 g3 g4 g5 g6 g7 g8 g9 g10 g11
                       obtain ⟨g0, g1, g2, g3, g4, g5, g6, g7, g8, g9, g10, g11⟩ := Box.twelve hbx2
                       have gl2 := Box.lt hbx2
                       obtain ⟨c0, c1, c2, c3, c4, c5, c6, c7, c8, c9, c10, c11⟩ := Box.twelve rcB
                       have fr := Box.free rcB
                       have rl := Box.lt rcB
                       have f0 : w2.cell? ⟨w.heap.size + 1, 0, none⟩ = some (.int .i64 0) := Box.cell rfB 0
                       have f1 : w2.cell? ⟨w.heap.size + 1, 1, none⟩ = some (.int .i64 0) := Box.cell rfB 1
                       have ff := Box.free rfB
                       have fl := Box.lt rfB
                       replace rcB := fhid rcB
                       replace rfB := fhid rfB
                       replace hbx2 := fhid hbx2)
          have k2 := wg_rcT (v0 := .slice AN c.names.length cN) (v1 := .slice AV c.vecs.length cV) (v2 := .slice AP c.parts.length cP) (v3 := .slice AQ c.qos.length cQ) (v4 := .int .i64 a0') (v5 := .int .i64 a1) (v6 := .int .i64 a2) (v7 := .int .i64 a3) (v8 := .int .i64 a4) (v9 := .int .i64 a5) (v10 := .int .i64 a6) (v11 := .int .i64 a7) (x := .int .i64 0) (y := .int .i64 0) rcB.out
          have k3 := wg_rf (v0 := .slice AN c.names.length cN) (v1 := .slice AV c.vecs.length cV) (v2 := .slice AP c.parts.length cP) (v3 := .slice AQ c.qos.length cQ) (v4 := .int .i64 a0') (v5 := .int .i64 a1) (v6 := .int .i64 a2) (v7 := .int .i64 a3) (v8 := .int .i64 a4) (v9 := .int .i64 a5) (v10 := .int .i64 a6) (v11 := .int .i64 a7) (x := .int .i64 0) (y := .int .i64 0) rfB.out
          have hB5 := wg_below (v0 := .slice AN c.names.length cN) (v1 := .slice AV c.vecs.length cV) (v2 := .slice AP c.parts.length cP) (v3 := .slice AQ c.qos.length cQ) (v4 := .int .i64 a0') (v5 := .int .i64 a1) (v6 := .int .i64 a2) (v7 := .int .i64 a3) (v8 := .int .i64 a4) (v9 := .int .i64 a5) (v10 := .int .i64 a6) (v11 := .int .i64 a7) (x := .int .i64 0) (y := .int .i64 0) oldB.out
          have k4 := wg_doc (rc := w.heap.size) (v0 := .slice AN c.names.length cN) (v1 := .slice AV c.vecs.length cV) (v2 := .slice AP c.parts.length cP) (v3 := .slice AQ c.qos.length cQ) (v4 := .int .i64 a0') (v5 := .int .i64 a1) (v6 := .int .i64 a2) (v7 := .int .i64 a3) (v8 := .int .i64 a4) (v9 := .int .i64 a5) (v10 := .int .i64 a6) (v11 := .int .i64 a7) (x := .int .i64 0) (y := .int .i64 0) D2.out (by omega)
          unfold WG at k2 k3 hB5 k4
          clear c0 c1 c2 c3 c4 c5 c6 c7 c8 c9 c10 c11 f0 f1 fr rl ff fl g0 g1 g2 g3 g4 g5 g6 g7 g8 g9 g10 g11
          generalize World.setCell _ _ _ = W6 at *
          obtain ⟨d0, d1, d2, d3, d4, d5, d6, d7, d8, d9, d10, d11⟩ := Box.twelve k2
          have f0 : W6.cell? ⟨w.heap.size + 1, 0, none⟩ = some (.int .i64 0) := Box.cell k3 0
          have f1 : W6.cell? ⟨w.heap.size + 1, 1, none⟩ = some (.int .i64 0) := Box.cell k3 1
          refine bodyPost_ret (v := .tuple #[.agg #[.slice AN c.names.length cN, .slice AV c.vecs.length cV, .slice AP c.parts.length cP, .slice AQ c.qos.length cQ, .int .i64 a0', .int .i64 a1, .int .i64 a2, .int .i64 a3, .int .i64 a4, .int .i64 a5, .int .i64 a6, .int .i64 a7], .agg #[.int .i64 0, .int .i64 0]]) (by simp [results, Tryz.results27, go_sem, d0, d1, d2, d3, d4, d5, d6, d7, d8, d9, d10, d11, f0, f1]) rfl ?_
          exact hend.out W6 _ (doc_is k4 ev.out) hB5
end Go.Proofs.YtmnmcikbbfcjcaaGreatDoor
