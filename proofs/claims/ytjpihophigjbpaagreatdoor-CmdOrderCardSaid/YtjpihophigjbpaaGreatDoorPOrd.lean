/-
  PROVED: CmdOrder: the order of options does not count, for every list of words and every turn.
  Conditions: the library's tables and its two errors read as the program's text lays them (the card ties them); nothing else.
-/
import Derived.Test.YtjpihophigjbpaaGreatDoorQB
import Derived.Test.YtjpihophigjbpaaGreatDoorQC
import Derived.SizedLaws
set_option linter.unusedSimpArgs false
set_option linter.unusedVariables false
/-
  Words turned round: plain.
-/
namespace Go.Proofs.YtjpihophigjbpaaGreatDoor
open Go.RowKit Go.Shelf Vs

def rot (l : List Str) (t : Nat) : List Str := l.drop t ++ l.take t
theorem rot_len (l : List Str) (t : Nat) : (rot l t).length = l.length := by unfold rot; rw [List.length_append, List.length_drop, List.length_take]; omega
theorem rot_perm (l : List Str) (t : Nat) : (rot l t).Perm l := by
  have h : (l.take t ++ l.drop t).Perm (rot l t) := List.perm_append_comm
  rw [List.take_append_drop] at h
  exact h.symm
theorem rot_get (l : List Str) (t k : Nat) (ht : t < l.length) (hk : k < l.length) : ∃ h : (k + t) % l.length < l.length, (rot l t)[k]'(by rw [rot_len]; exact hk) = l[(k + t) % l.length] := by
  refine ⟨Nat.mod_lt _ (by omega), ?_⟩
  unfold rot
  by_cases h : k < l.length - t
  · have e : (k + t) % l.length = k + t := Nat.mod_eq_of_lt (by omega)
    rw [List.getElem_append_left (by rw [List.length_drop]; exact h), List.getElem_drop]
    congr 1
    omega
  · have e : (k + t) % l.length = k + t - l.length := by rw [Nat.mod_eq_sub_mod (by omega), Nat.mod_eq_of_lt (by omega)]
    rw [List.getElem_append_right (by rw [List.length_drop]; omega), List.getElem_take]
    congr 1
    rw [List.length_drop]
    omega
def textO (l : List Str) : Str := wSubmit ++ l.flatMap fun w => 32 :: w
theorem textO_snoc (l : List Str) (x : Str) : textO (l ++ [x]) = textO l ++ (32 :: x) := by
  unfold textO; rw [List.flatMap_append, List.flatMap_cons, List.flatMap_nil, List.append_nil, List.append_assoc]
theorem textO_len : ∀ (l : List Str), (∀ x ∈ l, x.length ≤ 150) → (textO l).length ≤ 6 + 151 * l.length
  | [], _ => by decide
  | x :: l, h => by
    have ih := textO_len l fun y hy => h y (by simp [hy])
    have hx := h x (by simp)
    unfold textO at ih ⊢
    rw [List.length_append] at ih ⊢
    rw [List.flatMap_cons, List.length_append, List.length_cons, List.length_cons]
    omega
theorem order_same {l : List Str} {t : Nat} (hl : l.length ≤ 20) (hc : ∀ x ∈ l, clean x ∧ x.length ≤ 150) : cmdP (textO (rot l t)) = cmdP (textO l) := by
  have hr : ∀ x ∈ rot l t, clean x ∧ x.length ≤ 150 := fun x hx => hc x ((rot_perm l t).mem_iff.1 hx)
  have h1 := textO_len l fun x hx => (hc x hx).2
  have h2 := textO_len (rot l t) fun x hx => (hr x hx).2
  rw [rot_len] at h2
  unfold cmdP
  rw [if_neg (by omega), if_neg (by omega)]
  unfold textO
  rw [words_opts l fun x hx => (hc x hx).1, words_opts (rot l t) fun x hx => (hr x hx).1, wordsQ_cons, wordsQ_cons]
  have hk : kindQ wSubmit = 1 := by decide
  rw [hk, show ∀ ws, readC 1 ws = submitQ ws from fun ws => rfl, show ∀ ws, readC 1 ws = submitQ ws from fun ws => rfl, submitQ_perm ((rot_perm l t).filter _)]
/-- How far the words are turned. -/
def turnO (t : Int) (n : Nat) : Nat := (((t.tmod n) + n).tmod n).toNat
theorem turnO_facts (t : Int) (n : Nat) (h0 : 1 ≤ n) (h1 : n ≤ 20) : IntKind.i64.wrap (t.tmod n) = t.tmod n ∧ IntKind.i64.wrap (t.tmod n + n) = t.tmod n + n ∧ IntKind.i64.wrap ((t.tmod n + n).tmod n) = (turnO t n : Int) ∧ (t.tmod n + n).tmod n = (turnO t n : Int) ∧ turnO t n < n := by
  have a1 : -(n : Int) < t.tmod n := by
    exact Int.lt_tmod_of_pos t (by omega)
  have a2 : t.tmod n < n := Int.tmod_lt_of_pos t (by omega)
  have b1 : 0 ≤ (t.tmod n + n).tmod n := Int.tmod_nonneg _ (by omega)
  have b2 : (t.tmod n + n).tmod n < n := Int.tmod_lt_of_pos _ (by omega)
  have e : (t.tmod n + n).tmod n = (turnO t n : Int) := by unfold turnO; omega
  refine ⟨IntWalk.i64_in _ (by omega), IntWalk.i64_in _ (by omega), ?_, e, by omega⟩
  rw [IntWalk.i64_in _ (by omega), e]
theorem step_mod (k t n : Nat) (h : k < n) (ht : t < n) (hn : n ≤ 20) : IntKind.i64.wrap ((k : Int) + t) = (k : Int) + t ∧ IntKind.i64.wrap (((k : Int) + t).tmod n) = (((k + t) % n : Nat) : Int) ∧ ((k : Int) + t).tmod n = (((k + t) % n : Nat) : Int) := by
  have e : ((k : Int) + t).tmod n = (((k + t) % n : Nat) : Int) := by
    rw [Int.tmod_eq_emod_of_nonneg (by omega)]
    push_cast
    rfl
  have := Nat.mod_lt (k + t) (show 0 < n by omega)
  exact ⟨IntWalk.i64_in _ (by omega), by rw [e]; exact IntWalk.i64_in _ (by omega), e⟩
end Go.Proofs.YtjpihophigjbpaaGreatDoor
/-
  CmdOrder, walked.
-/
namespace Go.Proofs.YtjpihophigjbpaaGreatDoor
open Go.RowKit Go.Shelf Vs

theorem blank_no {c : UInt8} (h : blankB c = false) : ((c.toNat : Int) == 32) = false ∧ ((c.toNat : Int) == 9) = false ∧ ¬ (c.toNat : Int) = 32 ∧ ¬ (c.toNat : Int) = 9 := by
  have h1 : c ≠ 32 := fun e => by rw [e] at h; cases h
  have h2 : c ≠ 9 := fun e => by rw [e] at h; cases h
  have n1 : c.toNat ≠ 32 := fun e => h1 (UInt8.toNat_inj.1 (by rw [e]; rfl))
  have n2 : c.toNat ≠ 9 := fun e => h2 (UInt8.toNat_inj.1 (by rw [e]; rfl))
  exact ⟨by simp; omega, by simp; omega, by omega, by omega⟩
theorem blank_yes {c : UInt8} (h : blankB c = true) : c.toNat = 32 ∨ c.toNat = 9 := by
  unfold blankB at h
  rw [Bool.or_eq_true] at h
  rcases h with h | h
  · exact .inl (by rw [eq_of_beq h]; rfl)
  · exact .inr (by rw [eq_of_beq h]; rfl)
theorem textO_lenB (M : Nat) : ∀ (l : List Str), (∀ x ∈ l, x.length ≤ M) → (textO l).length ≤ 6 + (M + 1) * l.length
  | [], _ => by simp [textO, wSubmit]
  | x :: l, h => by
    have ih := textO_lenB M l fun y hy => h y (by simp [hy])
    have hx := h x (by simp)
    unfold textO at ih ⊢
    rw [List.length_append] at ih ⊢
    rw [List.flatMap_cons, List.length_append, List.length_cons, List.length_cons, Nat.mul_succ]
    omega
def OrdR (w : World) (ls : List Str) (T : Nat) (i x y : Value) (wr : World) : Prop := ∃ k : Nat, k ≤ ls.length ∧ i = .int .i64 (k : Int) ∧ x = .string (str (textO (ls.take k))) ∧ y = .string (str (textO ((rot ls T).take k))) ∧ (∀ z ∈ ls.take k, clean z ∧ z.length ≤ 150) ∧ Below w.heap.size w wr
section
attribute [local go_sem ↓] exec_ld_cmd exec_st_cmd exec_ld_rcmd exec_st_rcmd
set_option maxRecDepth 100000 in
set_option maxHeartbeats 8000000 in
theorem order_walk (A : Option Addr) (ls : List Str) (cap : Nat) (turn : Int) (w : World) (hw : Env w) (hs : Strs w w.heap.size A ls) (hxl : ∀ x ∈ ls, x.length ≤ 140737488355328) : Calls Tryz.prog 5 #[.slice A ls.length cap, .int .i64 turn] w (BoolP w true) := by
  have hal := fun W (hW : Below w.heap.size w W) => alive_any W (hw.below hW)
  unfold BoolP at hal ⊢
  replace hxl := fhid hxl
  by_cases h0 : ls.length = 0
  · have i0 : ((ls.length : Int) == 0) = true := by simp [h0]
    have i1 : (ls.length : Int) = 0 := by omega
    clear h0
    generalize ls.length = N at *
    go_enter Tryz.func5, Tryz.ntmps5
    go_wp2_with (go_at_call 9; (with_reducible refine (hal _ (Below.refl _ _)).mono ?_); rintro e w3 ⟨rfl, b3⟩)
    go_ret
    exact ⟨rfl, b3⟩
  · by_cases h20 : 20 < ls.length
    · have i0 : ((ls.length : Int) == 0) = false := beq_eq_false_iff_ne.2 (by omega)
      have i1 : ¬ (ls.length : Int) = 0 := by omega
      have i2 : (ls.length : Int) > 20 := by omega
      clear h0 h20
      generalize ls.length = N at *
      go_enter Tryz.func5, Tryz.ntmps5
      go_wp2_with (go_at_call 9; (with_reducible refine (hal _ (Below.refl _ _)).mono ?_); rintro e w3 ⟨rfl, b3⟩)
      go_ret
      exact ⟨rfl, b3⟩
    · obtain ⟨bb, oo, rfl, hbb, hc⟩ := hs (by rw [SV_len]; omega)
      have hcell : ∀ k (h : k < ls.length), w.cell? ⟨bb, oo + k, none⟩ = some (.string (str ls[k])) := fun k h => by
        rw [hc k (by rw [SV_len]; exact h)]; simp [SV]
      have i0 : ((ls.length : Int) == 0) = false := beq_eq_false_iff_ne.2 (by omega)
      have i1 : ¬ (ls.length : Int) = 0 := by omega
      have i2 : ¬ (ls.length : Int) > 20 := by omega
      obtain ⟨t1, t2, t3, t4, t5⟩ := turnO_facts turn ls.length (by omega) (by omega)
      have hpa := fun l W (hW : Below w.heap.size w W) => let_parse l W (hw.below hW)
      unfold AnsP at hpa
      have hos := fun h => order_same (l := ls) (t := turnO turn ls.length) (by omega) h
      have hsm := fun k (h : k < ls.length) => step_mod k (turnO turn ls.length) ls.length h t5 (by omega)
      generalize turnO turn ls.length = T at *
      generalize hm1 : turn.tmod (ls.length : Int) = m1 at *
      replace hos := fhid hos
      replace hpa := fhid hpa
      replace hcell := fhid hcell
      replace hsm := fhid hsm
      have t5' := fhid t5
      clear hs hc h20 t5
      have hW6 : (⟨#[115, 117, 98, 109, 105, 116]⟩ : ByteArray) = str (textO []) := rfl
      go_enter Tryz.func5, Tryz.ntmps5
      go_wp2_with fail
      clear t1 t2 t3 t4 i0 hm1
      go_loopw [35, 5, 6] (fun i x y wr => OrdR w ls T i x y wr) (fun i _ _ _ => ls.length - (intOf i).toNat)
      case atStart => exact ⟨0, Nat.zero_le _, rfl, by rw [List.take_zero], by rw [List.take_zero], fun z hz => by simp at hz, Below.refl _ _⟩
      case round =>
        obtain ⟨k, hk, rfl, rfl, rfl, hcl, hB⟩ := hrel
        have k0 : (0 : Int) ≤ k := by omega
        by_cases hlt : k < ls.length
        · have k1 : (k : Int) < ls.length := by omega
          have c1 := (hB.cell (p := ⟨bb, oo + k, none⟩) hbb).trans (hcell.out k hlt)
          obtain ⟨hmlt, hget⟩ := rot_get ls T k t5'.out hlt
          have c2 := (hB.cell (p := ⟨bb, oo + (k + T) % ls.length, none⟩) hbb).trans (hcell.out _ hmlt)
          obtain ⟨s1, s2, s3⟩ := hsm.out k hlt
          have k2 : (0 : Int) ≤ (((k + T) % ls.length : Nat) : Int) := by omega
          have k3 : (((k + T) % ls.length : Nat) : Int) < ls.length := by omega
          have hsn1 := fhid (show textO (ls.take (k + 1)) = textO (ls.take k) ++ (32 :: ls[k]) by rw [List.take_succ_eq_append_getElem hlt, textO_snoc])
          have hsn2 := fhid (show textO ((rot ls T).take (k + 1)) = textO ((rot ls T).take k) ++ (32 :: ls[(k + T) % ls.length]) by rw [List.take_succ_eq_append_getElem (by rw [rot_len]; exact hlt), textO_snoc, hget])
          have hbb2 := Nat.lt_of_lt_of_le hbb hB.size
          generalize hX : str ls[k] = X at *
          generalize hY : str ls[(k + T) % ls.length] = Y at *
          have hXb : bl X = ls[k] := by rw [← hX, bl_str]
          have hzY : Y.size ≤ 140737488355328 := by rw [← hY, str_size]; exact hxl.out _ (List.getElem_mem hmlt)
          have hzB : (str (textO ((rot ls T).take k))).size ≤ 6 + 140737488355329 * 20 := by
            rw [str_size]
            have h1 := textO_lenB 140737488355328 ((rot ls T).take k) fun x hx => hxl.out x ((rot_perm ls T).mem_iff.1 (List.mem_of_mem_take hx))
            have h2 : ((rot ls T).take k).length ≤ 20 := by rw [List.length_take]; omega
            have h3 := Nat.mul_le_mul_left 140737488355329 h2
            omega
          have hzA : (str (textO (ls.take k))).size ≤ 6 + 151 * 20 := by
            rw [str_size]
            have h1 := textO_len (ls.take k) fun x hx => (hcl x hx).2
            have h2 : (ls.take k).length ≤ 20 := by rw [List.length_take]; omega
            omega
          generalize hSA : str (textO (ls.take k)) = SA at *
          generalize hSB : str (textO ((rot ls T).take k)) = SB at *
          have hcl' := fhid hcl
          have hnx := fhid (show clean ls[k] → ls[k].length ≤ 150 → ∀ z ∈ ls.take (k + 1), clean z ∧ z.length ≤ 150 from fun h1 h2 z hz => by
            rw [List.take_succ_eq_append_getElem hlt] at hz
            rcases List.mem_append.1 hz with hz | hz
            · exact hcl'.out z hz
            · rw [List.mem_singleton.1 hz]; exact ⟨h1, h2⟩)
          replace hX := fhid hX
          replace hY := fhid hY
          replace hSA := fhid hSA
          replace hSB := fhid hSB
          replace hXb := fhid hXb
          replace hget := fhid hget
          clear hcl
          by_cases hbig : 150 < X.size
          · have j0 : (X.size : Int) > 150 := by omega
            go_wp2_with (go_at_call 9; (with_reducible refine (hal _ hB).mono ?_); rintro e w3 ⟨rfl, b3⟩)
            go_ret
            exact ⟨rfl, hB.trans (b3.mono hB.size)⟩
          · have j0 : ¬ (X.size : Int) > 150 := by omega
            obtain ⟨wk, rfl⟩ : ∃ wk : World, wk = wr := ⟨_, rfl⟩
            go_wp2_with fail
            go_loopw [9] (fun i wx => ∃ j : Nat, j ≤ X.size ∧ i = .int .i64 (j : Int) ∧ Hid (∀ m (h : m < X.size), m < j → blankB X[m] = false) ∧ Below wk.heap.size wk wx) (fun i _ => X.size - (intOf i).toNat)
            case atStart => exact ⟨0, Nat.zero_le _, rfl, fhid (fun m h hm => by omega), Below.refl _ _⟩
            case round =>
              obtain ⟨j, hj, rfl, hno, hB2⟩ := hrel
              have hB3 := hB.trans (hB2.mono hB.size)
              have l0 : (0 : Int) ≤ j := by omega
              by_cases hjl : j < X.size
              · have l1 : (j : Int) < X.size := by omega
                cases hbk : blankB X[j] with
                | true =>
                  rcases blank_yes hbk with h32 | h9
                  · have e1 : ((X[j].toNat : Int) == 32) = true := by simp; omega
                    have e2 : (X[j].toNat : Int) = 32 := by omega
                    clear hbk h32
                    go_wp2_with (go_at_call 9; (with_reducible refine (hal _ hB3).mono ?_); rintro e w3 ⟨rfl, b3⟩)
                    go_ret
                    exact ⟨rfl, hB3.trans (b3.mono hB3.size)⟩
                  · have e1 : ((X[j].toNat : Int) == 32) = false := by simp; omega
                    have e2 : ((X[j].toNat : Int) == 9) = true := by simp; omega
                    have e3 : ¬ (X[j].toNat : Int) = 32 := by omega
                    have e4 : (X[j].toNat : Int) = 9 := by omega
                    clear hbk h9
                    go_wp2_with (go_at_call 9; (with_reducible refine (hal _ hB3).mono ?_); rintro e w3 ⟨rfl, b3⟩)
                    go_ret
                    exact ⟨rfl, hB3.trans (b3.mono hB3.size)⟩
                | false =>
                  obtain ⟨e1, e2, e3, e4⟩ := blank_no hbk
                  have hno2 := fhid (show ∀ m (h : m < X.size), m < j + 1 → blankB X[m] = false from fun m h hm => by
                    by_cases em : m = j
                    · subst em; exact hbk
                    · exact hno.out m h (by omega))
                  clear hbk
                  go_wp2_with fail
                  go_roundw
                  case rel => exact ⟨j + 1, by omega, by go_num, hno2, hB2⟩
                  case measure => simp [intOf]; omega
              · obtain rfl : j = X.size := by omega
                have l1 : ¬ (X.size : Int) < X.size := by omega
                have hcx : clean ls[k] := by
                  intro c hc
                  rw [← hXb.out] at hc
                  obtain ⟨m, hm, rfl⟩ := List.getElem_of_mem hc
                  have hm2 : m < X.size := by rw [bl_len] at hm; exact hm
                  rw [bl_get X m hm2 hm]
                  exact hno.out m hm2 hm2
                have hlx : ls[k].length ≤ 150 := by rw [← hXb.out, bl_len]; omega
                have hnx2 := fhid (hnx.out hcx hlx)
                have r1 : ¬ 9223372036854775807 < 1 + X.size := by omega
                have r2 : ¬ 9223372036854775807 < SA.size + (1 + X.size) := by omega
                have r3 : ¬ 9223372036854775807 < 1 + Y.size := by omega
                have r4 : ¬ 9223372036854775807 < SB.size + (1 + Y.size) := by omega
                have c3 := (hB2.cell (p := ⟨bb, oo + (k + T) % ls.length, none⟩) hbb2).trans c2
                have hbb3 := Nat.lt_of_lt_of_le hbb2 hB2.size
                clear hcx hlx hno c1 c2
                generalize hq : (k + T) % ls.length = Q at *
                replace hq := fhid hq
                go_wp2_with fail
                go_roundw
                case rel =>
                  refine ⟨k + 1, by have := hlt; omega, by go_num, ?_, ?_, hnx2.out, hB3⟩
                  · rw [hsn1.out, ← hSA.out, ← hX.out, show (⟨#[32]⟩ : ByteArray) = str [32] from rfl, str_app, str_app]; rfl
                  · rw [hsn2.out, ← hSB.out, ← hY.out, show (⟨#[32]⟩ : ByteArray) = str [32] from rfl, str_app, str_app]; rfl
                case measure => have := hlt; simp [intOf]; omega
        · obtain rfl : k = ls.length := by omega
          have k1 : ¬ (ls.length : Int) < ls.length := by omega
          rw [List.take_length] at hcl ⊢
          rw [List.take_of_length_le (by rw [rot_len]; exact Nat.le_refl _)]
          have hsame := hos.out hcl
          have hpx := fun W hW => hpa.out (textO ls) W hW
          have hpy := fun W hW => hpa.out (textO (rot ls T)) W hW
          rw [hsame] at hpy
          obtain ⟨p, m, hpm⟩ : ∃ p m, cmdP (textO ls) = (p, m) := ⟨_, _, rfl⟩
          have hfew := few_parse hpm
          rw [hpm] at hpx hpy
          simp only at hpx hpy
          generalize str (textO ls) = SA at *
          generalize str (textO (rot ls T)) = SB at *
          have hou : ∀ (V : Array Value) W, InvC p V.toList W → _ := fun V W h => let_ours (c := p) (W := W) (by have := hfew.items; omega) h
          have hrs : ∀ (V Y : Array Value) W, InvC p V.toList W → InvC p Y.toList W → _ := fun V Y W h1 h2 => let_rsame (c := p) (W := W) (by have := hfew.idx; omega) h1 h2
          unfold BoolP at hrs
          have em : (m == m) = true := by simp
          clear hpm hfew hsame hcl hos hpa hcell hsm t5' hxl
          go_upto_region 19 with (go_at_call 10; (with_reducible refine (hpx _ hB).mono ?_); rintro e w4 ⟨b4, U, hu, hu1, rfl, hi⟩; obtain ⟨w5, h5, qx, bA, zA⟩ := st_new (w := w4) hu hu1 #[.int .i64 0, .string ⟨#[]⟩, .string ⟨#[]⟩, .string ⟨#[]⟩, .string ⟨#[]⟩, .int .i64 0, .int .i64 0, .int .i64 0, .int .i64 0, .int .i64 0, .int .i64 0, .bool false, .slice none 0 0, .slice none 0 0, .int .i64 0, .int .i64 0, .string ⟨#[]⟩] rfl)
          have hi := hi.below bA
          have g5 := (hB.trans (b4.mono hB.size)).trans (bA.mono (hB.trans (b4.mono hB.size)).size)
          clear b4 bA hpx zA h5 hu1
          generalize w4.heap.size = c5 at *
          replace qx := fhid qx
          go_upto_region 20 with (go_at_call 10; (with_reducible refine (hpy _ g5).mono ?_); rintro e w6 ⟨b6, X, hx, hx1, rfl, hj⟩; obtain ⟨w7, h7, qy, bA, zA⟩ := st_new (w := w6) hx hx1 #[.int .i64 0, .string ⟨#[]⟩, .string ⟨#[]⟩, .string ⟨#[]⟩, .string ⟨#[]⟩, .int .i64 0, .int .i64 0, .int .i64 0, .int .i64 0, .int .i64 0, .int .i64 0, .bool false, .slice none 0 0, .slice none 0 0, .int .i64 0, .int .i64 0, .string ⟨#[]⟩] rfl)
          have hj := hj.below bA
          have b7 := b6.trans (bA.mono b6.size)
          have qx := Box.below qx.out b7 (Box.lt qx.out)
          have hi := hi.below b7
          have g7 := g5.trans (b7.mono g5.size)
          clear b6 bA hpy b7 g5 zA h7 hx1
          generalize w6.heap.size = c7 at *
          have zx := Box.lt qx
          have zy := Box.lt qy
          have zS := fhid (show ∀ W, Below w7.heap.size w7 W → (ldS TCmd (.pointer (some ⟨c5, 0, none⟩))).run Tryz.prog W = .ok (.agg U) W ∧ (ldS TCmd (.pointer (some ⟨c7, 0, none⟩))).run Tryz.prog W = .ok (.agg X) W from fun W hb => ⟨ld_cmd (Box.below qx hb zx) hu, ld_cmd (Box.below qy hb zy) hx⟩)
          have tt : Below w7.heap.size w7 w7.drew := (Below.refl _ _).drew
          have z := zS.out _ tt
          have ix := fhid (hi.below tt)
          have iy := fhid (hj.below tt)
          replace qx := fhid qx
          replace qy := fhid qy
          clear hi hj
          go_region_held3 (fun W => (ldS TCmd (.pointer (some ⟨c5, 0, none⟩))).run Tryz.prog W = .ok (.agg U) W ∧ (ldS TCmd (.pointer (some ⟨c7, 0, none⟩))).run Tryz.prog W = .ok (.agg X) W) (first | exact z | fail)
            (first
              | (go_at_call 12
                 first
                 | ((with_reducible refine (hou U _ ix.out).mono ?_); rintro e w8 ⟨b8, T1, rfl, hjx⟩; have tt := tt.trans (b8.mono tt.size); have z := zS.out _ tt; have iy := fhid (iy.out.below b8); (try (have hjy := fhid (hjy.out.below b8))); have hjx := fhid hjx; clear ix)
                 | ((with_reducible refine (hou X _ iy.out).mono ?_); rintro e w8 ⟨b8, Y1, rfl, hjy⟩; have tt := tt.trans (b8.mono tt.size); have z := zS.out _ tt; (try (have ix := fhid (ix.out.below b8))); (try (have hjx := fhid (hjx.out.below b8))); have hjy := fhid hjy; clear iy))
              | (go_at_call 11; (with_reducible refine (hrs _ _ _ hjx.out hjy.out).mono ?_); rintro e w9 ⟨rfl, b9⟩; have tt := tt.trans (b9.mono tt.size); have z := zS.out _ tt)
              | (go_at_call 9; (with_reducible refine (hal _ (g7.trans (tt.mono g7.size))).mono ?_); rintro e w10 ⟨rfl, b10⟩; have tt := tt.trans (b10.mono tt.size); have z := zS.out _ tt))
          all_goals
            go_wp2_with fail
            go_ret
            exact ⟨rfl, g7.trans (tt.mono g7.size)⟩
end
end Go.Proofs.YtjpihophigjbpaaGreatDoor
namespace Go.Proofs.YtjpihophigjbpaaGreatDoor
open Go.ChangeShapes Go.WideShapes Go.ChangeAt Go.WideMaps Go.WideElems Go.RowKit Vs
set_option maxRecDepth 100000 in
theorem cord_lifted (os : Os) (started : os.Started) (H : Type) (enc : TypeId × Value → H) :
    ReturnsInHanded {} Tryz.checked os 5 .any (fun w args => (Rows.cmdOrderSpec.pre enc Tryz.prog Tryz.f5 [] false w args ∧ laidMetH Tryz.prog laidList w) ∧ sizedMet enc Tryz.prog Tryz.f5 (OpenSpec.ofChange Rows.cmdOrderSpec) false w args)
      (Rows.cmdOrderSpec.post enc Tryz.prog Tryz.f5 false true false false) := by
  refine returnsInHanded_of_change_and (C := Tryz.checked) (X := fun w _ => laidMetH Tryz.prog laidList w) (fun _ _ _ hh h => h.of_heap hh) own started (by kernel_rfl) Tryz.func5
    (ChangeSpec.witness_shaped (enc := enc) (C := Tryz.checked) (os := os) (X := fun w _ => laidMetH Tryz.prog laidList w) false (World.laidAll Tryz.prog os laidList) #[.slice none 0 0, .int .i64 0] 8 (World.laidAll_os _ _ _) (World.shaped_of_ZipB (by kernel_rfl) (by kernel_rfl)) (by kernel_rfl) (by kernel_rfl) (by kernel_rfl) (lay_met os _)) ?_
  intro W base args ds gs before hval0 hW _ hsz0 hL _
  have hval : ∀ (j : Nat) t v, Tryz.f5.params[j]? = some t → args[j]? = some v → Value.okWide Tryz.prog W .any base t v := hval0
  have hsz : (DataW.weightsEach Tryz.prog (Tryz.f5.params.toList ++ Rows.cmdOrderSpec.plain.varTypes Tryz.prog) (ds ++ gs)).all (· ≤ reachBytes) = true := hsz0
  have hW' := hW
  obtain ⟨p, q, hA0, hV, rfl, hfz, hnd⟩ := hW
  have hA : DataW.TrodAll enc Tryz.prog W 0 (fun _ => true) true Tryz.f5.params.toList args.toList ds p := hA0
  rw [Tryz.params5] at hA hval hsz
  obtain ⟨v0, v1, d0, d1, p0, p1, rfl, rfl, rfl, h0, h1⟩ := trodAll_two hA
  obtain ⟨rfl, rfl⟩ := trodVars_none hV
  have hT := env_of hL
  obtain ⟨A, ls, cap, rfl, hcap, hs, hd⟩ := open_texts10 (hval 0 51 v0 rfl rfl) h0
  obtain ⟨n, rfl, _, _, wn⟩ := open_int Tryz.underlying3 (hval 1 3 v1 rfl rfl) h1
  have hxl := sized_texts10 hsz (j := 0) (ns := ls) rfl (by
    rcases hd with h | ⟨spare, h⟩
    · exact .inl h
    · exact .inr ⟨spare, by rw [h]; rfl⟩)
  have hlt : ∀ z ∈ p0 ++ p1, z.block < W.heap.size := fun z hz => hW'.lt z (by simp [hz])
  simp only [List.append_nil] at hW'
  clear hA0 hval0 hsz0
  refine (order_walk A ls cap n W hT hs hxl).mono fun e W' ⟨he, hb⟩ => ?_
  subst he
  refine ⟨_, rfl, ⟨_, _, _, [], p0 ++ p1, [], hW', trodAll_mk1 (shut_bool Tryz.underlying4 _), ?_, rfl, hb.frame _, fun h => by cases h⟩⟩
  exact trodAll_mk2 (Below.trod laidOut (by kernel_rfl) (of_decide_eq_true (by kernel_rfl)) h0 hb (fun z hz => hlt z (by simp [hz]))) (Below.trod laidOut (by kernel_rfl) (of_decide_eq_true (by kernel_rfl)) h1 hb (fun z hz => hlt z (by simp [hz])))

theorem cord_holds : Rows.CmdOrderSaid :=
  OpenClaim.holds_of_wide 5 Tryz.f5 rfl rfl rfl rfl rfl rfl rfl ⟨rfl, rfl, rfl, rfl, rfl⟩ rfl rfl rfl rfl rfl (by kernel_rfl) Tryz.func5 (by kernel_rfl)
    (of_decide_eq_true (by kernel_rfl)) (by unfold Func.isWrapper; rw [if_neg (of_decide_eq_false (by kernel_rfl))]; exact ⟨rfl, rfl⟩)
    (fun os started H enc _ => cord_lifted os started H enc)
theorem cord_card : Rows.CmdOrderCardSaid :=
  Claim7.holds_tied_plain_at .later [] [.data, .data, .data, .data, .sentinel, .sentinel, .pinned] true Rows.cmdOrderCard.stood.harness true
    cord_holds (fun _ h => by cases h) (by kernel_rfl) (fun _ h => by cases h) cmdOrder_row_tie rfl ⟨rfl, rfl⟩ (by kernel_rfl) rfl
    (fun f fn hf hfn => by
      obtain rfl : f = 5 := Option.some.inj ((show Tryz.prog.funcNamed "marlinspike/marlinspikelaw10.CmdOrder" = some 5 by kernel_rfl).symm.trans hf) |>.symm
      obtain rfl : fn = Tryz.f5 := (Option.some.inj (Tryz.func5.symm.trans hfn)).symm
      exact ⟨by kernel_rfl, fun j t ht => by
        rw [Tryz.params5] at ht
        have hm : t ∈ [51, 3] := by simpa using Array.mem_of_getElem? ht
        have hall : ([51, 3].all fun u => !Tryz.prog.wantsStandIn u) = true := by kernel_rfl
        exact (show Tryz.prog.wantsStandIn t = false by simpa using List.all_eq_true.1 hall t hm)⟩)
    (by kernel_rfl)
end Go.Proofs.YtjpihophigjbpaaGreatDoor
