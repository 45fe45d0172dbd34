/-
  Parts: KRLeaf KRFind KRSetOf KRName.
-/
import Derived.Test.YtmnmcikbbfcjcaaGreatDoorK1
import Derived.Test.YtmnmcikbbfcjcaaGreatDoorW1
import Derived.Test.YtmnmcikbbfcjcaaGreatDoorH6
import Derived.Test.YtmnmcikbbfcjcaaGreatDoorK2
set_option linter.unusedSimpArgs false
set_option linter.unusedVariables false
/-
  The document's smallest calls: names, numbers, places.
-/
namespace Go.Proofs.YtmnmcikbbfcjcaaGreatDoor
open Go.RowKit Go.Shelf Vs

theorem take_all {l : Str} {k : Nat} (p : UInt8 → Bool) (h : k < l.length) : (l.take (k + 1)).all p = ((l.take k).all p && p l[k]) := by
  rw [List.take_succ_eq_append_getElem h, List.all_append]; simp
theorem all_not {l : Str} {k : Nat} {p : UInt8 → Bool} (h : k < l.length) (hp : p l[k] = false) : l.all p = false := by
  rw [Bool.eq_false_iff]
  intro ha
  rw [List.all_eq_true] at ha
  have := ha l[k] (List.getElem_mem h)
  rw [hp] at this
  cases this
theorem nameCs_iff (c : UInt8) : nameCs.contains c = true ↔ (97 ≤ c.toNat ∧ c.toNat ≤ 122 ∨ 48 ≤ c.toNat ∧ c.toNat ≤ 57 ∨ c.toNat = 45 ∨ c.toNat = 95) := by
  have h : ∀ n : Fin 256, (nameCs.contains (UInt8.ofNat n.val) = true ↔ (97 ≤ n.val ∧ n.val ≤ 122 ∨ 48 ≤ n.val ∧ n.val ≤ 57 ∨ n.val = 45 ∨ n.val = 95)) := by decide +kernel
  have := h ⟨c.toNat, c.toNat_lt⟩
  simpa using this
theorem nameP_bad {l : Str} {k : Nat} (h : k < l.length) (hp : nameCs.contains l[k] = false) : isNameP l = false := by
  unfold isNameP isOfP
  rw [all_not h hp, Bool.and_false]
theorem nameP_good {l : Str} (h : l.all (nameCs.contains ·) = true) : isNameP l = (decide ((1 : Int) ≤ l.length) && decide ((l.length : Int) ≤ 16)) := by
  unfold isNameP isOfP
  rw [h, Bool.and_true]
  cases l with
  | nil => rfl
  | cons a r =>
    simp only [List.isEmpty_cons, Bool.not_false, Bool.true_and]
    rw [decide_eq_true (show (1 : Int) ≤ ((a :: r).length : Int) by simp; omega), Bool.true_and, Bool.eq_iff_iff]
    simp only [decide_eq_true_eq]
    omega
set_option maxRecDepth 100000 in
set_option maxHeartbeats 2000000 in
theorem rName_any (s : ByteArray) (w : World) (hs : s.size ≤ 140737488355328) : Calls Tryz.prog 100 #[.string s] w fun e w' => e = .returned (.bool (isNameP (bl s))) ∧ w = w' := by
  have hsI : (s.size : Int) ≤ 140737488355328 := by omega
  have hz := bl_len s
  obtain ⟨R, hR⟩ : ∃ R, isNameP (bl s) = R := ⟨_, rfl⟩
  rw [hR]
  replace hR := fhid hR
  go_enter Tryz.func100, Tryz.ntmps100
  go_wp2_with fail
  go_loop [3] (fun i => ∃ k : Nat, k ≤ s.size ∧ i = .int .i64 k ∧ ((bl s).take k).all (nameCs.contains ·) = true) (fun i => s.size - (intOf i).toNat)
  case atStart => exact ⟨0, Nat.zero_le _, rfl, rfl⟩
  case round =>
    obtain ⟨k, hk, rfl, hall⟩ := hrel
    have k0 : (0 : Int) ≤ k := by omega
    by_cases hlt : k < s.size
    · have i1 : (k : Int) < s.size := by omega
      have hl : k < (bl s).length := by omega
      have hc : (bl s)[k] = s[k] := bl_get s k hlt hl
      have hnx := fhid (fun (h : nameCs.contains s[k] = true) => show ((bl s).take (k + 1)).all (nameCs.contains ·) = true by rw [take_all _ hl, hall, hc, h]; rfl)
      have hbd := fhid (fun (h : nameCs.contains s[k] = false) => show false = R by rw [← hR.out]; exact (nameP_bad hl (by rw [hc]; exact h)).symm)
      have hi := nameCs_iff s[k]
      clear hc hall hz
      by_cases hn : nameCs.contains s[k] = true
      · have hny := fhid (hnx.out hn)
        have hcase := hi.1 hn
        clear hi hn hnx hbd
        rcases (show (97 ≤ s[k].toNat ∧ s[k].toNat ≤ 122) ∨ (s[k].toNat < 97 ∧ 48 ≤ s[k].toNat ∧ s[k].toNat ≤ 57) ∨ (s[k].toNat < 97 ∧ s[k].toNat < 48 ∧ s[k].toNat = 45) ∨ (s[k].toNat < 97 ∧ 48 ≤ s[k].toNat ∧ 57 < s[k].toNat ∧ s[k].toNat ≠ 45 ∧ s[k].toNat = 95) by omega) with ⟨a1, a2⟩ | ⟨a1, a2, a3⟩ | ⟨a1, a2, a3⟩ | ⟨a1, a2, a3, a4, a5⟩
        · have b1 : (97 : Int) ≤ s[k].toNat := by omega
          have b2 : (s[k].toNat : Int) ≤ 122 := by omega
          go_wp2_with fail
          all_goals try (exfalso; rename_i hx; simp only [Bool.not_eq_false', decide_eq_true_eq, beq_iff_eq] at hx; omega)
          go_round
          case rel => exact ⟨k + 1, by omega, by go_num, hny.out⟩
          case measure => simp [intOf]; omega
        · have b1 : ¬ (97 : Int) ≤ s[k].toNat := by omega
          have b2 : (48 : Int) ≤ s[k].toNat := by omega
          have b3 : (s[k].toNat : Int) ≤ 57 := by omega
          go_wp2_with fail
          all_goals try (exfalso; rename_i hx; simp only [Bool.not_eq_false', decide_eq_true_eq, beq_iff_eq] at hx; omega)
          go_round
          case rel => exact ⟨k + 1, by omega, by go_num, hny.out⟩
          case measure => simp [intOf]; omega
        · have b1 : ¬ (97 : Int) ≤ s[k].toNat := by omega
          have b2 : ¬ (48 : Int) ≤ s[k].toNat := by omega
          have b3 : (s[k].toNat : Int) = 45 := by omega
          have b3' : ((s[k].toNat : Int) == 45) = true := by simpa using b3
          go_wp2_with fail
          all_goals try (exfalso; rename_i hx; simp only [Bool.not_eq_false', decide_eq_true_eq, beq_iff_eq] at hx; omega)
          go_round
          case rel => exact ⟨k + 1, by omega, by go_num, hny.out⟩
          case measure => simp [intOf]; omega
        · have b1 : ¬ (97 : Int) ≤ s[k].toNat := by omega
          have b2 : (48 : Int) ≤ s[k].toNat := by omega
          have b4 : ¬ (s[k].toNat : Int) ≤ 57 := by omega
          have b5 : ¬ (s[k].toNat : Int) = 45 := by omega
          have b5' : ((s[k].toNat : Int) == 45) = false := by simpa using b5
          go_wp2_with fail
          all_goals try (exfalso; simp only [Bool.not_eq_true', decide_eq_false_iff_not, beq_eq_false_iff_ne, ne_eq] at *; omega)
          all_goals try (exfalso; rename_i hx; simp only [Bool.not_eq_false', decide_eq_true_eq, beq_iff_eq] at hx; omega)
          go_round
          case rel => exact ⟨k + 1, by omega, by go_num, hny.out⟩
          case measure => simp [intOf]; omega
      · have hn2 : nameCs.contains s[k] = false := by simpa using hn
        have hbb := fhid (hbd.out hn2)
        have hcase : ¬ (97 ≤ s[k].toNat ∧ s[k].toNat ≤ 122 ∨ 48 ≤ s[k].toNat ∧ s[k].toNat ≤ 57 ∨ s[k].toNat = 45 ∨ s[k].toNat = 95) := fun q => hn (hi.2 q)
        have b5 : ¬ (s[k].toNat : Int) = 45 := by omega
        have b5' : ((s[k].toNat : Int) == 45) = false := by simpa using b5
        have b6 : ¬ (s[k].toNat : Int) = 95 := by omega
        have b6' : ((s[k].toNat : Int) == 95) = false := by simpa using b6
        clear hi hn hnx hbd hn2
        rcases (show (97 ≤ s[k].toNat ∧ 122 < s[k].toNat) ∨ (s[k].toNat < 97 ∧ 48 ≤ s[k].toNat ∧ 57 < s[k].toNat) ∨ (s[k].toNat < 97 ∧ s[k].toNat < 48) by omega) with ⟨a1, a2⟩ | ⟨a1, a2, a3⟩ | ⟨a1, a2⟩
        · have b1 : (97 : Int) ≤ s[k].toNat := by omega
          have b2 : ¬ (s[k].toNat : Int) ≤ 122 := by omega
          have b3 : (48 : Int) ≤ s[k].toNat := by omega
          have b4 : ¬ (s[k].toNat : Int) ≤ 57 := by omega
          clear hcase
          go_wp2_with fail
          all_goals try (exfalso; rename_i hx; simp only [Bool.not_eq_false', decide_eq_true_eq, beq_iff_eq] at hx; omega)
          go_ret
          exact ⟨fretb hbb.out, rfl⟩
        · have b1 : ¬ (97 : Int) ≤ s[k].toNat := by omega
          have b2 : (48 : Int) ≤ s[k].toNat := by omega
          have b4 : ¬ (s[k].toNat : Int) ≤ 57 := by omega
          clear hcase
          go_wp2_with fail
          all_goals try (exfalso; rename_i hx; simp only [Bool.not_eq_false', decide_eq_true_eq, beq_iff_eq] at hx; omega)
          go_ret
          exact ⟨fretb hbb.out, rfl⟩
        · have b1 : ¬ (97 : Int) ≤ s[k].toNat := by omega
          have b2 : ¬ (48 : Int) ≤ s[k].toNat := by omega
          clear hcase
          go_wp2_with fail
          all_goals try (exfalso; rename_i hx; simp only [Bool.not_eq_false', decide_eq_true_eq, beq_iff_eq] at hx; omega)
          go_ret
          exact ⟨fretb hbb.out, rfl⟩
    · have i1 : ¬ (k : Int) < s.size := by omega
      have hE := fhid (show (decide ((1 : Int) ≤ s.size) && decide ((s.size : Int) ≤ 16)) = R by
        rw [← hR.out, nameP_good (by rw [← hall, List.take_of_length_le (by omega)]), hz])
      clear hall hz
      by_cases h1 : (1 : Int) ≤ s.size
      · by_cases h2 : (s.size : Int) ≤ 16
        · have hE2 := fhid (show true = R by rw [← hE.out, decide_eq_true h1, decide_eq_true h2]; rfl)
          go_wp2_with fail
          all_goals try (exfalso; rename_i hx; simp only [Bool.not_eq_false', decide_eq_true_eq, beq_iff_eq] at hx; omega)
          go_ret
          exact ⟨fretb hE2.out, rfl⟩
        · have hE2 := fhid (show false = R by rw [← hE.out, decide_eq_false h2, Bool.and_false])
          go_wp2_with fail
          all_goals try (exfalso; rename_i hx; simp only [Bool.not_eq_false', decide_eq_true_eq, beq_iff_eq] at hx; omega)
          go_ret
          exact ⟨fretb hE2.out, rfl⟩
      · have hE2 := fhid (show false = R by rw [← hE.out, decide_eq_false h1]; rfl)
        go_wp2_with fail
        go_ret
        exact ⟨fretb hE2.out, rfl⟩
theorem numP_bad {l : Str} {k : Nat} (h : k < l.length) (hp : isDig l[k] = false ∨ 7 ≤ k) : readNumP l = none := by
  unfold readNumP
  rw [if_neg]
  unfold isOfP
  rcases hp with hp | hp
  · rw [all_not h (by rw [isDig_digCs]; exact hp), Bool.and_false]; decide
  · rw [decide_eq_false (show ¬ l.length ≤ 7 by omega), Bool.and_false, Bool.false_and]; decide
theorem numP_good {l : Str} (h0 : l ≠ []) (h7 : l.length ≤ 7) (h : l.all isDig = true) : readNumP l = some (dval l) := by
  unfold readNumP
  rw [if_pos]
  unfold isOfP
  have : l.all (digCs.contains ·) = true := by
    rw [← h]; congr 1; funext c; exact isDig_digCs c
  rw [this, decide_eq_true h7]
  simp [h0]
theorem dval_take1 (l : Str) (k : Nat) (h : k < l.length) : dval (l.take (k + 1)) = 10 * dval (l.take k) + dv l[k] := by
  rw [List.take_succ_eq_append_getElem h, dval_snoc]
theorem dval_seven (l : Str) (h : l.all isDig = true) (h7 : l.length ≤ 7) : dval l < 10000000 := by
  have := dval_lt l.length l rfl h
  have : (10 : Nat) ^ l.length ≤ 10 ^ 7 := Nat.pow_le_pow_right (by decide) h7
  omega
set_option maxRecDepth 100000 in
set_option maxHeartbeats 2000000 in
theorem rNumber_any9 (s : ByteArray) (w : World) (hs : s.size ≤ 140737488355328) : Calls Tryz.prog 123 #[.string s] w fun e w' => e = .returned (numV (readNumP (bl s))) ∧ w = w' := by
  have hsI : (s.size : Int) ≤ 140737488355328 := by omega
  have hz := bl_len s
  obtain ⟨R, hR⟩ : ∃ R, readNumP (bl s) = R := ⟨_, rfl⟩
  rw [hR]
  replace hR := fhid hR
  go_enter Tryz.func123, Tryz.ntmps123
  go_wp2_with fail
  go_loop [4, 5] (fun n i => ∃ k : Nat, k ≤ s.size ∧ k ≤ 7 ∧ i = .int .i64 k ∧ n = .int .i64 ((dval ((bl s).take k) : Nat) : Int) ∧ ((bl s).take k).all isDig = true) (fun _ i => s.size - (intOf i).toNat)
  case atStart => exact ⟨0, Nat.zero_le _, Nat.zero_le _, rfl, rfl, rfl⟩
  case round =>
    obtain ⟨k, hk, hk7, rfl, rfl, hall⟩ := hrel
    have k0 : (0 : Int) ≤ k := by omega
    have hD := dval_seven _ hall (by rw [List.length_take]; omega)
    have n0 : (0 : Int) ≤ (dval ((bl s).take k) : Nat) := by omega
    have n1 : ((dval ((bl s).take k) : Nat) : Int) < 10000000 := by omega
    by_cases hlt : k < s.size
    · have i1 : (k : Int) < s.size := by omega
      have hl : k < (bl s).length := by omega
      have hc : (bl s)[k] = s[k] := bl_get s k hlt hl
      have hnx := fhid (fun (h : isDig s[k] = true) => show ((bl s).take (k + 1)).all isDig = true by rw [take_all _ hl, hall, hc, h]; rfl)
      have hbd := fhid (fun (h : isDig s[k] = false ∨ 7 ≤ k) => show none = R by rw [← hR.out]; exact (numP_bad hl (by rw [hc]; exact h)).symm)
      have hs1 := fhid (dval_take1 (bl s) k hl)
      rw [hc] at hs1
      have hi := isDig_iff s[k]
      have hv := fhid (show isDig s[k] = true → (dv s[k] : Int) = (s[k].toNat : Int) - 48 from fun h => by have := hi.1 h; unfold dv; omega)
      generalize dval ((bl s).take k) = D at *
      clear hc hall hz hD
      by_cases hn : isDig s[k] = true
      · have hcase := hi.1 hn
        have c0 : ¬ (s[k].toNat : Int) < 48 := by omega
        have c1 : ¬ (57 : Int) < s[k].toNat := by omega
        by_cases h7 : 7 ≤ k
        · have i7 : (7 : Int) ≤ k := by omega
          have hbb := fhid (hbd.out (.inr h7))
          clear hi hn hnx hbd hv hs1 hcase n0 n1 hk7
          go_wp2_with fail
          exact bodyPost_ret (v := .tuple #[.int .i64 0, .bool false]) (by simp [results, Tryz.results123, go_sem]) rfl ⟨by rw [← hbb.out]; rfl, rfl⟩
        · have i7 : ¬ (7 : Int) ≤ k := by omega
          have hny := fhid (hnx.out hn)
          have hvn := fhid (hv.out hn)
          have d0 : (48 : Int) ≤ s[k].toNat := by omega
          have d1 : (s[k].toNat : Int) ≤ 57 := by omega
          have hk7' := fhid (show k + 1 ≤ 7 by omega)
          clear hi hn hnx hbd hv hcase hk7
          obtain ⟨DI, hDI⟩ : ∃ DI : Int, ((D : Nat) : Int) = DI := ⟨_, rfl⟩
          rw [hDI] at n0 n1 ⊢
          replace hDI := fhid hDI
          go_wp2_with fail
          go_round
          case rel =>
            refine ⟨k + 1, by omega, hk7'.out, by go_num, ?_, hny.out⟩
            rw [hs1.out]
            have := hDI.out
            have := hvn.out
            congr 1
            omega
          case measure => simp [intOf]; omega
      · have hn2 : isDig s[k] = false := by simpa using hn
        have hbb := fhid (hbd.out (.inl hn2))
        have hcase : ¬ (48 ≤ s[k].toNat ∧ s[k].toNat ≤ 57) := fun q => hn (hi.2 q)
        clear hi hn hnx hbd hn2 hv hs1
        rcases (show s[k].toNat < 48 ∨ (48 ≤ s[k].toNat ∧ 57 < s[k].toNat) by omega) with a1 | ⟨a1, a2⟩
        · have b1 : (s[k].toNat : Int) < 48 := by omega
          clear hcase n0 n1 hk7
          go_wp2_with fail
          exact bodyPost_ret (v := .tuple #[.int .i64 0, .bool false]) (by simp [results, Tryz.results123, go_sem]) rfl ⟨by rw [← hbb.out]; rfl, rfl⟩
        · have b1 : ¬ (s[k].toNat : Int) < 48 := by omega
          have b2 : (57 : Int) < s[k].toNat := by omega
          clear hcase n0 n1 hk7
          go_wp2_with fail
          exact bodyPost_ret (v := .tuple #[.int .i64 0, .bool false]) (by simp [results, Tryz.results123, go_sem]) rfl ⟨by rw [← hbb.out]; rfl, rfl⟩
    · have i1 : ¬ (k : Int) < s.size := by omega
      rw [List.take_of_length_le (show (bl s).length ≤ k by omega)] at hall n0 n1 ⊢
      by_cases h0 : bl s = []
      · have hz0 : s.size = 0 := by rw [← hz, h0]; rfl
        have j1 : ¬ (0 : Int) < s.size := by omega
        have hE := fhid (show none = R by rw [← hR.out, h0]; rfl)
        rw [h0]
        clear h0 hall hz hD n0 n1
        have hd0 : dval [] = 0 := rfl
        rw [hd0]
        go_wp2_with fail
        exact bodyPost_ret (v := .tuple #[.int .i64 0, .bool false]) (by simp [results, Tryz.results123, go_sem]) rfl ⟨by rw [← hE.out]; rfl, rfl⟩
      · have j1 : (0 : Int) < s.size := by have : (bl s).length ≠ 0 := fun q => h0 (List.length_eq_zero_iff.1 q); omega
        have j2 : 0 < s.size := by omega
        have hE := fhid (show some (dval (bl s)) = R by rw [← hR.out]; exact (numP_good h0 (by omega) hall).symm)
        clear h0 hall hz hD
        generalize dval (bl s) = D at *
        go_wp2_with fail
        exact bodyPost_ret (v := .tuple #[.int .i64 D, .bool true]) (by simp [results, Tryz.results123, go_sem, j2]) rfl ⟨by rw [← hE.out]; rfl, rfl⟩
theorem place_no {l : List Str} {s : Str} (h : ∀ x ∈ l, x ≠ s) : place l s = none := by
  unfold place
  rw [List.findIdx?_eq_none_iff]
  intro x hx
  simpa using h x hx
theorem place_at {l : List Str} {s : Str} {k : Nat} (hk : k < l.length) (he : l[k] = s) (h : ∀ x ∈ l.take k, x ≠ s) : place l s = some k := by
  unfold place
  rw [List.findIdx?_eq_some_iff_getElem]
  refine ⟨hk, by simpa using he, fun j hj => ?_⟩
  have : l[j] ∈ l.take k := by rw [List.mem_take_iff_getElem]; exact ⟨j, by omega, rfl⟩
  simpa using h _ this
set_option maxRecDepth 100000 in
set_option maxHeartbeats 2000000 in
/-- The place of a text among the first ones of some. -/
theorem at_any (A : Option Addr) (cap m : Nat) (ns : List Str) (s : Str) (w : World) (h : RdS w A ns.length cap (SV ns)) (hm : m ≤ ns.length) :
    Calls Tryz.prog 96 #[.slice A m cap, .string (str s)] w fun e w' => e = .returned (.int .i64 (placeI (place (ns.take m) s))) ∧ w = w' := by
  have hle : ns.length ≤ 9223372036854775807 := by have := h.1; have := h.2.1; unfold maxLen at this; omega
  have hmI : (m : Int) ≤ 9223372036854775807 := by omega
  have hg := fhid h.2.2
  clear h
  obtain ⟨R, hR⟩ : ∃ R, place (ns.take m) s = R := ⟨_, rfl⟩
  rw [hR]
  replace hR := fhid hR
  go_enter Tryz.func96, Tryz.ntmps96
  go_wp2_with fail
  go_loop [5] (fun i => ∃ k : Nat, k ≤ m ∧ i = .int .i64 k ∧ ∀ x ∈ ns.take k, x ≠ s) (fun i => m - (intOf i).toNat)
  case atStart => exact ⟨0, Nat.zero_le _, rfl, fun x hx => by simp at hx⟩
  case round =>
    obtain ⟨k, hk, rfl, hall⟩ := hrel
    have k0 : (0 : Int) ≤ k := by omega
    by_cases hlt : k < m
    · have i1 : (k : Int) < m := by omega
      obtain ⟨b, o, rfl, hb, hc⟩ := hg.out (by rw [SV_len]; omega)
      have c1 : w.cell? ⟨b, o + k, none⟩ = some (.string (str ns[k])) := by rw [hc k (by rw [SV_len]; omega), SV_get ns k (by omega)]
      clear hc
      have hq := str_eq (str ns[k]) (str s)
      rw [bl_str, bl_str] at hq
      have hnx := fhid (fun (h : ns[k] ≠ s) => show ∀ x ∈ ns.take (k + 1), x ≠ s from fun x hx => by
        rw [List.take_succ_eq_append_getElem (by omega)] at hx
        rcases List.mem_append.1 hx with h1 | h1
        · exact hall x h1
        · rw [List.mem_singleton] at h1; subst h1; exact h)
      have hok := fhid (fun (h : ns[k] = s) => show (k : Int) = placeI R by
        rw [← hR.out, place_at (k := k) (by rw [List.length_take]; omega) (by rw [List.getElem_take]; exact h) (fun x hx => hall x (by
          rw [List.take_take] at hx
          rwa [show min k m = k by omega] at hx))]
        rfl)
      by_cases he : ns[k] = s
      · rw [decide_eq_true he] at hq
        have hE := fhid (hok.out he)
        clear hok hnx he hall
        generalize ns[k] = x at *
        generalize str x = X at *
        generalize str s = S at *
        go_wp2_with fail
        go_ret
        exact ⟨by rw [hE.out]; rfl, rfl⟩
      · rw [decide_eq_false he] at hq
        have hny := fhid (hnx.out he)
        clear hok hnx he hall
        generalize ns[k] = x at *
        generalize str x = X at *
        generalize str s = S at *
        go_wp2_with fail
        go_round
        case rel => exact ⟨k + 1, by omega, by go_num, hny.out⟩
        case measure => simp [intOf]; omega
    · have i1 : ¬ (k : Int) < m := by omega
      have hE := fhid (show (-1 : Int) = placeI R by
        rw [← hR.out, place_no (fun x hx => hall x (by rwa [show k = m by omega]))]
        rfl)
      clear hall
      go_wp2_with fail
      go_ret
      exact ⟨by rw [← hE.out]; rfl, rfl⟩
theorem in_any (n a b : Int) (w : World) : Calls Tryz.prog 94 #[.int .i64 n, .int .i64 a, .int .i64 b] w fun e w' => e = .returned (.bool (decide (a ≤ n) && decide (n ≤ b))) ∧ w = w' := by
  by_cases h1 : a ≤ n
  · by_cases h2 : n ≤ b
    · rw [decide_eq_true h1, decide_eq_true h2]
      go_enter Tryz.func94, Tryz.ntmps94
      go_wp2
      go_ret
      exact ⟨rfl, rfl⟩
    · rw [decide_eq_true h1, decide_eq_false h2]
      go_enter Tryz.func94, Tryz.ntmps94
      go_wp2
      go_ret
      exact ⟨rfl, rfl⟩
  · rw [decide_eq_false h1]
    go_enter Tryz.func94, Tryz.ntmps94
    go_wp2
    go_ret
    exact ⟨rfl, rfl⟩
def orI (n o : Int) : Int := if n < 0 then o else n
theorem or_any (n o : Int) (w : World) : Calls Tryz.prog 121 #[.int .i64 n, .int .i64 o] w fun e w' => e = .returned (.int .i64 (orI n o)) ∧ w = w' := by
  unfold orI
  by_cases h1 : n < 0
  · rw [if_pos h1]
    go_enter Tryz.func121, Tryz.ntmps121
    go_wp2
    go_ret
    exact ⟨rfl, rfl⟩
  · rw [if_neg h1]
    go_enter Tryz.func121, Tryz.ntmps121
    go_wp2
    go_ret
    exact ⟨rfl, rfl⟩
end Go.Proofs.YtmnmcikbbfcjcaaGreatDoor
/-
  The document's own: a node's number, a partition's, what numbers may be, what name may be a node's.
-/
namespace Go.Proofs.YtmnmcikbbfcjcaaGreatDoor
open Go.RowKit Go.Shelf Vs

abbrev TRConf9 : TypeId := 28
theorem go_le9 {w : World} {A : Option Addr} {n cap : Nat} {xs : List Value} (h : RdS w A n cap xs) : n ≤ cap ∧ cap ≤ 9223372036854775807 := by
  have h1 := h.1
  have h2 := h.2.1
  unfold maxLen at h2
  omega
set_option maxRecDepth 100000 in
set_option maxHeartbeats 4000000 in
theorem rNode_any (v : Value) (c : Cfg) (s : Str) (w : World) (h : CR w v c) : Calls Tryz.prog 135 #[v, .string (str s)] w fun e w' => e = .returned (nodeV (place c.names s)) ∧ Below w.heap.size w w' := by
  obtain ⟨AN, cN, AV, cV, AP, cP, AQ, cQ, a0, a1, a2, a3, a4, a5, a6, a7, rfl, ev, r1, r2, r3, r4⟩ := h
  generalize c.vecs.length = nV at *
  generalize c.parts.length = nP at *
  generalize c.qos.length = nQ at *
  have hix : ∀ (W : World), Below w.heap.size w W → Calls Tryz.prog 96 #[.slice AN c.names.length cN, .string (str s)] W fun e w' => e = .returned (.int .i64 (placeI (place c.names s))) ∧ W = w' := by
    intro W hb
    have := at_any AN cN c.names.length c.names s W (r1.below hb) (Nat.le_refl _)
    rwa [List.take_length] at this
  generalize place c.names s = R at *
  have hz := go_le9 r1
  clear r1 r2 r3 r4 ev
  generalize c.names.length = n at *
  generalize str s = S at *
  have hb1 := fhid ((Below.refl w.heap.size w).alloc (Nat.le_refl _) (.cells #[.slice AN n cN, .slice AV nV cV, .slice AP nP cP, .slice AQ nQ cQ, .int .i64 a0, .int .i64 a1, .int .i64 a2, .int .i64 a3, .int .i64 a4, .int .i64 a5, .int .i64 a6, .int .i64 a7] TRConf9))
  cases R with
  | none =>
    have h2 : max (-1 : Int) 0 = 0 := by decide
    unfold placeI at hix
    simp only at hix
    go_enter Tryz.func135, Tryz.ntmps135
    go_wp2_with (go_at_call 96; (with_reducible refine (hix _ hb1.out).mono ?_); rintro e w1 ⟨rfl, rfl⟩)
    exact bodyPost_ret (v := .tuple #[.int .i64 0, .bool false]) (by simp [results, Tryz.results135, go_sem, h2]) rfl ⟨rfl, hb1.out⟩
  | some i =>
    have h1 : (i : Int) ≥ 0 := by omega
    have h2 : max (i : Int) 0 = i := by omega
    unfold placeI at hix
    simp only at hix
    go_enter Tryz.func135, Tryz.ntmps135
    go_wp2_with (go_at_call 96; (with_reducible refine (hix _ hb1.out).mono ?_); rintro e w1 ⟨rfl, rfl⟩)
    exact bodyPost_ret (v := .tuple #[.int .i64 i, .bool true]) (by simp [results, Tryz.results135, go_sem, h2]) rfl ⟨rfl, hb1.out⟩
set_option maxRecDepth 100000 in
set_option maxHeartbeats 4000000 in
theorem rFind_any (v : Value) (c : Cfg) (s : Str) (w : World) (h : CR w v c) : Calls Tryz.prog 99 #[v, .string (str s)] w fun e w' => e = .returned (nodeV (place (c.parts.map (·.name)) s)) ∧ Below w.heap.size w w' := by
  obtain ⟨AN, cN, AV, cV, AP, cP, AQ, cQ, a0, a1, a2, a3, a4, a5, a6, a7, rfl, ev, r1, r2, r3, r4⟩ := h
  generalize c.names.length = nN at *
  generalize c.vecs.length = nV at *
  generalize c.qos.length = nQ at *
  generalize c.parts = ps at *
  clear ev r1 r2 r4
  have hz := go_le9 r3
  have hlI : (ps.length : Int) ≤ 9223372036854775807 := by omega
  obtain ⟨R, hR⟩ : ∃ R, place (ps.map (·.name)) s = R := ⟨_, rfl⟩
  rw [hR]
  replace hR := fhid hR
  replace r3 := fhid r3
  have hbo := fhid (Box.new w TRConf9 [.slice AN nN cN, .slice AV nV cV, .slice AP ps.length cP, .slice AQ nQ cQ, .int .i64 a0, .int .i64 a1, .int .i64 a2, .int .i64 a3, .int .i64 a4, .int .i64 a5, .int .i64 a6, .int .i64 a7])
  have hbl := fhid ((Below.refl w.heap.size w).alloc (Nat.le_refl _) (.cells #[.slice AN nN cN, .slice AV nV cV, .slice AP ps.length cP, .slice AQ nQ cQ, .int .i64 a0, .int .i64 a1, .int .i64 a2, .int .i64 a3, .int .i64 a4, .int .i64 a5, .int .i64 a6, .int .i64 a7] TRConf9))
  go_enter Tryz.func99, Tryz.ntmps99
  go_upto_region 1 with fail
  generalize hW : w.alloc _ = W at *
  replace hW := fhid hW
  have hb : Below w.heap.size w W := hbl.out
  have hx : Box W w.heap.size TRConf9 [.slice AN nN cN, .slice AV nV cV, .slice AP ps.length cP, .slice AQ nQ cQ, .int .i64 a0, .int .i64 a1, .int .i64 a2, .int .i64 a3, .int .i64 a4, .int .i64 a5, .int .i64 a6, .int .i64 a7] := hbo.out
  have x2 : W.cell? ⟨w.heap.size, 2, none⟩ = some (.slice AP ps.length cP) := hx.cell 2
  have xl := hx.lt
  replace hx := fhid hx
  replace hb := fhid hb
  go_wp2_with fail
  go_loop [6] (fun i => ∃ k : Nat, k ≤ ps.length ∧ i = .int .i64 k ∧ ∀ x ∈ (ps.map (·.name)).take k, x ≠ s) (fun i => ps.length - (intOf i).toNat)
  case atStart => exact ⟨0, Nat.zero_le _, rfl, fun x hx => by simp at hx⟩
  case round =>
    obtain ⟨k, hk, rfl, hall⟩ := hrel
    have k0 : (0 : Int) ≤ k := by omega
    by_cases hlt : k < ps.length
    · have i1 : (k : Int) < ps.length := by omega
      obtain ⟨pb, po, rfl, hpb, e0, -⟩ := RdS.part r3.out hlt
      have g0 := (hb.out.cell (p := ⟨pb, po + k * 8, none⟩) hpb).trans e0
      have hpb' := Nat.lt_of_lt_of_le hpb hb.out.size
      have hm : k < (ps.map (·.name)).length := by simpa using hlt
      have hmk : (ps.map (·.name))[k] = ps[k].name := by simp
      have hq := str_eq (str ps[k].name) (str s)
      rw [bl_str, bl_str] at hq
      have hnx := fhid (fun (h : ps[k].name ≠ s) => show ∀ x ∈ (ps.map (·.name)).take (k + 1), x ≠ s from fun x hx => by
        rw [List.take_succ_eq_append_getElem hm] at hx
        rcases List.mem_append.1 hx with h1 | h1
        · exact hall x h1
        · rw [List.mem_singleton, hmk] at h1; subst h1; exact h)
      have hok := fhid (fun (h : ps[k].name = s) => show some k = R by
        rw [← hR.out]; exact (place_at (k := k) hm (by rw [hmk]; exact h) hall).symm)
      clear e0 hm hmk
      by_cases he : ps[k].name = s
      · rw [decide_eq_true he] at hq
        have hE := fhid (hok.out he)
        clear hok hnx he hall
        generalize ps[k].name = x at *
        generalize str x = X at *
        generalize str s = S at *
        go_wp2_with fail
        exact bodyPost_ret (v := .tuple #[.int .i64 k, .bool true]) (by simp [results, Tryz.results99, go_sem]) rfl ⟨by rw [← hE.out]; rfl, hb.out⟩
      · rw [decide_eq_false he] at hq
        have hny := fhid (hnx.out he)
        clear hok hnx he hall
        generalize ps[k].name = x at *
        generalize str x = X at *
        generalize str s = S at *
        go_wp2_with fail
        go_round
        case rel => exact ⟨k + 1, by omega, by go_num, hny.out⟩
        case measure => simp [intOf]; omega
    · have i1 : ¬ (k : Int) < ps.length := by omega
      have hE := fhid (show none = R by
        rw [← hR.out, place_no (fun x hx => hall x (by rwa [List.take_of_length_le (by simp; omega)]))])
      clear hall
      go_wp2_with fail
      exact bodyPost_ret (v := .tuple #[.int .i64 0, .bool false]) (by simp [results, Tryz.results99, go_sem]) rfl ⟨by rw [← hE.out]; rfl, hb.out⟩
/-- Is a number within bounds? -/
def inB (n a b : Int) : Bool := decide (a ≤ n) && decide (n ≤ b)
theorem in_is (n a b : Int) (w : World) : Calls Tryz.prog 94 #[.int .i64 n, .int .i64 a, .int .i64 b] w fun e w' => e = .returned (.bool (inB n a b)) ∧ w = w' := in_any n a b w
theorem three_and (x y z : Bool) : (x && (y && (z && true))) = (x && y && z) := by cases x <;> cases y <;> cases z <;> rfl
theorem rightV_part (p : PartC) : rightV partS p.vals = (inB p.max 1 256 && inB p.time 1 1000000 && inB p.prio 0 1000) := by
  unfold rightV partS PartC.vals inB
  simp only [List.zip_cons_cons, List.zip_nil_right, List.all_cons, List.all_nil]
  exact three_and _ _ _
theorem rightV_qos (q : QosC) : rightV qosS q.vals = (inB q.max 1 1024 && inB q.prio 0 1000) := by
  unfold rightV qosS QosC.vals inB
  simp only [List.zip_cons_cons, List.zip_nil_right, List.all_cons, List.all_nil]
  rw [Bool.and_true, Bool.and_comm]
set_option maxRecDepth 100000 in
set_option maxHeartbeats 4000000 in
theorem partRight_any (p : PartC) (w : World) : Calls Tryz.prog 101 #[.agg (partV p).toArray] w fun e w' => e = .returned (.bool (rightV partS p.vals)) ∧ Below w.heap.size w w' := by
  rw [rightV_part]
  have i1 := fun W => in_is p.max 1 256 W
  have i2 := fun W => in_is p.time 1 1000000 W
  have i3 := fun W => in_is p.prio 0 1000 W
  have hb := fhid ((Below.refl w.heap.size w).alloc (Nat.le_refl _) (.cells (partV p).toArray 68))
  unfold partV at hb ⊢
  generalize inB p.max 1 256 = b1 at *
  generalize inB p.time 1 1000000 = b2 at *
  generalize inB p.prio 0 1000 = b3 at *
  generalize p.max = q1 at *
  generalize p.time = q2 at *
  generalize p.prio = q3 at *
  generalize str p.name = q0 at *
  generalize (Bs.word p.nodes 0 : Int) = n1 at *
  generalize (Bs.word p.nodes 1 : Int) = n2 at *
  generalize (Bs.word p.nodes 2 : Int) = n3 at *
  generalize (Bs.word p.nodes 3 : Int) = n4 at *
  cases b1 <;> cases b2 <;> cases b3 <;>
  · go_enter Tryz.func101, Tryz.ntmps101
    go_wp2_with (first
      | (go_at_call 94; (with_reducible refine (i1 _).mono ?_); rintro e w1 ⟨rfl, rfl⟩)
      | (go_at_call 94; (with_reducible refine (i2 _).mono ?_); rintro e w1 ⟨rfl, rfl⟩)
      | (go_at_call 94; (with_reducible refine (i3 _).mono ?_); rintro e w1 ⟨rfl, rfl⟩))
    go_ret
    exact ⟨rfl, hb.out⟩
set_option maxRecDepth 100000 in
set_option maxHeartbeats 4000000 in
theorem qosRight_any (q : QosC) (w : World) : Calls Tryz.prog 104 #[.agg (qosV q).toArray] w fun e w' => e = .returned (.bool (rightV qosS q.vals)) ∧ Below w.heap.size w w' := by
  rw [rightV_qos]
  have i1 := fun W => in_is q.max 1 1024 W
  have i2 := fun W => in_is q.prio 0 1000 W
  have hb := fhid ((Below.refl w.heap.size w).alloc (Nat.le_refl _) (.cells (qosV q).toArray 71))
  unfold qosV at hb ⊢
  generalize inB q.max 1 1024 = b1 at *
  generalize inB q.prio 0 1000 = b2 at *
  generalize q.max = q1 at *
  generalize q.prio = q2 at *
  generalize str q.name = q0 at *
  cases b1 <;> cases b2 <;>
  · go_enter Tryz.func104, Tryz.ntmps104
    go_wp2_with (first
      | (go_at_call 94; (with_reducible refine (i1 _).mono ?_); rintro e w1 ⟨rfl, rfl⟩)
      | (go_at_call 94; (with_reducible refine (i2 _).mono ?_); rintro e w1 ⟨rfl, rfl⟩))
    go_ret
    exact ⟨rfl, hb.out⟩
/-- May a key's number be? -/
def rightK (k : Nat) (n : Int) : Bool := match valS[k]? with
  | some s => inB n s.least s.most
  | none => false
set_option maxRecDepth 100000 in
set_option maxHeartbeats 4000000 in
theorem valueRight_any (k : Nat) (hk : k < 8) (ki n : Int) (hki : ki = k) (w : World) : Calls Tryz.prog 105 #[.int .i64 ki, .int .i64 n] w fun e w' => e = .returned (.bool (rightK k n)) ∧ Below w.heap.size w w' := by
  subst hki
  have j1 := fun W => in_is n 0 1000000 W
  have j2 := fun W => in_is n 1 1000000 W
  have j3 := fun W => in_is n 1 256 W
  have hks := fun W => keys_any W
  have key : ∀ (x : Str) (B : Bool), keysL[k]? = some x → rightK k n = B → (B = (if x = kBoot ∨ x = kStop ∨ x = kHalf ∨ x = kRate then inB n 1 1000000 else if x = kCap then inB n 1 256 else inB n 0 1000000)) → Calls Tryz.prog 105 #[.int .i64 k, .int .i64 n] w fun e w' => e = .returned (.bool B) ∧ Below w.heap.size w w' := by
    intro x B hx hB hif
    have k0 : (0 : Int) ≤ k := by omega
    have k1 : (k : Int) < 8 := by omega
    have q1 := str_eq (str x) (str kBoot)
    have q2 := str_eq (str x) (str kStop)
    have q3 := str_eq (str x) (str kHalf)
    have q4 := str_eq (str x) (str kRate)
    have q5 := str_eq (str x) (str kCap)
    rw [bl_str, bl_str] at q1 q2 q3 q4 q5
    rw [show (str kBoot).toList = [98, 111, 111, 116] by rw [ByteArray.toList_eq]; rfl] at q1
    rw [show (str kStop).toList = [115, 116, 111, 112] by rw [ByteArray.toList_eq]; rfl] at q2
    rw [show (str kHalf).toList = [104, 97, 108, 102] by rw [ByteArray.toList_eq]; rfl] at q3
    rw [show (str kRate).toList = [114, 97, 116, 101] by rw [ByteArray.toList_eq]; rfl] at q4
    rw [show (str kCap).toList = [99, 97, 112] by rw [ByteArray.toList_eq]; rfl] at q5
    have hcell : ∀ (W : World) (g : Nat), Box W g 9 (SV keysL) → W.cell? ⟨g, k, none⟩ = some (.string (str x)) := by
      intro W g hb
      rw [hb.cell k]
      unfold SV
      rw [List.getElem?_map, hx]
      rfl
    clear hB
    by_cases c1 : x = kBoot
    · rw [if_pos (.inl c1)] at hif
      rw [decide_eq_true c1] at q1
      subst hif
      clear q2 q3 q4 q5 hx c1
      generalize str x = X at *
      generalize inB n 0 1000000 = v0 at *
      generalize inB n 1 1000000 = v1 at *
      generalize inB n 1 256 = v2 at *
      go_enter Tryz.func105, Tryz.ntmps105
      go_wp2_with (first
        | (go_at_call 122; (with_reducible refine (hks _).mono ?_); rintro e w1 ⟨g, rfl, hg, hbx, b1⟩; have hc := hcell _ _ hbx; have hl := hbx.lt; clear hcell; replace hbx := fhid hbx)
        | (go_at_call 94; (with_reducible refine (j2 _).mono ?_); rintro e w2 ⟨rfl, rfl⟩))
      go_ret
      exact ⟨rfl, b1⟩
    · rw [decide_eq_false c1] at q1
      by_cases c2 : x = kStop
      · rw [if_pos (.inr (.inl c2))] at hif
        rw [decide_eq_true c2] at q2
        subst hif
        clear q3 q4 q5 hx c1 c2
        generalize str x = X at *
        generalize inB n 0 1000000 = v0 at *
        generalize inB n 1 1000000 = v1 at *
        generalize inB n 1 256 = v2 at *
        go_enter Tryz.func105, Tryz.ntmps105
        go_wp2_with (first
          | (go_at_call 122; (with_reducible refine (hks _).mono ?_); rintro e w1 ⟨g, rfl, hg, hbx, b1⟩; have hc := hcell _ _ hbx; have hl := hbx.lt; clear hcell; replace hbx := fhid hbx)
          | (go_at_call 94; (with_reducible refine (j2 _).mono ?_); rintro e w2 ⟨rfl, rfl⟩))
        go_ret
        exact ⟨rfl, b1⟩
      · rw [decide_eq_false c2] at q2
        by_cases c3 : x = kHalf
        · rw [if_pos (.inr (.inr (.inl c3)))] at hif
          rw [decide_eq_true c3] at q3
          subst hif
          clear q4 q5 hx c1 c2 c3
          generalize str x = X at *
          generalize inB n 0 1000000 = v0 at *
          generalize inB n 1 1000000 = v1 at *
          generalize inB n 1 256 = v2 at *
          go_enter Tryz.func105, Tryz.ntmps105
          go_wp2_with (first
            | (go_at_call 122; (with_reducible refine (hks _).mono ?_); rintro e w1 ⟨g, rfl, hg, hbx, b1⟩; have hc := hcell _ _ hbx; have hl := hbx.lt; clear hcell; replace hbx := fhid hbx)
            | (go_at_call 94; (with_reducible refine (j2 _).mono ?_); rintro e w2 ⟨rfl, rfl⟩))
          go_ret
          exact ⟨rfl, b1⟩
        · rw [decide_eq_false c3] at q3
          by_cases c4 : x = kRate
          · rw [if_pos (.inr (.inr (.inr c4)))] at hif
            rw [decide_eq_true c4] at q4
            subst hif
            clear q5 hx c1 c2 c3 c4
            generalize str x = X at *
            generalize inB n 0 1000000 = v0 at *
            generalize inB n 1 1000000 = v1 at *
            generalize inB n 1 256 = v2 at *
            go_enter Tryz.func105, Tryz.ntmps105
            go_wp2_with (first
              | (go_at_call 122; (with_reducible refine (hks _).mono ?_); rintro e w1 ⟨g, rfl, hg, hbx, b1⟩; have hc := hcell _ _ hbx; have hl := hbx.lt; clear hcell; replace hbx := fhid hbx)
              | (go_at_call 94; (with_reducible refine (j2 _).mono ?_); rintro e w2 ⟨rfl, rfl⟩))
            go_ret
            exact ⟨rfl, b1⟩
          · rw [decide_eq_false c4] at q4
            rw [if_neg (fun h => by rcases h with h | h | h | h <;> contradiction)] at hif
            by_cases c5 : x = kCap
            · rw [if_pos c5] at hif
              rw [decide_eq_true c5] at q5
              subst hif
              clear hx c1 c2 c3 c4 c5
              generalize str x = X at *
              generalize inB n 0 1000000 = v0 at *
              generalize inB n 1 1000000 = v1 at *
              generalize inB n 1 256 = v2 at *
              go_enter Tryz.func105, Tryz.ntmps105
              go_wp2_with (first
                | (go_at_call 122; (with_reducible refine (hks _).mono ?_); rintro e w1 ⟨g, rfl, hg, hbx, b1⟩; have hc := hcell _ _ hbx; have hl := hbx.lt; clear hcell; replace hbx := fhid hbx)
                | (go_at_call 94; (with_reducible refine (j3 _).mono ?_); rintro e w2 ⟨rfl, rfl⟩))
              go_ret
              exact ⟨rfl, b1⟩
            · rw [if_neg c5] at hif
              rw [decide_eq_false c5] at q5
              subst hif
              clear hx c1 c2 c3 c4 c5
              generalize str x = X at *
              generalize inB n 0 1000000 = v0 at *
              generalize inB n 1 1000000 = v1 at *
              generalize inB n 1 256 = v2 at *
              go_enter Tryz.func105, Tryz.ntmps105
              go_wp2_with (first
                | (go_at_call 122; (with_reducible refine (hks _).mono ?_); rintro e w1 ⟨g, rfl, hg, hbx, b1⟩; have hc := hcell _ _ hbx; have hl := hbx.lt; clear hcell; replace hbx := fhid hbx)
                | (go_at_call 94; (with_reducible refine (j1 _).mono ?_); rintro e w2 ⟨rfl, rfl⟩))
              go_ret
              exact ⟨rfl, b1⟩
  rcases (show k = 0 ∨ k = 1 ∨ k = 2 ∨ k = 3 ∨ k = 4 ∨ k = 5 ∨ k = 6 ∨ k = 7 by omega) with rfl | rfl | rfl | rfl | rfl | rfl | rfl | rfl <;>
  exact key _ _ rfl rfl (by simp [rightK, valS, kSuspend, kBoot, kStop, kHalf, kMin, kCap, kRate, kRetry])
end Go.Proofs.YtmnmcikbbfcjcaaGreatDoor
/-
  The document's set of a list's nodes.
-/
namespace Go.Proofs.YtmnmcikbbfcjcaaGreatDoor
open Go.RowKit Go.Shelf Vs

/-- Not more than 256 names: the document's Node is the program's. -/
theorem node_same {c : Cfg} (h : c.names.length ≤ 256) (x : Str) : place c.names x = nodeAt c x := by
  unfold nodeAt; rw [List.take_of_length_le h]
abbrev TFault9 : TypeId := 77
/-- A fault's cell, new, and what is put into it. -/
theorem fault_world (w : World) (x y : Value) : ∃ W, W = w.alloc (.cells #[x, y] 77) ∧ Below w.heap.size w W ∧ Box W w.heap.size TFault9 [x, y] :=
  ⟨_, rfl, (Below.refl _ _).alloc (Nat.le_refl _) _, Box.new w TFault9 [x, y]⟩
set_option maxRecDepth 100000 in
set_option maxHeartbeats 16000000 in
theorem rSet_any (v : Value) (c : Cfg) (s : ByteArray) (w : World) (h : CR w v c) (hcn : c.names.length ≤ 256) (hs : s.size ≤ 1000000) : Calls Tryz.prog 120 #[v, .string s] w fun e w' => e = .returned (setV (setOf c (bl s))) ∧ Below w.heap.size w w' := by
  have hno := fun (W : World) (hb : Below w.heap.size w W) (x : Str) => rNode_any v c x W (h.below hb)
  simp only [node_same hcn] at hno
  have hex := fun W => Hs.rexpand_ex s W hs
  unfold Hs.EPostX at hex
  rw [show Hs.bl s = bl s from rfl] at hex
  clear hcn
  obtain ⟨AN, cN, AV, cV, AP, cP, AQ, cQ, a0, a1, a2, a3, a4, a5, a6, a7, rfl, ev, r1, r2, r3, r4⟩ := h
  clear r1 r2 r3 r4 ev
  have hpost := fhid (show ∀ (e : Ending) (w' : World), (e = .returned (setV (setOf c (bl s))) ∧ Below w.heap.size w w') → (e = .returned (setV (setOf c (bl s))) ∧ Below w.heap.size w w') from fun _ _ h => h)
  have hlen := (Hs.expand_facts (bl s)).2.1
  have hset : setOf c (bl s) = if (Hs.expand (bl s)).2.1 ≠ 0 then (memL [], 3) else match setGo c (Hs.expand (bl s)).1 [] with
    | none => (memL [], 6)
    | some ns => (memL ns, 0) := rfl
  generalize setOf c (bl s) = R at *
  generalize Hs.expand (bl s) = E at *
  obtain ⟨ns, f1, f2⟩ := E
  simp only at hex hlen hset
  generalize hnN : c.names.length = nN at *
  generalize c.vecs.length = nV at *
  generalize c.parts.length = nP at *
  generalize c.qos.length = nQ at *
  clear hnN
  have hf0 : Box ((w.alloc (.cells #[.slice AN nN cN, .slice AV nV cV, .slice AP nP cP, .slice AQ nQ cQ, .int .i64 a0, .int .i64 a1, .int .i64 a2, .int .i64 a3, .int .i64 a4, .int .i64 a5, .int .i64 a6, .int .i64 a7] TRConf9)).alloc (.cells #[.int .u64 0, .int .u64 0, .int .u64 0, .int .u64 0] TNodes)) w.heap.size TRConf9 [.slice AN nN cN, .slice AV nV cV, .slice AP nP cP, .slice AQ nQ cQ, .int .i64 a0, .int .i64 a1, .int .i64 a2, .int .i64 a3, .int .i64 a4, .int .i64 a5, .int .i64 a6, .int .i64 a7] :=
    (Below.heap_alloc _ _ _ (by simp)).trans (Box.new w TRConf9 [.slice AN nN cN, .slice AV nV cV, .slice AP nP cP, .slice AQ nQ cQ, .int .i64 a0, .int .i64 a1, .int .i64 a2, .int .i64 a3, .int .i64 a4, .int .i64 a5, .int .i64 a6, .int .i64 a7])
  have hf1 : Box ((w.alloc (.cells #[.slice AN nN cN, .slice AV nV cV, .slice AP nP cP, .slice AQ nQ cQ, .int .i64 a0, .int .i64 a1, .int .i64 a2, .int .i64 a3, .int .i64 a4, .int .i64 a5, .int .i64 a6, .int .i64 a7] TRConf9)).alloc (.cells #[.int .u64 0, .int .u64 0, .int .u64 0, .int .u64 0] TNodes)) (w.heap.size + 1) TNodes [.int .u64 0, .int .u64 0, .int .u64 0, .int .u64 0] := by
    have := Box.new (w.alloc (.cells #[.slice AN nN cN, .slice AV nV cV, .slice AP nP cP, .slice AQ nQ cQ, .int .i64 a0, .int .i64 a1, .int .i64 a2, .int .i64 a3, .int .i64 a4, .int .i64 a5, .int .i64 a6, .int .i64 a7] TRConf9)) TNodes [.int .u64 0, .int .u64 0, .int .u64 0, .int .u64 0]
    rwa [World.size_alloc] at this
  have hB1 : Below w.heap.size w ((w.alloc (.cells #[.slice AN nN cN, .slice AV nV cV, .slice AP nP cP, .slice AQ nQ cQ, .int .i64 a0, .int .i64 a1, .int .i64 a2, .int .i64 a3, .int .i64 a4, .int .i64 a5, .int .i64 a6, .int .i64 a7] TRConf9)).alloc (.cells #[.int .u64 0, .int .u64 0, .int .u64 0, .int .u64 0] TNodes)) := ((Below.refl _ _).alloc (Nat.le_refl _) _).alloc (by simp) _
  have hz1 : ((w.alloc (.cells #[.slice AN nN cN, .slice AV nV cV, .slice AP nP cP, .slice AQ nQ cQ, .int .i64 a0, .int .i64 a1, .int .i64 a2, .int .i64 a3, .int .i64 a4, .int .i64 a5, .int .i64 a6, .int .i64 a7] TRConf9)).alloc (.cells #[.int .u64 0, .int .u64 0, .int .u64 0, .int .u64 0] TNodes)).heap.size = w.heap.size + 2 := by simp
  have hof := fun (W : World) (A : Option Addr) (l : List Nat) (cap : Nat) (h : Ints W W.heap.size A l) (hl : l.length ≤ 256) => Bs.rof_any (.slice A l.length cap) (l.map fun n : Nat => (n : Int)) W (reads_ints h) (by rw [List.length_map]; omega)
  simp only [Bs.nodes] at hof
  replace hset := fhid hset
  go_enter Tryz.func120, Tryz.ntmps120
  go_upto_region 1 with fail
  generalize (w.alloc _).alloc _ = W1 at *
  replace hf0 := fhid hf0
  replace hf1 := fhid hf1
  replace hB1 := fhid hB1
  replace hz1 := fhid hz1
  by_cases h1 : f1 = 0
  · subst h1
    have hE := fhid (hset.out.trans (if_neg (by simp)))
    clear hset
    have hex0 : ∀ W, Calls Tryz.prog 117 #[.string s] W fun e w' => ∃ v, e = .returned (.tuple #[v, .agg #[.int .i64 0, .int .i64 0]]) ∧ Hs.OwnS w' W.heap.size v ns ∧ Below W.heap.size W w' := fun W => (hex W).mono fun e w' h => by
      rcases h with ⟨_, v, h1, h2, h3⟩ | ⟨h, _⟩
      · exact ⟨v, h1, h2, h3⟩
      · exact absurd rfl h
    clear hex
    go_upto_region 4 with (go_at_call 117; (with_reducible refine (hex0 _).mono ?_); rintro e w1 ⟨v, rfl, own, b1⟩; obtain ⟨A, cap, rfl, hcap1, hcap2, sg⟩ := own.shape)
    obtain ⟨w2, hw2, hb2, hx2⟩ := fault_world w1 (.int .i64 0) (.int .i64 0)
    rw [← hw2]
    have k0 := fhid ((Box.below hf0.out b1 (Box.lt hf0.out)).below hb2 (Nat.lt_of_lt_of_le (Box.lt hf0.out) b1.size))
    have k1 := fhid ((Box.below hf1.out b1 (Box.lt hf1.out)).below hb2 (Nat.lt_of_lt_of_le (Box.lt hf1.out) b1.size))
    have kB := fhid ((hB1.out.trans (b1.mono hB1.out.size)).trans (hb2.mono (Nat.le_trans hB1.out.size b1.size)))
    have kA := fhid ((sg.below hb2).more hb2.size)
    have kz := fhid (show w.heap.size + 2 ≤ w2.heap.size from by have := hz1.out; have := b1.size; have := hb2.size; omega)
    clear sg own b1 hcap1 hcap2 hw2 hb2 hx2
    obtain ⟨l0, hl0⟩ : ∃ l : List Nat, l = [] := ⟨_, rfl⟩
    have hstart := fhid (show SI w2 c ns 0 [] (.slice none 0 0) w2 from ⟨OwnI.nil _ _, Below.refl _ _, rfl, rfl⟩)
    go_wp2
    go_loopw [9, 8] (fun i v8 wr => ∃ k l, k ≤ ns.length ∧ i = .int .i64 (k : Nat) ∧ SI w2 c ns k l v8 wr) (fun i _ _ => ns.length - (intOf i).toNat)
    case atStart => exact ⟨0, [], Nat.zero_le _, rfl, hstart.out⟩
    case round =>
      obtain ⟨k, l, hk, rfl, hO, hB, he, hll⟩ := hrel
      have i0 : (0 : Int) ≤ k := by omega
      have hln : ns.length ≤ 256 := hlen
      have hl256 : l.length ≤ 256 := by omega
      have z1 := Box.below k1.out hB (Box.lt k1.out)
      have zB := kB.out.trans (hB.mono kB.out.size)
      obtain ⟨⟨y0, y1, y2, y3⟩, q0, q1, q2, q3⟩ := Box.four z1
      have zl := Box.lt z1
      have y12 := Box.twelve (Box.below k0.out hB (Box.lt k0.out))
      have xl := Box.lt (Box.below k0.out hB (Box.lt k0.out))
      obtain ⟨x0, x1, x2, x3, x4, x5, x6, x7, x8, x9, x10, x11⟩ := y12
      have hgo := kz.out
      replace kz := fhid kz.out
      replace hll := fhid hll
      by_cases hlt : k < ns.length
      · have i1 : (k : Int) < ns.length := by omega
        obtain ⟨bb, oo, rfl, hbb, hc⟩ := Hs.Strs.at_ (show Hs.Strs w2 w2.heap.size A ns from kA.out) hlt
        have hcell := (hB.cell (p := ⟨bb, oo + k, none⟩) hbb).trans hc
        have hbb2 : bb < wr.heap.size := Nat.lt_of_lt_of_le hbb hB.size
        have hnn := fun W (hb : Below w.heap.size w W) => hno W hb ns[k]
        rw [List.drop_eq_getElem_cons hlt] at he
        have hsn := @setGo_none c ns[k] (ns.drop (k + 1)) l
        have hss := fun i => @setGo_some c ns[k] (ns.drop (k + 1)) l i
        rw [show Hs.str ns[k] = str ns[k] from rfl] at hcell
        clear hno hof hc
        generalize nodeAt c ns[k] = o at *
        generalize str ns[k] = S at *
        replace hO := fhid hO
        replace hB := fhid hB
        replace he := fhid he
        replace hlt := fhid hlt
        replace kA := fhid kA.out
        cases o with
        | none =>
          have hR := fhid (show R = (memL [], 6) from by rw [hE.out, he.out, hsn rfl])
          unfold nodeV at hnn
          simp only at hnn
          clear hss hsn
          have zBd : Below w.heap.size w wr.drew := zB.drew
          go_upto_region 8 with fail
          go_region_with (first
            | (go_at_call 135; (with_reducible refine (hnn _ zBd).mono ?_); rintro e w3 ⟨rfl, b3⟩)
            | (go_at_call 135; (with_reducible refine (hnn _ zB).mono ?_); rintro e w3 ⟨rfl, b3⟩))
          all_goals
            have z3 := Box.below (show Box wr.drew (w.heap.size + 1) TNodes _ from z1) b3 zl
            have zl3 := Box.lt z3
            obtain ⟨⟨y0, y1, y2, y3⟩, q0, q1, q2, q3⟩ := Box.four z3
            go_wp2_with fail
            refine bodyPost_ret (v := .tuple #[.agg #[.int .u64 0, .int .u64 0, .int .u64 0, .int .u64 0], .int .i64 6]) (by simp [results, Tryz.results120, go_sem, y0, y1, y2, y3, zl3]) rfl ⟨?_, ?_⟩
            · rw [hR.out]; unfold setV; rw [words_none]; rfl
            · with_reducible exact below4 (zBd.trans (b3.mono zBd.size)) (by omega)
        | some i =>
          have hR := fhid (he.out.trans (hss i rfl))
          unfold nodeV at hnn
          simp only at hnn
          clear hss hsn
          have zBd : Below w.heap.size w wr.drew := zB.drew
          go_upto_region 8 with fail
          go_region_with (first
            | (go_at_call 135; (with_reducible refine (hnn _ zBd).mono ?_); rintro e w3 ⟨rfl, b3⟩)
            | (go_at_call 135; (with_reducible refine (hnn _ zB).mono ?_); rintro e w3 ⟨rfl, b3⟩))
          all_goals
            have hO3 := fhid (hO.out.below (show Below wr.heap.size wr w3 from (Below.refl _ _).drew.trans b3))
            have hz3 := b3.size
            go_wp2_with (at_builtin; refine app_int rfl _ _ rfl w2.heap.size _ l i w3 rfl hO3.out rfl _ rfl rfl (by omega) (Nat.le_trans hB.out.size hz3) ?_; intro v4 w4 o4 b4)
            go_roundw
            case rel => exact ⟨k + 1, l ++ [i], hlt.out, by go_num, o4, (hB.out.trans ((show Below wr.heap.size wr w3 from (Below.refl _ _).drew.trans b3).mono hB.out.size)).trans b4, hR.out, by have := hll.out; rw [List.length_append, List.length_singleton]; omega⟩
            case measure => have := hlt.out; simp [intOf]; omega
      · obtain rfl : k = ns.length := by omega
        rw [List.drop_of_length_le (Nat.le_refl _), setGo_nil] at he
        have hR := fhid (show R = (memL l, 0) from by rw [hE.out, he])
        have hV := fhid (setV_mem l)
        obtain ⟨A8, cap8, rfl, hI⟩ := hO.shape
        have hoc := hof wr A8 l cap8 hI hl256
        simp only [Bs.nodes] at hV
        generalize (Bs.word (Bs.memP (l.map fun n : Nat => (n : Int))) 0 : Int) = u0 at *
        generalize (Bs.word (Bs.memP (l.map fun n : Nat => (n : Int))) 1 : Int) = u1 at *
        generalize (Bs.word (Bs.memP (l.map fun n : Nat => (n : Int))) 2 : Int) = u2 at *
        generalize (Bs.word (Bs.memP (l.map fun n : Nat => (n : Int))) 3 : Int) = u3 at *
        clear hno hof
        replace hO := fhid hO
        replace hB := fhid hB
        replace he := fhid he
        replace kA := fhid kA.out
        go_wp2_with (go_at_call 136; (with_reducible refine hoc.mono ?_); rintro e w3 ⟨rfl, b3⟩
                     have z3 := Box.below z1 b3 zl
                     have zl3 := Box.lt z3
                     obtain ⟨⟨y0, y1, y2, y3⟩, q0, q1, q2, q3⟩ := Box.four z3)
        refine bodyPost_ret (v := .tuple #[.agg #[.int .u64 u0, .int .u64 u1, .int .u64 u2, .int .u64 u3], .int .i64 0]) (by simp [results, Tryz.results120, go_sem, y0, y1, y2, y3, zl3]) rfl ⟨?_, ?_⟩
        · rw [hR.out, hV.out]
        · with_reducible exact below4 (zB.trans (b3.mono zB.size)) (by omega)
  · have hR := fhid (hset.out.trans (if_pos h1))
    have hexn : ∀ W, Calls Tryz.prog 117 #[.string s] W fun e w' => ∃ ev av : Int, ev ≠ 0 ∧ e = .returned (.tuple #[.slice none 0 0, .agg #[.int .i64 ev, .int .i64 av]]) ∧ Below W.heap.size W w' := fun W => (hex W).mono fun e w' h => by
      rcases h with ⟨h, _⟩ | ⟨_, h⟩
      · exact absurd h h1
      · exact h
    clear hset hno hof hex
    go_upto_region 2 with (go_at_call 117; (with_reducible refine (hexn _).mono ?_); rintro e w1 ⟨ev, av, hev, rfl, b1⟩)
    obtain ⟨W2, hW2, hb2, hx2⟩ := fault_world w1 (.int .i64 ev) (.int .i64 av)
    rw [← hW2]
    have z3 := (Box.below hf1.out b1 (Box.lt hf1.out)).below hb2 (Nat.lt_of_lt_of_le (Box.lt hf1.out) b1.size)
    have zl3 := Box.lt z3
    obtain ⟨⟨y0, y1, y2, y3⟩, q0, q1, q2, q3⟩ := Box.four z3
    have zB := (hB1.out.trans (b1.mono hB1.out.size)).trans (hb2.mono (Nat.le_trans hB1.out.size b1.size))
    have e0 := Box.cell hx2 0
    have e1 := Box.lt hx2
    have n1 : (ev == 0) = false := by simpa using hev
    have n2 : (ev != 0) = true := by simpa using hev
    clear hW2
    replace hb2 := fhid hb2
    replace hx2 := fhid hx2
    go_wp2_with fail
    refine bodyPost_ret (v := .tuple #[.agg #[.int .u64 0, .int .u64 0, .int .u64 0, .int .u64 0], .int .i64 3]) (by simp [results, Tryz.results120, go_sem, y0, y1, y2, y3, zl3]) rfl ⟨?_, ?_⟩
    · rw [hR.out]; unfold setV; rw [words_none]; rfl
    · with_reducible exact below4 zB (by omega)
end Go.Proofs.YtmnmcikbbfcjcaaGreatDoor
/-
  The document's own: may a text be a node's name; a quality by its name.
-/
namespace Go.Proofs.YtmnmcikbbfcjcaaGreatDoor
open Go.RowKit Go.Shelf Vs

set_option maxRecDepth 100000 in
set_option maxHeartbeats 4000000 in
theorem rnodeName_any (s : ByteArray) (w : World) (hs : s.size ≤ 1000000) : Calls Tryz.prog 95 #[.string s] w (BoolP w (nodeNameP (bl s))) := by
  unfold nodeNameP BoolP
  rw [bl_len]
  have hex := fun W => Hs.rexpand_ex s W hs
  unfold Hs.EPostX at hex
  rw [show Hs.bl s = bl s from rfl] at hex
  obtain ⟨⟨ns, f1, f2⟩, hR⟩ : ∃ r, Hs.expand (bl s) = r := ⟨_, rfl⟩
  rw [hR] at hex ⊢
  simp only at hex ⊢
  clear hR
  by_cases h1 : f1 = 0
  · subst h1
    have hex0 : ∀ W, Calls Tryz.prog 117 #[.string s] W fun e w' => ∃ v, e = .returned (.tuple #[v, .agg #[.int .i64 0, .int .i64 0]]) ∧ Hs.OwnS w' W.heap.size v ns ∧ Below W.heap.size W w' := fun W => (hex W).mono fun e w' h => by
      rcases h with ⟨_, v, h1, h2, h3⟩ | ⟨h, _⟩
      · exact ⟨v, h1, h2, h3⟩
      · exact absurd rfl h
    clear hex
    by_cases h2 : ns.length = 1
    · obtain ⟨x, rfl⟩ := List.length_eq_one_iff.1 h2
      have hq := str_eq (str x) s
      rw [bl_str] at hq
      rw [show decide ([x] = [bl s]) = decide (x = bl s) by simp]
      generalize decide (x = bl s) = R at *
      clear h2
      by_cases h32 : s.size ≤ 32
      · have i1 : (s.size : Int) ≤ 32 := by omega
        rw [decide_eq_true h32]
        cases R <;>
        · go_enter Tryz.func95, Tryz.ntmps95
          go_upto_region 2 with (go_at_call 117; (with_reducible refine (hex0 _).mono ?_); rintro e w1 ⟨v, rfl, own, b1⟩; obtain ⟨A, cap, rfl, _, _, sg⟩ := own.shape; obtain ⟨bb, oo, rfl, hb, hc⟩ := sg (by simp [Hs.SV]); have hc0 := hc 0 (by simp [Hs.SV]); simp only [Hs.SV, List.map_cons, List.map_nil, List.getElem_cons_zero, Nat.add_zero] at hc0; rw [hs_str] at hc0; clear hc sg own; generalize str x = X at *)
          go_wp2_with fail
          go_ret
          exact ⟨rfl, b1.alloc b1.size _⟩
      · have i1 : ¬ (s.size : Int) ≤ 32 := by omega
        rw [decide_eq_false h32]
        cases R <;>
        · go_enter Tryz.func95, Tryz.ntmps95
          go_upto_region 2 with (go_at_call 117; (with_reducible refine (hex0 _).mono ?_); rintro e w1 ⟨v, rfl, own, b1⟩; obtain ⟨A, cap, rfl, _, _, sg⟩ := own.shape; obtain ⟨bb, oo, rfl, hb, hc⟩ := sg (by simp [Hs.SV]); have hc0 := hc 0 (by simp [Hs.SV]); simp only [Hs.SV, List.map_cons, List.map_nil, List.getElem_cons_zero, Nat.add_zero] at hc0; rw [hs_str] at hc0; clear hc sg own; generalize str x = X at *)
          go_wp2_with fail
          go_ret
          first | exact ⟨rfl, b1.alloc b1.size _⟩ | exact ⟨fretb (decide_eq_false (by omega)), b1.alloc b1.size _⟩
    · have h3 : decide (ns = [bl s]) = false := decide_eq_false fun e => h2 (by rw [e]; rfl)
      have i2 : ((ns.length : Int) == 1) = false := by simp; omega
      rw [h3, Bool.and_false]
      clear h3 h2
      go_enter Tryz.func95, Tryz.ntmps95
      go_upto_region 2 with (go_at_call 117; (with_reducible refine (hex0 _).mono ?_); rintro e w1 ⟨v, rfl, own, b1⟩; obtain ⟨A, cap, rfl, _, _, sg⟩ := own.shape; clear sg own)
      go_wp2_with fail
      go_ret
      exact ⟨rfl, b1.alloc b1.size _⟩
  · have hexn : ∀ W, Calls Tryz.prog 117 #[.string s] W fun e w' => ∃ ev av : Int, ev ≠ 0 ∧ e = .returned (.tuple #[.slice none 0 0, .agg #[.int .i64 ev, .int .i64 av]]) ∧ Below W.heap.size W w' := fun W => (hex W).mono fun e w' h => by
      rcases h with ⟨h, _⟩ | ⟨_, h⟩
      · exact absurd h h1
      · exact h
    clear hex
    rw [decide_eq_false h1, Bool.and_false, Bool.false_and]
    go_enter Tryz.func95, Tryz.ntmps95
    go_upto_region 2 with (go_at_call 117; (with_reducible refine (hexn _).mono ?_); rintro e w1 ⟨ev, av, hev, rfl, b1⟩; have n1 : (ev == 0) = false := by simpa using hev)
    go_wp2_with fail
    go_ret
    exact ⟨rfl, b1.alloc b1.size _⟩
/-- A quality by its name: what the document answers. -/
def qualP (qs : List QosC) (s : Str) : QosC × Bool := if s = [] then (⟨[], 0, 1024⟩, true) else match place (qs.map (·.name)) s with
  | some i => (qs[i]?.getD noQos, true)
  | none => (noQos, false)
def qualV (r : QosC × Bool) : Value := .tuple #[.agg (qosV r.1).toArray, .bool r.2]
theorem below3 {B b : Nat} {w w' : World} {v0 v1 v2 : Value} (h : Below B w w') (hb : B ≤ b) : Below B w (((w'.setCell ⟨b, 0, none⟩ v0).setCell ⟨b, 1, none⟩ v1).setCell ⟨b, 2, none⟩ v2) :=
  ((h.setCell (p := ⟨b, 0, none⟩) hb v0).setCell (p := ⟨b, 1, none⟩) hb v1).setCell (p := ⟨b, 2, none⟩) hb v2
/-- A config's cell and a quality's, new. -/
theorem two_new (w : World) (T1 T2 : TypeId) (c1 c2 : List Value) : ∃ W, W = (w.alloc (.cells c1.toArray T1)).alloc (.cells c2.toArray T2) ∧ Box W w.heap.size T1 c1 ∧ Box W (w.heap.size + 1) T2 c2 ∧ Below w.heap.size w W := by
  refine ⟨_, rfl, (Below.heap_alloc _ _ _ (by simp)).trans (Box.new w T1 c1), ?_, ((Below.refl _ _).alloc (Nat.le_refl _) _).alloc (by simp) _⟩
  have := Box.new (w.alloc (.cells c1.toArray T1)) T2 c2
  rwa [World.size_alloc] at this
set_option maxRecDepth 100000 in
set_option maxHeartbeats 8000000 in
theorem rQuality_any (v : Value) (c : Cfg) (s : Str) (w : World) (h : CR w v c) : Calls Tryz.prog 103 #[v, .string (str s)] w fun e w' => e = .returned (qualV (qualP c.qos s)) ∧ Below w.heap.size w w' := by
  obtain ⟨AN, cN, AV, cV, AP, cP, AQ, cQ, a0, a1, a2, a3, a4, a5, a6, a7, rfl, ev, r1, r2, r3, r4⟩ := h
  generalize c.names.length = nN at *
  generalize c.vecs.length = nV at *
  generalize c.parts.length = nP at *
  generalize c.qos = qs at *
  clear ev r1 r2 r3
  have hz := go_le9 r4
  have hlI : (qs.length : Int) ≤ 9223372036854775807 := by omega
  replace r4 := fhid r4
  obtain ⟨W, hW, hx, hy, hb⟩ := two_new w TRConf9 71 [.slice AN nN cN, .slice AV nV cV, .slice AP nP cP, .slice AQ qs.length cQ, .int .i64 a0, .int .i64 a1, .int .i64 a2, .int .i64 a3, .int .i64 a4, .int .i64 a5, .int .i64 a6, .int .i64 a7] [.string ⟨#[]⟩, .int .i64 0, .int .i64 0]
  have x3 : W.cell? ⟨w.heap.size, 3, none⟩ = some (.slice AQ qs.length cQ) := hx.cell 3
  have xl := hx.lt
  have yl := hy.lt
  have y0 : W.cell? ⟨w.heap.size + 1, 0, none⟩ = some (.string ⟨#[]⟩) := hy.cell 0
  have y1 : W.cell? ⟨w.heap.size + 1, 1, none⟩ = some (.int .i64 0) := hy.cell 1
  have y2 : W.cell? ⟨w.heap.size + 1, 2, none⟩ = some (.int .i64 0) := hy.cell 2
  have q0 := hy.free 0
  have q1 := hy.free 1
  have q2 := hy.free 2
  replace hx := fhid hx
  replace hy := fhid hy
  have hq0 : (str s).toList = s := by rw [ByteArray.toList_eq]; exact bl_str s
  obtain ⟨R, hR⟩ : ∃ R, qualP qs s = R := ⟨_, rfl⟩
  rw [hR]
  replace hR := fhid hR
  go_enter Tryz.func103, Tryz.ntmps103
  go_upto_region 1 with fail
  rw [show (w.alloc _).alloc _ = W from hW.symm]
  clear hW
  by_cases hs0 : s = []
  · rw [hs0] at hq0
    have hE := fhid (show (⟨[], 0, 1024⟩, true) = R by rw [← hR.out]; unfold qualP; rw [if_pos hs0])
    rw [hs0]
    generalize str s = S at *
    go_wp2_with fail
    refine bodyPost_ret (v := .tuple #[.agg #[.string ⟨#[]⟩, .int .i64 0, .int .i64 1024], .bool true]) (by simp [results, Tryz.results103, go_sem, yl, y0, y1, y2]) rfl ⟨by rw [← hE.out]; rfl, ?_⟩
    with_reducible exact below3 hb (by omega)
  · have hq1 : ¬ (str s).toList = [] := by rw [hq0]; exact hs0
    have hq2 : (str s).toList.isEmpty = false := by simpa using hq1
    clear hq0
    go_wp2_with fail
    go_loop [6] (fun i => ∃ k : Nat, k ≤ qs.length ∧ i = .int .i64 k ∧ ∀ x ∈ (qs.map (·.name)).take k, x ≠ s) (fun i => qs.length - (intOf i).toNat)
    case atStart => exact ⟨0, Nat.zero_le _, rfl, fun x hx => by simp at hx⟩
    case round =>
      obtain ⟨k, hk, rfl, hall⟩ := hrel
      have k0 : (0 : Int) ≤ k := by omega
      by_cases hlt : k < qs.length
      · have i1 : (k : Int) < qs.length := by omega
        obtain ⟨pb, po, rfl, hpb, e0, e1, e2⟩ := RdS.qos r4.out hlt
        have g0 := (hb.cell (p := ⟨pb, po + k * 3, none⟩) hpb).trans e0
        have g1 := (hb.cell (p := ⟨pb, po + k * 3 + 1, none⟩) hpb).trans e1
        have g2 := (hb.cell (p := ⟨pb, po + k * 3 + 2, none⟩) hpb).trans e2
        have hpb' := Nat.lt_of_lt_of_le hpb hb.size
        have hm : k < (qs.map (·.name)).length := by simpa using hlt
        have hmk : (qs.map (·.name))[k] = qs[k].name := by simp
        have hq := str_eq (str qs[k].name) (str s)
        rw [bl_str, bl_str] at hq
        have hnx := fhid (fun (h : qs[k].name ≠ s) => show ∀ x ∈ (qs.map (·.name)).take (k + 1), x ≠ s from fun x hx => by
          rw [List.take_succ_eq_append_getElem hm] at hx
          rcases List.mem_append.1 hx with h1 | h1
          · exact hall x h1
          · rw [List.mem_singleton, hmk] at h1; subst h1; exact h)
        have hok := fhid (fun (h : qs[k].name = s) => show (qs[k], true) = R by
          rw [← hR.out]; unfold qualP
          rw [if_neg hs0, place_at (k := k) hm (by rw [hmk]; exact h) hall]
          simp [hlt])
        clear e0 e1 e2 hm hmk
        by_cases he : qs[k].name = s
        · rw [decide_eq_true he] at hq
          have hE := fhid (hok.out he)
          have hV := fhid (show Value.tuple #[.agg #[.string (str qs[k].name), .int .i64 qs[k].prio, .int .i64 qs[k].max], .bool true] = qualV R by rw [← hE.out]; rfl)
          clear hok hnx he hall hE
          generalize qs[k].prio = z1 at *
          generalize qs[k].max = z2 at *
          generalize qs[k].name = x at *
          generalize str x = X at *
          generalize str s = S at *
          go_wp2_with fail
          refine bodyPost_ret (v := .tuple #[.agg #[.string X, .int .i64 z1, .int .i64 z2], .bool true]) (by simp [results, Tryz.results103, go_sem, yl, y0, y1, y2]) rfl ⟨by rw [hV.out], ?_⟩
          with_reducible exact below3 hb (by omega)
        · rw [decide_eq_false he] at hq
          have hny := fhid (hnx.out he)
          clear hok hnx he hall
          generalize qs[k].prio = z1 at *
          generalize qs[k].max = z2 at *
          generalize qs[k].name = x at *
          generalize str x = X at *
          generalize str s = S at *
          go_wp2_with fail
          go_round
          case rel => exact ⟨k + 1, by omega, by go_num, hny.out⟩
          case measure => simp [intOf]; omega
      · have i1 : ¬ (k : Int) < qs.length := by omega
        have hE := fhid (show (noQos, false) = R by
          rw [← hR.out]; unfold qualP
          rw [if_neg hs0, place_no (fun x hx => hall x (by rwa [List.take_of_length_le (by simp; omega)]))])
        clear hall
        go_wp2_with fail
        refine bodyPost_ret (v := .tuple #[.agg #[.string ⟨#[]⟩, .int .i64 0, .int .i64 0], .bool false]) (by simp [results, Tryz.results103, go_sem, yl, y0, y1, y2]) rfl ⟨by rw [← hE.out]; rfl, ?_⟩
        with_reducible exact below3 hb (by omega)
end Go.Proofs.YtmnmcikbbfcjcaaGreatDoor
