/-
  Parts: URefM URef URUse.
-/
import Derived.Test.YtmbgcphiigmdjaaU3
import Derived.Test.YtmbgcphiigmdjaaS1
import Derived.BigQuiet
set_option linter.unusedSimpArgs false
set_option linter.unusedVariables false
/-
  The document's ledger, as plain functions: a list of users, rising.
-/
namespace Go.Proofs.Ytmbgcphiigmdjaa
open Go.RowKit Ss Ds

/-- Rising. -/
def Up (L : List Usr) : Prop := (L.map Prod.fst).Pairwise fun a b => a < b
theorem str_irr (a : Str) : ¬ a < a := List.lt_irrefl a
theorem Up.nodup {L : List Usr} (h : Up L) : (L.map Prod.fst).Nodup :=
  List.Pairwise.imp (R := fun a b : Str => a < b) (S := fun a b => a ≠ b) (fun {a b} (h : a < b) (e : a = b) => str_irr a (by rw [← e] at h; exact h)) h
/-- Where a name is, or would be. -/
structure At (L : List Usr) (s : Str) (k : Nat) : Prop where
  le : k ≤ L.length
  low : ∀ j (h : j < L.length), j < k → L[j].1 < s
  high : ∀ (h : k < L.length), ¬ L[k].1 < s
def there (L : List Usr) (s : Str) (k : Nat) : Bool := match L[k]? with
  | some x => decide (x.1 = s)
  | none => false
theorem Up.get {L : List Usr} (h : Up L) {i j : Nat} (hij : i < j) (hj : j < L.length) : (L[i]'(by omega)).1 < L[j].1 := by
  have := List.pairwise_iff_getElem.1 h i j (by rw [List.length_map]; omega) (by rw [List.length_map]; exact hj) hij
  rwa [List.getElem_map, List.getElem_map] at this
theorem lookG_app (A B : List Usr) (s : Str) : lookG s (A ++ B) = match lookG s A with
    | some u => some u
    | none => lookG s B := by
  induction A with
  | nil => rfl
  | cons x r ih =>
    rw [List.cons_append, lookG, lookG]
    by_cases h : x.1 = s
    · rw [if_pos h, if_pos h]
    · rw [if_neg h, if_neg h, ih]
theorem str_lt_trans {a b c : Str} (h : a < b) (k : b < c) : a < c := List.lt_trans h k
/-- No one ahead of the place is it, and none behind. -/
theorem take_none {L : List Usr} {s : Str} {k : Nat} (h : At L s k) {t : Str} (ht : ¬ t < s) : lookG t (L.take k) = none := by
  refine lookG_none.2 fun hm => ?_
  obtain ⟨x, hx, rfl⟩ := List.mem_map.1 hm
  obtain ⟨j, hj, rfl⟩ := List.getElem_of_mem hx
  rw [List.length_take] at hj
  rw [List.getElem_take] at ht
  exact ht (h.low j (by omega) (by omega))
theorem drop_none {L : List Usr} (hu : Up L) {s : Str} {k i : Nat} (h : At L s k) (hi : k ≤ i) (ht : i = k → there L s k = false) : lookG s (L.drop i) = none := by
  refine lookG_none.2 fun hm => ?_
  obtain ⟨x, hx, he⟩ := List.mem_map.1 hm
  obtain ⟨j, hj, rfl⟩ := List.getElem_of_mem hx
  rw [List.length_drop] at hj
  rw [List.getElem_drop] at he
  have hk := h.high (by omega)
  by_cases hz : i + j = k
  · have h1 := ht (by omega)
    unfold there at h1
    rw [List.getElem?_eq_getElem (by omega)] at h1
    simp only [decide_eq_false_iff_not] at h1
    have : L[i + j] = L[k]'(by omega) := by simp only [hz]
    rw [this] at he
    exact h1 he
  · have := hu.get (i := k) (j := i + j) (by omega) (by omega)
    rw [he] at this
    exact hk this
theorem at_look {L : List Usr} (hu : Up L) {s : Str} {k : Nat} (h : At L s k) : lookG s L = if there L s k then L[k]?.map Prod.snd else none := by
  conv => lhs; rw [← List.take_append_drop k L]
  rw [lookG_app, take_none h (str_irr s)]
  simp only
  by_cases hk : k < L.length
  · unfold there
    rw [List.drop_eq_getElem_cons hk, lookG, List.getElem?_eq_getElem hk]
    by_cases he : L[k].1 = s
    · rw [if_pos he]
      simp [he]
    · rw [if_neg he]
      have := drop_none hu h (i := k + 1) (by omega) (fun e => by omega)
      simp [he, this]
  · have e : L[k]? = none := List.getElem?_eq_none (by omega)
    unfold there
    rw [e, List.drop_of_length_le (by omega)]
    rfl
/-- Put in its place. -/
def insK (L : List Usr) (s : Str) (u : Int × Int) (k : Nat) : List Usr := L.take k ++ (s, u) :: L.drop (if there L s k then k + 1 else k)
theorem ins_look {L : List Usr} (hu : Up L) {s : Str} {k : Nat} (h : At L s k) (u : Int × Int) (t : Str) : lookG t (insK L s u k) = if s = t then some u else lookG t L := by
  unfold insK
  rw [lookG_app, lookG]
  by_cases he : s = t
  · subst he
    rw [take_none h (str_irr s), if_pos rfl]
    simp
  · rw [if_neg he]
    simp only [if_neg he]
    conv => rhs; rw [← List.take_append_drop k L, lookG_app]
    cases lookG t (L.take k) with
    | some v => rfl
    | none =>
      simp only
      by_cases ht : there L s k = true
      · rw [if_pos ht]
        unfold there at ht
        cases hk : L[k]? with
        | none => rw [hk] at ht; cases ht
        | some x =>
          rw [hk] at ht
          obtain ⟨hkl, rfl⟩ := List.getElem?_eq_some_iff.1 hk
          have he2 : L[k].1 = s := by simpa using ht
          rw [List.drop_eq_getElem_cons hkl, lookG, if_neg (by rw [he2]; exact he)]
      · rw [if_neg ht]
theorem ins_up {L : List Usr} (hu : Up L) {s : Str} {k : Nat} (h : At L s k) (u : Int × Int) : Up (insK L s u k) := by
  have hd : ∀ x ∈ L.drop (if there L s k then k + 1 else k), s < x.1 := fun x hx => by
    obtain ⟨j, hj, rfl⟩ := List.getElem_of_mem hx
    rw [List.length_drop] at hj
    rw [List.getElem_drop]
    by_cases ht : there L s k = true
    · simp only [if_pos ht] at hj ⊢
      unfold there at ht
      rw [List.getElem?_eq_getElem (by omega)] at ht
      have he : (L[k]'(by omega)).1 = s := by simpa using ht
      have := hu.get (i := k) (j := k + 1 + j) (by omega) (by omega)
      rwa [he] at this
    · simp only [if_neg ht] at hj ⊢
      have hk := h.high (by omega)
      have hne : (L[k]'(by omega)).1 ≠ s := fun e => ht (by unfold there; rw [List.getElem?_eq_getElem (by omega)]; simp [e])
      have hks : s < (L[k]'(by omega)).1 := by
        rcases List.le_iff_lt_or_eq.1 (List.not_lt.1 hk) with h | h
        · exact h
        · exact absurd h.symm hne
      by_cases hz : j = 0
      · subst hz; exact hks
      · exact str_lt_trans hks (hu.get (i := k) (j := k + j) (by omega) (by omega))
  have ht : ∀ x ∈ L.take k, x.1 < s := fun x hx => by
    obtain ⟨j, hj, rfl⟩ := List.getElem_of_mem hx
    rw [List.length_take] at hj
    rw [List.getElem_take]
    exact h.low j (by omega) (by omega)
  unfold Up insK
  rw [List.map_append, List.map_cons, List.pairwise_append]
  refine ⟨List.Pairwise.sublist ((List.take_sublist k L).map _) hu, List.pairwise_cons.2 ⟨fun a ha => ?_, List.Pairwise.sublist ((List.drop_sublist _ L).map _) hu⟩, fun a ha b hb => ?_⟩
  · obtain ⟨x, hx, rfl⟩ := List.mem_map.1 ha
    exact hd x hx
  · obtain ⟨x, hx, rfl⟩ := List.mem_map.1 ha
    rcases List.mem_cons.1 hb with rfl | hb
    · exact ht x hx
    · obtain ⟨y, hy, rfl⟩ := List.mem_map.1 hb
      exact str_lt_trans (ht x hx) (hd y hy)
/-- What the document's Add comes to. -/
def addR (h : Int) (L : List Usr) (s : Str) (am now : Int) (k : Nat) : List Usr × Int :=
  if ¬ timeB now ∨ ¬ nameB s am ∨ (∃ u, lookG s L = some u ∧ now < u.2) then (L, 1) else
  if lookG s L = none ∧ 1024 ≤ L.length then (L, 5) else
  (insK L s (match lookG s L with
    | none => (am, now)
    | some u => (capI ((late h u now).1 + am), (late h u now).2)) k, 0)
/-- It comes to the program's. -/
theorem addR_add {h : Int} {L M : List Usr} (hu : Up L) (hg : Good M) (hp : L.Perm M) {s : Str} {am now : Int} {k : Nat} (hk : At L s k) :
    (addR h L s am now k).2 = (addP h M s am now).2 ∧ (addR h L s am now k).1.Perm (addP h M s am now).1 ∧ Up (addR h L s am now k).1 := by
  have hl : ∀ t, lookG t L = lookG t M := look_perm hp hu.nodup
  have hlen := hp.length_eq
  have hM := hg.len
  unfold addR addP atP
  rw [hl s]
  by_cases ht : timeB now
  · rw [if_pos ht]
    cases hlk : lookG s M with
    | none =>
      simp only
      rw [if_neg (show ¬ ((0 : Int) ≠ 0) by simp)]
      by_cases hn : nameB s am
      · rw [if_neg (by simp [ht, hn]), if_pos hn]
        by_cases hf : M.length = 1024
        · rw [if_pos ⟨trivial, by omega⟩, if_pos ⟨trivial, hf⟩]
          exact ⟨rfl, hp, hu⟩
        · rw [if_neg (by intro h; omega), if_neg (by intro h; exact hf h.2)]
          have ham : capI (0 + am) = am := by
            obtain ⟨_, _, _, h4⟩ := hn
            unfold capI
            rw [if_pos (by omega)]
            omega
          rw [ham]
          exact ⟨rfl, perm_of_look (ins_up hu hk _).nodup (putG_nodup hg.nodup) (fun t => by rw [ins_look hu hk, lookG_put, hl t]), ins_up hu hk _⟩
      · rw [if_pos (.inr (.inl hn)), if_neg hn]
        exact ⟨rfl, hp, hu⟩
    | some u =>
      simp only
      by_cases hlt : now < u.2
      · rw [if_pos (.inr (.inr ⟨u, rfl, hlt⟩)), if_pos hlt]
        exact ⟨rfl, hp, hu⟩
      · rw [if_neg hlt]
        rw [if_neg (show ¬ ((late h u now, (0 : Int)).2 ≠ 0) by simp)]
        by_cases hn : nameB s am
        · rw [if_neg (by
            rintro (h1 | h1 | ⟨v, h1, h2⟩)
            · exact h1 ht
            · exact h1 hn
            · injection h1 with h1; subst h1; exact hlt h2), if_pos hn, if_neg (by intro h; cases h.1), if_neg (by intro h; cases h.1)]
          exact ⟨rfl, perm_of_look (ins_up hu hk _).nodup (putG_nodup hg.nodup) (fun t => by rw [ins_look hu hk, lookG_put, hl t]), ins_up hu hk _⟩
        · rw [if_pos (.inr (.inl hn)), if_neg hn]
          exact ⟨rfl, hp, hu⟩
  · rw [if_neg ht, if_pos (.inl ht)]
    exact ⟨rfl, hp, hu⟩
theorem used_perm {h : Int} {L M : List Usr} (hp : L.Perm M) (hn : (L.map Prod.fst).Nodup) (s : Str) (now : Int) : usedP h L s now = usedP h M s now := by
  unfold usedP atP
  rw [look_perm hp hn s]
theorem total_perm {h : Int} {L M : List Usr} (hp : L.Perm M) (now : Int) : totalP h L now = totalP h M now := by
  unfold totalP sumU
  rw [sumI_perm (hp.map _)]
theorem factor_perm {h : Int} {L M : List Usr} (hp : L.Perm M) (hn : (L.map Prod.fst).Nodup) (s : Str) (now : Int) : factorP h L s now = factorP h M s now := by
  unfold factorP
  rw [used_perm hp hn, total_perm hp]
end Go.Proofs.Ytmbgcphiigmdjaa
/-
  The document's ledger in memory; where a name is; a use later, by the document.
-/
namespace Go.Proofs.Ytmbgcphiigmdjaa
open Go.RowKit Ss Ds

abbrev TRL : TypeId := 31
abbrev TRU : TypeId := 74
/-- The document's ledger: its object's block, and its row of users. -/
def RB (w : World) (r : Nat) (h : Int) (L : List Usr) : Prop := ∃ A cap, Box w r TRL [.int .i64 h, .slice A L.length cap] ∧ RdS w A L.length cap (AVs L)
theorem RB.lt {w : World} {r : Nat} {h : Int} {L : List Usr} (b : RB w r h L) : r < w.heap.size := by
  obtain ⟨A, cap, h1, _⟩ := b
  exact h1.lt
theorem RB.below {w w' : World} {r : Nat} {h : Int} {L : List Usr} (b : RB w r h L) (hb : Below w.heap.size w w') : RB w' r h L := by
  obtain ⟨A, cap, h1, h2⟩ := b
  exact ⟨A, cap, h1.below hb h1.lt, h2.below hb⟩
/-- A map turns. -/
theorem RB.grown {w w' : World} {r m : Nat} {h : Int} {L : List Usr} (b : RB w r h L) (hg : w.grownBy w' (some m)) {X : List (Str × Value)} (hm : SM w m X) : RB w' r h L := by
  obtain ⟨A, cap, h1, h2, h3, h4⟩ := b
  obtain ⟨es, c, hb, _⟩ := hm
  have hrm : r ≠ m := fun e => by
    subst e
    unfold Box at h1
    rw [h1] at hb
    cases hb
  refine ⟨A, cap, h1.keep (hg.block r h1.lt (by intro e; injection e with e; exact hrm e)), h2, h3, fun h0 => ?_⟩
  obtain ⟨b, o, e, hbl, hc⟩ := h4 h0
  have hbm : b ≠ m := fun e => by
    subst e
    have := hc 0 h0
    simp [World.cell?, hb] at this
  exact ⟨b, o, e, Nat.lt_of_lt_of_le hbl hg.size, fun j hj => (World.cell?_of_block (hg.block b hbl (by intro e; injection e with e; exact hbm e))).trans (hc j hj)⟩
instance (h : Int) : Decidable (halfB h) := inferInstanceAs (Decidable (_ ∧ _))
set_option maxRecDepth 100000 in
set_option maxHeartbeats 4000000 in
theorem rNew_any (h : Int) (w : World) : Calls Try.prog 11 #[.int .i64 h] w fun e w' => e = .returned (.tuple #[.agg #[.int .i64 (if halfB h then h else 0), .slice none 0 0], .int .i64 (if halfB h then 0 else 1)]) ∧ Below w.heap.size w w' := by
  have X := Box.new w TRL [.int .i64 0, .slice none 0 0]
  have B := (Below.refl w.heap.size w).alloc (Nat.le_refl _) (.cells #[.int .i64 0, .slice none 0 0] TRL)
  have hX : ∀ x y, Box (((w.alloc (.cells #[.int .i64 0, .slice none 0 0] TRL)).setCell ⟨w.heap.size, 0, none⟩ x).setCell ⟨w.heap.size, 1, none⟩ y) w.heap.size TRL [x, y] := fun x y => (X.set 0 x).set 1 y
  have z0 := X.free 0
  have z1 := X.free 1
  have y0 := X.cell 0
  have y1 := X.cell 1
  have xl := X.lt
  simp only [List.getElem?_cons_zero, List.getElem?_cons_succ] at y0 y1
  by_cases h0 : h < 1
  · rw [if_neg (show ¬ halfB h by unfold halfB; omega), if_neg (show ¬ halfB h by unfold halfB; omega)]
    replace X := fhid X
    go_enter Try.func11, Try.ntmps11
    go_upto_region 1 with fail
    generalize w.alloc _ = w1 at *
    go_wp2_with fail
    have d0 := (hX (.int .i64 0) (.slice none 0 0)).cell 0
    have d1 := (hX (.int .i64 0) (.slice none 0 0)).cell 1
    simp only [List.getElem?_cons_zero, List.getElem?_cons_succ] at d0 d1
    exact bodyPost_ret (v := .tuple #[.agg #[.int .i64 0, .slice none 0 0], .int .i64 1]) (by simp [results, Try.results11, go_sem, d0, d1]) rfl ⟨rfl, set2 B (Nat.le_refl _) _ _⟩
  · by_cases h1 : h > 1000000
    · rw [if_neg (show ¬ halfB h by unfold halfB; omega), if_neg (show ¬ halfB h by unfold halfB; omega)]
      replace X := fhid X
      go_enter Try.func11, Try.ntmps11
      go_upto_region 1 with fail
      generalize w.alloc _ = w1 at *
      go_wp2_with fail
      have d0 := (hX (.int .i64 0) (.slice none 0 0)).cell 0
      have d1 := (hX (.int .i64 0) (.slice none 0 0)).cell 1
      simp only [List.getElem?_cons_zero, List.getElem?_cons_succ] at d0 d1
      exact bodyPost_ret (v := .tuple #[.agg #[.int .i64 0, .slice none 0 0], .int .i64 1]) (by simp [results, Try.results11, go_sem, d0, d1]) rfl ⟨rfl, set2 B (Nat.le_refl _) _ _⟩
    · rw [if_pos (show halfB h by unfold halfB; omega), if_pos (show halfB h by unfold halfB; omega)]
      replace X := fhid X
      go_enter Try.func11, Try.ntmps11
      go_upto_region 1 with fail
      generalize w.alloc _ = w1 at *
      go_wp2_with fail
      have d0 := (hX (.int .i64 h) (.slice none 0 0)).cell 0
      have d1 := (hX (.int .i64 h) (.slice none 0 0)).cell 1
      simp only [List.getElem?_cons_zero, List.getElem?_cons_succ] at d0 d1
      exact bodyPost_ret (v := .tuple #[.agg #[.int .i64 h, .slice none 0 0], .int .i64 0]) (by simp [results, Try.results11, go_sem, d0, d1]) rfl ⟨rfl, set2 B (Nat.le_refl _) _ _⟩
set_option maxRecDepth 100000 in
set_option maxHeartbeats 1000000 in
theorem rtime_any (now : Int) (w : World) : Calls Try.prog 31 #[.int .i64 now] w fun e w' => e = .returned (.bool (decide (timeB now))) ∧ w' = w := by
  by_cases h0 : now ≥ 0
  · by_cases h1 : now ≤ 1099511627776
    · rw [decide_eq_true (show timeB now by unfold timeB; omega)]
      go_enter Try.func31, Try.ntmps31
      go_wp2
      go_ret
      exact ⟨rfl, rfl⟩
    · rw [decide_eq_false (show ¬ timeB now by unfold timeB; omega)]
      go_enter Try.func31, Try.ntmps31
      go_wp2
      go_ret
      exact ⟨by simp, rfl⟩
  · rw [decide_eq_false (show ¬ timeB now by unfold timeB; omega)]
    go_enter Try.func31, Try.ntmps31
    go_wp2
    go_ret
    exact ⟨rfl, rfl⟩
/-- What find comes to. -/
def FindP (w : World) (L : List Usr) (s : Str) (e : Ending) (w' : World) : Prop := ∃ k, At L s k ∧ e = .returned (.tuple #[.int .i64 (k : Nat), .bool (there L s k)]) ∧ Below w.heap.size w w'
set_option maxRecDepth 100000 in
set_option maxHeartbeats 8000000 in
theorem find_any {w : World} {r : Nat} {h : Int} {L : List Usr} (b : RB w r h L) (hl : L.length ≤ 1024) (s : Str) :
    Calls Try.prog 30 #[.pointer (some ⟨r, 0, none⟩), .string (str s)] w (FindP w L s) := by
  obtain ⟨A, cap, X, R⟩ := b
  have x1 := X.cell 1
  have xl := X.lt
  simp only [List.getElem?_cons_zero, List.getElem?_cons_succ] at x1
  have hpost := fhid (show ∀ k W, At L s k → Below w.heap.size w W → FindP w L s (.returned (.tuple #[.int .i64 (k : Nat), .bool (there L s k)])) W from fun k W ha hb => ⟨k, ha, rfl, hb⟩)
  generalize FindP w L s = Post at *
  replace X := fhid X
  replace R := fhid R
  go_enter Try.func30, Try.ntmps30
  go_upto_region 2 with fail
  go_loop [6] (fun i => ∃ k : Nat, k ≤ L.length ∧ i = .int .i64 (k : Nat) ∧ ∀ j (hj : j < L.length), j < k → L[j].1 < s) (fun i => L.length - (intOf i).toNat)
  case atStart => exact ⟨0, Nat.zero_le _, rfl, fun j _ hj => absurd hj (Nat.not_lt_zero j)⟩
  case round =>
    obtain ⟨k, hk, rfl, hlow⟩ := hrel
    have k0 : (0 : Int) ≤ k := by omega
    by_cases hlt : k < L.length
    · have k1 : (k : Int) < L.length := by omega
      obtain ⟨b, o, rfl, hb, c0, c1, c2⟩ := act_at R.out hlt
      have hA := less_str L[k].1 s
      by_cases hless : L[k].1 < s
      · rw [decide_eq_true hless] at hA
        have hlow2 := fhid (show ∀ j (hj : j < L.length), j < k + 1 → L[j].1 < s from fun j hj hjk => by
          by_cases e : j = k
          · subst e; exact hless
          · exact hlow j hj (by omega))
        clear hlow hless
        generalize L[k] = y at *
        go_wp2_with fail
        go_round
        case rel => exact ⟨k + 1, by omega, by go_num, hlow2.out⟩
        case measure => simp [intOf]; omega
      · rw [decide_eq_false hless] at hA
        have hat : At L s k := ⟨hk, fun j hj hjk => hlow j hj hjk, fun _ => hless⟩
        have hB := same_str L[k].1 s
        have hth : there L s k = decide (L[k].1 = s) := by unfold there; rw [List.getElem?_eq_getElem hlt]
        have hp := hpost.out k
        rw [hth] at hp
        replace hp := fhid (fun W hb => hp W hat hb)
        clear hlow hless hth hat hpost
        generalize L[k] = y at *
        go_upto_region 4 with fail
        go_region
        go_wp2_with fail
        exact hp.out _ ((Below.refl _ _).drew)
    · obtain rfl : k = L.length := by omega
      have k1 : ¬ ((L.length : Int) < L.length) := by omega
      have hat : At L s L.length := ⟨hk, fun j hj hjk => hlow j hj hjk, fun h => absurd h (Nat.lt_irrefl _)⟩
      have hth : there L s L.length = false := by unfold there; rw [List.getElem?_eq_none (Nat.le_refl _)]
      have hp := hpost.out L.length
      rw [hth] at hp
      replace hp := fhid (fun W hb => hp W hat hb)
      clear hlow hth hat hpost
      go_upto_region 4 with fail
      go_region
      go_wp2_with fail
      exact hp.out _ ((Below.refl _ _).drew)
set_option maxRecDepth 100000 in
set_option maxHeartbeats 4000000 in
theorem rat_any {w : World} {r : Nat} {h : Int} {L : List Usr} (b : RB w r h L) (hh : halfB h) (x : Usr) (now : Int) (hu : 0 ≤ x.2.1 ∧ x.2.1 ≤ 1152921504606846976 ∧ 0 ≤ x.2.2) (hn : x.2.2 ≤ now) (ht : now ≤ 1099511627776) :
    Calls Try.prog 32 #[.pointer (some ⟨r, 0, none⟩), .agg (actV x).toArray, .int .i64 now] w fun e w' => e = .returned (.int .i64 (late h x.2 now).1) ∧ Below w.heap.size w w' := by
  obtain ⟨s, a, t⟩ := x
  obtain ⟨u0, u1, u2⟩ := hu
  obtain ⟨hh1, hh2⟩ := hh
  simp only at u0 u1 u2 hn
  obtain ⟨q0, q1, q2, q3⟩ := passed (h := h) (d := now - t) hh1 (by omega)
  have hH : ∀ w, Calls Try.prog 53 #[.int .i64 a, .int .i64 ((now - t).tdiv h)] w fun e w' => e = .returned (.int .i64 (halves a ((now - t).tdiv h))) ∧ w' = w := fun w => (rHalves_any a ((now - t).tdiv h) w (by unfold Fits; omega)).mono fun e w' ⟨h1, h2⟩ => ⟨h1, h2.symm⟩
  show Calls _ _ _ _ fun e w' => e = .returned (.int .i64 (halves a ((now - t).tdiv h))) ∧ Below w.heap.size w w'
  generalize halves a ((now - t).tdiv h) = ha at *
  have hne : ¬ h = 0 := by omega
  obtain ⟨W1, hW1, B1, X1⟩ := one_box w TRU [.string (str s), .int .i64 a, .int .i64 t]
  have b1 := b.below B1
  clear b
  replace hW1 := fhid hW1
  have u5 : IntKind.i64.wrap (now - t) = now - t := IntWalk.i64_in _ (by omega)
  unfold actV
  go_enter Try.func32, Try.ntmps32
  go_upto_region 1 with fail
  rw [← hW1.out]
  clear hW1
  obtain ⟨A, cap, XR, _⟩ := b1
  have x0 := X1.cell 0
  have x1 := X1.cell 1
  have x2 := X1.cell 2
  have c0 := XR.cell 0
  simp only [List.getElem?_cons_zero, List.getElem?_cons_succ] at x0 x1 x2 c0
  have hr1 := XR.lt
  have hx1 := X1.lt
  replace X1 := fhid X1
  replace XR := fhid XR
  replace B1 := fhid B1
  refine wp_region_still_tail 11 (by kernel_rfl) (by kernel_rfl) ?_
  simp only [List.take_succ_cons, List.take_zero, List.drop_succ_cons, List.drop_zero]
  iterate 11 still_step
  refine wpStill_nil ?_
  change wpList _ _ _ _ _ W1.drew
  have B2 := fhid (show Below w.heap.size w W1.drew from B1.out.drew)
  generalize W1.drew = W2 at *
  clear B1 X1 XR x0 x1 x2 c0 hr1 hx1
  go_wp2_with (go_at_call 53; (with_reducible refine (hH _).mono ?_); rintro e w' ⟨rfl, rfl⟩)
  go_ret
  exact ⟨rfl, B2.out⟩
end Go.Proofs.Ytmbgcphiigmdjaa
/-
  What one has used, by the document.
-/
namespace Go.Proofs.Ytmbgcphiigmdjaa
open Go.RowKit Ss Ds

theorem there_yes {L : List Usr} {s : Str} {k : Nat} (h : there L s k = true) : ∃ hk : k < L.length, L[k].1 = s := by
  unfold there at h
  cases hk : L[k]? with
  | none => rw [hk] at h; cases h
  | some x =>
    rw [hk] at h
    obtain ⟨hl, rfl⟩ := List.getElem?_eq_some_iff.1 hk
    exact ⟨hl, by simpa using h⟩
theorem look_yes {L : List Usr} (hu : Up L) {s : Str} {k : Nat} (h : At L s k) (ht : there L s k = true) : ∃ hk : k < L.length, lookG s L = some L[k].2 := by
  obtain ⟨hk, _⟩ := there_yes ht
  refine ⟨hk, ?_⟩
  rw [at_look hu h, if_pos ht, List.getElem?_eq_getElem hk]
  rfl
theorem look_no {L : List Usr} (hu : Up L) {s : Str} {k : Nat} (h : At L s k) (ht : there L s k = false) : lookG s L = none := by
  rw [at_look hu h, if_neg (by rw [ht]; simp)]
set_option maxRecDepth 100000 in
set_option maxHeartbeats 8000000 in
theorem rUsed_any {w : World} {r : Nat} {h : Int} {L : List Usr} (b : RB w r h L) (hh : halfB h) (hu : Up L) (hg : Good L) (s : Str) (now : Int) :
    Calls Try.prog 17 #[.pointer (some ⟨r, 0, none⟩), .string (str s), .int .i64 now] w (IntP w (usedP h L s now)) := by
  have hfi := find_any b hg.len s
  have hti := fun W => rtime_any now W
  have hres : ∀ v e, usedP h L s now = (v, e) → IntP w (usedP h L s now) = IntP w (v, e) := fun v e h => by rw [h]
  have hlk := fun k (ha : At L s k) ht => look_yes hu ha ht
  have hln := fun k (ha : At L s k) ht => look_no hu ha ht
  unfold FindP at hfi
  have hpost := fhid (show ∀ v e W, usedP h L s now = (v, e) → Below w.heap.size w W → IntP w (usedP h L s now) (.returned (.tuple #[.int .i64 v, .int .i64 e])) W from fun v e W h1 hb => by rw [h1]; exact ⟨rfl, hb⟩)
  generalize IntP w (usedP h L s now) = Post at *
  clear hres
  go_enter Try.func17, Try.ntmps17
  go_upto_region 2 with (go_at_call 30; (with_reducible refine hfi.mono ?_); rintro e w1 ⟨k, hat, rfl, b1⟩)
  have r1 := b.below b1
  clear hfi b
  by_cases ht : timeB now
  · obtain ⟨t0, t1⟩ := ht
    rw [decide_eq_true (show timeB now from ⟨t0, t1⟩)] at hti
    cases hth : there L s k with
    | false =>
      have hl := hln k hat hth
      have hE : usedP h L s now = (0, 0) := by unfold usedP atP; rw [if_pos ⟨t0, t1⟩, hl]
      have hp := fhid (hpost.out 0 0 w1 hE b1)
      clear hpost hE hl hlk hln hth hat
      replace r1 := fhid r1
      go_wp2_with (go_at_call 31; (with_reducible refine (hti _).mono ?_); rintro e w2 ⟨rfl, rfl⟩)
      exact hp.out
    | true =>
      obtain ⟨hk, hl⟩ := hlk k hat hth
      have hx := hg.each _ (List.getElem_mem hk)
      have hE : usedP h L s now = if now < L[k].2.2 then (0, 1) else ((late h L[k].2 now).1, 0) := by
        unfold usedP atP
        rw [if_pos ⟨t0, t1⟩, hl]
        simp only
        split <;> rfl
      have rr := r1
      obtain ⟨A, cap, X, R⟩ := r1
      obtain ⟨b, o, rfl, hb, c0, c1, c2⟩ := act_at R hk
      have x1 := X.cell 1
      have xl := X.lt
      have k0 : (0 : Int) ≤ k := by omega
      have k1 : (k : Int) < L.length := by omega
      simp only [List.getElem?_cons_zero, List.getElem?_cons_succ] at x1
      have hra := fun (hn : L[k].2.2 ≤ now) => rat_any rr hh L[k] now ⟨hx.2.2.1, hx.2.2.2.1, hx.2.2.2.2.1⟩ hn t1
      clear hlk hln hth hat hl
      replace X := fhid X
      replace R := fhid R
      replace rr := fhid rr
      generalize hy : L[k] = y at *
      obtain ⟨s', a, tm⟩ := y
      unfold actV at hra
      simp only at hra hE hx c0 c1 c2
      generalize (late h (a, tm) now).1 = v at *
      clear hy hx
      by_cases hn : now < tm
      · rw [if_pos hn] at hE
        have hp := fhid (hpost.out 0 1 w1 hE b1)
        clear hpost hE hra
        go_wp2_with (go_at_call 31; (with_reducible refine (hti _).mono ?_); rintro e w2 ⟨rfl, rfl⟩)
        exact hp.out
      · rw [if_neg hn] at hE
        have hp := fhid (fun W hb => hpost.out v 0 W hE hb)
        have hr2 := hra (by omega)
        clear hpost hE hra
        go_wp2_with (first
          | (go_at_call 31; (with_reducible refine (hti _).mono ?_); rintro e w2 ⟨rfl, rfl⟩)
          | (go_at_call 32; (with_reducible refine hr2.mono ?_); rintro e w3 ⟨rfl, b3⟩))
        exact hp.out _ (b1.trans (b3.mono b1.size))
  · have hE : usedP h L s now = (0, 1) := by unfold usedP atP; rw [if_neg ht]
    rw [decide_eq_false ht] at hti
    have hp := fhid (hpost.out 0 1 w1 hE b1)
    clear hpost hE hlk hln hat ht
    replace r1 := fhid r1
    generalize there L s k = th at *
    go_wp2_with (go_at_call 31; (with_reducible refine (hti _).mono ?_); rintro e w2 ⟨rfl, rfl⟩)
    exact hp.out
end Go.Proofs.Ytmbgcphiigmdjaa
