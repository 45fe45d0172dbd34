/-
  Plain mathematics: what items, and dependencies, are at; which order they stand in does not count. No model in it.
-/
namespace Go.Proofs.Ytmbgcphiigmdjaa.Ds

/-- An item: its kind, its jobs. -/
abbrev Itm := Int × List Int
def ended (s : Int) : Bool := decide (3 ≤ s) && decide (s ≤ 6)
def holdsP (k s : Int) : Bool :=
  if k = 1 then decide (s = 2) || ended s else if k = 2 then decide (s = 3) else if k = 3 then decide (s = 4) || decide (s = 6) else ended s
def oneP (k s : Int) : Int := if 1 ≤ k ∧ k ≤ 4 then (if holdsP k s = true then 1 else if (ended s || decide (s = 7)) = true then 2 else 0) else 0
def settleP (one all : Int) (l : List Int) : Int := if one ∈ l then one else if ∀ x ∈ l, x = all then all else 0
theorem ended_iff {s : Int} : ended s = true ↔ 3 ≤ s ∧ s ≤ 6 := by unfold ended; simp
theorem one_range (k s : Int) : oneP k s = 0 ∨ oneP k s = 1 ∨ oneP k s = 2 := by
  unfold oneP
  split
  · split
    · simp
    · split <;> simp
  · simp
theorem settle_nil (one all : Int) : settleP one all [] = all := by unfold settleP; simp
theorem settle_snoc_other {one all x : Int} {l : List Int} (h1 : one ∉ l) (hx : x ≠ one) (ha : x ≠ all) : settleP one all (l ++ [x]) = 0 := by
  unfold settleP
  rw [if_neg (by simp [h1, Ne.symm hx]), if_neg]
  intro h
  exact ha (h x (by simp))
theorem settle_snoc_all {one all : Int} {l : List Int} (h1 : one ∉ l) (hx : all ≠ one) : settleP one all (l ++ [all]) = settleP one all l := by
  unfold settleP
  rw [if_neg (by simp [h1, Ne.symm hx]), if_neg h1]
  by_cases h : ∀ x ∈ l, x = all
  · rw [if_pos h, if_pos (by intro x hx; rcases List.mem_append.1 hx with hx | hx; exact h x hx; simpa using hx)]
  · rw [if_neg h, if_neg (fun k => h fun x hx => k x (List.mem_append_left _ hx))]
theorem settle_one {one all : Int} {l : List Int} (h : one ∈ l) : settleP one all l = one := if_pos h
theorem settle_mem {one all : Int} {l m : List Int} (h : ∀ x, x ∈ l ↔ x ∈ m) : settleP one all l = settleP one all m := by
  unfold settleP
  by_cases h1 : one ∈ l
  · rw [if_pos h1, if_pos ((h one).1 h1)]
  · rw [if_neg h1, if_neg (fun k => h1 ((h one).2 k))]
    by_cases h2 : ∀ x ∈ l, x = all
    · rw [if_pos h2, if_pos (fun x hx => h2 x ((h x).2 hx))]
    · rw [if_neg h2, if_neg (fun k => h2 fun x hx => k x ((h x).1 hx))]
theorem settle_range {one all : Int} (l : List Int) (ho : one = 1 ∨ one = 2) (ha : all = 1 ∨ all = 2) : settleP one all l = 0 ∨ settleP one all l = 1 ∨ settleP one all l = 2 := by
  unfold settleP
  split
  · omega
  · split <;> omega
/-- What an item is at, over the states of jobs. -/
def itemP (st : Int → Int) (alone : Bool) (x : Itm) : Int := if x.1 = 5 then (if alone = true then 1 else 0) else settleP 2 1 (x.2.map fun j => oneP x.1 (st j))
theorem item_range (st : Int → Int) (alone : Bool) (x : Itm) : itemP st alone x = 0 ∨ itemP st alone x = 1 ∨ itemP st alone x = 2 := by
  unfold itemP
  split
  · split <;> simp
  · exact settle_range _ (.inr rfl) (.inl rfl)
/-- What a dependency is at. -/
def askP (any : Bool) (l : List Itm) (st : Int → Int) (alone : Bool) : Int :=
  if any = true then settleP 1 2 (l.map (itemP st alone)) else settleP 2 1 (l.map (itemP st alone))
/-- By how many hold, and how many never can. -/
def askC (any : Bool) (n h v : Nat) : Int := if (any = true ∧ 0 < h) ∨ (any = false ∧ v = 0 ∧ h = n) then 1 else if (any = true ∧ v = n) ∨ (any = false ∧ 0 < v) then 2 else 0
theorem ask_counts (any : Bool) (l : List Int) : askC any l.length (l.count 1) (l.count 2) = if any = true then settleP 1 2 l else settleP 2 1 l := by
  have e1 : l.count 1 = l.length ↔ ∀ x ∈ l, x = 1 := by
    rw [List.count_eq_length]; exact ⟨fun h x hx => (h x hx).symm, fun h x hx => (h x hx).symm⟩
  have e2 : l.count 2 = l.length ↔ ∀ x ∈ l, x = 2 := by
    rw [List.count_eq_length]; exact ⟨fun h x hx => (h x hx).symm, fun h x hx => (h x hx).symm⟩
  have p1 : 0 < l.count 1 ↔ 1 ∈ l := List.count_pos_iff
  have p2 : 0 < l.count 2 ↔ 2 ∈ l := List.count_pos_iff
  unfold askC settleP
  cases any with
  | true =>
    simp only [true_and, Bool.true_eq_false, false_and, or_false, if_true]
    by_cases h : 1 ∈ l
    · rw [if_pos (p1.2 h), if_pos h]
    · rw [if_neg (fun k => h (p1.1 k)), if_neg h]
      by_cases k : ∀ x ∈ l, x = 2
      · rw [if_pos (e2.2 k), if_pos k]
      · rw [if_neg (fun q => k (e2.1 q)), if_neg k]
  | false =>
    simp only [true_and, Bool.false_eq_true, false_and, false_or, if_false]
    by_cases h : 2 ∈ l
    · have := p2.2 h
      rw [if_neg (by omega), if_pos this, if_pos h]
    · have h0 : l.count 2 = 0 := Nat.eq_zero_of_not_pos fun k => h (p2.1 k)
      rw [if_neg h]
      by_cases k : ∀ x ∈ l, x = 1
      · rw [if_pos ⟨h0, e1.2 k⟩, if_pos k]
      · rw [if_neg (fun q => k (e1.1 q.2)), if_neg (by omega), if_neg k]
theorem ask_askC (any : Bool) (l : List Itm) (st : Int → Int) (alone : Bool) : askC any l.length ((l.map (itemP st alone)).count 1) ((l.map (itemP st alone)).count 2) = askP any l st alone := by
  have := ask_counts any (l.map (itemP st alone))
  rw [List.length_map] at this
  exact this
theorem ask_none (st : Int → Int) (alone : Bool) : askP false [] st alone = 1 := by
  unfold askP
  rw [if_neg (by simp), List.map_nil, settle_nil]
/-- The order of the items, and of the jobs of one, does not count. -/
theorem ask_turned (any : Bool) (l : List Itm) (st : Int → Int) (alone : Bool) : askP any (l.reverse.map fun x => (x.1, x.2.reverse)) st alone = askP any l st alone := by
  have hi : ∀ x : Itm, itemP st alone (x.1, x.2.reverse) = itemP st alone x := fun x => by
    unfold itemP
    simp only
    split
    · rfl
    · exact settle_mem fun y => by simp
  have e : (l.reverse.map fun x : Itm => ((x.1, x.2.reverse) : Itm)).map (itemP st alone) = (l.map (itemP st alone)).reverse := by
    rw [List.map_map, ← List.map_reverse]
    exact List.map_congr_left fun x _ => hi x
  unfold askP
  rw [e]
  split
  · exact settle_mem fun y => by simp
  · exact settle_mem fun y => by simp
/-- A singleton ahead. -/
theorem ask_alone (l : List Itm) (st : Int → Int) (alone : Bool) : askP false ((5, []) :: l) st alone = if alone = false ∧ askP false l st true = 1 then 0 else askP false l st true := by
  have h2 : ∀ b, 2 ∈ l.map (itemP st b) ↔ ∃ x ∈ l, x.1 ≠ 5 ∧ settleP 2 1 (x.2.map fun j => oneP x.1 (st j)) = 2 := fun b => by
    simp only [List.mem_map]
    constructor
    · rintro ⟨x, hx, e⟩
      refine ⟨x, hx, ?_⟩
      unfold itemP at e
      split at e
      · split at e <;> simp at e
      · exact ⟨‹_›, e⟩
    · rintro ⟨x, hx, h5, e⟩
      exact ⟨x, hx, by unfold itemP; rw [if_neg h5]; exact e⟩
  have hs : itemP st alone (5, []) = if alone = true then 1 else 0 := by unfold itemP; rw [if_pos rfl]
  unfold askP
  simp only [Bool.false_eq_true, if_false, List.map_cons, hs]
  cases alone with
  | true =>
    simp only [if_true, Bool.true_eq_false, false_and, if_false]
    exact (settle_mem (m := l.map (itemP st true) ++ [1]) fun y => by simp [or_comm]).trans (by
      by_cases h : 2 ∈ l.map (itemP st true)
      · rw [settle_one h, settle_one (List.mem_append_left _ h)]
      · exact settle_snoc_all h (by decide))
  | false =>
    simp only [Bool.false_eq_true, if_false, true_and]
    by_cases h : 2 ∈ l.map (itemP st true)
    · have h' := (h2 false).2 ((h2 true).1 h)
      rw [settle_one h, settle_one (List.mem_cons_of_mem _ h'), if_neg (by decide)]
    · have h' : 2 ∉ l.map (itemP st false) := fun k => h ((h2 true).2 ((h2 false).1 k))
      have e : settleP 2 1 (0 :: l.map (itemP st false)) = 0 := by
        refine (settle_mem (m := l.map (itemP st false) ++ [0]) fun y => by simp [or_comm]).trans ?_
        exact settle_snoc_other h' (by decide) (by decide)
      rw [e]
      by_cases k : settleP 2 1 (l.map (itemP st true)) = 1
      · rw [if_pos k]
      · rw [if_neg k]
        have := settle_range (one := 2) (all := 1) (l.map (itemP st true)) (.inr rfl) (.inl rfl)
        unfold settleP at this k ⊢
        rw [if_neg h] at this k ⊢
        split at k
        · exact absurd rfl k
        · rename_i q
          rw [if_neg q]
/-- A job goes on: it has ended, and stays so; or it has not, and a running one does not wait again. -/
def goesOn (s t : Int) : Prop := t = s ∨ (ended s = false ∧ s ≠ 7 ∧ 0 ≤ t ∧ t ≤ 7 ∧ (s = 2 → 2 ≤ t ∧ t ≠ 7))
theorem one_stays {k s t : Int} (h : goesOn s t) : oneP k s = 0 ∨ oneP k t = oneP k s := by
  rcases h with rfl | ⟨h1, h2, h3, h4, h5⟩
  · exact .inr rfl
  · by_cases hk : 1 ≤ k ∧ k ≤ 4
    · unfold oneP
      rw [if_pos hk, if_pos hk]
      have he : (ended s || decide (s = 7)) = false := by rw [h1]; simp [h2]
      rw [he]
      simp only [Bool.false_eq_true, if_false]
      by_cases hh : holdsP k s = true
      · rw [if_pos hh]
        right
        unfold holdsP at hh
        rw [h1] at hh
        have hn : ¬ (3 ≤ s ∧ s ≤ 6) := fun q => by rw [ended_iff.2 q] at h1; cases h1
        split at hh
        · rename_i k1
          have s2 : s = 2 := by simpa using hh
          have ht := h5 s2
          have : holdsP k t = true := by
            unfold holdsP
            rw [if_pos k1]
            by_cases t2 : t = 2
            · simp [t2]
            · rw [ended_iff.2 (by omega)]; simp
          rw [if_pos this]
        · split at hh
          · have : s = 3 := by simpa using hh
            omega
          · split at hh
            · have : s = 4 ∨ s = 6 := by simpa using hh
              omega
            · cases hh
      · rw [if_neg hh]
        exact .inl rfl
    · left
      unfold oneP
      rw [if_neg hk]
theorem settle_stays {α : Type} {one all : Int} {f g : α → Int} {l : List α} (h0 : one ≠ 0) (h1 : all ≠ 0) (h : ∀ x ∈ l, f x = 0 ∨ g x = f x) : settleP one all (l.map f) = 0 ∨ settleP one all (l.map g) = settleP one all (l.map f) := by
  by_cases a : one ∈ l.map f
  · right
    obtain ⟨x, hx, e⟩ := List.mem_map.1 a
    have : g x = one := by
      rcases h x hx with k | k
      · exact absurd (e.symm.trans k) h0
      · exact k.trans e
    rw [settle_one a, settle_one (List.mem_map.2 ⟨x, hx, this⟩)]
  · by_cases b : ∀ y ∈ l.map f, y = all
    · right
      have e : l.map g = l.map f := List.map_congr_left fun x hx => by
        have hf := b _ (List.mem_map_of_mem hx)
        rcases h x hx with k | k
        · exact absurd (hf.symm.trans k) h1
        · exact k
      rw [e]
    · left
      unfold settleP
      rw [if_neg a, if_neg b]
theorem item_stays {st su : Int → Int} (h : ∀ j, goesOn (st j) (su j)) (alone : Bool) (x : Itm) : itemP st alone x = 0 ∨ itemP su alone x = itemP st alone x := by
  unfold itemP
  split
  · exact .inr rfl
  · exact settle_stays (by decide) (by decide) fun j _ => one_stays (h j)
theorem ask_stays {st su : Int → Int} (h : ∀ j, goesOn (st j) (su j)) (any : Bool) (l : List Itm) (alone : Bool) : askP any l st alone = 0 ∨ askP any l su alone = askP any l st alone := by
  unfold askP
  split
  · exact settle_stays (by decide) (by decide) fun x _ => item_stays h alone x
  · exact settle_stays (by decide) (by decide) fun x _ => item_stays h alone x

/-- What stands first in a list at a key. -/
def look {α : Type} : List (Int × α) → Int → Option α
  | [], _ => none
  | x :: r, k => if x.1 = k then some x.2 else look r k
theorem look_app {α : Type} (l m : List (Int × α)) (k : Int) : look (l ++ m) k = (look l k).orElse fun _ => look m k := by
  induction l with
  | nil => rfl
  | cons x r ih =>
    show (if x.1 = k then some x.2 else look (r ++ m) k) = _
    by_cases h : x.1 = k
    · rw [if_pos h, show look (x :: r) k = some x.2 from if_pos h]; rfl
    · rw [if_neg h, ih, show look (x :: r) k = look r k from if_neg h]
/-- Of several the first one. -/
def addS (m : List (Int × Int)) (x : Int × Int) : List (Int × Int) := if look m x.1 = none then m ++ [x] else m
def stP (l : List (Int × Int)) : List (Int × Int) := l.foldl addS []
theorem stP_snoc (l : List (Int × Int)) (x : Int × Int) : stP (l ++ [x]) = addS (stP l) x := by simp [stP, List.foldl_append]
theorem look_addS (m : List (Int × Int)) (x : Int × Int) (k : Int) : look (addS m x) k = look (m ++ [x]) k := by
  unfold addS
  split
  · rfl
  · rename_i h
    rw [look_app]
    by_cases e : x.1 = k
    · subst e
      cases hl : look m x.1 with
      | none => exact absurd hl h
      | some v => rfl
    · have : look [x] k = none := by unfold look; rw [if_neg e]; rfl
      rw [this]
      cases look m k <;> rfl
theorem look_stP (l : List (Int × Int)) : ∀ k, look (stP l) k = look l k := by
  suffices h : ∀ (l m : List (Int × Int)) (k : Int), look (l.foldl addS m) k = look (m ++ l) k by
    intro k
    exact h l [] k
  intro l
  induction l with
  | nil => intro m k; rw [List.append_nil]; rfl
  | cons x r ih =>
    intro m k
    rw [List.foldl_cons, ih, look_app, look_addS, ← look_app, List.append_assoc]
    rfl
/-- A job's state: Never, if it is not there. -/
def stOf (l : List (Int × Int)) (k : Int) : Int := (look l k).getD 7
theorem stOf_stP (l : List (Int × Int)) : stOf (stP l) = stOf l := by funext k; unfold stOf; rw [look_stP]
end Go.Proofs.Ytmbgcphiigmdjaa.Ds
