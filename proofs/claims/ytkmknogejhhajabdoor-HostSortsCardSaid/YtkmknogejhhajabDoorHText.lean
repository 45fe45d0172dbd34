/-
  What a list's text tells, as plain functions: numbers, ranges, parts, names; and the text that names make.
-/
import Derived.Test.YtkmknogejhhajabDoorHMath
namespace Go.Proofs.YtkmknogejhhajabDoor

/-- What reading comes to: something, and how many bytes it took; or a fault, and how far on it is. -/
inductive Res (α : Type) where
  | ok (a : α) (k : Nat)
  | bad (why k : Nat)
def wrg (r : List UInt8) : Nat := if r = [] then 4 else 3
def pNum (r : List UInt8) : Res Nat :=
  if 6 < (r.takeWhile isDig).length then .bad 3 6 else if (r.takeWhile isDig).length = 0 then .bad (wrg r) 0 else .ok (dval (r.takeWhile isDig)) (r.takeWhile isDig).length
/-- What follows a range's first number a of k digits. -/
def pSecond (r : List UInt8) (a k : Nat) : Res (Nat × Nat × Nat) := match pNum (r.drop (k + 1)) with
  | .bad e j => .bad e (k + 1 + j)
  | .ok b j => if b < a then .bad 3 (k + 1) else .ok (a, b, k) (k + 1 + j)
def pRange (r : List UInt8) : Res (Nat × Nat × Nat) := match pNum r with
  | .bad e k => .bad e k
  | .ok a k => if r[k]? = some 45 then pSecond r a k else .ok (a, a, k) k
def pRanges : Nat → List UInt8 → Res (List (Nat × Nat × Nat))
  | 0, _ => .bad 0 0
  | f + 1, r => match pRange r with
    | .bad e k => .bad e k
    | .ok x k => if r[k]? = some 93 then .ok [x] (k + 1) else if r[k]? = some 44 then (match pRanges f (r.drop (k + 1)) with
        | .bad e j => .bad e (k + 1 + j)
        | .ok xs j => .ok (x :: xs) (k + 1 + j)) else .bad (wrg (r.drop k)) k
def pEnd (r : List UInt8) (p : List UInt8) (rs : List (Nat × Nat × Nat)) (k : Nat) : Res (List UInt8 × List (Nat × Nat × Nat)) :=
  if r[k]? = none ∨ r[k]? = some 44 then .ok (p, rs) k else .bad 3 k
def pPart (r : List UInt8) : Res (List UInt8 × List (Nat × Nat × Nat)) :=
  if r.takeWhile isBare = [] then .bad (wrg r) 0
  else if r[(r.takeWhile isBare).length]? = some 91 then (match pRanges (r.length + 1) (r.drop ((r.takeWhile isBare).length + 1)) with
    | .bad e j => .bad e ((r.takeWhile isBare).length + 1 + j)
    | .ok rs j => pEnd r (r.takeWhile isBare) rs ((r.takeWhile isBare).length + 1 + j))
  else pEnd r (r.takeWhile isBare) [] (r.takeWhile isBare).length
def spanNames (p : List UInt8) (x : Nat × Nat × Nat) : List (List UInt8) := (List.range (x.2.1 + 1 - x.1)).map fun i => p ++ dig (x.1 + i) x.2.2
def partNames (p : List UInt8) (rs : List (Nat × Nat × Nat)) : List (List UInt8) := if rs = [] then [p] else rs.flatMap (spanNames p)
def spanCount (x : Nat × Nat × Nat) : Nat := x.2.1 + 1 - x.1
def partCount (rs : List (Nat × Nat × Nat)) : Nat := if rs = [] then 1 else (rs.map spanCount).sum
def pExpand : Nat → Nat → List UInt8 → List (List UInt8) → List (List UInt8) × Nat × Nat
  | 0, _, _, _ => ([], 0, 0)
  | f + 1, a, r, ns => match pPart r with
    | .bad e k => ([], e, a + k)
    | .ok x k => if 256 < ns.length + partCount x.2 then ([], 5, a) else if k = r.length then (ns ++ partNames x.1 x.2, 0, 0) else pExpand f (a + k + 1) (r.drop (k + 1)) (ns ++ partNames x.1 x.2)
def expand (s : List UInt8) : List (List UInt8) × Nat × Nat := if s = [] then ([], 0, 0) else pExpand (s.length + 1) 0 s []

/-- Does a name go on in a run? -/
def fits (x p : List UInt8) (n w : Nat) : Bool := (number x).2.2.2 && decide ((number x).1 = p) && decide ((number x).2.1 = n) && decide ((number x).2.2.1 = (dig n w).length)
def goRun (p : List UInt8) (w : Nat) : Nat → List (List UInt8) → Nat
  | _, [] => 0
  | n, y :: ys => if fits y p n w = true then goRun p w (n + 1) ys + 1 else 0
def runLen (x : List UInt8) (xs : List (List UInt8)) : Nat := if (number x).2.2.2 = true then goRun (number x).1 (number x).2.2.1 ((number x).2.1 + 1) xs + 1 else 1
def joinRun (ns : List (List UInt8)) : List UInt8 :=
  if ns.length = 1 then ns.headD [] else (number (ns.headD [])).1 ++ 91 :: ((ns.headD []).drop (number (ns.headD [])).1.length ++ 45 :: ((ns.getLastD []).drop (number (ns.headD [])).1.length ++ [93]))
def pieces : Nat → List (List UInt8) → List (List UInt8)
  | _, [] => []
  | 0, _ => []
  | f + 1, x :: xs => joinRun ((x :: xs).take (runLen x xs)) :: pieces f ((x :: xs).drop (runLen x xs))
def compress (l : List (List UInt8)) : List UInt8 := Go.Lib.join (pieces l.length l) [44]
/-- A name that may be. -/
def Bare (x : List UInt8) : Prop := x ≠ [] ∧ x.all isBare = true

theorem bare_of_dig {c : UInt8} (h : isDig c = true) : isBare c = true := by unfold isBare; rw [h]; rfl
theorem tw_app {p : UInt8 → Bool} (a r : List UInt8) (ha : a.all p = true) (hr : ∀ c, r.head? = some c → p c = false) : (a ++ r).takeWhile p = a := by
  induction a with
  | nil =>
    cases r with
    | nil => rfl
    | cons c r => have := hr c rfl; simp [this]
  | cons x a ih =>
    rw [List.all_cons, Bool.and_eq_true] at ha
    rw [List.cons_append, List.takeWhile_cons, if_pos ha.1, ih ha.2]
theorem get_app (a r : List UInt8) : (a ++ r)[a.length]? = r.head? := by
  rw [List.getElem?_append_right (Nat.le_refl _), Nat.sub_self]
  cases r <;> rfl
theorem drop_mid (t u : List UInt8) (c : UInt8) : (t ++ c :: u).drop (t.length + 1) = u := by
  rw [show t ++ c :: u = (t ++ [c]) ++ u by simp, List.drop_append_of_le_length (by simp), List.drop_of_length_le (by simp), List.nil_append]
theorem fits_yes {y p : List UInt8} {n w : Nat} (h : fits y p n w = true) : y = p ++ dig n w ∧ (dig n w).length ≤ 6 := by
  unfold fits at h
  simp only [Bool.and_eq_true, decide_eq_true_eq] at h
  obtain ⟨⟨⟨h1, h2⟩, h3⟩, h4⟩ := h
  obtain ⟨d, e, hk, h1', h6, ha, hv, _⟩ := number_yes (l := y) (p := p) (n := n) (k := (dig n w).length) (by rw [← h2, ← h4, ← h1, ← h3])
  exact ⟨by rw [e, dig_of ha hv hk], by omega⟩
theorem number_dig {x p : List UInt8} {a w : Nat} (h : number x = (p, a, w, true)) : x = p ++ dig a w ∧ (dig a w).length = w ∧ 1 ≤ w ∧ w ≤ 6 ∧ p ≠ [] := by
  obtain ⟨d, e, hk, h1, h6, ha, hv, hp⟩ := number_yes h
  have hlt := dval_lt w d hk ha
  rw [hv] at hlt
  have hl := dec_len_le w a h1 hlt
  have hw : (dig a w).length = w := by rw [dig_len]; omega
  exact ⟨by rw [e, dig_of (w := w) ha hv (hk.trans hw.symm)], hw, h1, h6, hp⟩
theorem goRun_names (p : List UInt8) (w : Nat) : ∀ (ys : List (List UInt8)) (n : Nat), goRun p w n ys ≤ ys.length ∧ ys.take (goRun p w n ys) = (List.range (goRun p w n ys)).map (fun i => p ++ dig (n + i) w) ∧ (∀ i, i < goRun p w n ys → (dig (n + i) w).length ≤ 6)
  | [], n => ⟨Nat.le_refl _, rfl, fun i h => absurd h (Nat.not_lt_zero i)⟩
  | y :: ys, n => by
    unfold goRun
    split
    · rename_i hf
      obtain ⟨h1, h2, h3⟩ := goRun_names p w ys (n + 1)
      obtain ⟨f1, f2⟩ := fits_yes hf
      refine ⟨by rw [List.length_cons]; omega, ?_, fun i hi => ?_⟩
      · rw [List.take_succ_cons, h2, List.range_succ_eq_map, List.map_cons, List.map_map, f1, Nat.add_zero]
        congr 1
        refine List.map_congr_left fun i _ => ?_
        show _ = p ++ dig (n + (i + 1)) w
        rw [show n + (i + 1) = n + 1 + i by omega]
      · cases i with
        | zero => exact f2
        | succ i => rw [show n + (i + 1) = n + 1 + i by omega]; exact h3 i (by omega)
    · exact ⟨Nat.zero_le _, rfl, fun i h => absurd h (Nat.not_lt_zero i)⟩
theorem runLen_le (x : List UInt8) (xs : List (List UInt8)) : 1 ≤ runLen x xs ∧ runLen x xs ≤ xs.length + 1 := by
  unfold runLen
  split
  · have := (goRun_names (number x).1 (number x).2.2.1 xs ((number x).2.1 + 1)).1
    omega
  · omega
/-- What a run is: one name, or those of a range. -/
theorem run_names (x : List UInt8) (xs : List (List UInt8)) : (x :: xs).take (runLen x xs) = [x] ∨ ∃ p a w m, number x = (p, a, w, true) ∧ 1 ≤ m ∧ (x :: xs).take (runLen x xs) = (List.range (m + 1)).map (fun i => p ++ dig (a + i) w) ∧ (dig (a + m) w).length ≤ 6 ∧ p ≠ [] := by
  unfold runLen
  split
  · rename_i hok
    obtain ⟨h1, h2, h3⟩ := goRun_names (number x).1 (number x).2.2.1 xs ((number x).2.1 + 1)
    by_cases h0 : goRun (number x).1 (number x).2.2.1 ((number x).2.1 + 1) xs = 0
    · left; rw [h0]; rfl
    · right
      have hx : number x = ((number x).1, (number x).2.1, (number x).2.2.1, true) := by rw [← hok]
      obtain ⟨e, _, _, _, hp⟩ := number_dig hx
      refine ⟨(number x).1, (number x).2.1, (number x).2.2.1, goRun (number x).1 (number x).2.2.1 ((number x).2.1 + 1) xs, hx, by omega, ?_, ?_, hp⟩
      · rw [List.take_succ_cons, h2, List.range_succ_eq_map, List.map_cons, List.map_map, Nat.add_zero]
        congr 1
        refine List.map_congr_left fun i _ => ?_
        show _ = (number x).1 ++ dig ((number x).2.1 + (i + 1)) _
        rw [show (number x).2.1 + (i + 1) = (number x).2.1 + 1 + i by omega]
      · have := h3 (goRun (number x).1 (number x).2.2.1 ((number x).2.1 + 1) xs - 1) (by omega)
        rwa [show (number x).2.1 + 1 + (goRun (number x).1 (number x).2.2.1 ((number x).2.1 + 1) xs - 1) = (number x).2.1 + goRun (number x).1 (number x).2.2.1 ((number x).2.1 + 1) xs by omega] at this
  · left; rfl
theorem pNum_dig (u w : Nat) (r : List UInt8) (h : (dig u w).length ≤ 6) (hr : ∀ c, r.head? = some c → isDig c = false) : pNum (dig u w ++ r) = .ok u (dig u w).length := by
  obtain ⟨ha, hv⟩ := dig_facts u w
  have h1 : 1 ≤ (dig u w).length := by rw [dig_len]; have := (dec_facts u).2.2; omega
  unfold pNum
  rw [tw_app _ _ ha hr, if_neg (by omega), if_neg (by omega), hv]
theorem pRange_two (a b w w' : Nat) (r : List UInt8) (h1 : (dig a w).length ≤ 6) (h2 : (dig b w').length ≤ 6) (hab : a ≤ b) (hr : ∀ c, r.head? = some c → isDig c = false) (v : List UInt8) (hv : v = dig a w ++ 45 :: (dig b w' ++ r)) :
    pRange v = .ok (a, b, (dig a w).length) ((dig a w).length + 1 + (dig b w').length) := by
  subst hv
  unfold pRange pSecond
  rw [pNum_dig a w _ h1 (by intro c hc; simp at hc; subst hc; rfl)]
  simp only
  rw [get_app, if_pos (show (45 :: (dig b w' ++ r)).head? = some 45 from rfl), drop_mid, pNum_dig b w' _ h2 hr]
  simp only
  rw [if_neg (by omega)]
theorem pRanges_one (f : Nat) (a b w w' : Nat) (r : List UInt8) (h1 : (dig a w).length ≤ 6) (h2 : (dig b w').length ≤ 6) (hab : a ≤ b) (v : List UInt8) (hv : v = dig a w ++ 45 :: (dig b w' ++ 93 :: r)) :
    pRanges (f + 1) v = .ok [(a, b, (dig a w).length)] ((dig a w).length + 1 + (dig b w').length + 1) := by
  unfold pRanges
  rw [pRange_two a b w w' (93 :: r) h1 h2 hab (by intro c hc; simp at hc; subst hc; rfl) v hv]
  simp only
  have e : v[(dig a w).length + 1 + (dig b w').length]? = some 93 := by
    have hl : (dig a w).length + 1 + (dig b w').length = (dig a w ++ 45 :: dig b w').length := by simp; omega
    rw [hl, hv, show dig a w ++ 45 :: (dig b w' ++ 93 :: r) = (dig a w ++ 45 :: dig b w') ++ 93 :: r by simp, get_app]
    rfl
  rw [if_pos e]
theorem pPart_bare (x r : List UInt8) (h : Bare x) (hr : ∀ c, r.head? = some c → c = 44) : pPart (x ++ r) = .ok (x, []) x.length := by
  have ht : (x ++ r).takeWhile isBare = x := tw_app _ _ h.2 (fun c hc => by rw [hr c hc]; rfl)
  unfold pPart pEnd
  rw [ht, if_neg h.1, get_app]
  cases r with
  | nil => rfl
  | cons c r =>
    have := hr c rfl
    subst this
    rfl
theorem pPart_span (p : List UInt8) (a b w w' : Nat) (r : List UInt8) (hp : Bare p) (h1 : (dig a w).length ≤ 6) (h2 : (dig b w').length ≤ 6) (hab : a ≤ b) (hr : ∀ c, r.head? = some c → c = 44) (t : List UInt8)
    (ht : t = p ++ 91 :: (dig a w ++ 45 :: (dig b w' ++ [93]))) : pPart (t ++ r) = .ok (p, [(a, b, (dig a w).length)]) t.length := by
  have hv : t ++ r = p ++ 91 :: (dig a w ++ 45 :: (dig b w' ++ 93 :: r)) := by rw [ht]; simp
  have htw : (t ++ r).takeWhile isBare = p := by rw [hv]; exact tw_app _ _ hp.2 (fun c hc => by simp at hc; subst hc; rfl)
  have hd : (t ++ r).drop (p.length + 1) = dig a w ++ 45 :: (dig b w' ++ 93 :: r) := by
    rw [hv, show p ++ 91 :: (dig a w ++ 45 :: (dig b w' ++ 93 :: r)) = (p ++ [91]) ++ (dig a w ++ 45 :: (dig b w' ++ 93 :: r)) by simp, List.drop_append_of_le_length (by simp), List.drop_of_length_le (by simp), List.nil_append]
  have hg : (t ++ r)[p.length]? = some 91 := by rw [hv, get_app]; rfl
  unfold pPart
  rw [htw, if_neg hp.1, if_pos hg, pRanges_one _ a b w w' r h1 h2 hab _ hd]
  simp only
  have hl : p.length + 1 + ((dig a w).length + 1 + (dig b w').length + 1) = t.length := by rw [ht]; simp; omega
  unfold pEnd
  rw [hl, get_app, if_pos]
  cases r with
  | nil => exact .inl rfl
  | cons c r => exact .inr (by rw [← hr c rfl]; rfl)
theorem headD_map_range (m : Nat) (f : Nat → List UInt8) : ((List.range (m + 1)).map f).headD [] = f 0 ∧ ((List.range (m + 1)).map f).getLastD [] = f m := by
  constructor
  · rw [List.range_succ_eq_map]; rfl
  · rw [List.range_succ, List.map_append, List.map_singleton]
    simp
theorem piece_reads (x : List UInt8) (xs : List (List UInt8)) (r : List UInt8) (hb : ∀ y ∈ x :: xs, Bare y) (hr : ∀ c, r.head? = some c → c = 44) :
    ∃ p rs, pPart (joinRun ((x :: xs).take (runLen x xs)) ++ r) = .ok (p, rs) (joinRun ((x :: xs).take (runLen x xs))).length ∧ partNames p rs = (x :: xs).take (runLen x xs) ∧ partCount rs = ((x :: xs).take (runLen x xs)).length := by
  rcases run_names x xs with h | ⟨p, a, w, m, hn, hm, h, h6, hp0⟩
  · rw [h]
    refine ⟨x, [], ?_, rfl, rfl⟩
    exact pPart_bare x r (hb x (by simp)) hr
  · obtain ⟨hx, hw, h1, hw6, _⟩ := number_dig hn
    have hpb : Bare p := by
      refine ⟨hp0, ?_⟩
      have := (hb x (by simp)).2
      rw [hx, List.all_append, Bool.and_eq_true] at this
      exact this.1
    have hlen : ((List.range (m + 1)).map (fun i => p ++ dig (a + i) w)).length = m + 1 := by simp
    obtain ⟨g1, g2⟩ := headD_map_range m (fun i => p ++ dig (a + i) w)
    simp only [Nat.add_zero] at g1
    have hj : joinRun ((List.range (m + 1)).map (fun i => p ++ dig (a + i) w)) = p ++ 91 :: (dig a w ++ 45 :: (dig (a + m) w ++ [93])) := by
      unfold joinRun
      rw [hlen, if_neg (by omega), g1, g2, ← hx, hn]
      simp only
      rw [hx, List.drop_append_of_le_length (Nat.le_refl _), List.drop_append_of_le_length (Nat.le_refl _), List.drop_length, List.nil_append, List.nil_append]
    rw [h]
    refine ⟨p, [(a, a + m, (dig a w).length)], pPart_span p a (a + m) w w r hpb (by omega) h6 (by omega) hr _ hj, ?_, ?_⟩
    · unfold partNames
      rw [if_neg (by simp), List.flatMap_cons, List.flatMap_nil, List.append_nil, hw]
      unfold spanNames
      simp only
      rw [show a + m + 1 - a = m + 1 by omega]
    · unfold partCount
      rw [if_neg (by simp), hlen]
      simp [spanCount]
      omega
theorem pieces_some (f : Nat) (x : List UInt8) (xs : List (List UInt8)) : pieces (f + 1) (x :: xs) = joinRun ((x :: xs).take (runLen x xs)) :: pieces f ((x :: xs).drop (runLen x xs)) := rfl
/-- A compressed list of names that may be is expanded to it. -/
theorem expand_pieces : ∀ (f : Nat) (l : List (List UInt8)) (fuel a : Nat) (ns : List (List UInt8)), l ≠ [] → l.length ≤ f → (∀ y ∈ l, Bare y) → ns.length + l.length ≤ 256 → (Go.Lib.join (pieces f l) [44]).length < fuel →
    pExpand fuel a (Go.Lib.join (pieces f l) [44]) ns = (ns ++ l, 0, 0)
  | 0, l, _, _, _, h0, hl, _, _, _ => absurd (List.eq_nil_of_length_eq_zero (by omega)) h0
  | f + 1, [], _, _, _, h0, _, _, _, _ => absurd rfl h0
  | f + 1, x :: xs, 0, _, _, _, _, _, _, hf => absurd hf (Nat.not_lt_zero _)
  | f + 1, x :: xs, fuel + 1, a, ns, _, hl, hb, hn, hf => by
    obtain ⟨r1, r2⟩ := runLen_le x xs
    rw [pieces_some, Go.Lib.join_cons] at hf ⊢
    have hk : ((x :: xs).take (runLen x xs)).length = runLen x xs := by rw [List.length_take, List.length_cons]; omega
    by_cases he : (x :: xs).drop (runLen x xs) = []
    · rw [he]
      have hp : pieces f [] = [] := by cases f <;> rfl
      rw [hp]
      obtain ⟨p, rs, e1, e2, e3⟩ := piece_reads x xs (Go.Lib.joinTail [44] []) hb (fun c hc => by simp [Go.Lib.joinTail] at hc)
      unfold pExpand
      rw [e1]
      simp only
      rw [if_neg (by rw [e3, hk]; simp only [List.length_cons] at hn; omega), if_pos (by simp [Go.Lib.joinTail]), e2]
      have := List.take_append_drop (runLen x xs) (x :: xs)
      rw [he, List.append_nil] at this
      rw [this]
    · obtain ⟨y, ys, hys⟩ := List.exists_cons_of_ne_nil he
      have hlen : ((x :: xs).drop (runLen x xs)).length = xs.length + 1 - runLen x xs := by rw [List.length_drop, List.length_cons]
      have hfl : (y :: ys).length ≤ f := by rw [← hys, hlen]; simp only [List.length_cons] at hl; omega
      have hbs : ∀ z ∈ y :: ys, Bare z := fun z hz => hb z (List.mem_of_mem_drop (by rw [hys]; exact hz))
      cases f with
      | zero => simp at hfl
      | succ f =>
        rw [hys] at hf ⊢
        have hjt : Go.Lib.joinTail [44] (pieces (f + 1) (y :: ys)) = 44 :: Go.Lib.join (pieces (f + 1) (y :: ys)) [44] := by
          rw [pieces_some, Go.Lib.join_cons]
          simp [Go.Lib.joinTail]
        rw [hjt] at hf ⊢
        obtain ⟨p, rs, e1, e2, e3⟩ := piece_reads x xs (44 :: Go.Lib.join (pieces (f + 1) (y :: ys)) [44]) hb (fun c hc => by simp at hc; exact hc.symm)
        unfold pExpand
        rw [e1]
        simp only
        have hrl : runLen x xs + (y :: ys).length = xs.length + 1 := by rw [← hys, hlen]; omega
        rw [if_neg (by rw [e3, hk]; simp only [List.length_cons] at hn; omega), if_neg (by simp), drop_mid, e2]
        rw [expand_pieces (f + 1) (y :: ys) fuel (a + _ + 1) (ns ++ (x :: xs).take (runLen x xs)) (by simp) hfl hbs (by rw [List.length_append, hk]; simp only [List.length_cons] at hn hrl ⊢; omega) (by simp only [List.length_append, List.length_cons] at hf; omega), List.append_assoc, ← hys, List.take_append_drop]
theorem expand_compress (l : List (List UInt8)) (hb : ∀ y ∈ l, Bare y) (hl : l.length ≤ 256) : expand (compress l) = (l, 0, 0) := by
  unfold expand compress
  by_cases h0 : l = []
  · subst h0; rfl
  · have hne : Go.Lib.join (pieces l.length l) [44] ≠ [] := by
      obtain ⟨x, xs, rfl⟩ := List.exists_cons_of_ne_nil h0
      intro he
      have h := expand_pieces (x :: xs).length (x :: xs) 1 0 [] (by simp) (Nat.le_refl _) hb (by simpa using hl) (by rw [he]; simp)
      rw [he] at h
      have h2 : pExpand 1 0 [] [] = ([], 4, 0) := rfl
      rw [h2] at h
      simp at h
    rw [if_neg hne, expand_pieces l.length l _ 0 [] h0 (Nat.le_refl _) hb (by simpa using hl) (by omega), List.nil_append]
end Go.Proofs.YtkmknogejhhajabDoor
