/-
  Parts: QMath QOrd QBox QLeaf QRow QIdx QDel QCmd QRd QRead.
-/
import Derived.Test.YtjpihophigjbpaaGreatDoorK1
import Derived.Test.YtjpihophigjbpaaGreatDoorD1
import Derived.Test.YtjpihophigjbpaaGreatDoorY1
import Derived.Lib.SliceRun
import Derived.Laws.EntriesVeiled
import Derived.BigRegion
import Derived.Deep.RegionHeld3
import Derived.Deep.RegionLaw
import Derived.Shelf.RegionOpenPlain
set_option linter.unusedSimpArgs false
set_option linter.unusedVariables false
/-
  What a command is, and what its text tells, as plain functions.
-/
namespace Go.Proofs.YtjpihophigjbpaaGreatDoor

structure CmdC where
  kind : Int
  user : Str
  part : Str
  qos : Str
  name : Str
  nodes : Int
  time : Int
  run : Int
  req : Vs.V3
  any : Bool
  items : List Ds.Itm
  idx : List Int
  lim : Int
  job : Int
  host : Str
def noCmd : CmdC := ⟨0, [], [], [], [], 0, 0, 0, (0, 0, 0), false, [], [], 0, 0, []⟩
def bareC : CmdC := { noCmd with kind := 1, nodes := 1 }
/-- Both are the same. -/
def sameQ (a b : CmdC) : Bool :=
  decide (a.kind = b.kind) && decide (a.user = b.user) && decide (a.part = b.part) && decide (a.qos = b.qos) && decide (a.name = b.name) && decide (a.nodes = b.nodes) && decide (a.time = b.time) && decide (a.run = b.run)
    && decide (a.req = b.req) && decide (a.any = b.any) && decide (a.items = b.items) && decide (a.idx = b.idx) && decide (a.lim = b.lim) && decide (a.job = b.job) && decide (a.host = b.host)
theorem sameQ_iff (a b : CmdC) : sameQ a b = true ↔ a = b := by
  obtain ⟨a1, a2, a3, a4, a5, a6, a7, a8, a9, a10, a11, a12, a13, a14, a15⟩ := a
  obtain ⟨b1, b2, b3, b4, b5, b6, b7, b8, b9, b10, b11, b12, b13, b14, b15⟩ := b
  unfold sameQ
  simp only [Bool.and_eq_true, decide_eq_true_eq, CmdC.mk.injEq, and_assoc]
def oUser : Str := [117, 115, 101, 114]
def oNodes : Str := [110, 111, 100, 101, 115]
def oReq : Str := [114, 101, 113]
def oName : Str := [110, 97, 109, 101]
def oDep : Str := [100, 101, 112]
def oArray : Str := [97, 114, 114, 97, 121]
def oRun : Str := [114, 117, 110]
/-- The options' words, in order. -/
def keysQ : List Str := [oUser, kPart, oNodes, kTime, oReq, kQos, oName, oDep, oArray, oRun]
/-- What an option's value makes of a command, if it may be. -/
def readQ (i : Nat) (v : Str) (c : CmdC) : Option CmdC :=
  match i with
  | 0 => if isNameP v = true then some { c with user := v } else none
  | 1 => if isNameP v = true then some { c with part := v } else none
  | 2 => (readNumP v).map fun n : Nat => { c with nodes := (n : Int) }
  | 3 => (readNumP v).map fun n : Nat => { c with time := (n : Int) }
  | 4 => if (Vs.parseP v).2 = 0 then some { c with req := (Vs.parseP v).1 } else none
  | 5 => if isNameP v = true then some { c with qos := v } else none
  | 6 => if isNameP v = true then some { c with name := v } else none
  | 7 => (Ds.pDep v).map fun x => { c with any := x.1, items := x.2 }
  | 8 => (Ys.pArr v).map fun x => { c with idx := x.1, lim := x.2 }
  | 9 => (readNumP v).map fun n : Nat => { c with run := (n : Int) }
  | _ => none
/-- An option's value, as a text. -/
def txtQ (i : Nat) (c : CmdC) : Str :=
  match i with
  | 0 => c.user
  | 1 => c.part
  | 2 => Vs.num c.nodes
  | 3 => Vs.num c.time
  | 4 => Vs.fmt c.req
  | 5 => c.qos
  | 6 => c.name
  | 7 => Ds.depT c.any c.items
  | 8 => if Ys.right c.idx c.lim = true then Ys.fmtT c.idx c.lim else []
  | 9 => Vs.num c.run
  | _ => []
/-- One's option put into another. -/
def cpyQ (i : Nat) (a c : CmdC) : CmdC :=
  match i with
  | 0 => { c with user := a.user }
  | 1 => { c with part := a.part }
  | 2 => { c with nodes := a.nodes }
  | 3 => { c with time := a.time }
  | 4 => { c with req := a.req }
  | 5 => { c with qos := a.qos }
  | 6 => { c with name := a.name }
  | 7 => { c with any := a.any, items := a.items }
  | 8 => { c with idx := a.idx, lim := a.lim }
  | 9 => { c with run := a.run }
  | _ => c
/-- Options read one behind the other; those that may still come. -/
def subQ : List Nat → List Str → CmdC → Option CmdC
  | _, [], c => some c
  | left, w :: ws, c => if 61 ∈ w then match place (left.map fun i => keysQ.getD i []) (Vs.upTo 61 w) with
      | none => none
      | some j => match readQ (left.getD j 10) (Vs.behind 61 w) c with
        | none => none
        | some c' => subQ (left.eraseIdx j) ws c'
    else none
def fullQ (c : CmdC) : Bool := !c.user.isEmpty && !c.part.isEmpty && decide (1 ≤ c.nodes) && decide (c.nodes ≤ 256)
def submitQ (ws : List Str) : Option CmdC := match subQ (List.range 10) ws bareC with
  | none => none
  | some c => if fullQ c = true then some c else none
def wSubmit : Str := [115, 117, 98, 109, 105, 116]
def wCancel : Str := [99, 97, 110, 99, 101, 108]
def wHold : Str := [104, 111, 108, 100]
def wRelease : Str := [114, 101, 108, 101, 97, 115, 101]
def wRequeue : Str := [114, 101, 113, 117, 101, 117, 101]
def wDrain : Str := [100, 114, 97, 105, 110]
def wResume : Str := [114, 101, 115, 117, 109, 101]
def wQueue : Str := [113, 117, 101, 117, 101]
def wUsage : Str := [117, 115, 97, 103, 101]
/-- The first words, by their kinds. -/
def firstQ (k : Int) : Str :=
  if k = 1 then wSubmit else if k = 2 then wCancel else if k = 3 then wHold else if k = 4 then wRelease else if k = 5 then wRequeue
  else if k = 6 then wDrain else if k = 7 then wResume else if k = 8 then wQueue else if k = 9 then oNodes else if k = 10 then wUsage else []
def kindQ (s : Str) : Int :=
  if s = wSubmit then 1 else if s = wCancel then 2 else if s = wHold then 3 else if s = wRelease then 4 else if s = wRequeue then 5
  else if s = wDrain then 6 else if s = wResume then 7 else if s = wQueue then 8 else if s = oNodes then 9 else if s = wUsage then 10 else 0
def jobOkQ (d : Str) : Option Nat := match readNumP d with
  | none => none
  | some n => if d.length ≤ 6 ∧ d.head? ≠ some 48 then some n else none
def jobQ (k : Int) : List Str → Option CmdC
  | [d] => (jobOkQ d).map fun n : Nat => { noCmd with kind := k, job := (n : Int) }
  | _ => none
def hostQ (k : Int) : List Str → Option CmdC
  | [h] => if (Hs.expand h).2.1 = 0 then some { noCmd with kind := k, host := h } else none
  | _ => none
theorem jobQ_one (k : Int) (d : Str) : jobQ k [d] = (jobOkQ d).map fun n : Nat => { noCmd with kind := k, job := (n : Int) } := rfl
theorem hostQ_one (k : Int) (h : Str) : hostQ k [h] = if (Hs.expand h).2.1 = 0 then some { noCmd with kind := k, host := h } else none := rfl
def readC (k : Int) (ws : List Str) : Option CmdC :=
  if k = 1 then submitQ ws
  else if k = 2 ∨ k = 3 ∨ k = 4 ∨ k = 5 then jobQ k ws
  else if k = 6 ∨ k = 7 then hostQ k ws
  else if k = 8 ∨ k = 9 ∨ k = 10 then (if ws = [] then some { noCmd with kind := k } else none)
  else none
/-- A text's words' command, and its error. -/
def wordsQ : List Str → CmdC × Int
  | [] => (noCmd, 6)
  | k :: ws => match readC (kindQ k) ws with
    | none => (noCmd, 3)
    | some c => (c, 0)
theorem wordsQ_cons (k : Str) (ws : List Str) : wordsQ (k :: ws) = match readC (kindQ k) ws with
    | none => (noCmd, 3)
    | some c => (c, 0) := rfl
def cmdP (s : Str) : CmdC × Int := if 4096 < s.length then (noCmd, 5) else wordsQ (words s)
def optT (i : Nat) (c : CmdC) : Str := if txtQ i c = txtQ i bareC then [] else 32 :: (keysQ.getD i [] ++ 61 :: txtQ i c)
def optsT (c : CmdC) : Str := (List.range 10).flatMap fun i => optT i c
def textQ (c : CmdC) : Str :=
  if c.kind = 1 then wSubmit ++ optsT c
  else if c.kind = 2 ∨ c.kind = 3 ∨ c.kind = 4 ∨ c.kind = 5 then firstQ c.kind ++ 32 :: Vs.num c.job
  else if c.kind = 6 ∨ c.kind = 7 then firstQ c.kind ++ 32 :: c.host
  else firstQ c.kind
def rightQ (c : CmdC) : Bool := decide ((cmdP (textQ c)).2 = 0) && sameQ (cmdP (textQ c)).1 c
def fmtQ (c : CmdC) : Str × Int := if rightQ c = true then (textQ c, 0) else ([], 3)
end Go.Proofs.YtjpihophigjbpaaGreatDoor
/-
  Plain mathematics: the order of options does not count.
-/
namespace Go.Proofs.YtjpihophigjbpaaGreatDoor

def okQ (i : Nat) (v : Str) : Bool :=
  match i with
  | 0 => isNameP v
  | 1 => isNameP v
  | 2 => (readNumP v).isSome
  | 3 => (readNumP v).isSome
  | 4 => decide ((Vs.parseP v).2 = 0)
  | 5 => isNameP v
  | 6 => isNameP v
  | 7 => (Ds.pDep v).isSome
  | 8 => (Ys.pArr v).isSome
  | 9 => (readNumP v).isSome
  | _ => false
def setQ (i : Nat) (v : Str) (c : CmdC) : CmdC :=
  match i with
  | 0 => { c with user := v }
  | 1 => { c with part := v }
  | 2 => { c with nodes := ((readNumP v).getD 0 : Nat) }
  | 3 => { c with time := ((readNumP v).getD 0 : Nat) }
  | 4 => { c with req := (Vs.parseP v).1 }
  | 5 => { c with qos := v }
  | 6 => { c with name := v }
  | 7 => { c with any := ((Ds.pDep v).getD (false, [])).1, items := ((Ds.pDep v).getD (false, [])).2 }
  | 8 => { c with idx := ((Ys.pArr v).getD ([], 0)).1, lim := ((Ys.pArr v).getD ([], 0)).2 }
  | 9 => { c with run := ((readNumP v).getD 0 : Nat) }
  | _ => c
theorem opt_if {α β : Type} (o : Option α) (f : α → β) (d : α) : o.map f = if o.isSome = true then some (f (o.getD d)) else none := by cases o <;> rfl
theorem readQ_eq (i : Nat) (v : Str) (c : CmdC) : readQ i v c = if okQ i v = true then some (setQ i v c) else none := by
  rcases i with _ | _ | _ | _ | _ | _ | _ | _ | _ | _ | i
  · rfl
  · rfl
  · exact opt_if (readNumP v) (fun n : Nat => { c with nodes := (n : Int) }) 0
  · exact opt_if (readNumP v) (fun n : Nat => { c with time := (n : Int) }) 0
  · show (if _ then _ else _) = (if decide _ = true then _ else _)
    simp only [decide_eq_true_eq]
    rfl
  · rfl
  · rfl
  · exact opt_if (Ds.pDep v) (fun x => { c with any := x.1, items := x.2 }) (false, [])
  · exact opt_if (Ys.pArr v) (fun x => { c with idx := x.1, lim := x.2 }) ([], 0)
  · exact opt_if (readNumP v) (fun n : Nat => { c with run := (n : Int) }) 0
  · rfl
theorem setQ_comm (i j : Nat) (h : i ≠ j) (v u : Str) (c : CmdC) : setQ j u (setQ i v c) = setQ i v (setQ j u c) := by
  rcases i with _ | _ | _ | _ | _ | _ | _ | _ | _ | _ | i <;> rcases j with _ | _ | _ | _ | _ | _ | _ | _ | _ | _ | j <;> first | rfl | exact absurd rfl h
/-- What an option's word tells: which option, and its value. -/
def optOf (w : Str) : Option (Nat × Str) := if 61 ∈ w then (place keysQ (Vs.upTo 61 w)).map fun i => (i, Vs.behind 61 w) else none
/-- Options read, those that came known. -/
def subS : List Nat → List Str → CmdC → Option CmdC
  | _, [], c => some c
  | came, w :: ws, c => match optOf w with
    | none => none
    | some x => if x.1 ∈ came then none else if okQ x.1 x.2 = true then subS (x.1 :: came) ws (setQ x.1 x.2 c) else none
theorem subS_came : ∀ (ws : List Str) (a b : List Nat) (c : CmdC), (∀ x, x ∈ a ↔ x ∈ b) → subS a ws c = subS b ws c
  | [], _, _, _, _ => by unfold subS; rfl
  | w :: ws, a, b, c, h => by
    unfold subS
    cases optOf w with
    | none => rfl
    | some x =>
      simp only
      by_cases hx : x.1 ∈ a
      · rw [if_pos hx, if_pos ((h _).1 hx)]
      · rw [if_neg hx, if_neg (fun k => hx ((h _).2 k)), subS_came ws (x.1 :: a) (x.1 :: b) (setQ x.1 x.2 c) (fun y => by simp [h y])]
theorem subS_cons (came : List Nat) (w : Str) (ws : List Str) (c : CmdC) : subS came (w :: ws) c = match optOf w with
    | none => none
    | some x => if x.1 ∈ came then none else if okQ x.1 x.2 = true then subS (x.1 :: came) ws (setQ x.1 x.2 c) else none := by rw [subS]
theorem subS_swap (a b : Str) (r : List Str) (came : List Nat) (c : CmdC) : subS came (a :: b :: r) c = subS came (b :: a :: r) c := by
  rw [subS_cons, subS_cons came b]
  cases ha : optOf a with
  | none =>
    cases hb : optOf b with
    | none => rfl
    | some y => simp only [subS_cons _ a, ha, ite_self]
  | some x =>
    cases hb : optOf b with
    | none => simp only [subS_cons _ b, hb, ite_self]
    | some y =>
      simp only [subS_cons _ b, subS_cons _ a, ha, hb, List.mem_cons]
      by_cases he : x.1 = y.1
      · simp only [he, true_or, if_true, ite_self]
      · have he' : ¬ y.1 = x.1 := fun k => he k.symm
        simp only [he, he', false_or]
        by_cases h1 : x.1 ∈ came
        · simp only [h1, if_true, ite_self]
        · by_cases h2 : y.1 ∈ came
          · simp only [h1, h2, if_true, if_false, ite_self]
          · simp only [h1, h2, if_false]
            by_cases o1 : okQ x.1 x.2 = true
            · by_cases o2 : okQ y.1 y.2 = true
              · simp only [o1, o2, if_true]
                rw [setQ_comm _ _ he, subS_came r _ (x.1 :: y.1 :: came) _ (fun z => by simp only [List.mem_cons]; exact ⟨fun h => by rcases h with h | h | h <;> simp [h], fun h => by rcases h with h | h | h <;> simp [h]⟩)]
              · simp only [o1, o2, if_true, if_false, ite_self, Bool.false_eq_true]
            · simp only [o1, if_false, ite_self, Bool.false_eq_true]
theorem subS_perm {l m : List Str} (h : l.Perm m) : ∀ (came : List Nat) (c : CmdC), subS came l c = subS came m c := by
  induction h with
  | nil => intro _ _; rfl
  | cons w _ ih =>
    intro came c
    rw [subS_cons, subS_cons]
    cases optOf w with
    | none => rfl
    | some x => simp only [ih]
  | swap a b r => intro came c; exact subS_swap b a r came c
  | trans _ _ ih1 ih2 => intro came c; rw [ih1, ih2]
def leftOf (came : List Nat) : List Nat := (List.range 10).filter fun i => decide (i ∉ came)
theorem leftOf_nil : leftOf [] = List.range 10 := by decide
theorem leftOf_nodup (came : List Nat) : (leftOf came).Nodup := List.nodup_range.filter _
theorem mem_leftOf {came : List Nat} {i : Nat} : i ∈ leftOf came ↔ i < 10 ∧ i ∉ came := by unfold leftOf; simp
theorem keys_inj {i j : Nat} (hi : i < 10) (hj : j < 10) (h : keysQ.getD i [] = keysQ.getD j []) : i = j := by
  have : ∀ a : Fin 10, ∀ b : Fin 10, keysQ.getD a.val [] = keysQ.getD b.val [] → a = b := by decide
  have := this ⟨i, hi⟩ ⟨j, hj⟩ h
  injection this
theorem place_mem {l : List Str} {s : Str} : place l s = none ↔ s ∉ l := by
  unfold place
  rw [List.findIdx?_eq_none_iff]
  constructor
  · intro h hs; simpa using h s hs
  · intro h x hx; simp; intro e; exact h (e ▸ hx)
theorem eraseIdx_filter : ∀ (L : List Nat) (j : Nat) (h : j < L.length), L.Nodup → L.eraseIdx j = L.filter (fun x => decide (x ≠ L[j]))
  | [], _, h, _ => absurd h (Nat.not_lt_zero _)
  | x :: r, 0, _, hn => by
    have hx := (List.nodup_cons.1 hn).1
    simp only [List.eraseIdx_cons_zero, List.getElem_cons_zero]
    rw [List.filter_cons, if_neg (by simp)]
    exact (List.filter_eq_self.2 fun y hy => by simp; intro e; exact hx (e ▸ hy)).symm
  | x :: r, j + 1, h, hn => by
    have h2 := List.nodup_cons.1 hn
    have hj : j < r.length := by simpa using h
    simp only [List.eraseIdx_cons_succ, List.getElem_cons_succ]
    rw [List.filter_cons, if_pos (by simp; intro e; exact h2.1 (e ▸ List.getElem_mem hj)), eraseIdx_filter r j hj h2.2]
theorem place_at {L : List Nat} {key : Nat → Str} {i : Nat} (hn : L.Nodup) (hi : i ∈ L) (hk : ∀ x ∈ L, key x = key i → x = i) : ∃ j, place (L.map key) (key i) = some j ∧ L.getD j 10 = i ∧ L.eraseIdx j = L.filter (fun x => decide (x ≠ i)) := by
  obtain ⟨j, hj, rfl⟩ := List.getElem_of_mem hi
  refine ⟨j, ?_, by simp [hj], ?_⟩
  · unfold place
    rw [List.findIdx?_eq_some_iff_getElem]
    refine ⟨by simpa using hj, by simp, fun k hkj => ?_⟩
    simp only [List.getElem_map, Bool.not_eq_true, beq_eq_false_iff_ne, ne_eq]
    intro e
    have := hk _ (List.getElem_mem (by omega)) e
    have := (List.getElem_inj hn).1 this
    omega
  · exact eraseIdx_filter L j hj hn
theorem place_keys {k : Str} {i : Nat} (h : place keysQ k = some i) : i < 10 ∧ keysQ.getD i [] = k := by
  unfold place at h
  rw [List.findIdx?_eq_some_iff_getElem] at h
  obtain ⟨a, b, _⟩ := h
  exact ⟨a, by simp at b; simp [show i < keysQ.length from a, b]⟩
theorem subQ_subS : ∀ (ws : List Str) (came : List Nat) (c : CmdC), subQ (leftOf came) ws c = subS came ws c
  | [], _, _ => by unfold subQ subS; rfl
  | w :: ws, came, c => by
    unfold subQ subS optOf
    by_cases h : (61 : UInt8) ∈ w
    · rw [if_pos h, if_pos h]
      generalize Vs.upTo 61 w = k
      generalize Vs.behind 61 w = v
      cases hp : place keysQ k with
      | none =>
        have hk := place_mem.1 hp
        have : place ((leftOf came).map fun i => keysQ.getD i []) k = none := by
          rw [place_mem]
          intro hm
          obtain ⟨i, hi, rfl⟩ := List.mem_map.1 hm
          have := (mem_leftOf.1 hi).1
          exact hk (by simp [show i < keysQ.length from this])
        rw [this]; rfl
      | some i =>
        obtain ⟨hi, rfl⟩ := place_keys hp
        simp only [Option.map]
        by_cases hc : i ∈ came
        · have : place ((leftOf came).map fun i => keysQ.getD i []) (keysQ.getD i []) = none := by
            rw [place_mem]
            intro hm
            obtain ⟨j, hj, e⟩ := List.mem_map.1 hm
            have hj2 := mem_leftOf.1 hj
            have := keys_inj hj2.1 hi e
            subst this
            exact hj2.2 hc
          rw [this, if_pos hc]
        · obtain ⟨j, e1, e2, e3⟩ := place_at (key := fun i => keysQ.getD i []) (leftOf_nodup came) (mem_leftOf.2 ⟨hi, hc⟩) (fun x hx e => keys_inj (mem_leftOf.1 hx).1 hi e)
          have e4 : (leftOf came).eraseIdx j = leftOf (i :: came) := by
            rw [e3]
            unfold leftOf
            rw [List.filter_filter]
            congr 1
            funext x
            simp
          rw [e1, if_neg hc]
          simp only [e2, e4, readQ_eq]
          by_cases ho : okQ i v = true
          · simp only [ho, if_true]
            exact subQ_subS ws (i :: came) _
          · simp only [ho, Bool.false_eq_true, if_false]
    · rw [if_neg h, if_neg h]
theorem submitQ_perm {l m : List Str} (h : l.Perm m) : submitQ l = submitQ m := by
  unfold submitQ
  rw [← leftOf_nil, subQ_subS, subQ_subS, subS_perm h]
end Go.Proofs.YtjpihophigjbpaaGreatDoor
/-
  Blocks some cells of which are written over; worlds of which some blocks alone have turned.
-/
namespace Go.Proofs.YtjpihophigjbpaaGreatDoor
open Go.RowKit Go.Shelf Vs

/-- Values put over others, from a place on. -/
def overL : List Value → Nat → List Value → List Value
  | cs, _, [] => cs
  | cs, o, v :: r => overL (cs.set o v) (o + 1) r
theorem overL_eq : ∀ (vs cs : List Value) (o : Nat), o + vs.length ≤ cs.length → overL cs o vs = cs.take o ++ vs ++ cs.drop (o + vs.length)
  | [], cs, o, h => by unfold overL; simp
  | v :: r, cs, o, h => by
    simp only [List.length_cons] at h
    unfold overL
    rw [overL_eq r (cs.set o v) (o + 1) (by simp; omega)]
    have h1 : (cs.set o v).take (o + 1) = cs.take o ++ [v] := by
      rw [List.take_succ_eq_append_getElem (by simp; omega), List.take_set_of_le (Nat.le_refl _)]
      simp
    have h2 : (cs.set o v).drop (o + 1 + r.length) = cs.drop (o + (v :: r).length) := by
      rw [List.drop_set_of_lt (by omega)]
      congr 1
      simp only [List.length_cons]
      omega
    rw [h1, h2]
    simp
theorem Box.setCells {b : Nat} {T : TypeId} : ∀ (vs : List Value) {w : World} {cs : List Value} (o : Nat), Box w b T cs → Box (w.setCells b o vs) b T (overL cs o vs)
  | [], _, _, _, h => h
  | v :: r, _, _, o, h => Box.setCells r (o + 1) (Box.set h o v)
/-- Of what there was but these blocks have turned. -/
structure ChX (X : Nat → Prop) (w w' : World) : Prop where
  os : w'.os = w.os
  tape : w'.tape = w.tape
  output : w'.output = w.output
  size : w.heap.size ≤ w'.heap.size
  block : ∀ k, k < w.heap.size → ¬ X k → w'.heap[k]? = w.heap[k]?
section
variable {X : Nat → Prop} {w w1 w2 : World}
theorem ChX.of (h : Below w.heap.size w w1) : ChX X w w1 := ⟨h.os, h.tape, h.output, h.size, fun k hk _ => h.block k hk⟩
theorem ChX.refl : ChX X w w := ChX.of (Below.refl _ _)
theorem ChX.on (h : ChX X w w1) (hb : Below w1.heap.size w1 w2) : ChX X w w2 :=
  ⟨hb.os.trans h.os, hb.tape.trans h.tape, hb.output.trans h.output, Nat.le_trans h.size hb.size, fun k hk hx => (hb.block k (Nat.lt_of_lt_of_le hk h.size)).trans (h.block k hk hx)⟩
theorem ChX.aft {b : Nat} (h : ChX X w w1) (ha : Aft b w1 w2) (hb : X b ∨ w.heap.size ≤ b) : ChX X w w2 :=
  ⟨ha.os.trans h.os, ha.tape.trans h.tape, ha.output.trans h.output, Nat.le_trans h.size ha.size, fun k hk hx => (ha.block k (Nat.lt_of_lt_of_le hk h.size) (fun e => by
    injection e with e
    rcases hb with h1 | h1
    · exact hx (e ▸ h1)
    · omega)).trans (h.block k hk hx)⟩
theorem ChX.trans (h : ChX X w w1) (k : ChX X w1 w2) : ChX X w w2 :=
  ⟨k.os.trans h.os, k.tape.trans h.tape, k.output.trans h.output, Nat.le_trans h.size k.size, fun i hi hx => (k.block i (Nat.lt_of_lt_of_le hi h.size) hx).trans (h.block i hi hx)⟩
theorem ChX.below {B : Nat} (h : ChX X w w1) (hX : ∀ k, X k → B ≤ k) (hB : B ≤ w.heap.size) : Below B w w1 :=
  ⟨h.os, h.tape, h.output, h.size, fun k hk => h.block k (by omega) (fun hx => by have := hX k hx; omega)⟩
theorem ChX.cell (h : ChX X w w1) {p : Addr} (hp : p.block < w.heap.size) (hx : ¬ X p.block) : w1.cell? p = w.cell? p := World.cell?_of_block (h.block p.block hp hx)
end
theorem Aft.setCells {b : Nat} {w : World} : ∀ (vs : List Value) (o : Nat) {w' : World}, Aft b w w' → Aft b w (w'.setCells b o vs)
  | [], _, _, h => h
  | v :: r, o, _, h => Aft.setCells r (o + 1) (Aft.set h o v)
/-- One element, made what an element is that nobody has set. -/
theorem run_clear_one {P : Program} (w : World) (t e ty : TypeId) (z : Value) (cs : List Value) (ht : P.underlying t = some (.slice e)) (hv : ∀ w, (zeroValue e).run P w = .ok z w) (hz : z.cells.toList = cs) (h1 : ∀ v ∈ cs, v.oneCell' = true) (b o c : Nat)
    (hc : ∀ j, j < cs.length → (w.cell? ⟨b, o + j, none⟩).isSome = true) (hf : ∀ j, j < cs.length → w.frozen? ⟨b, o + j, none⟩ = false) :
    (Builtin.clear_ #[t] ty #[.slice (some ⟨b, o, none⟩) 1 c]).run P w = .ok (.tuple #[]) (w.setCells b o cs) := by
  have hzc : (Builtin.zeroCells z.cells 1).toList = cs := by
    rw [← hz]
    simp only [Builtin.zeroCells, Nat.one_mul]
    apply List.ext_getElem
    · simp
    · intro i h1 h2
      simp at h1
      simp [Nat.mod_eq_of_lt h1, h1]
  have hst := run_storeCells_cells (P := P) b o cs 0 w (by simpa using hc) (by simpa using hf) h1
  simp only [Nat.add_zero] at hst
  simp [Builtin.clear_, run_underlying ht, hv, hzc, hst]
end Go.Proofs.YtjpihophigjbpaaGreatDoor
/-
  The smallest calls: first words, kinds, options of one value.
-/
namespace Go.Proofs.YtjpihophigjbpaaGreatDoor
open Go.RowKit Go.Shelf Vs

set_option maxRecDepth 100000 in
set_option maxHeartbeats 2000000 in
theorem firstWord_any (k : Int) (w : World) : Calls Tryz.prog 24 #[.int .i64 k] w fun e w' => e = .returned (.string (str (firstQ k))) ∧ w' = w := by
  have hcase : k = 1 ∨ k = 2 ∨ k = 3 ∨ k = 4 ∨ k = 5 ∨ k = 6 ∨ k = 7 ∨ k = 8 ∨ k = 9 ∨ k = 10 ∨ (k ≠ 1 ∧ k ≠ 2 ∧ k ≠ 3 ∧ k ≠ 4 ∧ k ≠ 5 ∧ k ≠ 6 ∧ k ≠ 7 ∧ k ≠ 8 ∧ k ≠ 9 ∧ k ≠ 10) := by omega
  rcases hcase with rfl | rfl | rfl | rfl | rfl | rfl | rfl | rfl | rfl | rfl | ⟨h1, h2, h3, h4, h5, h6, h7, h8, h9, h10⟩
  case inr.inr.inr.inr.inr.inr.inr.inr.inr.inr =>
    have hE := fhid (show firstQ k = [] by unfold firstQ; rw [if_neg h1, if_neg h2, if_neg h3, if_neg h4, if_neg h5, if_neg h6, if_neg h7, if_neg h8, if_neg h9, if_neg h10])
    have b1 : (k == 1) = false := by simpa using h1
    have b2 : (k == 2) = false := by simpa using h2
    have b3 : (k == 3) = false := by simpa using h3
    have b4 : (k == 4) = false := by simpa using h4
    have b5 : (k == 5) = false := by simpa using h5
    have b6 : (k == 6) = false := by simpa using h6
    have b7 : (k == 7) = false := by simpa using h7
    have b8 : (k == 8) = false := by simpa using h8
    have b9 : (k == 9) = false := by simpa using h9
    have b10 : (k == 10) = false := by simpa using h10
    go_enter Tryz.func24, Tryz.ntmps24
    go_wp2
    go_ret
    exact ⟨by rw [hE.out]; rfl, rfl⟩
  all_goals
    go_enter Tryz.func24, Tryz.ntmps24
    go_wp2
    go_ret
    exact ⟨rfl, rfl⟩
theorem kindQ_at (s : Str) (k : Nat) (h1 : 1 ≤ k) (h2 : k ≤ 10) (hn : ∀ j : Nat, 1 ≤ j → j < k → firstQ j ≠ s) (h : firstQ k = s) : kindQ s = k := by
  subst h
  have : k = 1 ∨ k = 2 ∨ k = 3 ∨ k = 4 ∨ k = 5 ∨ k = 6 ∨ k = 7 ∨ k = 8 ∨ k = 9 ∨ k = 10 := by omega
  rcases this with rfl | rfl | rfl | rfl | rfl | rfl | rfl | rfl | rfl | rfl <;> decide
theorem kindQ_no (s : Str) (hn : ∀ j : Nat, 1 ≤ j → j < 11 → firstQ j ≠ s) : kindQ s = 0 := by
  have k1 : s ≠ wSubmit := Ne.symm (hn 1 (by decide) (by decide))
  have k2 : s ≠ wCancel := Ne.symm (hn 2 (by decide) (by decide))
  have k3 : s ≠ wHold := Ne.symm (hn 3 (by decide) (by decide))
  have k4 : s ≠ wRelease := Ne.symm (hn 4 (by decide) (by decide))
  have k5 : s ≠ wRequeue := Ne.symm (hn 5 (by decide) (by decide))
  have k6 : s ≠ wDrain := Ne.symm (hn 6 (by decide) (by decide))
  have k7 : s ≠ wResume := Ne.symm (hn 7 (by decide) (by decide))
  have k8 : s ≠ wQueue := Ne.symm (hn 8 (by decide) (by decide))
  have k9 : s ≠ oNodes := Ne.symm (hn 9 (by decide) (by decide))
  have k10 : s ≠ wUsage := Ne.symm (hn 10 (by decide) (by decide))
  unfold kindQ
  rw [if_neg k1, if_neg k2, if_neg k3, if_neg k4, if_neg k5, if_neg k6, if_neg k7, if_neg k8, if_neg k9, if_neg k10]
set_option maxRecDepth 100000 in
set_option maxHeartbeats 2000000 in
theorem kindOf_any (s : Str) (w : World) : Calls Tryz.prog 18 #[.string (str s)] w fun e w' => e = .returned (.int .i64 (kindQ s)) ∧ ∃ q, w' = w.drewN q := by
  have hfw := fun (k : Nat) W => firstWord_any (k : Int) W
  have hat := fhid (fun k => kindQ_at s k)
  have hno := fhid (kindQ_no s)
  generalize hK : kindQ s = K at *
  replace hK := fhid hK
  go_enter Tryz.func18, Tryz.ntmps18
  go_wp2
  go_loopw [3] (fun i wr => ∃ k : Nat, 1 ≤ k ∧ k ≤ 11 ∧ i = .int .i64 (k : Int) ∧ Hid (∀ j : Nat, 1 ≤ j → j < k → firstQ j ≠ s) ∧ ∃ q, wr = w.drewN q) (fun i _ => 11 - (intOf i).toNat)
  case atStart => exact ⟨1, Nat.le_refl _, by decide, rfl, fhid (fun j h1 h2 => by omega), 0, rfl⟩
  case round =>
    obtain ⟨k, h1, h2, rfl, hn, q, rfl⟩ := hrel
    by_cases hlt : k ≤ 10
    · have i1 : (k : Int) ≤ 10 := by omega
      have hf := hfw k
      have hq := str_eq (str (firstQ k)) (str s)
      rw [bl_str, bl_str] at hq
      have hat2 := fhid (hat.out k h1 hlt hn.out)
      have hst := fhid (show firstQ k ≠ s → ∀ j : Nat, 1 ≤ j → j < k + 1 → firstQ j ≠ s from fun hne j hj1 hj2 => by
        by_cases e : j = k
        · rw [e]; exact hne
        · exact hn.out j hj1 (by omega))
      have hD := fhid (show firstQ k = s ↔ decide (firstQ k = s) = true by simp)
      generalize decide (firstQ k = s) = D at *
      generalize str (firstQ k) = F at *
      generalize str s = S at *
      cases D with
      | true =>
        go_wp2_with (go_at_call 24; (with_reducible refine (hf _).mono ?_); rintro e w1 ⟨rfl, rfl⟩)
        go_ret
        exact ⟨by rw [hat2.out (hD.out.2 (by simp))]; rfl, q, rfl⟩
      | false =>
        go_wp2_with (go_at_call 24; (with_reducible refine (hf _).mono ?_); rintro e w1 ⟨rfl, rfl⟩)
        go_roundw
        case rel => exact ⟨k + 1, by omega, by omega, by go_num, fhid (hst.out fun e => by have := hD.out.1 e; simp at this), q, rfl⟩
        case measure => simp [intOf]; omega
    · obtain rfl : k = 11 := by omega
      go_wp2
      go_ret
      exact ⟨by rw [hno.out (fun j a b => hn.out j a b)]; rfl, q, rfl⟩
/-- An option, as it lies in a slot: its key, and two functions of one block. -/
abbrev optV (k : ByteArray) (f1 f2 B : Nat) : Value := .agg #[.string k, .func (.func f1) #[] #[.pointer (some ⟨B, 0, none⟩)], .func (.func f2) #[] #[.pointer (some ⟨B, 0, none⟩)]]
/-- What a call that makes an option comes to. -/
def MadeO (k : ByteArray) (f1 f2 b o : Nat) (w : World) (e : Ending) (w' : World) : Prop :=
  ∃ B, e = .returned (optV k f1 f2 B) ∧ w.heap.size ≤ B ∧ w'.cell? ⟨B, 0, none⟩ = some (.pointer (some ⟨b, o, none⟩)) ∧ Below w.heap.size w w'
set_option maxRecDepth 100000 in
theorem nameOption_any (k : ByteArray) (b o : Nat) (w : World) : Calls Tryz.prog 41 #[.string k, .pointer (some ⟨b, o, none⟩)] w (MadeO k 61 63 b o w) := by
  go_enter Tryz.func41, Tryz.ntmps41
  go_wp2
  exact bodyPost_ret (v := optV k 61 63 w.heap.size) (by simp [results, Tryz.results41, go_sem]) rfl
    ⟨w.heap.size, rfl, Nat.le_refl _, by simp [go_sem], ((Below.refl _ _).alloc (Nat.le_refl _) _).alloc (by simp) _⟩
set_option maxRecDepth 100000 in
theorem numberOption_any (k : ByteArray) (b o : Nat) (w : World) : Calls Tryz.prog 42 #[.string k, .pointer (some ⟨b, o, none⟩)] w (MadeO k 64 65 b o w) := by
  go_enter Tryz.func42, Tryz.ntmps42
  go_wp2
  exact bodyPost_ret (v := optV k 64 65 w.heap.size) (by simp [results, Tryz.results42, go_sem]) rfl
    ⟨w.heap.size, rfl, Nat.le_refl _, by simp [go_sem], ((Below.refl _ _).alloc (Nat.le_refl _) _).alloc (by simp) _⟩
abbrev TCmd : TypeId := 40
abbrev TOpt : TypeId := 76
set_option maxRecDepth 100000 in
set_option maxHeartbeats 1000000 in
theorem readName_any (b o B : Nat) (cs : List Value) (v : ByteArray) (w : World) (hB : w.cell? ⟨B, 0, none⟩ = some (.pointer (some ⟨b, o, none⟩))) (hb : Box w b TCmd cs) (ho : o < cs.length) (hv : v.size ≤ 140737488355328) :
    Calls Tryz.prog 61 #[.string v, .pointer (some ⟨B, 0, none⟩)] w fun e w' => e = .returned (.bool (isNameP (bl v))) ∧ Box w' b TCmd (cs.set o (.string v)) ∧ Aft b w w' := by
  have hbl := Box.lt hb
  have hs := fhid (Box.set hb o (.string v))
  have ha := fhid (Aft.set (Aft.of (Below.refl w.heap.size w)) o (.string v) (b := b))
  have hfr := Box.free hb o
  obtain ⟨old, hcl⟩ : ∃ x, w.cell? ⟨b, o, none⟩ = some x := ⟨_, (Box.cell hb o).trans (List.getElem?_eq_getElem ho)⟩
  have hsz : (w.setCell ⟨b, o, none⟩ (.string v)).heap.size = w.heap.size := World.size_setCell _ _ _
  have hn := fun W => isName_any v W hv
  unfold BoolP at hn
  generalize isNameP (bl v) = R at *
  replace hb := fhid hb
  replace hsz := fhid hsz
  go_enter Tryz.func61, Tryz.ntmps61
  go_wp2_with (go_at_call 62; (with_reducible refine (hn _).mono ?_); rintro e w1 ⟨rfl, b1⟩)
  go_ret
  exact ⟨rfl, Box.below hs.out b1 (by rw [hsz.out]; exact hbl), ha.out.on (b1.mono (by rw [hsz.out]; exact Nat.le_refl _))⟩
set_option maxRecDepth 100000 in
theorem textName_any (b o B : Nat) (v : ByteArray) (w : World) (hB : w.cell? ⟨B, 0, none⟩ = some (.pointer (some ⟨b, o, none⟩))) (hb : w.cell? ⟨b, o, none⟩ = some (.string v)) :
    Calls Tryz.prog 63 #[.pointer (some ⟨B, 0, none⟩)] w fun e w' => e = .returned (.string v) ∧ Below w.heap.size w w' := by
  go_enter Tryz.func63, Tryz.ntmps63
  go_wp2
  go_ret
  exact ⟨rfl, Below.refl _ _⟩
set_option maxRecDepth 100000 in
set_option maxHeartbeats 1000000 in
theorem readNum_any (b o B : Nat) (cs : List Value) (v : ByteArray) (w : World) (hw : Env w) (hB : w.cell? ⟨B, 0, none⟩ = some (.pointer (some ⟨b, o, none⟩))) (hBb : B ≠ b) (hb : Box w b TCmd cs) (ho : o < cs.length) (hv : v.size ≤ 140737488355328) :
    Calls Tryz.prog 64 #[.string v, .pointer (some ⟨B, 0, none⟩)] w fun e w' => e = .returned (.bool (readNumP (bl v)).isSome) ∧ Box w' b TCmd (cs.set o (.int .i64 ((readNumP (bl v)).getD 0 : Nat))) ∧ Aft b w w' := by
  have hbl := Box.lt hb
  have hBl : B < w.heap.size := by
    by_cases h : B < w.heap.size
    · exact h
    · simp only [World.cell?] at hB
      rw [Array.getElem?_eq_none (by omega)] at hB
      cases hB
  have hn := readNumber_any v w hw hv
  cases hr : readNumP (bl v) with
  | none =>
    rw [hr] at hn
    unfold numV at hn
    simp only [Option.isSome, Option.getD] at hn ⊢
    clear hr
    go_enter Tryz.func64, Tryz.ntmps64
    go_wp2_with (go_at_call 39; (with_reducible refine hn.mono ?_); rintro e w1 ⟨rfl, b1⟩
                 have hB1 := (b1.cell (p := ⟨B, 0, none⟩) hBl).trans hB
                 have hb1 := fhid (Box.below hb b1 hbl)
                 have hfr := Box.free hb1.out o
                 obtain ⟨old, hcl⟩ : ∃ x, w1.cell? ⟨b, o, none⟩ = some x := ⟨_, (Box.cell hb1.out o).trans (List.getElem?_eq_getElem ho)⟩)
    go_ret
    exact ⟨rfl, Box.set hb1.out o _, Aft.set (Aft.of b1) o _⟩
  | some n =>
    rw [hr] at hn
    unfold numV at hn
    simp only [Option.isSome, Option.getD] at hn ⊢
    clear hr
    go_enter Tryz.func64, Tryz.ntmps64
    go_wp2_with (go_at_call 39; (with_reducible refine hn.mono ?_); rintro e w1 ⟨rfl, b1⟩
                 have hB1 := (b1.cell (p := ⟨B, 0, none⟩) hBl).trans hB
                 have hb1 := fhid (Box.below hb b1 hbl)
                 have hfr := Box.free hb1.out o
                 obtain ⟨old, hcl⟩ : ∃ x, w1.cell? ⟨b, o, none⟩ = some x := ⟨_, (Box.cell hb1.out o).trans (List.getElem?_eq_getElem ho)⟩)
    go_ret
    exact ⟨rfl, Box.set hb1.out o _, Aft.set (Aft.of b1) o _⟩
set_option maxRecDepth 100000 in
theorem textNum_any (b o B : Nat) (n : Int) (w : World) (hw : Env w) (hB : w.cell? ⟨B, 0, none⟩ = some (.pointer (some ⟨b, o, none⟩))) (hb : w.cell? ⟨b, o, none⟩ = some (.int .i64 n)) (hn : I64 n) :
    Calls Tryz.prog 65 #[.pointer (some ⟨B, 0, none⟩)] w fun e w' => e = .returned (.string (str (Vs.num n))) ∧ Below w.heap.size w w' := by
  have hi := itoa_any n w hw hn
  generalize str (Vs.num n) = S at *
  go_enter Tryz.func65, Tryz.ntmps65
  go_wp2_with (go_at_call 26; (with_reducible refine hi.mono ?_); rintro e w1 ⟨rfl, g1⟩)
  go_ret
  exact ⟨rfl, g1.below⟩
end Go.Proofs.YtjpihophigjbpaaGreatDoor
/-
  The options of a submit, as they lie in memory: a row of keys and functions.
-/
namespace Go.Proofs.YtjpihophigjbpaaGreatDoor
open Go.RowKit Go.Shelf Vs

/-- The functions that read an option, and that tell its text; where its value lies. -/
def rdF : Nat → Nat
  | 0 => 61
  | 1 => 61
  | 2 => 64
  | 3 => 64
  | 4 => 43
  | 5 => 61
  | 6 => 61
  | 7 => 47
  | 8 => 51
  | _ => 64
def txF : Nat → Nat
  | 0 => 63
  | 1 => 63
  | 2 => 65
  | 3 => 65
  | 4 => 45
  | 5 => 63
  | 6 => 63
  | 7 => 49
  | 8 => 53
  | _ => 65
def offQ : Nat → Nat
  | 0 => 1
  | 1 => 2
  | 2 => 5
  | 3 => 6
  | 5 => 3
  | 6 => 4
  | 9 => 7
  | _ => 0
/-- An option's cells; the block that its functions hold. -/
def oc (B : Nat → Nat) (i : Nat) : List Value := [.string (str (keysQ.getD i [])), .func (.func (rdF i)) #[] #[.pointer (some ⟨B i, 0, none⟩)], .func (.func (txF i)) #[] #[.pointer (some ⟨B i, 0, none⟩)]]
def rowQ (B : Nat → Nat) (l : List Nat) : List Value := l.flatMap (oc B)
theorem rowQ_len (B : Nat → Nat) (l : List Nat) : (rowQ B l).length = l.length * 3 := by
  induction l with
  | nil => rfl
  | cons i r ih =>
    show (oc B i ++ rowQ B r).length = _
    rw [List.length_append, ih, List.length_cons]
    show 3 + _ = _
    omega
theorem rowQ_app (B : Nat → Nat) (a b : List Nat) : rowQ B (a ++ b) = rowQ B a ++ rowQ B b := List.flatMap_append
theorem rowQ_at (B : Nat → Nat) : ∀ (l : List Nat) (i j : Nat) (h : i < l.length), j < 3 → (rowQ B l)[i * 3 + j]? = (oc B l[i])[j]?
  | [], i, _, h, _ => absurd h (Nat.not_lt_zero i)
  | x :: r, 0, j, _, hj => by
    show (oc B x ++ rowQ B r)[0 * 3 + j]? = _
    rw [Nat.zero_mul, Nat.zero_add, List.getElem?_append_left (by show j < 3; exact hj)]
    rfl
  | x :: r, i + 1, j, h, hj => by
    show (oc B x ++ rowQ B r)[(i + 1) * 3 + j]? = _
    rw [List.getElem?_append_right (by show 3 ≤ _; omega)]
    have := rowQ_at B r i j (by simpa using h) hj
    rw [show (i + 1) * 3 + j - (oc B x).length = i * 3 + j by show (i + 1) * 3 + j - 3 = _; omega, this]
    simp only [List.getElem_cons_succ]
/-- These options lie in block g, and behind them whatever is left. -/
def ORow (w : World) (g : Nat) (B : Nat → Nat) (l : List Nat) : Prop := ∃ Z, Box w g TOpt (rowQ B l ++ Z)
theorem ORow.lt {w : World} {g : Nat} {B : Nat → Nat} {l : List Nat} (h : ORow w g B l) : g < w.heap.size := by
  obtain ⟨Z, h⟩ := h
  exact Box.lt h
theorem ORow.keep {w w' : World} {g : Nat} {B : Nat → Nat} {l : List Nat} (h : ORow w g B l) (hk : w'.heap[g]? = w.heap[g]?) : ORow w' g B l := by
  obtain ⟨Z, h⟩ := h
  exact ⟨Z, hk.trans h⟩
theorem ORow.facts {w : World} {g : Nat} {B : Nat → Nat} {l : List Nat} (h : ORow w g B l) {i : Nat} (hi : i < l.length) :
    w.cell? ⟨g, i * 3, none⟩ = some (.string (str (keysQ.getD l[i] []))) ∧ w.cell? ⟨g, i * 3 + 1, none⟩ = some (.func (.func (rdF l[i])) #[] #[.pointer (some ⟨B l[i], 0, none⟩)]) ∧ w.cell? ⟨g, i * 3 + 2, none⟩ = some (.func (.func (txF l[i])) #[] #[.pointer (some ⟨B l[i], 0, none⟩)]) := by
  obtain ⟨Z, h⟩ := h
  have hl := rowQ_len B l
  have hc : ∀ j v, (oc B l[i])[j]? = some v → w.cell? ⟨g, i * 3 + j, none⟩ = some v := fun j v hv => by
    have hj : j < 3 := (List.getElem?_eq_some_iff.1 hv).1
    have := rowQ_at B l i j hi hj
    rw [hv] at this
    rw [Box.cell h, List.getElem?_append_left (by omega), this]
  exact ⟨hc 0 _ rfl, hc 1 _ rfl, hc 2 _ rfl⟩
/-- What is held while the options are made: the blocks that have come, each with where it points to. -/
structure HO (w0 : World) (n0 b : Nat) (l : List (Nat × Nat)) (W : World) : Prop where
  cell : W.cell? ⟨n0, 0, none⟩ = some (.pointer (some ⟨b, 0, none⟩))
  lt : n0 < W.heap.size
  all : ∀ x ∈ l, w0.heap.size ≤ x.1 ∧ x.1 < W.heap.size ∧ W.cell? ⟨x.1, 0, none⟩ = some (.pointer (some ⟨b, x.2, none⟩))
  bel : Below w0.heap.size w0 W
theorem cell_lt {w : World} {b o : Nat} {v : Value} (h : w.cell? ⟨b, o, none⟩ = some v) : b < w.heap.size := by
  by_cases hb : b < w.heap.size
  · exact hb
  · simp only [World.cell?] at h
    rw [Array.getElem?_eq_none (by omega)] at h
    cases h
theorem HO.on {w0 W W' : World} {n0 b B o : Nat} {l : List (Nat × Nat)} (h : HO w0 n0 b l W) (hb : Below W.heap.size W W') (hB : W.heap.size ≤ B) (hc : W'.cell? ⟨B, 0, none⟩ = some (.pointer (some ⟨b, o, none⟩))) : HO w0 n0 b ((B, o) :: l) W' := by
  refine ⟨(hb.cell (p := ⟨n0, 0, none⟩) h.lt).trans h.cell, Nat.lt_of_lt_of_le h.lt hb.size, fun x hx => ?_, h.bel.trans (hb.mono h.bel.size)⟩
  rcases List.mem_cons.1 hx with rfl | hx
  · exact ⟨Nat.le_trans h.bel.size hB, cell_lt hc, hc⟩
  · obtain ⟨a1, a2, a3⟩ := h.all x hx
    exact ⟨a1, Nat.lt_of_lt_of_le a2 hb.size, (hb.cell (p := ⟨x.1, 0, none⟩) a2).trans a3⟩
theorem HO.kept {w0 W : World} {n0 b : Nat} {l : List (Nat × Nat)} (h : HO w0 n0 b l W) (o : Obj) : (W.alloc o).cell? ⟨n0, 0, none⟩ = some (.pointer (some ⟨b, 0, none⟩)) :=
  (((Below.refl _ _).alloc (Nat.le_refl _) _).cell (p := ⟨n0, 0, none⟩) h.lt).trans h.cell
/-- What a call that makes the options comes to. -/
def MadeOs (b : Nat) (w : World) (e : Ending) (w' : World) : Prop :=
  ∃ g B, e = .returned (.slice (some ⟨g, 0, none⟩) 10 10) ∧ w.heap.size ≤ g ∧ ORow w' g B (List.range 10) ∧ (∀ i, i < 10 → w.heap.size ≤ B i ∧ B i < g ∧ w'.cell? ⟨B i, 0, none⟩ = some (.pointer (some ⟨b, offQ i, none⟩))) ∧ Below w.heap.size w w'
theorem made_os {w0 W : World} {b n0 B0 B1 B2 B3 B5 B6 B9 : Nat} (h : HO w0 n0 b [(B9, 7), (B6, 4), (B5, 3), (B3, 6), (B2, 5), (B1, 2), (B0, 1), (n0, 0)] W) (cs : Array Value)
    (hcs : cs.toList = rowQ (fun i => ([B0, B1, B2, B3, n0, B5, B6, n0, n0, B9] : List Nat).getD i 0) (List.range 10)) : MadeOs b w0 (.returned (.slice (some ⟨W.heap.size, 0, none⟩) 10 10)) (W.alloc (.cells cs TOpt)) := by
  have hsz := h.bel.size
  refine ⟨W.heap.size, fun i => ([B0, B1, B2, B3, n0, B5, B6, n0, n0, B9] : List Nat).getD i 0, rfl, hsz, ⟨[], ?_⟩, ?_, h.bel.alloc hsz _⟩
  · unfold Box
    rw [List.append_nil, ← hcs]
    exact heap_alloc_new W _
  · have hk : ∀ x ∈ [(B9, 7), (B6, 4), (B5, 3), (B3, 6), (B2, 5), (B1, 2), (B0, 1), (n0, 0)], w0.heap.size ≤ x.1 ∧ x.1 < W.heap.size ∧ (W.alloc (.cells cs TOpt)).cell? ⟨x.1, 0, none⟩ = some (.pointer (some ⟨b, x.2, none⟩)) := fun x hx => by
      obtain ⟨a1, a2, a3⟩ := h.all x hx
      exact ⟨a1, a2, (((Below.refl _ _).alloc (Nat.le_refl _) _).cell (p := ⟨x.1, 0, none⟩) a2).trans a3⟩
    intro i hi
    rcases i with _ | _ | _ | _ | _ | _ | _ | _ | _ | _ | i
    · exact hk (B0, 1) (by simp)
    · exact hk (B1, 2) (by simp)
    · exact hk (B2, 5) (by simp)
    · exact hk (B3, 6) (by simp)
    · exact hk (n0, 0) (by simp)
    · exact hk (B5, 3) (by simp)
    · exact hk (B6, 4) (by simp)
    · exact hk (n0, 0) (by simp)
    · exact hk (n0, 0) (by simp)
    · exact hk (B9, 7) (by simp)
    · omega
set_option maxRecDepth 100000 in
set_option maxHeartbeats 8000000 in
theorem options_any (b : Nat) (w : World) : Calls Tryz.prog 33 #[.pointer (some ⟨b, 0, none⟩)] w (MadeOs b w) := by
  have hno := fun k o W => nameOption_any k b o W
  have hnu := fun k o W => numberOption_any k b o W
  unfold MadeO at hno hnu
  have z : HO w w.heap.size b [(w.heap.size, 0)] (w.alloc (.cells #[.pointer (some ⟨b, 0, none⟩)] 73)).drew := by
    have hb : Below w.heap.size w (w.alloc (.cells #[.pointer (some ⟨b, 0, none⟩)] 73)) := (Below.refl _ _).alloc (Nat.le_refl _) _
    have hc : (w.alloc (.cells #[.pointer (some ⟨b, 0, none⟩)] 73)).cell? ⟨w.heap.size, 0, none⟩ = some (.pointer (some ⟨b, 0, none⟩)) := by simp [go_sem]
    exact ⟨hc, cell_lt hc, fun x hx => by obtain rfl := List.mem_singleton.1 hx; exact ⟨Nat.le_refl _, cell_lt hc, hc⟩, hb.drew⟩
  have hend := fhid (show ∀ (W : World) (B0 B1 B2 B3 B5 B6 B9 : Nat) (cs : Array Value), HO w w.heap.size b [(B9, 7), (B6, 4), (B5, 3), (B3, 6), (B2, 5), (B1, 2), (B0, 1), (w.heap.size, 0)] W → cs.toList = rowQ (fun i => ([B0, B1, B2, B3, w.heap.size, B5, B6, w.heap.size, w.heap.size, B9] : List Nat).getD i 0) (List.range 10) → MadeOs b w (.returned (.slice (some ⟨W.heap.size, 0, none⟩) 10 10)) (W.alloc (.cells cs TOpt)) from fun W B0 B1 B2 B3 B5 B6 B9 cs h => made_os h cs)
  generalize MadeOs b w = P at *
  go_enter Tryz.func33, Tryz.ntmps33
  go_upto_region 1 with fail
  generalize w.alloc _ = w1 at *
  refine wp_region_noPanic ?_
  refine wp_region_held_drew (S := fun w' => w'.cell? ⟨w.heap.size, 0, none⟩ = some (.pointer (some ⟨b, 0, none⟩))) (by kernel_rfl) z.cell (fun hHeld => ?_)
  refine wpAnyH_take (i := 0) (v := ?v0) rfl (by kernel_rfl) (by kernel_rfl) (by kernel_rfl) (fun _ _ _ h => h) (Or.inl ⟨by rfl, ?hy0⟩) (by assumption) ?_
  case hy0 => (intro w hSw; (try dsimp only at hSw); go_simp; try with_reducible rfl)
  try simp only [Act.put, List.setIfInBounds_toArray, List.set_cons_zero, List.set_cons_succ]
  refine wpAnyH_take (i := 1) (v := ?v1) rfl (by kernel_rfl) (by kernel_rfl) (by kernel_rfl) (fun _ _ _ h => h) (Or.inl ⟨by rfl, ?hy1⟩) (by assumption) ?_
  case hy1 => (intro w hSw; (try dsimp only at hSw); go_simp; try with_reducible rfl)
  try simp only [Act.put, List.setIfInBounds_toArray, List.set_cons_zero, List.set_cons_succ]
  refine wpAnyH_take (i := 2) (v := ?v2) rfl (by kernel_rfl) (by kernel_rfl) (by kernel_rfl) (fun _ _ _ h => h) (Or.inl ⟨by rfl, ?hy2⟩) (by assumption) ?_
  case hy2 => (intro w hSw; (try dsimp only at hSw); go_simp; try with_reducible rfl)
  try simp only [Act.put, List.setIfInBounds_toArray, List.set_cons_zero, List.set_cons_succ]
  refine wpAnyH_take (i := 4) (v := ?v4) rfl (by kernel_rfl) (by kernel_rfl) (by kernel_rfl) (fun _ _ _ h => h) (Or.inl ⟨by rfl, ?hy4⟩) (by assumption) ?_
  case hy4 => (intro w hSw; (try dsimp only at hSw); go_simp; try with_reducible rfl)
  try simp only [Act.put, List.setIfInBounds_toArray, List.set_cons_zero, List.set_cons_succ]
  refine wpAnyH_take (i := 5) (v := ?v5) rfl (by kernel_rfl) (by kernel_rfl) (by kernel_rfl) (fun _ _ _ h => h) (Or.inl ⟨by rfl, ?hy5⟩) (by assumption) ?_
  case hy5 => (intro w hSw; (try dsimp only at hSw); go_simp; try with_reducible rfl)
  try simp only [Act.put, List.setIfInBounds_toArray, List.set_cons_zero, List.set_cons_succ]
  refine wpAnyH_take (i := 6) (v := ?v6) rfl (by kernel_rfl) (by kernel_rfl) (by kernel_rfl) (fun _ _ _ h => h) (Or.inl ⟨by rfl, ?hy6⟩) (by assumption) ?_
  case hy6 => (intro w hSw; (try dsimp only at hSw); go_simp; try with_reducible rfl)
  try simp only [Act.put, List.setIfInBounds_toArray, List.set_cons_zero, List.set_cons_succ]
  refine wpAnyH_take (i := 8) (v := ?v8) rfl (by kernel_rfl) (by kernel_rfl) (by kernel_rfl) (fun _ _ _ h => h) (Or.inl ⟨by rfl, ?hy8⟩) (by assumption) ?_
  case hy8 => (intro w hSw; (try dsimp only at hSw); go_simp; try with_reducible rfl)
  try simp only [Act.put, List.setIfInBounds_toArray, List.set_cons_zero, List.set_cons_succ]
  refine wpAnyH_take (i := 9) (v := ?v9) rfl (by kernel_rfl) (by kernel_rfl) (by kernel_rfl) (fun _ _ _ h => h) (Or.inl ⟨by rfl, ?hy9⟩) (by assumption) ?_
  case hy9 => (intro w hSw; (try dsimp only at hSw); go_simp; try with_reducible rfl)
  try simp only [Act.put, List.setIfInBounds_toArray, List.set_cons_zero, List.set_cons_succ]
  refine wpAnyH_take (i := 10) (v := ?v10) rfl (by kernel_rfl) (by kernel_rfl) (by kernel_rfl) (fun _ _ _ h => h) (Or.inl ⟨by rfl, ?hy10⟩) (by assumption) ?_
  case hy10 => (intro w hSw; (try dsimp only at hSw); go_simp; try with_reducible rfl)
  try simp only [Act.put, List.setIfInBounds_toArray, List.set_cons_zero, List.set_cons_succ]
  refine wpAnyH_take (i := 12) (v := ?v12) rfl (by kernel_rfl) (by kernel_rfl) (by kernel_rfl) (fun _ _ _ h => h) (Or.inl ⟨by rfl, ?hy12⟩) (by assumption) ?_
  case hy12 => (intro w hSw; (try dsimp only at hSw); go_simp; try with_reducible rfl)
  try simp only [Act.put, List.setIfInBounds_toArray, List.set_cons_zero, List.set_cons_succ]
  refine wpAnyH_take (i := 13) (v := ?v13) rfl (by kernel_rfl) (by kernel_rfl) (by kernel_rfl) (fun _ _ _ h => h) (Or.inl ⟨by rfl, ?hy13⟩) (by assumption) ?_
  case hy13 => (intro w hSw; (try dsimp only at hSw); go_simp; try with_reducible rfl)
  try simp only [Act.put, List.setIfInBounds_toArray, List.set_cons_zero, List.set_cons_succ]
  refine wpAnyH_take (i := 14) (v := ?v14) rfl (by kernel_rfl) (by kernel_rfl) (by kernel_rfl) (fun _ _ _ h => h) (Or.inl ⟨by rfl, ?hy14⟩) (by assumption) ?_
  case hy14 => (intro w hSw; (try dsimp only at hSw); go_simp; try with_reducible rfl)
  try simp only [Act.put, List.setIfInBounds_toArray, List.set_cons_zero, List.set_cons_succ]
  refine wpAnyH_take (i := 16) (v := ?v16) rfl (by kernel_rfl) (by kernel_rfl) (by kernel_rfl) (fun _ _ _ h => h) (Or.inl ⟨by rfl, ?hy16⟩) (by assumption) ?_
  case hy16 => (intro w hSw; (try dsimp only at hSw); go_simp; try with_reducible rfl)
  try simp only [Act.put, List.setIfInBounds_toArray, List.set_cons_zero, List.set_cons_succ]
  refine wpAnyH_take (i := 17) (v := ?v17) rfl (by kernel_rfl) (by kernel_rfl) (by kernel_rfl) (fun _ _ _ h => h) (Or.inl ⟨by rfl, ?hy17⟩) (by assumption) ?_
  case hy17 => (intro w hSw; (try dsimp only at hSw); go_simp; try with_reducible rfl)
  try simp only [Act.put, List.setIfInBounds_toArray, List.set_cons_zero, List.set_cons_succ]
  refine wpAnyH_take (i := 18) (v := ?v18) rfl (by kernel_rfl) (by kernel_rfl) (by kernel_rfl) (fun _ _ _ h => h) (Or.inl ⟨by rfl, ?hy18⟩) (by assumption) ?_
  case hy18 => (intro w hSw; (try dsimp only at hSw); go_simp; try with_reducible rfl)
  try simp only [Act.put, List.setIfInBounds_toArray, List.set_cons_zero, List.set_cons_succ]
  refine wpAnyH_take (i := 19) (v := ?v19) rfl (by kernel_rfl) (by kernel_rfl) (by kernel_rfl) (fun _ _ _ h => h) (Or.inl ⟨by rfl, ?hy19⟩) (by assumption) ?_
  case hy19 => (intro w hSw; (try dsimp only at hSw); go_simp; try with_reducible rfl)
  try simp only [Act.put, List.setIfInBounds_toArray, List.set_cons_zero, List.set_cons_succ]
  refine wpAnyH_take (i := 20) (v := ?v20) rfl (by kernel_rfl) (by kernel_rfl) (by kernel_rfl) (fun _ _ _ h => h) (Or.inl ⟨by rfl, ?hy20⟩) (by assumption) ?_
  case hy20 => (intro w hSw; (try dsimp only at hSw); go_simp; try with_reducible rfl)
  try simp only [Act.put, List.setIfInBounds_toArray, List.set_cons_zero, List.set_cons_succ]
  refine wpAnyH_take (i := 21) (v := ?v21) rfl (by kernel_rfl) (by kernel_rfl) (by kernel_rfl) (fun _ _ _ h => h) (Or.inl ⟨by rfl, ?hy21⟩) (by assumption) ?_
  case hy21 => (intro w hSw; (try dsimp only at hSw); go_simp; try with_reducible rfl)
  try simp only [Act.put, List.setIfInBounds_toArray, List.set_cons_zero, List.set_cons_succ]
  refine wpAnyH_take (i := 23) (v := ?v23) rfl (by kernel_rfl) (by kernel_rfl) (by kernel_rfl) (fun _ _ _ h => h) (Or.inl ⟨by rfl, ?hy23⟩) (by assumption) ?_
  case hy23 => (intro w hSw; (try dsimp only at hSw); go_simp; try with_reducible rfl)
  try simp only [Act.put, List.setIfInBounds_toArray, List.set_cons_zero, List.set_cons_succ]
  refine wpAnyH_take (i := 24) (v := ?v24) rfl (by kernel_rfl) (by kernel_rfl) (by kernel_rfl) (fun _ _ _ h => h) (Or.inl ⟨by rfl, ?hy24⟩) (by assumption) ?_
  case hy24 => (intro w hSw; (try dsimp only at hSw); go_simp; try with_reducible rfl)
  try simp only [Act.put, List.setIfInBounds_toArray, List.set_cons_zero, List.set_cons_succ]
  refine wpAnyH_take (i := 25) (v := ?v25) rfl (by kernel_rfl) (by kernel_rfl) (by kernel_rfl) (fun _ _ _ h => h) (Or.inl ⟨by rfl, ?hy25⟩) (by assumption) ?_
  case hy25 => (intro w hSw; (try dsimp only at hSw); go_simp; try with_reducible rfl)
  try simp only [Act.put, List.setIfInBounds_toArray, List.set_cons_zero, List.set_cons_succ]
  refine wpAnyH_take (i := 27) (v := ?v27) rfl (by kernel_rfl) (by kernel_rfl) (by kernel_rfl) (fun _ _ _ h => h) (Or.inl ⟨by rfl, ?hy27⟩) (by assumption) ?_
  case hy27 => (intro w hSw; (try dsimp only at hSw); go_simp; try with_reducible rfl)
  try simp only [Act.put, List.setIfInBounds_toArray, List.set_cons_zero, List.set_cons_succ]
  refine wpAnyH_take (i := 28) (v := ?v28) rfl (by kernel_rfl) (by kernel_rfl) (by kernel_rfl) (fun _ _ _ h => h) (Or.inl ⟨by rfl, ?hy28⟩) (by assumption) ?_
  case hy28 => (intro w hSw; (try dsimp only at hSw); go_simp; try with_reducible rfl)
  try simp only [Act.put, List.setIfInBounds_toArray, List.set_cons_zero, List.set_cons_succ]
  refine wpAnyH_take (i := 29) (v := ?v29) rfl (by kernel_rfl) (by kernel_rfl) (by kernel_rfl) (fun _ _ _ h => h) (Or.inl ⟨by rfl, ?hy29⟩) (by assumption) ?_
  case hy29 => (intro w hSw; (try dsimp only at hSw); go_simp; try with_reducible rfl)
  try simp only [Act.put, List.setIfInBounds_toArray, List.set_cons_zero, List.set_cons_succ]
  refine wpAnyH_take (i := 30) (v := ?v30) rfl (by kernel_rfl) (by kernel_rfl) (by kernel_rfl) (fun _ _ _ h => h) (Or.inl ⟨by rfl, ?hy30⟩) (by assumption) ?_
  case hy30 => (intro w hSw; (try dsimp only at hSw); go_simp; try with_reducible rfl)
  try simp only [Act.put, List.setIfInBounds_toArray, List.set_cons_zero, List.set_cons_succ]
  refine wpAnyH_take (i := 31) (v := ?v31) rfl (by kernel_rfl) (by kernel_rfl) (by kernel_rfl) (fun _ _ _ h => h) (Or.inl ⟨by rfl, ?hy31⟩) (by assumption) ?_
  case hy31 => (intro w hSw; (try dsimp only at hSw); go_simp; try with_reducible rfl)
  try simp only [Act.put, List.setIfInBounds_toArray, List.set_cons_zero, List.set_cons_succ]
  refine wpAnyH_take (i := 32) (v := ?v32) rfl (by kernel_rfl) (by kernel_rfl) (by kernel_rfl) (fun _ _ _ h => h) (Or.inl ⟨by rfl, ?hy32⟩) (by assumption) ?_
  case hy32 => (intro w hSw; (try dsimp only at hSw); go_simp; try with_reducible rfl)
  try simp only [Act.put, List.setIfInBounds_toArray, List.set_cons_zero, List.set_cons_succ]
  refine wpAnyH_take (i := 33) (v := ?v33) rfl (by kernel_rfl) (by kernel_rfl) (by kernel_rfl) (fun _ _ _ h => h) (Or.inl ⟨by rfl, ?hy33⟩) (by assumption) ?_
  case hy33 => (intro w hSw; (try dsimp only at hSw); go_simp; try with_reducible rfl)
  try simp only [Act.put, List.setIfInBounds_toArray, List.set_cons_zero, List.set_cons_succ]
  refine wpAnyH_take (i := 34) (v := ?v34) rfl (by kernel_rfl) (by kernel_rfl) (by kernel_rfl) (fun _ _ _ h => h) (Or.inl ⟨by rfl, ?hy34⟩) (by assumption) ?_
  case hy34 => (intro w hSw; (try dsimp only at hSw); go_simp; try with_reducible rfl)
  try simp only [Act.put, List.setIfInBounds_toArray, List.set_cons_zero, List.set_cons_succ]
  refine wpAnyH_take (i := 35) (v := ?v35) rfl (by kernel_rfl) (by kernel_rfl) (by kernel_rfl) (fun _ _ _ h => h) (Or.inl ⟨by rfl, ?hy35⟩) (by assumption) ?_
  case hy35 => (intro w hSw; (try dsimp only at hSw); go_simp; try with_reducible rfl)
  try simp only [Act.put, List.setIfInBounds_toArray, List.set_cons_zero, List.set_cons_succ]
  refine wpAnyH_ready (rs := [3]) (by kernel_rfl) (by simp) ?_
  refine AllReadyH.cons rfl (fun K hK => ?_) AllReadyH.nil
  go_simp
  go_at_call 41
  (with_reducible refine (hno _ _ _).mono ?_)
  rintro e u0 ⟨B0, rfl, hB1, hc1, b1⟩
  replace z := HO.on z b1 hB1 hc1
  clear hB1 hc1 b1
  go_wp2_with fail
  refine hK.out _ _ z.cell (fun hHeld => ?_)
  clear hK K
  try simp only [Act.put, List.setIfInBounds_toArray, List.set_cons_zero, List.set_cons_succ]
  refine wpAnyH_ready (rs := [7]) (by kernel_rfl) (by simp) ?_
  refine AllReadyH.cons rfl (fun K hK => ?_) AllReadyH.nil
  go_simp
  go_at_call 41
  (with_reducible refine (hno _ _ _).mono ?_)
  rintro e u1 ⟨B1, rfl, hB1, hc1, b1⟩
  replace z := HO.on z b1 hB1 hc1
  clear hB1 hc1 b1
  go_wp2_with fail
  refine hK.out _ _ z.cell (fun hHeld => ?_)
  clear hK K
  try simp only [Act.put, List.setIfInBounds_toArray, List.set_cons_zero, List.set_cons_succ]
  refine wpAnyH_ready (rs := [11]) (by kernel_rfl) (by simp) ?_
  refine AllReadyH.cons rfl (fun K hK => ?_) AllReadyH.nil
  go_simp
  go_at_call 42
  (with_reducible refine (hnu _ _ _).mono ?_)
  rintro e u2 ⟨B2, rfl, hB1, hc1, b1⟩
  replace z := HO.on z b1 hB1 hc1
  clear hB1 hc1 b1
  go_wp2_with fail
  refine hK.out _ _ z.cell (fun hHeld => ?_)
  clear hK K
  try simp only [Act.put, List.setIfInBounds_toArray, List.set_cons_zero, List.set_cons_succ]
  refine wpAnyH_ready (rs := [15]) (by kernel_rfl) (by simp) ?_
  refine AllReadyH.cons rfl (fun K hK => ?_) AllReadyH.nil
  go_simp
  go_at_call 42
  (with_reducible refine (hnu _ _ _).mono ?_)
  rintro e u3 ⟨B3, rfl, hB1, hc1, b1⟩
  replace z := HO.on z b1 hB1 hc1
  clear hB1 hc1 b1
  go_wp2_with fail
  refine hK.out _ _ z.cell (fun hHeld => ?_)
  clear hK K
  try simp only [Act.put, List.setIfInBounds_toArray, List.set_cons_zero, List.set_cons_succ]
  refine wpAnyH_ready (rs := [22]) (by kernel_rfl) (by simp) ?_
  refine AllReadyH.cons rfl (fun K hK => ?_) AllReadyH.nil
  go_simp
  go_at_call 41
  (with_reducible refine (hno _ _ _).mono ?_)
  rintro e u5 ⟨B5, rfl, hB1, hc1, b1⟩
  replace z := HO.on z b1 hB1 hc1
  clear hB1 hc1 b1
  go_wp2_with fail
  refine hK.out _ _ z.cell (fun hHeld => ?_)
  clear hK K
  try simp only [Act.put, List.setIfInBounds_toArray, List.set_cons_zero, List.set_cons_succ]
  refine wpAnyH_ready (rs := [26]) (by kernel_rfl) (by simp) ?_
  refine AllReadyH.cons rfl (fun K hK => ?_) AllReadyH.nil
  go_simp
  go_at_call 41
  (with_reducible refine (hno _ _ _).mono ?_)
  rintro e u6 ⟨B6, rfl, hB1, hc1, b1⟩
  replace z := HO.on z b1 hB1 hc1
  clear hB1 hc1 b1
  go_wp2_with fail
  refine hK.out _ _ z.cell (fun hHeld => ?_)
  clear hK K
  try simp only [Act.put, List.setIfInBounds_toArray, List.set_cons_zero, List.set_cons_succ]
  refine wpAnyH_ready (rs := [36]) (by kernel_rfl) (by simp) ?_
  refine AllReadyH.cons rfl (fun K hK => ?_) AllReadyH.nil
  go_simp
  go_at_call 42
  (with_reducible refine (hnu _ _ _).mono ?_)
  rintro e u9 ⟨B9, rfl, hB1, hc1, b1⟩
  replace z := HO.on z b1 hB1 hc1
  clear hB1 hc1 b1
  go_wp2_with fail
  refine hK.out _ _ z.cell (fun hHeld => ?_)
  clear hK K
  try simp only [Act.put, List.setIfInBounds_toArray, List.set_cons_zero, List.set_cons_succ]
  refine wpAnyH_ready (rs := [37]) (by kernel_rfl) (by simp) ?_
  refine AllReadyH.cons rfl (fun K hK => ?_) AllReadyH.nil
  go_simp
  refine hK.out _ _ (z.kept _) (fun hHeld => ?_)
  clear hK K
  try simp only [Act.put, List.setIfInBounds_toArray, List.set_cons_zero, List.set_cons_succ]
  refine wpAnyH_take (i := 38) (v := ?v38) rfl (by kernel_rfl) (by kernel_rfl) (by kernel_rfl) (fun _ _ _ h => h) (Or.inl ⟨by rfl, ?hy38⟩) (by assumption) ?_
  case hy38 => (intro w hSw; (try dsimp only at hSw); go_simp; try with_reducible rfl)
  try simp only [Act.put, List.setIfInBounds_toArray, List.set_cons_zero, List.set_cons_succ]
  refine wpAnyH_done (by kernel_rfl) ?_ _
  refine NoPanic.normal ?_
  go_simp
  go_wp2
  exact hend.out _ _ _ _ _ _ _ _ _ z (by kernel_rfl)
end Go.Proofs.YtjpihophigjbpaaGreatDoor
/-
  The first option at which something holds; one option taken out of a row.
-/
namespace Go.Proofs.YtjpihophigjbpaaGreatDoor
open Go.RowKit Go.Shelf Vs

abbrev opt3 (B : Nat → Nat) (i : Nat) : Value := .agg #[.string (str (keysQ.getD i [])), .func (.func (rdF i)) #[] #[.pointer (some ⟨B i, 0, none⟩)], .func (.func (txF i)) #[] #[.pointer (some ⟨B i, 0, none⟩)]]
set_option maxRecDepth 100000 in
set_option maxHeartbeats 2000000 in
theorem idxOpt_any (fn : Nat) (lb : Array Value) (eg : ∀ args w, (callFunc fn args).run Tryz.prog w = .ok (.enter fn args) w) (g : Nat) (B : Nat → Nat) (l : List Nat) (cap : Nat) (q : Nat → Bool) (w : World) (hN : ORow w g B l) (hn : l.length ≤ 100)
    (hcall : ∀ (i : Nat) (_ : i < l.length) (W : World), Below w.heap.size w W → Calls Tryz.prog fn (#[opt3 B l[i]] ++ lb) W fun e w' => e = .returned (.bool (q i)) ∧ Below W.heap.size W w') :
    Calls Tryz.prog 36 #[.slice (some ⟨g, 0, none⟩) l.length cap, .func (.func fn) #[] lb] w (IdxP q l.length w) := by
  have hgl := ORow.lt hN
  replace hN := fhid hN
  replace hcall := fhid hcall
  go_enter Tryz.func36, Tryz.ntmps36
  go_wp2
  go_loopw [8] (fun i wr => ∃ k : Nat, k ≤ l.length ∧ i = .int .i64 k ∧ Hid (∀ j, j < k → q j = false) ∧ Below w.heap.size w wr) (fun i _ => l.length - (intOf i).toNat)
  case atStart => exact ⟨0, Nat.zero_le _, rfl, fhid (fun j hj => absurd hj (Nat.not_lt_zero _)), Below.refl _ _⟩
  case round =>
    obtain ⟨k, hk, rfl, hno, hB⟩ := hrel
    by_cases hlt : k < l.length
    · obtain ⟨f0, f1, f2⟩ := (hN.out.keep (hB.block g hgl)).facts hlt
      have hc := hcall.out k hlt wr hB
      simp only [opt3] at hc
      have i1 : (k : Int) < l.length := by omega
      have i0 : (0 : Int) ≤ k := by omega
      have i2 : (l.length : Int) ≤ 100 := by omega
      replace hB := fhid hB
      generalize (str (keysQ.getD l[k] [])) = U at *
      generalize rdF l[k] = U2 at *
      generalize txF l[k] = U3 at *
      generalize B l[k] = U4 at *
      cases hq : q k with
      | true =>
        rw [hq] at hc
        replace hq := fhid hq
        go_wp2_with (go_at_fn fn; (with_reducible refine hc.mono ?_); rintro e w1 ⟨rfl, b1⟩)
        go_ret
        exact ⟨.inl ⟨k, hlt, hq.out, hno.out, rfl⟩, hB.out.trans (b1.mono hB.out.size)⟩
      | false =>
        rw [hq] at hc
        replace hq := fhid hq
        go_wp2_with (go_at_fn fn; (with_reducible refine hc.mono ?_); rintro e w1 ⟨rfl, b1⟩)
        go_roundw
        case rel => exact ⟨k + 1, by omega, by go_num, fhid (fun j hj => by
          by_cases e : j = k
          · rw [e]; exact hq.out
          · exact hno.out j (by omega)), hB.out.trans (b1.mono hB.out.size)⟩
        case measure => simp [intOf]; omega
    · obtain rfl : k = l.length := by omega
      go_wp2
      go_ret
      exact ⟨.inr ⟨hno.out, rfl⟩, hB⟩
set_option maxRecDepth 100000 in
theorem keyQ_any (B : Nat → Nat) (i K : Nat) (k : Str) (w : World) (hc : w.cell? ⟨K, 0, none⟩ = some (.string (str k))) (hK : K < w.heap.size) :
    Calls Tryz.prog 37 #[opt3 B i, .pointer (some ⟨K, 0, none⟩)] w fun e w' => e = .returned (.bool (decide (keysQ.getD i [] = k))) ∧ Below w.heap.size w w' := by
  have hq := str_eq (str (keysQ.getD i [])) (str k)
  simp only [opt3]
  rw [bl_str, bl_str] at hq
  generalize decide (keysQ.getD i [] = k) = R at *
  generalize str k = KS at *
  generalize str (keysQ.getD i []) = S at *
  generalize rdF i = U2 at *
  generalize txF i = U3 at *
  generalize B i = U4 at *
  go_enter Tryz.func37, Tryz.ntmps37
  go_wp2
  go_ret
  exact ⟨rfl, (Below.refl _ _).alloc (Nat.le_refl _) _⟩
theorem infoOpt : (Tryz.prog.info? TOpt).map (fun i => (i.zero, i.size)) = some (some (.agg #[.string ⟨#[]⟩, .nilFunc, .nilFunc]), 3) := by kernel_rfl
end Go.Proofs.YtjpihophigjbpaaGreatDoor
/-
  One option taken out of a row.
-/
namespace Go.Proofs.YtjpihophigjbpaaGreatDoor
open Go.RowKit Go.Shelf Go.Lib Vs

abbrev TOpts : TypeId := 71
theorem zeroOpt (w : World) : (zeroValue TOpt).run Tryz.prog w = .ok (.agg #[.string ⟨#[]⟩, .nilFunc, .nilFunc]) w := by kernel_rfl
theorem oc_one (B : Nat → Nat) (l : List Nat) : ∀ v ∈ rowQ B l, v.oneCell' = true := by
  intro v hv
  obtain ⟨i, _, hi⟩ := List.mem_flatMap.1 hv
  simp only [oc, List.mem_cons, List.not_mem_nil, or_false] at hi
  rcases hi with rfl | rfl | rfl <;> rfl
theorem rowQ_erase (B : Nat → Nat) (l : List Nat) (j : Nat) : rowQ B (l.eraseIdx j) = rowQ B (l.take j) ++ rowQ B (l.drop (j + 1)) := by rw [List.eraseIdx_eq_take_drop_succ, rowQ_app]
theorem rowQ_take (B : Nat → Nat) (l : List Nat) (j : Nat) (hj : j ≤ l.length) (Z : List Value) : (rowQ B l ++ Z).take (j * 3) = rowQ B (l.take j) := by
  have h : rowQ B l = rowQ B (l.take j) ++ rowQ B (l.drop j) := by rw [← rowQ_app, List.take_append_drop]
  rw [h, List.append_assoc, List.take_append_of_le_length (by rw [rowQ_len, List.length_take]; omega), List.take_of_length_le (by rw [rowQ_len, List.length_take]; omega)]
/-- The cells behind one option, put where it stood. -/
theorem row_moved {w : World} {g : Nat} {B : Nat → Nat} {l : List Nat} {Z : List Value} {j : Nat} (hb : Box w g TOpt (rowQ B l ++ Z)) (hj : j < l.length) :
    ∃ Z2, 3 ≤ Z2.length ∧ Box (w.setCells g (j * 3) (rowQ B (l.drop (j + 1)))) g TOpt (rowQ B (l.eraseIdx j) ++ Z2) := by
  have hlen : (rowQ B (l.drop (j + 1))).length = (l.length - (j + 1)) * 3 := by rw [rowQ_len, List.length_drop]
  have hall : (rowQ B l ++ Z).length = l.length * 3 + Z.length := by rw [List.length_append, rowQ_len]
  refine ⟨(rowQ B l ++ Z).drop (j * 3 + (rowQ B (l.drop (j + 1))).length), ?_, ?_⟩
  · rw [List.length_drop, hall, hlen]; omega
  · have := Box.setCells (rowQ B (l.drop (j + 1))) (j * 3) hb
    rw [overL_eq _ _ _ (by rw [hall, hlen]; omega), rowQ_take B l j (by omega) Z, ← rowQ_erase] at this
    exact this
theorem row_cleared {w : World} {g : Nat} {B : Nat → Nat} {l : List Nat} {Z : List Value} (hb : Box w g TOpt (rowQ B l ++ Z)) (hz : 3 ≤ Z.length) (cs : List Value) (hc : cs.length = 3) (o : Nat) (ho : o = l.length * 3) :
    ORow (w.setCells g o cs) g B l := by
  have hl := rowQ_len B l
  subst ho
  refine ⟨cs ++ Z.drop 3, ?_⟩
  have := Box.setCells cs (l.length * 3) hb
  rw [overL_eq _ _ _ (by rw [List.length_append, hl, hc]; omega), List.take_append_of_le_length (by omega), List.take_of_length_le (by omega), hc, List.drop_append, List.drop_of_length_le (by omega), List.nil_append, List.append_assoc] at this
  rw [show l.length * 3 + 3 - (rowQ B l).length = 3 by omega] at this
  exact this
set_option maxRecDepth 100000 in
set_option maxHeartbeats 4000000 in
theorem Delete_any (g : Nat) (B : Nat → Nat) (l : List Nat) (j cap : Nat) (w : World) (hN : ORow w g B l) (hj : j < l.length) (hcap : l.length ≤ cap) (hm : cap ≤ 100) :
    Calls Tryz.prog 38 #[.slice (some ⟨g, 0, none⟩) l.length cap, .int .i64 (j : Int), .int .i64 ((j : Int) + 1)] w fun e w' => e = .returned (.slice (some ⟨g, 0, none⟩) (l.length - 1) cap) ∧ ORow w' g B (l.eraseIdx j) ∧ Aft g w w' := by
  obtain ⟨Z, hb⟩ := hN
  obtain ⟨i0, hi0, hz1⟩ : ∃ i0, Tryz.prog.info? TOpt = some i0 ∧ i0.size = 3 := by
    cases hi : Tryz.prog.info? TOpt with
    | none => have := infoOpt; rw [hi] at this; cases this
    | some i =>
      have h := infoOpt
      rw [hi] at h
      simp only [Option.map_some, Option.some.injEq, Prod.mk.injEq] at h
      exact ⟨i, rfl, h.2⟩
  have hlen : (rowQ B (l.drop (j + 1))).length = (l.length - (j + 1)) * 3 := by rw [rowQ_len, List.length_drop]
  have hsplit : rowQ B l ++ Z = rowQ B (l.take (j + 1)) ++ (rowQ B (l.drop (j + 1)) ++ Z) := by rw [← List.append_assoc, ← rowQ_app, List.take_append_drop]
  have htk : (rowQ B (l.take (j + 1))).length = (j + 1) * 3 := by rw [rowQ_len, List.length_take, Nat.min_eq_left (by omega)]
  obtain ⟨A, hA, hsrc⟩ : ∃ A : Addr, (if cap = j + 1 then (some ⟨g, 0, none⟩ : Option Addr) else some ⟨g, (j + 1) * 3, none⟩) = some A ∧ Hid (∀ t u, (rowQ B (l.drop (j + 1)))[t]? = some u → w.drew.cell? (A.add t) = some u) := by
    by_cases h : cap = j + 1
    · refine ⟨⟨g, 0, none⟩, by simp [h], fun t u hu => ?_⟩
      have h0 : (rowQ B (l.drop (j + 1))).length = 0 := by rw [hlen]; omega
      rw [List.length_eq_zero_iff.1 h0] at hu
      simp at hu
    · refine ⟨⟨g, (j + 1) * 3, none⟩, by simp [h], fun t u hu => ?_⟩
      have ht := (List.getElem?_eq_some_iff.1 hu).1
      have ha : (⟨g, (j + 1) * 3, none⟩ : Addr).add t = ⟨g, (j + 1) * 3 + t, none⟩ := by
        unfold Addr.add
        by_cases h0 : t = 0
        · rw [if_pos h0, h0]; rfl
        · rw [if_neg h0]
      rw [ha]
      show w.cell? _ = _
      rw [Box.cell hb, hsplit, List.getElem?_append_right (by omega), htk, Nat.add_sub_cancel_left, List.getElem?_append_left ht]
      exact hu
  have s1 := fhid (show (rowQ B (l.drop (j + 1))).length = (l.length - (j + 1)) * 3 from hlen)
  have s2 := fhid (oc_one B (l.drop (j + 1)))
  have s3 := fhid (show ∀ t, t < (rowQ B (l.drop (j + 1))).length → (w.drew.cell? ⟨g, 0 + j * 3 + t, none⟩).isSome = true ∧ w.drew.frozen? ⟨g, 0 + j * 3 + t, none⟩ = false from fun t ht => by
    rw [hlen] at ht
    refine ⟨?_, Box.free hb _⟩
    show (w.cell? _).isSome = true
    rw [Box.cell hb, List.getElem?_eq_getElem (by rw [List.length_append, rowQ_len]; omega)]
    rfl)
  obtain ⟨Z2, hz2, hb2⟩ := row_moved (show Box w.drew g TOpt (rowQ B l ++ Z) from hb) hj
  have hel : (l.eraseIdx j).length = l.length - 1 := by rw [List.length_eraseIdx_of_lt hj]
  obtain ⟨W1, hW1⟩ : ∃ W1, W1 = w.drew.setCells g (0 + j * 3) (rowQ B (l.drop (j + 1))) := ⟨_, rfl⟩
  have hW := fhid hW1
  rw [Nat.zero_add] at hW1
  rw [← hW1] at hb2
  have ha1 := fhid (show Aft g w W1 by rw [hW1]; exact Aft.setCells _ _ (Aft.of ((Below.refl _ _).drew)))
  have hcl : ∀ ty, (Builtin.clear_ #[TOpts] ty #[.slice (some ⟨g, (l.length - 1) * 3, none⟩) 1 (cap - (l.length - 1))]).run Tryz.prog W1 = .ok (.tuple #[]) (W1.setCells g ((l.length - 1) * 3) [.string ⟨#[]⟩, .nilFunc, .nilFunc]) :=
    fun ty => run_clear_one W1 TOpts TOpt ty (.agg #[.string ⟨#[]⟩, .nilFunc, .nilFunc]) [.string ⟨#[]⟩, .nilFunc, .nilFunc] Tryz.underlying71 zeroOpt rfl (by intro v hv; simp at hv; rcases hv with rfl | rfl | rfl <;> rfl) g ((l.length - 1) * 3) (cap - (l.length - 1))
      (fun t ht => by
        rw [Box.cell hb2, List.getElem?_eq_getElem (by rw [List.length_append, rowQ_len, hel]; simp at ht; omega)]
        rfl)
      (fun t _ => Box.free hb2 _)
  have hend := fhid (show ORow (W1.setCells g ((l.length - 1) * 3) [.string ⟨#[]⟩, .nilFunc, .nilFunc]) g B (l.eraseIdx j) from row_cleared hb2 hz2 _ rfl _ (by rw [hel]))
  clear hb hb2 hW1 hsplit htk hlen hel
  generalize rowQ B (l.drop (j + 1)) = news at *
  have hjc : j ≤ cap := by omega
  have hjc1 : j + 1 ≤ cap := by omega
  have i1 : ¬ (j : Int) = (j : Int) + 1 := by omega
  go_enter Tryz.func38, Tryz.ntmps38
  go_wp2_with fail
  have e1 : ((j : Int) + 1).toNat = j + 1 := by omega
  have e2 : ((l.length - (j + 1) : Nat) : Int) = (l.length : Int) - ((j : Int) + 1) := by omega
  have e3 : (0 : Int) ≤ (j : Int) + 1 := by omega
  have e4 : (j : Int) + 1 ≤ l.length := by omega
  go_region_law (refine step_append_room rfl (.tmp 22) (.tmp 25) TOpts rfl TOpt i0 3 Tryz.underlying71 hi0 hz1 g 0 j cap (by simp [Act.eval, Act.put]) A (l.length - (j + 1)) (cap - (j + 1)) news (by simp [Act.eval, Act.put, hA]) s1.out hsrc.out s2.out (by omega) s3.out ?_; rw [← hW.out])
  have hN : j + (l.length - (j + 1)) = l.length - 1 := by omega
  rw [hN]
  clear hN hsrc s1 s2 s3 hW e2
  have m1 : l.length - (l.length - 1) = 1 := by omega
  have m2 : ¬ cap = l.length - 1 := by omega
  have m3 : ((l.length - 1 : Nat) : Int) ≤ l.length := by omega
  have m4 : (l.length : Int) ≤ cap := by omega
  have m5 : (0 : Int) ≤ ((l.length - 1 : Nat) : Int) := by omega
  go_wp2_with fail
  go_ret
  exact ⟨rfl, hend.out, Aft.setCells _ _ ha1.out⟩
end Go.Proofs.YtjpihophigjbpaaGreatDoor
/-
  A command in memory; how an option's value is read into it.
-/
namespace Go.Proofs.YtjpihophigjbpaaGreatDoor
open Go.RowKit Go.Shelf Vs

def cellsC (c : CmdC) (vi va : Value) : List Value := [.int .i64 c.kind, .string (str c.user), .string (str c.part), .string (str c.qos), .string (str c.name), .int .i64 c.nodes, .int .i64 c.time, .int .i64 c.run,
  .int .i64 c.req.1, .int .i64 c.req.2.1, .int .i64 c.req.2.2, .bool c.any, vi, va, .int .i64 c.lim, .int .i64 c.job, .string (str c.host)]
/-- Items, and numbers, that lie in no block of X. -/
def HasI (X : Nat → Prop) (w : World) (v : Value) (l : List Ds.Itm) : Prop := ∃ A cap, v = .slice A l.length cap ∧ l.length ≤ cap ∧ cap ≤ maxLen ∧ ∃ xs, Ds.SegP w (fun k => ¬ X k ∧ k < w.heap.size) A xs ∧ Ds.ItC w (fun k => ¬ X k ∧ k < w.heap.size) xs l
def HasA (X : Nat → Prop) (w : World) (v : Value) (l : List Int) : Prop := ∃ A cap, v = .slice A l.length cap ∧ l.length ≤ cap ∧ cap ≤ maxLen ∧ Ds.SegP w (fun k => ¬ X k ∧ k < w.heap.size) A (Ds.IV l)
section
variable {X : Nat → Prop} {w w' : World} {v : Value}
theorem HasI.keep {l : List Ds.Itm} (h : HasI X w v l) (hk : ∀ k, k < w.heap.size → ¬ X k → w'.heap[k]? = w.heap[k]?) (hs : w.heap.size ≤ w'.heap.size) : HasI X w' v l := by
  obtain ⟨A, cap, e, h1, h2, xs, h3, h4⟩ := h
  exact ⟨A, cap, e, h1, h2, xs, (h3.keep fun b hb => hk b hb.2 hb.1).imp fun b _ hb => ⟨hb.1, Nat.lt_of_lt_of_le hb.2 hs⟩, (h4.keep fun b hb => hk b hb.2 hb.1).imp fun b _ hb => ⟨hb.1, Nat.lt_of_lt_of_le hb.2 hs⟩⟩
theorem HasA.keep {l : List Int} (h : HasA X w v l) (hk : ∀ k, k < w.heap.size → ¬ X k → w'.heap[k]? = w.heap[k]?) (hs : w.heap.size ≤ w'.heap.size) : HasA X w' v l := by
  obtain ⟨A, cap, e, h1, h2, h3⟩ := h
  exact ⟨A, cap, e, h1, h2, (h3.keep fun b hb => hk b hb.2 hb.1).imp fun b _ hb => ⟨hb.1, Nat.lt_of_lt_of_le hb.2 hs⟩⟩
theorem HasI.imp {Y : Nat → Prop} {l : List Ds.Itm} (h : HasI X w v l) (hi : ∀ k, k < w.heap.size → Y k → X k) : HasI Y w v l := by
  obtain ⟨A, cap, e, h1, h2, xs, h3, h4⟩ := h
  exact ⟨A, cap, e, h1, h2, xs, h3.imp fun b _ hb => ⟨fun hy => hb.1 (hi b hb.2 hy), hb.2⟩, h4.imp fun b _ hb => ⟨fun hy => hb.1 (hi b hb.2 hy), hb.2⟩⟩
theorem HasA.imp {Y : Nat → Prop} {l : List Int} (h : HasA X w v l) (hi : ∀ k, k < w.heap.size → Y k → X k) : HasA Y w v l := by
  obtain ⟨A, cap, e, h1, h2, h3⟩ := h
  exact ⟨A, cap, e, h1, h2, h3.imp fun b _ hb => ⟨fun hy => hb.1 (hi b hb.2 hy), hb.2⟩⟩
theorem HasI.its {l : List Ds.Itm} (h : HasI X w v l) : ∃ A cap, v = .slice A l.length cap ∧ l.length ≤ cap ∧ cap ≤ maxLen ∧ Ds.Its w w.heap.size A l := by
  obtain ⟨A, cap, e, h1, h2, xs, h3, h4⟩ := h
  exact ⟨A, cap, e, h1, h2, xs, h3.imp fun _ _ hb => hb.2, h4.imp fun _ _ hb => hb.2⟩
theorem HasA.ints {l : List Int} (h : HasA X w v l) : ∃ A cap, v = .slice A l.length cap ∧ l.length ≤ cap ∧ cap ≤ maxLen ∧ Ds.Ints w w.heap.size A l := by
  obtain ⟨A, cap, e, h1, h2, h3⟩ := h
  exact ⟨A, cap, e, h1, h2, h3.imp fun _ _ hb => hb.2⟩
theorem HasI.nil : HasI X w (.slice none 0 0) [] := ⟨none, 0, rfl, Nat.le_refl _, by unfold maxLen; omega, [], Ds.SegP.nil _ _ _, Ds.ItC.nil _ _⟩
theorem HasA.nil : HasA X w (.slice none 0 0) [] := ⟨none, 0, rfl, Nat.le_refl _, by unfold maxLen; omega, Ds.SegP.nil _ _ _⟩
end
/-- The command in block b; its lists lie in no block of X. -/
def CB (X : Nat → Prop) (w : World) (b : Nat) (c : CmdC) : Prop := ∃ vi va, Box w b TCmd (cellsC c vi va) ∧ HasI X w vi c.items ∧ HasA X w va c.idx
section
variable {X : Nat → Prop} {w w' : World} {b : Nat} {c : CmdC}
theorem CB.lt (h : CB X w b c) : b < w.heap.size := by
  obtain ⟨vi, va, h, _⟩ := h
  exact Box.lt h
theorem CB.on (h : CB X w b c) (hb : Below w.heap.size w w') : CB X w' b c := by
  obtain ⟨vi, va, h1, h2, h3⟩ := h
  exact ⟨vi, va, Box.below h1 hb (Box.lt h1), h2.keep (fun k hk _ => hb.block k hk) hb.size, h3.keep (fun k hk _ => hb.block k hk) hb.size⟩
/-- Blocks of X turned, but not the command's own. -/
theorem CB.aft {g : Nat} (h : CB X w b c) (hb : Aft g w w') (hg : b ≠ g) (hX : X g) : CB X w' b c := by
  obtain ⟨vi, va, h1, h2, h3⟩ := h
  have hk : ∀ k, k < w.heap.size → k ≠ g → w'.heap[k]? = w.heap[k]? := fun k hk hne => hb.block k hk (fun e => hne (Option.some.inj e))
  exact ⟨vi, va, (hk b (Box.lt h1) hg).trans h1, h2.keep (fun k h4 hx => hk k h4 (fun e => hx (e ▸ hX))) hb.size, h3.keep (fun k h4 hx => hk k h4 (fun e => hx (e ▸ hX))) hb.size⟩
end
/-- The blocks of X are no blocks of whole numbers. -/
def XOk (X : Nat → Prop) (w : World) : Prop := ∀ k, X k → ∃ cs T fr, w.heap[k]? = some (.cells cs T fr) ∧ T ≠ 3
theorem XOk.lt {X : Nat → Prop} {w : World} (h : XOk X w) {k : Nat} (hk : X k) : k < w.heap.size := by
  obtain ⟨cs, T, fr, h, _⟩ := h k hk
  exact lt_of_block h
theorem XOk.on {X : Nat → Prop} {w w' : World} (h : XOk X w) (hb : Below w.heap.size w w') : XOk X w' := fun k hk => by
  obtain ⟨cs, T, fr, h1, h2⟩ := h k hk
  exact ⟨cs, T, fr, (hb.block k (lt_of_block h1)).trans h1, h2⟩
/-- What a call that reads an option comes to. -/
def RdP (X : Nat → Prop) (b i : Nat) (v : Str) (c : CmdC) (w : World) (e : Ending) (w' : World) : Prop :=
  e = .returned (.bool (okQ i v)) ∧ Aft b w w' ∧ (okQ i v = true → CB X w' b (setQ i v c))
theorem own_hasI {X : Nat → Prop} {w w' : World} {v : Value} {l : List Ds.Itm} (hX : XOk X w) (hb : Below w.heap.size w w') (h : Ds.OwnT w' Ds.TIt w.heap.size v l) : HasI X w' v l := by
  obtain ⟨xs, h1, h2⟩ := h
  obtain ⟨A, cap, e, a1, a2, a3⟩ := Ds.ownsRow_shape h1
  refine ⟨A, cap, e, a1, a2, xs, ?_, h2.imp fun k hk ht => ⟨fun hx => ?_, hk⟩⟩
  · intro h0
    obtain ⟨bb, oo, rfl, hlt, hc⟩ := a3 h0
    refine ⟨bb, oo, rfl, ⟨fun hx => ?_, hlt⟩, hc⟩
    have hge : w.heap.size ≤ bb := by
      rcases h1.2 with ⟨h3, h4⟩ | ⟨g, cp, cur, h3, h4, _⟩
      · rw [h3] at e; cases e
      · rw [h3] at e
        injection e with e1
        injection e1 with e1
        injection e1 with e1
        omega
    have := hX.lt hx
    omega
  · obtain ⟨cs, T, fr, h3, h4⟩ := (hX.on hb) k hx
    exact Ds.TagI.ne ht h3 h4 rfl
theorem Box.at_ {w : World} {b : Nat} {T : TypeId} {cs : List Value} (h : Box w b T cs) (i : Nat) (hi : i < cs.length) : ∃ x, w.cell? ⟨b, i, none⟩ = some x := ⟨_, (Box.cell h i).trans (List.getElem?_eq_getElem hi)⟩
set_option maxRecDepth 100000 in
set_option maxHeartbeats 1000000 in
theorem readReq_any (b B : Nat) (cs : List Value) (v : ByteArray) (w : World) (hw : Env w) (hB : w.cell? ⟨B, 0, none⟩ = some (.pointer (some ⟨b, 0, none⟩))) (hb : Box w b TCmd cs) (hl : cs.length = 17) (hv : v.size ≤ 140737488355328) :
    Calls Tryz.prog 43 #[.string v, .pointer (some ⟨B, 0, none⟩)] w fun e w' => e = .returned (.bool (decide ((Vs.parseP (bl v)).2 = 0))) ∧
      Box w' b TCmd (((cs.set 8 (.int .i64 (Vs.parseP (bl v)).1.1)).set 9 (.int .i64 (Vs.parseP (bl v)).1.2.1)).set 10 (.int .i64 (Vs.parseP (bl v)).1.2.2)) ∧ Aft b w w' := by
  have hbl := Box.lt hb
  have hBl := cell_lt hB
  have hp := Vs.Parse_any v hv w hw
  unfold VP at hp
  have hd : ((Vs.parseP (bl v)).2 == 0) = decide ((Vs.parseP (bl v)).2 = 0) := by rw [Bool.eq_iff_iff]; simp
  generalize decide ((Vs.parseP (bl v)).2 = 0) = R at *
  generalize Vs.parseP (bl v) = x at *
  obtain ⟨⟨x1, x2, x3⟩, y⟩ := x
  simp only [vv] at hp hd ⊢
  go_enter Tryz.func43, Tryz.ntmps43
  go_upto_region 2 with (go_at_call 44; (with_reducible refine hp.mono ?_); rintro e w1 ⟨rfl, b1⟩)
  have b2 : Below w1.heap.size w1 (w1.alloc (.cells #[.int .i64 x1, .int .i64 x2, .int .i64 x3] 23)) := (Below.refl _ _).alloc (Nat.le_refl _) _
  have q2 : Box (w1.alloc (.cells #[.int .i64 x1, .int .i64 x2, .int .i64 x3] 23)) w1.heap.size 23 [.int .i64 x1, .int .i64 x2, .int .i64 x3] := Box.new w1 _ _
  generalize w1.alloc _ = w2 at *
  have B2 := b1.trans (b2.mono b1.size)
  have hB2 := (B2.cell (p := ⟨B, 0, none⟩) hBl).trans hB
  have hb2 := fhid (Box.below hb B2 hbl)
  have v0 : w2.cell? ⟨w1.heap.size, 0, none⟩ = some (.int .i64 x1) := Box.cell q2 0
  have v1 : w2.cell? ⟨w1.heap.size, 1, none⟩ = some (.int .i64 x2) := Box.cell q2 1
  have v2 : w2.cell? ⟨w1.heap.size, 2, none⟩ = some (.int .i64 x3) := Box.cell q2 2
  have f0 := Box.free hb2.out 8
  have f1 := Box.free hb2.out 9
  have f2 := Box.free hb2.out 10
  obtain ⟨o0, c0⟩ := Box.at_ hb2.out 8 (by omega)
  obtain ⟨o1, c1⟩ := Box.at_ hb2.out 9 (by omega)
  obtain ⟨o2, c2⟩ := Box.at_ hb2.out 10 (by omega)
  replace q2 := fhid q2
  go_wp2_with fail
  go_ret
  exact ⟨rfl, Box.set (Box.set (Box.set hb2.out 8 _) 9 _) 10 _, Aft.set (Aft.set (Aft.set (Aft.of B2) 8 _) 9 _) 10 _⟩
end Go.Proofs.YtjpihophigjbpaaGreatDoor
/-
  Dependencies and arrays read into a command.
-/
namespace Go.Proofs.YtjpihophigjbpaaGreatDoor
open Go.RowKit Go.Shelf Vs

set_option maxRecDepth 100000 in
set_option maxHeartbeats 2000000 in
theorem readDep_any (X : Nat → Prop) (b B : Nat) (cs : List Value) (v : ByteArray) (w : World) (hX : XOk X w) (hB : w.cell? ⟨B, 0, none⟩ = some (.pointer (some ⟨b, 0, none⟩))) (hb : Box w b TCmd cs) (hl : cs.length = 17) (hv : v.size ≤ 140737488355328) :
    Calls Tryz.prog 47 #[.string v, .pointer (some ⟨B, 0, none⟩)] w fun e w' => e = .returned (.bool (Ds.pDep (bl v)).isSome) ∧ Aft b w w' ∧
      ∀ x, Ds.pDep (bl v) = some x → ∃ w1 va, Below w.heap.size w w1 ∧ HasI X w1 va x.2 ∧ w' = (w1.setCell ⟨b, 11, none⟩ (.bool x.1)).setCell ⟨b, 12, none⟩ va := by
  have hbl := Box.lt hb
  have hBl := cell_lt hB
  have hp := Ds.Parse0_any v w hv
  unfold Ds.DepPost0 at hp
  cases hr : Ds.pDep (bl v) with
  | none =>
    have hr2 : Ds.pDep (Ds.bl v) = none := hr
    rw [hr2] at hp
    simp only [Option.isSome]
    clear hr hr2
    go_enter Tryz.func47, Tryz.ntmps47
    go_upto_region 2 with (go_at_call 48; (with_reducible refine hp.mono ?_); rintro e w1 ⟨b1, y, i, hy, rfl⟩)
    have hy2 : (y == 0) = false := by simpa using hy
    have b2 : Below w1.heap.size w1 ((w1.alloc (.cells #[.bool false, .slice none 0 0] 37)).alloc (.cells #[.int .i64 y, .int .i64 i] 88)) := ((Below.refl _ _).alloc (Nat.le_refl _) _).alloc (by simp) _
    have q2 : Box ((w1.alloc (.cells #[.bool false, .slice none 0 0] 37)).alloc (.cells #[.int .i64 y, .int .i64 i] 88)) w1.heap.size 37 [.bool false, .slice none 0 0] := (Below.heap_alloc _ _ _ (by simp)).trans (Box.new w1 _ _)
    have q3 : Box ((w1.alloc (.cells #[.bool false, .slice none 0 0] 37)).alloc (.cells #[.int .i64 y, .int .i64 i] 88)) (w1.heap.size + 1) 88 [.int .i64 y, .int .i64 i] := by
      have := Box.new (w1.alloc (.cells #[.bool false, .slice none 0 0] 37)) 88 [.int .i64 y, .int .i64 i]
      rwa [World.size_alloc] at this
    generalize (w1.alloc _).alloc _ = w2 at *
    have B2 := b1.trans (b2.mono b1.size)
    have hB2 := (B2.cell (p := ⟨B, 0, none⟩) hBl).trans hB
    have hb2 := fhid (Box.below hb B2 hbl)
    have v0 := (show w2.cell? ⟨w1.heap.size, 0, none⟩ = _ from Box.cell q2 0)
    have v1 := (show w2.cell? ⟨w1.heap.size, 1, none⟩ = _ from Box.cell q2 1)
    have v2 : w2.cell? ⟨w1.heap.size + 1, 0, none⟩ = some (.int .i64 y) := Box.cell q3 0
    have f0 := Box.free hb2.out 11
    have f1 := Box.free hb2.out 12
    obtain ⟨u0, c0⟩ := Box.at_ hb2.out 11 (by omega)
    obtain ⟨u1, c1⟩ := Box.at_ hb2.out 12 (by omega)
    have hne : b ≠ w1.heap.size + 1 := by have := b1.size; omega
    simp only [List.getElem?_cons_zero, List.getElem?_cons_succ] at v0 v1
    replace q2 := fhid q2
    replace q3 := fhid q3
    go_wp2_with fail
    go_ret
    exact ⟨rfl, Aft.set (Aft.set (Aft.of B2) 11 _) 12 _, fun x h => by cases h⟩
  | some x =>
    obtain ⟨x1, x2⟩ := x
    have hr2 : Ds.pDep (Ds.bl v) = some (x1, x2) := hr
    rw [hr2] at hp
    simp only [Option.isSome]
    clear hr hr2
    go_enter Tryz.func47, Tryz.ntmps47
    go_upto_region 2 with (go_at_call 48; (with_reducible refine hp.mono ?_); rintro e w1 ⟨b1, vd, ho, rfl⟩
                           have hi := fhid (own_hasI hX b1 ho)
                           obtain ⟨A, cap, rfl, _⟩ := id hi.out
                           replace ho := fhid ho)
    have b2 : Below w1.heap.size w1 ((w1.alloc (.cells #[.bool x1, .slice A x2.length cap] 37)).alloc (.cells #[.int .i64 0, .int .i64 0] 88)) := ((Below.refl _ _).alloc (Nat.le_refl _) _).alloc (by simp) _
    have q2 : Box ((w1.alloc (.cells #[.bool x1, .slice A x2.length cap] 37)).alloc (.cells #[.int .i64 0, .int .i64 0] 88)) w1.heap.size 37 [.bool x1, .slice A x2.length cap] := (Below.heap_alloc _ _ _ (by simp)).trans (Box.new w1 _ _)
    have q3 : Box ((w1.alloc (.cells #[.bool x1, .slice A x2.length cap] 37)).alloc (.cells #[.int .i64 0, .int .i64 0] 88)) (w1.heap.size + 1) 88 [.int .i64 0, .int .i64 0] := by
      have := Box.new (w1.alloc (.cells #[.bool x1, .slice A x2.length cap] 37)) 88 [.int .i64 0, .int .i64 0]
      rwa [World.size_alloc] at this
    generalize (w1.alloc _).alloc _ = w2 at *
    have B2 := b1.trans (b2.mono b1.size)
    have hB2 := (B2.cell (p := ⟨B, 0, none⟩) hBl).trans hB
    have hb2 := fhid (Box.below hb B2 hbl)
    have v0 := (show w2.cell? ⟨w1.heap.size, 0, none⟩ = _ from Box.cell q2 0)
    have v1 := (show w2.cell? ⟨w1.heap.size, 1, none⟩ = _ from Box.cell q2 1)
    have v2 : w2.cell? ⟨w1.heap.size + 1, 0, none⟩ = some (.int .i64 0) := Box.cell q3 0
    have f0 := Box.free hb2.out 11
    have f1 := Box.free hb2.out 12
    obtain ⟨u0, c0⟩ := Box.at_ hb2.out 11 (by omega)
    obtain ⟨u1, c1⟩ := Box.at_ hb2.out 12 (by omega)
    have hne : b ≠ w1.heap.size + 1 := by have := b1.size; omega
    simp only [List.getElem?_cons_zero, List.getElem?_cons_succ] at v0 v1
    replace q2 := fhid q2
    replace q3 := fhid q3
    go_wp2_with fail
    go_ret
    exact ⟨rfl, Aft.set (Aft.set (Aft.of B2) 11 _) 12 _, fun x h => by
      injection h with h
      subst h
      exact ⟨w2, _, B2, hi.out.keep (fun k hk _ => b2.block k hk) b2.size, rfl⟩⟩
set_option maxRecDepth 100000 in
set_option maxHeartbeats 2000000 in
theorem readArr_any (X : Nat → Prop) (b B : Nat) (cs : List Value) (v : ByteArray) (w : World) (hX : XOk X w) (hB : w.cell? ⟨B, 0, none⟩ = some (.pointer (some ⟨b, 0, none⟩))) (hb : Box w b TCmd cs) (hl : cs.length = 17) (hv : v.size ≤ 140737488355328) :
    Calls Tryz.prog 51 #[.string v, .pointer (some ⟨B, 0, none⟩)] w fun e w' => e = .returned (.bool (Ys.pArr (bl v)).isSome) ∧ Aft b w w' ∧
      ∀ x, Ys.pArr (bl v) = some x → ∃ w1 va, Below w.heap.size w w1 ∧ HasA X w1 va x.1 ∧ w' = (w1.setCell ⟨b, 13, none⟩ va).setCell ⟨b, 14, none⟩ (.int .i64 x.2) := by
  have hbl := Box.lt hb
  have hBl := cell_lt hB
  have hp := Ys.Parse0_any v w hv
  unfold Ys.ParsePost0 at hp
  cases hr : Ys.pArr (bl v) with
  | none =>
    have hr2 : Ys.pArr (Ds.bl v) = none := hr
    rw [hr2] at hp
    simp only [Option.isSome]
    clear hr hr2
    go_enter Tryz.func51, Tryz.ntmps51
    go_upto_region 2 with (go_at_call 52; (with_reducible refine hp.mono ?_); rintro e w1 ⟨b1, y, i, hy, rfl⟩)
    have hy2 : (y == 0) = false := by simpa using hy
    have b2 : Below w1.heap.size w1 ((w1.alloc (.cells #[.slice none 0 0, .int .i64 0] 38)).alloc (.cells #[.int .i64 y, .int .i64 i] 88)) := ((Below.refl _ _).alloc (Nat.le_refl _) _).alloc (by simp) _
    have q2 : Box ((w1.alloc (.cells #[.slice none 0 0, .int .i64 0] 38)).alloc (.cells #[.int .i64 y, .int .i64 i] 88)) w1.heap.size 38 [.slice none 0 0, .int .i64 0] := (Below.heap_alloc _ _ _ (by simp)).trans (Box.new w1 _ _)
    have q3 : Box ((w1.alloc (.cells #[.slice none 0 0, .int .i64 0] 38)).alloc (.cells #[.int .i64 y, .int .i64 i] 88)) (w1.heap.size + 1) 88 [.int .i64 y, .int .i64 i] := by
      have := Box.new (w1.alloc (.cells #[.slice none 0 0, .int .i64 0] 38)) 88 [.int .i64 y, .int .i64 i]
      rwa [World.size_alloc] at this
    generalize (w1.alloc _).alloc _ = w2 at *
    have B2 := b1.trans (b2.mono b1.size)
    have hB2 := (B2.cell (p := ⟨B, 0, none⟩) hBl).trans hB
    have hb2 := fhid (Box.below hb B2 hbl)
    have v0 := (show w2.cell? ⟨w1.heap.size, 0, none⟩ = _ from Box.cell q2 0)
    have v1 := (show w2.cell? ⟨w1.heap.size, 1, none⟩ = _ from Box.cell q2 1)
    have v2 : w2.cell? ⟨w1.heap.size + 1, 0, none⟩ = some (.int .i64 y) := Box.cell q3 0
    have f0 := Box.free hb2.out 13
    have f1 := Box.free hb2.out 14
    obtain ⟨u0, c0⟩ := Box.at_ hb2.out 13 (by omega)
    obtain ⟨u1, c1⟩ := Box.at_ hb2.out 14 (by omega)
    have hne : b ≠ w1.heap.size + 1 := by have := b1.size; omega
    simp only [List.getElem?_cons_zero, List.getElem?_cons_succ] at v0 v1
    replace q2 := fhid q2
    replace q3 := fhid q3
    go_wp2_with fail
    go_ret
    exact ⟨rfl, Aft.set (Aft.set (Aft.of B2) 13 _) 14 _, fun x h => by cases h⟩
  | some x =>
    obtain ⟨x1, x2⟩ := x
    have hr2 : Ys.pArr (Ds.bl v) = some (x1, x2) := hr
    rw [hr2] at hp
    simp only [Option.isSome]
    clear hr hr2
    go_enter Tryz.func51, Tryz.ntmps51
    go_upto_region 2 with (go_at_call 52; (with_reducible refine hp.mono ?_); rintro e w1 ⟨b1, A, cap, hc1, hc2, hs, rfl⟩
                           have hi := fhid (show HasA X w1 (.slice A x1.length cap) x1 from ⟨A, cap, rfl, hc1, hc2, hs.imp fun k _ hk => ⟨fun hx => by have := hX.lt hx; omega, hk.2⟩⟩)
                           replace hs := fhid hs)
    have b2 : Below w1.heap.size w1 ((w1.alloc (.cells #[.slice A x1.length cap, .int .i64 x2] 38)).alloc (.cells #[.int .i64 0, .int .i64 0] 88)) := ((Below.refl _ _).alloc (Nat.le_refl _) _).alloc (by simp) _
    have q2 : Box ((w1.alloc (.cells #[.slice A x1.length cap, .int .i64 x2] 38)).alloc (.cells #[.int .i64 0, .int .i64 0] 88)) w1.heap.size 38 [.slice A x1.length cap, .int .i64 x2] := (Below.heap_alloc _ _ _ (by simp)).trans (Box.new w1 _ _)
    have q3 : Box ((w1.alloc (.cells #[.slice A x1.length cap, .int .i64 x2] 38)).alloc (.cells #[.int .i64 0, .int .i64 0] 88)) (w1.heap.size + 1) 88 [.int .i64 0, .int .i64 0] := by
      have := Box.new (w1.alloc (.cells #[.slice A x1.length cap, .int .i64 x2] 38)) 88 [.int .i64 0, .int .i64 0]
      rwa [World.size_alloc] at this
    generalize (w1.alloc _).alloc _ = w2 at *
    have B2 := b1.trans (b2.mono b1.size)
    have hB2 := (B2.cell (p := ⟨B, 0, none⟩) hBl).trans hB
    have hb2 := fhid (Box.below hb B2 hbl)
    have v0 := (show w2.cell? ⟨w1.heap.size, 0, none⟩ = _ from Box.cell q2 0)
    have v1 := (show w2.cell? ⟨w1.heap.size, 1, none⟩ = _ from Box.cell q2 1)
    have v2 : w2.cell? ⟨w1.heap.size + 1, 0, none⟩ = some (.int .i64 0) := Box.cell q3 0
    have f0 := Box.free hb2.out 13
    have f1 := Box.free hb2.out 14
    obtain ⟨u0, c0⟩ := Box.at_ hb2.out 13 (by omega)
    obtain ⟨u1, c1⟩ := Box.at_ hb2.out 14 (by omega)
    have hne : b ≠ w1.heap.size + 1 := by have := b1.size; omega
    simp only [List.getElem?_cons_zero, List.getElem?_cons_succ] at v0 v1
    replace q2 := fhid q2
    replace q3 := fhid q3
    go_wp2_with fail
    go_ret
    exact ⟨rfl, Aft.set (Aft.set (Aft.of B2) 13 _) 14 _, fun x h => by
      injection h with h
      subst h
      exact ⟨w2, _, B2, hi.out.keep (fun k hk _ => b2.block k hk) b2.size, rfl⟩⟩
end Go.Proofs.YtjpihophigjbpaaGreatDoor
/-
  Each option's reader, whichever it is.
-/
namespace Go.Proofs.YtjpihophigjbpaaGreatDoor
open Go.RowKit Go.Shelf Vs

theorem cb_set {X : Nat → Prop} {w w' : World} {b : Nat} {vi va : Value} {c : CmdC} (hX : X b) (hb : Box w' b TCmd (cellsC c vi va)) (ha : Aft b w w') (h2 : HasI X w vi c.items) (h3 : HasA X w va c.idx) : CB X w' b c := by
  have hk : ∀ k, k < w.heap.size → ¬ X k → w'.heap[k]? = w.heap[k]? := fun k hk hx => ha.block k hk (fun e => hx ((Option.some.inj e) ▸ hX))
  exact ⟨vi, va, hb, h2.keep hk ha.size, h3.keep hk ha.size⟩
theorem rdF_enters (i : Nat) : ∀ args w, (callFunc (rdF i) args).run Tryz.prog w = .ok (.enter (rdF i) args) w := by
  rcases i with _ | _ | _ | _ | _ | _ | _ | _ | _ | _ | i
  · exact enters_of Tryz.func61 (by kernel_rfl) rfl
  · exact enters_of Tryz.func61 (by kernel_rfl) rfl
  · exact enters_of Tryz.func64 (by kernel_rfl) rfl
  · exact enters_of Tryz.func64 (by kernel_rfl) rfl
  · exact enters_of Tryz.func43 (by kernel_rfl) rfl
  · exact enters_of Tryz.func61 (by kernel_rfl) rfl
  · exact enters_of Tryz.func61 (by kernel_rfl) rfl
  · exact enters_of Tryz.func47 (by kernel_rfl) rfl
  · exact enters_of Tryz.func51 (by kernel_rfl) rfl
  · exact enters_of Tryz.func64 (by kernel_rfl) rfl
  · exact enters_of Tryz.func64 (by kernel_rfl) rfl
theorem cellsC_len (c : CmdC) (vi va : Value) : (cellsC c vi va).length = 17 := rfl
section
variable {X : Nat → Prop} {b K : Nat} {c : CmdC} {w : World}
theorem rd_name (v : Str) (o : Nat) (ho : o < 17) (f : CmdC → CmdC) (hf : ∀ vi va, (cellsC c vi va).set o (.string (str v)) = cellsC (f c) vi va) (hi : (f c).items = c.items) (hx : (f c).idx = c.idx) (hXb : X b)
    (hK : w.cell? ⟨K, 0, none⟩ = some (.pointer (some ⟨b, o, none⟩))) (hc : CB X w b c) (hv : v.length ≤ 65536) :
    Calls Tryz.prog 61 #[.string (str v), .pointer (some ⟨K, 0, none⟩)] w fun e w' => e = .returned (.bool (isNameP v)) ∧ Aft b w w' ∧ (isNameP v = true → CB X w' b (f c)) := by
  obtain ⟨vi, va, h1, h2, h3⟩ := hc
  refine (readName_any b o K (cellsC c vi va) (str v) w hK h1 (by rw [cellsC_len]; exact ho) (by rw [str_size]; omega)).mono ?_
  rintro e w' ⟨he, hb, ha⟩
  rw [bl_str] at he
  rw [hf] at hb
  exact ⟨he, ha, fun _ => cb_set hXb hb ha (by rw [hi]; exact h2) (by rw [hx]; exact h3)⟩
theorem rd_num (v : Str) (o : Nat) (ho : o < 17) (f : CmdC → CmdC) (hf : ∀ vi va, (cellsC c vi va).set o (.int .i64 ((readNumP v).getD 0 : Nat)) = cellsC (f c) vi va) (hi : (f c).items = c.items) (hx : (f c).idx = c.idx) (hXb : X b) (hw : Env w) (hKb : K ≠ b)
    (hK : w.cell? ⟨K, 0, none⟩ = some (.pointer (some ⟨b, o, none⟩))) (hc : CB X w b c) (hv : v.length ≤ 65536) :
    Calls Tryz.prog 64 #[.string (str v), .pointer (some ⟨K, 0, none⟩)] w fun e w' => e = .returned (.bool (readNumP v).isSome) ∧ Aft b w w' ∧ ((readNumP v).isSome = true → CB X w' b (f c)) := by
  obtain ⟨vi, va, h1, h2, h3⟩ := hc
  refine (readNum_any b o K (cellsC c vi va) (str v) w hw hK hKb h1 (by rw [cellsC_len]; exact ho) (by rw [str_size]; omega)).mono ?_
  rintro e w' ⟨he, hb, ha⟩
  rw [bl_str] at he hb
  rw [hf] at hb
  exact ⟨he, ha, fun _ => cb_set hXb hb ha (by rw [hi]; exact h2) (by rw [hx]; exact h3)⟩
theorem rd_any (i : Nat) (hi : i < 10) (v : Str) (hw : Env w) (hX : XOk X w) (hXb : X b) (hK : w.cell? ⟨K, 0, none⟩ = some (.pointer (some ⟨b, offQ i, none⟩))) (hKb : K ≠ b) (hc : CB X w b c) (hv : v.length ≤ 65536) :
    Calls Tryz.prog (rdF i) #[.string (str v), .pointer (some ⟨K, 0, none⟩)] w (RdP X b i v c w) := by
  rcases i with _ | _ | _ | _ | _ | _ | _ | _ | _ | _ | i
  · exact rd_name v 1 (by decide) (setQ 0 v) (fun _ _ => rfl) rfl rfl hXb hK hc hv
  · exact rd_name v 2 (by decide) (setQ 1 v) (fun _ _ => rfl) rfl rfl hXb hK hc hv
  · exact rd_num v 5 (by decide) (setQ 2 v) (fun _ _ => rfl) rfl rfl hXb hw hKb hK hc hv
  · exact rd_num v 6 (by decide) (setQ 3 v) (fun _ _ => rfl) rfl rfl hXb hw hKb hK hc hv
  · obtain ⟨vi, va, h1, h2, h3⟩ := hc
    refine (readReq_any b K (cellsC c vi va) (str v) w hw hK h1 rfl (by rw [str_size]; omega)).mono ?_
    rintro e w' ⟨he, hb, ha⟩
    rw [bl_str] at he hb
    exact ⟨he, ha, fun _ => cb_set hXb (c := setQ 4 v c) hb ha h2 h3⟩
  · exact rd_name v 3 (by decide) (setQ 5 v) (fun _ _ => rfl) rfl rfl hXb hK hc hv
  · exact rd_name v 4 (by decide) (setQ 6 v) (fun _ _ => rfl) rfl rfl hXb hK hc hv
  · obtain ⟨vi, va, h1, h2, h3⟩ := hc
    refine (readDep_any X b K (cellsC c vi va) (str v) w hX hK h1 rfl (by rw [str_size]; omega)).mono ?_
    rintro e w' ⟨he, ha, hx⟩
    rw [bl_str] at he hx
    refine ⟨he, ha, fun ho => ?_⟩
    obtain ⟨x, hp⟩ := Option.isSome_iff_exists.1 (show (Ds.pDep v).isSome = true from ho)
    obtain ⟨w1, va', b1, hi1, rfl⟩ := hx x hp
    have e : setQ 7 v c = { c with any := x.1, items := x.2 } := by show { c with any := ((Ds.pDep v).getD (false, [])).1, items := ((Ds.pDep v).getD (false, [])).2 } = _; rw [hp]; rfl
    rw [e]
    have hb := Box.set (Box.set (Box.below h1 b1 (Box.lt h1)) 11 (.bool x.1)) 12 va'
    have a1 : Aft b w1 ((w1.setCell ⟨b, 11, none⟩ (.bool x.1)).setCell ⟨b, 12, none⟩ va') := Aft.set (Aft.set (Aft.of (Below.refl _ _)) 11 _) 12 _
    exact cb_set hXb (c := { c with any := x.1, items := x.2 }) (vi := va') (va := va) hb a1 hi1 (h3.keep (fun k hk _ => b1.block k hk) b1.size)
  · obtain ⟨vi, va, h1, h2, h3⟩ := hc
    refine (readArr_any X b K (cellsC c vi va) (str v) w hX hK h1 rfl (by rw [str_size]; omega)).mono ?_
    rintro e w' ⟨he, ha, hx⟩
    rw [bl_str] at he hx
    refine ⟨he, ha, fun ho => ?_⟩
    obtain ⟨x, hp⟩ := Option.isSome_iff_exists.1 (show (Ys.pArr v).isSome = true from ho)
    obtain ⟨w1, va', b1, hi1, rfl⟩ := hx x hp
    have e : setQ 8 v c = { c with idx := x.1, lim := x.2 } := by show { c with idx := ((Ys.pArr v).getD ([], 0)).1, lim := ((Ys.pArr v).getD ([], 0)).2 } = _; rw [hp]; rfl
    rw [e]
    have hb := Box.set (Box.set (Box.below h1 b1 (Box.lt h1)) 13 va') 14 (.int .i64 x.2)
    have a1 : Aft b w1 ((w1.setCell ⟨b, 13, none⟩ va').setCell ⟨b, 14, none⟩ (.int .i64 x.2)) := Aft.set (Aft.set (Aft.of (Below.refl _ _)) 13 _) 14 _
    exact cb_set hXb (c := { c with idx := x.1, lim := x.2 }) (vi := vi) (va := va') hb a1 (h2.keep (fun k hk _ => b1.block k hk) b1.size) hi1
  · exact rd_num v 7 (by decide) (setQ 9 v) (fun _ _ => rfl) rfl rfl hXb hw hKb hK hc hv
  · omega
end
theorem subQ_no {left : List Nat} {x : Str} {ws : List Str} {c : CmdC} (h : (61 : UInt8) ∉ x) : subQ left (x :: ws) c = none := by rw [subQ, if_neg h]
theorem subQ_none {left : List Nat} {x : Str} {ws : List Str} {c : CmdC} (h : (61 : UInt8) ∈ x) (hp : place (left.map fun i => keysQ.getD i []) (Vs.upTo 61 x) = none) : subQ left (x :: ws) c = none := by rw [subQ, if_pos h, hp]
theorem subQ_some {left : List Nat} {x : Str} {ws : List Str} {c : CmdC} {j : Nat} (h : (61 : UInt8) ∈ x) (hj : j < left.length) (hp : place (left.map fun i => keysQ.getD i []) (Vs.upTo 61 x) = some j) :
    subQ left (x :: ws) c = if okQ left[j] (Vs.behind 61 x) = true then subQ (left.eraseIdx j) ws (setQ left[j] (Vs.behind 61 x) c) else none := by
  have e : left.getD j 10 = left[j] := by simp [hj]
  rw [subQ, if_pos h, hp]
  simp only [e, readQ_eq]
  by_cases ho : okQ left[j] (Vs.behind 61 x) = true
  · simp only [ho, if_true]
  · simp only [ho, if_false, Bool.false_eq_true]
set_option maxRecDepth 100000 in
set_option maxHeartbeats 1000000 in
theorem bareSubmit_any (w : World) : Calls Tryz.prog 32 #[] w fun e w' => e = .returned (.agg (cellsC bareC (.slice none 0 0) (.slice none 0 0)).toArray) ∧ Below w.heap.size w w' := by
  go_enter Tryz.func32, Tryz.ntmps32
  go_wp2_with fail
  exact bodyPost_ret (v := .agg (cellsC bareC (.slice none 0 0) (.slice none 0 0)).toArray) (by simp [results, Tryz.results32, go_sem, cellsC, bareC, noCmd, str]) rfl ⟨rfl, (Below.refl _ _).alloc (Nat.le_refl _) _⟩
end Go.Proofs.YtjpihophigjbpaaGreatDoor
