/-
  Parts: KRNode KFields KLine KRLine KSplit KSeq KNewR KLinesM KParseM KParse0.
-/
import Derived.Test.YtmnmcikbbfcjcaaGreatDoorK4
import Derived.Test.YtmnmcikbbfcjcaaGreatDoorK1
import Derived.Test.YtmnmcikbbfcjcaaGreatDoorV1
import Derived.RangeFuncNested
import Derived.RangeFuncBound
import Derived.RangeFuncCalls
import Derived.RangeFuncLeaves
import Derived.RangeFuncBox
import Derived.Shelf.Abstract
import Derived.Shelf.RegionOpen
import Derived.WalkKit
import Derived.OwnWalkIn
import Derived.TacticsInMore
import Derived.LoopNIn
import Derived.LoopIn
import Derived.RegionIn
import Derived.Sort.QuietIn
set_option linter.unusedSimpArgs false
set_option linter.unusedVariables false
/-
  A line that tells nodes.
-/
namespace Go.Proofs.YtmnmcikbbfcjcaaGreatDoor
open Go.RowKit Go.Shelf Vs

theorem nodeP_len {c : Cfg} {ws : List Str} (h : ws.length ≠ 2) : nodeP c ws = .error 3 := by
  match ws, h with
  | [], _ => rfl
  | [_], _ => rfl
  | [_, _], h => exact absurd rfl h
  | _ :: _ :: _ :: _, _ => rfl
theorem nodeP_two (c : Cfg) (l v : Str) : nodeP c [l, v] = if (Hs.expand l).2.1 ≠ 0 ∨ (Vs.parseP v).2 ≠ 0 then .error 3
    else if ¬ (Hs.expand l).1.all nodeNameP = true then .error 3
    else if ¬ (c.names ++ (Hs.expand l).1).Nodup then .error 7
    else if 256 < c.names.length + (Hs.expand l).1.length then .error 5
    else .ok { c with names := c.names ++ (Hs.expand l).1, vecs := c.vecs ++ List.replicate (Hs.expand l).1.length (Vs.parseP v).1 } := rfl
theorem nodup_more {l m : List Str} {k : Nat} (hk : k < m.length) (h : (l ++ m.take k).Nodup) (hn : m[k] ∉ l ++ m.take k) : (l ++ m.take (k + 1)).Nodup := by
  rw [List.take_succ_eq_append_getElem hk, ← List.append_assoc, List.nodup_append]
  exact ⟨h, by simp, fun a ha b hb => by simp at hb; subst hb; exact fun e => hn (e ▸ ha)⟩
theorem nodup_less {l m : List Str} {k : Nat} (hk : k < m.length) (hn : m[k] ∈ l ++ m.take k) : ¬ (l ++ m).Nodup := by
  intro h
  have h2 : (l ++ m.take (k + 1)).Nodup := h.sublist (List.Sublist.append (List.Sublist.refl l) (List.take_sublist _ _))
  rw [List.take_succ_eq_append_getElem hk, ← List.append_assoc, List.nodup_append] at h2
  exact h2.2.2 _ hn _ (by simp) rfl
abbrev TStrs : TypeId := 22
/-- An append that is known, as one step of the walk. -/
theorem wp_app {w : World} {ops : Array Oper} {rest : List Oper} {o : Oper} {a : Act} {Q : Exit → Act → World → Prop} (T : TypeId) (hgd : o.guard = none) (s x : Operand) (ho : o.op = .call { callee := .builtin .append, args := #[s, x], argTypes := #[T, T] })
    (vs vx : Value) (hs : a.eval s = vs) (hx : a.eval x = vx) (v' : Value) (w' : World) (hrun : (Builtin.append_ #[T, T] o.type #[vs, vx]).run Tryz.prog w = .ok v' w') (h : wpList Tryz.prog ops Q rest (a.put o.dst v') w') : wpList Tryz.prog ops Q (o :: rest) a w := by
  refine wpList_plain hgd fun K hK => ?_
  unfold Oper.wp execOp
  simp only [ho, resolve, invoke, builtin, Sem.run_bind, Sem.run_pure, Result.andThen_ok, List.map_toArray, List.map_cons, List.map_nil, hs, hx, hrun]
  exact hK _ _ h
/-- Names put behind a row of names. -/
theorem app_strs {W : World} {B : Nat} {vN : Value} {l : List Str} (h : OwnS W B vN l) (hl : l.length ≤ 1000) (hB : B ≤ W.heap.size) (A : Option Addr) (m cap : Nat) (ns : List Str) (hm : m = ns.length) (hA : Strs W W.heap.size A ns) (hn : m ≤ 1000) (ty : TypeId) :
    ∃ A' c' w', (Builtin.append_ #[TStrs, TStrs] ty #[vN, .slice A m cap]).run Tryz.prog W = .ok (.slice A' (l.length + m) c') w' ∧ OwnS w' B (.slice A' (l.length + m) c') (l ++ ns) ∧ W.grownBy w' vN.ownBlock ∧ ((Value.slice A' (l.length + m) c').ownBlock = vN.ownBlock ∨ (Value.slice A' (l.length + m) c').ownBlock = some W.heap.size) := by
  subst hm
  obtain ⟨v', w', h1, h2, h3, h4⟩ := app_run (w := W) TStrs TStr _ 1 16 Tryz.underlying22 infoString rfl (by decide) ty B vN l.length (SV l) h W.heap.size A ns.length cap (SV ns) hA (by rw [SV_len]; omega) (SV_one ns) (by omega) (by omega) hB
  obtain ⟨A', c', rfl, -, -, -⟩ := ownsRow_shape h2
  exact ⟨A', c', w', h1, by unfold OwnS; rw [SV_app, List.length_append]; exact h2, h3, h4⟩
abbrev TVecs2 : TypeId := 23
end Go.Proofs.YtmnmcikbbfcjcaaGreatDoor
/-
  A text's words, as the program parts them.
-/
namespace Go.Proofs.YtmnmcikbbfcjcaaGreatDoor
open Go.RowKit Go.Shelf Vs

theorem spans_len (p : Nat → Bool) (s : ByteArray) : ∀ (f pos : Nat) (st : Option Nat) (acc : List (Nat × Nat)), (Lib.spansFromP p s f pos st acc).1.length ≤ acc.length + f
  | 0, _, _, _ => by simp [Lib.spansFromP]
  | f + 1, pos, st, acc => by
    unfold Lib.spansFromP
    split
    · split
      · cases st with
        | none => have := spans_len p s f (pos + (Utf8.decode s pos).2) none acc; simp only; omega
        | some a => have := spans_len p s f (pos + (Utf8.decode s pos).2) none (acc ++ [(a, pos)]); simp at this ⊢; omega
      · cases st with
        | none => have := spans_len p s f (pos + (Utf8.decode s pos).2) (some pos) acc; simp only; omega
        | some a => have := spans_len p s f (pos + (Utf8.decode s pos).2) (some a) acc; simp only; omega
    · simp
theorem words_count (l : Str) : (words l).length ≤ l.length + 1 := by
  unfold words Lib.goFieldsP Lib.spansOfP
  rw [List.length_map, List.length_map]
  have h := spans_len isBlankP ⟨l.toArray⟩ (ByteArray.size ⟨l.toArray⟩) 0 none []
  have hz : (⟨l.toArray⟩ : ByteArray).size = l.length := str_size l
  rw [hz] at h ⊢
  generalize Lib.spansFromP isBlankP ⟨l.toArray⟩ l.length 0 none [] = R at *
  obtain ⟨r1, r2⟩ := R
  unfold Lib.closeSpans
  cases r2 <;> simp at h ⊢ <;> omega
theorem words_len (l : Str) : ∀ x ∈ words l, x.length ≤ l.length := by
  intro x hx
  unfold words Lib.goFieldsP at hx
  rw [List.map_map] at hx
  obtain ⟨y, _, rfl⟩ := List.mem_map.1 hx
  show (bl (ByteArray.extract _ _ _)).length ≤ _
  rw [bl_len, ByteArray.size_extract, show (⟨l.toArray⟩ : ByteArray).size = l.length from str_size l]
  omega
end Go.Proofs.YtmnmcikbbfcjcaaGreatDoor
/-
  What a line's words are, and how they are read.
-/
namespace Go.Proofs.YtmnmcikbbfcjcaaGreatDoor
open Go.RowKit Go.Shelf Vs

end Go.Proofs.YtmnmcikbbfcjcaaGreatDoor
/-
  A line is read.
-/
namespace Go.Proofs.YtmnmcikbbfcjcaaGreatDoor
open Go.RowKit Go.Shelf Vs

/-- What a config has while it is read. -/
def Inv (c : Cfg) : Prop := c.names.Nodup ∧ c.names.length ≤ 256 ∧ c.vecs.length = c.names.length ∧ c.parts.length ≤ 16 ∧ c.qos.length ≤ 16
end Go.Proofs.YtmnmcikbbfcjcaaGreatDoor
/-
  strings.SplitSeq at the byte 10: the iterator, which keeps what is left in a cell of its own.
-/
namespace Go.Proofs.YtmnmcikbbfcjcaaGreatDoor.Ls
open Go.RowKit Go.Shelf Vs
attribute [local go_sem] Oper.semAt_some

theorem lines_step (l : List UInt8) : lines l = Vs.upTo 10 l :: (if 10 ∈ l then lines (Vs.behind 10 l) else []) := by
  induction l with
  | nil => rfl
  | cons c r ih =>
    by_cases h : c = 10
    · subst h
      rw [if_pos (by simp)]
      simp [lines, Vs.upTo, Vs.behind]
    · have hm : (10 ∈ c :: r) ↔ 10 ∈ r := by
        simp only [List.mem_cons]
        exact ⟨fun hh => hh.resolve_left (fun e => h e.symm), .inr⟩
      have hu : Vs.upTo 10 (c :: r) = c :: Vs.upTo 10 r := by rw [upTo_cons, if_neg h]
      have hb : Vs.behind 10 (c :: r) = Vs.behind 10 r := by unfold Vs.behind; rw [hu]; rfl
      conv => lhs; unfold lines
      rw [if_neg h, ih, hu, hb]
      by_cases h2 : 10 ∈ r
      · rw [if_pos h2, if_pos (hm.2 h2)]
      · rw [if_neg h2, if_neg (fun e => h2 (hm.1 e))]
/-- A piece: no longer than a string may be. -/
abbrev Pc := { x : List UInt8 // x.length ≤ 140737488355328 }
def raw (l : List Pc) : List (List UInt8) := l.map (·.1)
end Go.Proofs.YtmnmcikbbfcjcaaGreatDoor.Ls
/-
  A range over strings.SplitSeq, whose body may return: the loop's invariant speaks of what lay ahead of the loop, and bears the iterator's own cell.
-/
namespace Go.Proofs.YtmnmcikbbfcjcaaGreatDoor.Ls
open Go.RowKit Go.Shelf Vs
attribute [local go_sem] Oper.semAt_some

end Go.Proofs.YtmnmcikbbfcjcaaGreatDoor.Ls
/-
  A reader that has read nothing.
-/
namespace Go.Proofs.YtmnmcikbbfcjcaaGreatDoor
open Go.RowKit Go.Shelf Vs

end Go.Proofs.YtmnmcikbbfcjcaaGreatDoor
/-
  Lines one behind the other, as plain functions: what is kept.
-/
namespace Go.Proofs.YtmnmcikbbfcjcaaGreatDoor
open Go.RowKit Go.Shelf Vs

theorem linesP_nil (k : Nat) (c : Cfg) : linesP k c [] = .ok c := by unfold linesP; rfl
theorem linesP_cons (k : Nat) (c : Cfg) (l : Str) (ls : List Str) : linesP k c (l :: ls) = match lineP c l with
  | .error e => .error (e, k)
  | .ok c' => linesP (k + 1) c' ls := by rw [linesP]; rfl
theorem name_len {n : Str} (h : isNameP n = true) : n.length ≤ 65536 := by
  unfold isNameP isOfP at h
  simp only [Bool.and_eq_true, decide_eq_true_eq] at h
  omega
theorem optsP_len : ∀ (ss : List Spec) (ws came : List Str) (vs r : List Int), optsP ss ws came vs = some r → r.length = vs.length
  | ss, [], came, vs, r, h => by rw [opts_nil] at h; injection h with h; rw [h]
  | ss, w :: ws, came, vs, r, h => by
    by_cases hw : Vs.upTo 61 w ∈ came
    · rw [opts_there hw] at h; cases h
    · cases hp : putP ss vs (Vs.upTo 61 w) (Vs.behind 61 w) with
      | none => rw [opts_none hw hp] at h; cases h
      | some v2 =>
        rw [opts_some hw hp] at h
        rw [optsP_len ss ws _ v2 r h, putP_len hp]
def Good (c : Cfg) : Prop := Inv c ∧ Short c
end Go.Proofs.YtmnmcikbbfcjcaaGreatDoor
/-
  Parse: what lies in memory between two lines.
-/
namespace Go.Proofs.YtmnmcikbbfcjcaaGreatDoor
open Go.RowKit Go.Shelf Vs

section
variable {B : Nat} {w w' : World} {b : Nat} {ns : List Str} {vs : List V3} {ps : List PartC} {qs : List QosC} {vals : List Int} {l0 l1 l2 : List Str} {vN vV vP vQ : Value} {m0 m1 m2 : Nat}
end
abbrev zeros12 : List Value := [.slice none 0 0, .slice none 0 0, .slice none 0 0, .slice none 0 0, .int .i64 0, .int .i64 0, .int .i64 0, .int .i64 0, .int .i64 0, .int .i64 0, .int .i64 0, .int .i64 0]
abbrev TFault : TypeId := 77
/-- Behind a line that may not be. -/
def PX (w : World) (s : Str) (W : World) : Prop := ∃ e k, linesP 1 startC (lines s) = .error (e, k) ∧ Box W w.heap.size TConf zeros12 ∧ Box W (w.heap.size + 1) TFault [.int .i64 (e : Int), .int .i64 (k : Int)] ∧ Below w.heap.size w W
theorem PX.grown {w W W' : World} {s : Str} {x : Nat} (h : PX w s W) (ha : Aft x W W') (hx : w.heap.size + 2 ≤ x) : PX w s W' := by
  obtain ⟨e, k, h1, h2, h3, h4⟩ := h
  exact ⟨e, k, h1, Box.grown h2 ha (by intro e; injection e with e; omega), Box.grown h3 ha (by intro e; injection e with e; omega), h4.trans (ha.below (by omega) h4.size)⟩
/-- A block that is none of these, behind a line. -/
theorem fx_at {X : Nat → Prop} {W W' : World} {k : Nat} {o : Obj} (h : FX X W W') (hk : W.heap[k]? = some o) (hx : ¬ X k) : W'.heap[k]? = some o := (h.block k (lt_of_block hk) hx).trans hk
end Go.Proofs.YtmnmcikbbfcjcaaGreatDoor
/-
  Parse: how it begins; lines are short.
-/
namespace Go.Proofs.YtmnmcikbbfcjcaaGreatDoor
open Go.RowKit Go.Shelf Vs

theorem wordsP_ne {c : Cfg} {ws : List Str} {k : Nat} (h : wordsP c ws = .error k) : k ≠ 0 := by
  cases ws with
  | nil => cases h
  | cons n os =>
    have hwp : wordsP c (n :: os) = if n = kNode then nodeP c os else if n = kPart then partP c os else if n = kQos then qosP c os else if n = kSet then setP c os else .error 3 := rfl
    rw [hwp] at h
    have e3 : ∀ {a b : Nat}, (Except.error a : Line) = .error b → a = b := fun e => by injection e
    split at h
    · by_cases h2 : os.length = 2
      · obtain ⟨l, v, rfl⟩ : ∃ l v, os = [l, v] := by
          match os, h2 with
          | [l, v], _ => exact ⟨l, v, rfl⟩
        rw [nodeP_two] at h
        repeat' split at h
        all_goals first | (cases h; done) | (have := e3 h; omega)
      · rw [nodeP_len h2] at h
        have := e3 h; omega
    · split at h
      · by_cases h2 : os.length < 2
        · rw [partP_few h2] at h
          have := e3 h; omega
        · obtain ⟨n, l, os, rfl⟩ : ∃ n l os', os = n :: l :: os' := by
            match os, h2 with
            | [], h => simp at h
            | [_], h => simp at h
            | n :: l :: os, _ => exact ⟨_, _, _, rfl⟩
          cases hn : isNameP n with
          | false => rw [partP_name hn] at h; have := e3 h; omega
          | true =>
            cases ho : optsP partS os [] (untold partS) with
            | none => rw [partP_opts ho] at h; have := e3 h; omega
            | some r =>
              rw [partP_ok hn ho] at h
              split at h
              · rename_i hs
                have := e3 h
                omega
              · repeat' split at h
                all_goals first | (cases h; done) | (have := e3 h; omega)
      · split at h
        · cases os with
          | nil => have := e3 (show (Except.error 3 : Line) = .error k from h); omega
          | cons n os =>
            cases hn : isNameP n with
            | false => rw [qosP_name hn] at h; have := e3 h; omega
            | true =>
              cases ho : optsP qosS os [] (untold qosS) with
              | none => rw [qosP_opts ho] at h; have := e3 h; omega
              | some r =>
                rw [qosP_ok hn ho] at h
                repeat' split at h
                all_goals first | (cases h; done) | (have := e3 h; omega)
        · split at h
          · by_cases h2 : os.length = 2
            · obtain ⟨l, v, rfl⟩ : ∃ l v, os = [l, v] := by
                match os, h2 with
                | [l, v], _ => exact ⟨l, v, rfl⟩
              cases hp : putP valS c.vals l v with
              | none => rw [setP_none hp] at h; have := e3 h; omega
              | some vs =>
                rw [setP_some hp] at h
                split at h
                · cases h
                · have := e3 h; omega
            · rw [setP_len h2] at h; have := e3 h; omega
          · have := e3 h; omega
end Go.Proofs.YtmnmcikbbfcjcaaGreatDoor
