/-
  Parts: UList UMap URng UMath UBase ULate UAt UTotal.
-/
import Derived.Test.YtmbgcphiigmdjaaD0
import Derived.WideKeyEntry
import Derived.Maps.RangeRun
import Derived.Maps.Range
import Derived.Laws.IdiomRangeMap
import Derived.Test.YtmbgcphiigmdjaaS0
import Derived.Deep.DeepCutAuto
import Derived.BigRegion
import Derived.StillTailTactics
import Derived.Deep.LoopGhost
set_option linter.unusedSimpArgs false
set_option linter.unusedVariables false
/-
  Lists of names with what they stand for: what a name stands for, a name put.
-/
namespace Go.Proofs.Ytmbgcphiigmdjaa

abbrev Str := List UInt8
section
variable {α β : Type} {s t : Str} {u : α} {L : List (Str × α)}
def lookG (s : Str) : List (Str × α) → Option α
  | [] => none
  | x :: r => if x.1 = s then some x.2 else lookG s r
def putG (s : Str) (u : α) : List (Str × α) → List (Str × α)
  | [] => [(s, u)]
  | x :: r => if x.1 = s then (s, u) :: r else x :: putG s u r
theorem lookG_map (f : α → β) : lookG s (L.map fun x => (x.1, f x.2)) = (lookG s L).map f := by
  induction L with
  | nil => rfl
  | cons x r ih =>
    rw [List.map_cons, lookG, lookG]
    by_cases h : x.1 = s
    · rw [if_pos h, if_pos h]; rfl
    · rw [if_neg h, if_neg h, ih]
theorem putG_map (f : α → β) : putG s (f u) (L.map fun x => (x.1, f x.2)) = (putG s u L).map fun x => (x.1, f x.2) := by
  induction L with
  | nil => rfl
  | cons x r ih =>
    rw [List.map_cons, putG, putG]
    by_cases h : x.1 = s
    · rw [if_pos h, if_pos h]; rfl
    · rw [if_neg h, if_neg h, ih]; rfl
theorem lookG_mem (h : lookG s L = some u) : (s, u) ∈ L := by
  induction L with
  | nil => cases h
  | cons x r ih =>
    rw [lookG] at h
    by_cases hx : x.1 = s
    · rw [if_pos hx] at h
      injection h with h
      obtain ⟨a, b⟩ := x
      simp only at hx h
      subst hx h
      exact List.mem_cons_self ..
    · rw [if_neg hx] at h
      exact List.mem_cons_of_mem _ (ih h)
theorem lookG_none : lookG s L = none ↔ s ∉ L.map Prod.fst := by
  induction L with
  | nil => simp [lookG]
  | cons x r ih =>
    rw [lookG]
    by_cases hx : x.1 = s
    · rw [if_pos hx]; simp [hx]
    · rw [if_neg hx, ih]; simp [Ne.symm hx]
theorem mem_lookG (hn : (L.map Prod.fst).Nodup) (h : (s, u) ∈ L) : lookG s L = some u := by
  induction L with
  | nil => cases h
  | cons x r ih =>
    rw [List.map_cons, List.nodup_cons] at hn
    rw [lookG]
    rcases List.mem_cons.1 h with rfl | h
    · rw [if_pos rfl]
    · rw [if_neg fun e => hn.1 (by rw [e]; exact List.mem_map_of_mem (f := Prod.fst) h), ih hn.2 h]
theorem putG_keys : (putG s u L).map Prod.fst = if (lookG s L).isSome then L.map Prod.fst else L.map Prod.fst ++ [s] := by
  induction L with
  | nil => rfl
  | cons x r ih =>
    rw [putG, lookG]
    by_cases hx : x.1 = s
    · rw [if_pos hx, if_pos hx, if_pos (by rfl), List.map_cons, List.map_cons, hx]
    · rw [if_neg hx, if_neg hx, List.map_cons, ih, List.map_cons]
      split <;> rfl
theorem putG_len : (putG s u L).length = if (lookG s L).isSome then L.length else L.length + 1 := by
  have h := congrArg List.length (putG_keys (s := s) (u := u) (L := L))
  rw [List.length_map] at h
  rw [h]
  split <;> simp
theorem putG_nodup (hn : (L.map Prod.fst).Nodup) : ((putG s u L).map Prod.fst).Nodup := by
  rw [putG_keys]
  cases h : lookG s L with
  | some v => exact hn
  | none =>
    have := lookG_none.1 h
    rw [if_neg (by simp), List.nodup_append]
    exact ⟨hn, by simp, fun a ha b hb e => this (by rw [List.mem_singleton.1 hb] at e; exact e ▸ ha)⟩
theorem putG_mem {x : Str × α} (h : x ∈ putG s u L) : x = (s, u) ∨ x ∈ L := by
  induction L with
  | nil => exact .inl (List.mem_singleton.1 h)
  | cons y r ih =>
    rw [putG] at h
    by_cases hy : y.1 = s
    · rw [if_pos hy] at h
      rcases List.mem_cons.1 h with h | h
      · exact .inl h
      · exact .inr (List.mem_cons_of_mem _ h)
    · rw [if_neg hy] at h
      rcases List.mem_cons.1 h with rfl | h
      · exact .inr (List.mem_cons_self ..)
      · rcases ih h with h | h
        · exact .inl h
        · exact .inr (List.mem_cons_of_mem _ h)
theorem lookG_put : lookG t (putG s u L) = if s = t then some u else lookG t L := by
  induction L with
  | nil => rfl
  | cons x r ih =>
    rw [putG]
    by_cases hx : x.1 = s
    · rw [if_pos hx, lookG, lookG]
      by_cases h : s = t
      · rw [if_pos h, if_pos h]
      · rw [if_neg h, if_neg h, if_neg (by rw [hx]; exact h)]
    · rw [if_neg hx, lookG, ih, lookG]
      by_cases h : s = t
      · subst h
        rw [if_neg hx, if_pos rfl, if_pos rfl]
      · rw [if_neg h]
        rw [if_neg h]
end
end Go.Proofs.Ytmbgcphiigmdjaa
/-
  Maps by names: what a name stands for, a name put, how many there are.
-/
namespace Go.Proofs.Ytmbgcphiigmdjaa
open Go.RowKit Go.MapKept Ds

abbrev gE (e : MapEntry) : Value × Value := (e.key, e.val)
abbrev hE (x : Str × Value) : Value × Value := (Value.string (str x.1), x.2)
/-- The map in block b has these entries, each name once, in the order in which they came. -/
def SM (w : World) (b : Nat) (L : List (Str × Value)) : Prop := ∃ es clock, w.heap[b]? = some (.map es clock) ∧ Stamped es clock ∧ es.toList.map gE = L.map hE
section
variable {w w' : World} {b B : Nat} {L : List (Str × Value)}
theorem SM.new (w : World) : SM (w.alloc (.map #[] 0)) w.heap.size [] := ⟨#[], 0, heap_alloc_new w _, stamped_empty 0, rfl⟩
theorem SM.keep (h : SM w b L) (hk : w'.heap[b]? = w.heap[b]?) : SM w' b L := by
  obtain ⟨es, c, a, e⟩ := h
  exact ⟨es, c, hk.trans a, e⟩
theorem SM.lt (h : SM w b L) : b < w.heap.size := by
  obtain ⟨es, c, a, _⟩ := h
  exact lt_of_block a
theorem SM.below (h : SM w b L) (hb : Below B w w') (hB : b < B) : SM w' b L := h.keep (hb.block b hB)
theorem SM.len (h : SM w b L) {M : TypeId} (hM : Try.prog.underlying M = some (.map (Try.prog.mapKeyOf M) (Try.prog.mapElemOf M))) (T : TypeId) : (Builtin.len_ #[M] T #[.map (some b)]).run Try.prog w = .ok (.int .i64 L.length) w := by
  obtain ⟨es, c, a, _, e⟩ := h
  have hl := congrArg List.length e
  rw [List.length_map, List.length_map, Array.length_toList] at hl
  have := run_len_map (P := Try.prog) w M T b es c hM a
  rw [hl] at this
  exact this
end
theorem isKey_str (s : ByteArray) : MapKept.IsKey .string (.string s) := by simp [MapKept.IsKey]
theorem str_inj {a b : Str} (h : str a = str b) : a = b := by rw [← bl_str a, h, bl_str]
theorem str_beq (a b : Str) : (str a == str b) = decide (a = b) := by
  rw [Bool.eq_iff_iff, MapKept.bytes_beq, decide_eq_true_eq]
  exact ⟨str_inj, fun h => by rw [h]⟩
theorem find_str (s : Str) : ∀ (es : List MapEntry) (L : List (Str × Value)) (i : Nat), es.map gE = L.map hE →
    ∃ j, Instr.findNow .string (.string (str s)) es i = some ((lookG s L).map fun v => (j, v)) ∧ ((lookG s L).isSome → i ≤ j ∧ ∃ v, L[j - i]? = some (s, v) ∧ ∀ u, putG s u L = L.set (j - i) (s, u))
  | [], [], i, _ => ⟨i, rfl, fun h => by cases h⟩
  | [], _ :: _, _, h => by simp at h
  | _ :: _, [], _, h => by simp at h
  | e :: es, x :: L, i, h => by
    simp only [List.map_cons, List.cons.injEq, Prod.mk.injEq] at h
    obtain ⟨⟨hk, hv⟩, hr⟩ := h
    have hs : Instr.sameNow .string (.string (str s)) e.key = some (decide (s = x.1)) := by
      rw [hk]
      show some (str s == str x.1) = _
      rw [str_beq]
    unfold Instr.findNow
    rw [hs]
    by_cases hx : x.1 = s
    · refine ⟨i, ?_, fun _ => ⟨Nat.le_refl _, x.2, ?_, fun u => ?_⟩⟩
      · rw [decide_eq_true hx.symm, show lookG s (x :: L) = some x.2 from if_pos hx, hv]
        rfl
      · rw [Nat.sub_self, ← hx]; rfl
      · rw [Nat.sub_self, show putG s u (x :: L) = (s, u) :: L from if_pos hx]; rfl
    · obtain ⟨j, hj, hj2⟩ := find_str s es L (i + 1) hr
      refine ⟨j, ?_, fun h => ?_⟩
      · rw [decide_eq_false (Ne.symm hx), show lookG s (x :: L) = lookG s L from if_neg hx]
        exact hj
      · rw [show lookG s (x :: L) = lookG s L from if_neg hx] at h
        obtain ⟨h1, v, h2, h3⟩ := hj2 h
        have e : j - i = (j - (i + 1)) + 1 := by omega
        refine ⟨by omega, v, ?_, fun u => ?_⟩
        · rw [e]; exact h2
        · rw [show putG s u (x :: L) = x :: putG s u L from if_neg hx, h3, e]; rfl
section
variable {w : World} {ops : Array Oper} {rest : List Oper} {o : Oper} {a : Act} {Q : Exit → Act → World → Prop} {T K E : TypeId}
theorem run_sm_look (c : Bool) (hT : Try.prog.underlying T = some (.map K E)) (hK : Try.prog.underlying K = some .string) {z : Value} (hz : (zeroValue E).run Try.prog w = .ok z w) {b : Nat} {L : List (Str × Value)} (h : SM w b L) (s : Str) :
    (Instr.lookup T (.map (some b)) (.string (str s)) c).run Try.prog w = .ok (if c then .tuple #[(lookG s L).getD z, .bool (lookG s L).isSome] else (lookG s L).getD z) w := by
  obtain ⟨es, clock, hb, _, he⟩ := h
  obtain ⟨j, hj, _⟩ := find_str s es.toList L 0 he
  have hf := MapKept.run_findKey (w := w) hK hj
  have hc := fun e => MapKept.run_checkKey (P := Try.prog) (w := w) hK (isKey_str (str s)) e 9999
  cases hl : lookG s L with
  | none =>
    rw [hl] at hf
    simp [Instr.lookup, run_underlying hT, MapKept.run_getObj_map hb, hc, hf, hz, Result.andThen]
  | some v =>
    rw [hl] at hf
    simp [Instr.lookup, run_underlying hT, MapKept.run_getObj_map hb, hc, hf, Result.andThen]
theorem run_sm_put (hT : Try.prog.underlying T = some (.map K E)) (hK : Try.prog.underlying K = some .string) {b : Nat} {L : List (Str × Value)} (h : SM w b L) (s : Str) (u : Value) :
    ∃ w', (Instr.mapUpdate T (.map (some b)) (.string (str s)) u).run Try.prog w = .ok () w' ∧ SM w' b (putG s u L) ∧ w.grownBy w' (some b) ∧ w'.heap.size = w.heap.size := by
  obtain ⟨es, clock, hb, hst, he⟩ := h
  obtain ⟨j, hj, hj2⟩ := find_str s es.toList L 0 he
  have hf := MapKept.run_findKey (w := w) hK hj
  have hc := fun e => MapKept.run_checkKey (P := Try.prog) (w := w) hK (isKey_str (str s)) e 9999
  cases hl : lookG s L with
  | none =>
    rw [hl] at hf
    have hput : putG s u L = L ++ [(s, u)] := by
      clear hf hj hj2 he
      induction L with
      | nil => rfl
      | cons x r ih =>
        rw [lookG] at hl
        by_cases hx : x.1 = s
        · rw [if_pos hx] at hl; cases hl
        · rw [if_neg hx] at hl
          rw [putG, if_neg hx, ih hl]; rfl
    have hne : ∀ x ∈ es.toList, x.key ≠ .string (str s) := fun x hx e => by
      have hm := List.mem_map_of_mem (f := gE) hx
      rw [he] at hm
      obtain ⟨y, hy, e2⟩ := List.mem_map.1 hm
      have e3 : Value.string (str y.1) = x.key := congrArg Prod.fst e2
      rw [e] at e3
      injection e3 with e3
      exact lookG_none.1 hl (by rw [← str_inj e3]; exact List.mem_map_of_mem (f := Prod.fst) hy)
    refine ⟨ChangeMaps.setBlock w b (.map (es.push ⟨.string (str s), u, clock⟩) (clock + 1)), ?_, ⟨_, _, ChangeMaps.heap_setBlock_same hb _, stamped_push hst hne, ?_⟩, ⟨rfl, rfl, rfl, by simp [ChangeMaps.setBlock], fun i _ hi => ChangeMaps.heap_setBlock_other hb _ (fun e => hi (by rw [e]))⟩, by simp [ChangeMaps.setBlock]⟩
    · simp [Instr.mapUpdate, run_underlying hT, MapKept.run_getObj_map hb, hc, hf, MapKept.run_setObj_map _ hb, Result.andThen, ChangeMaps.setBlock]
    · rw [Array.toList_push, List.map_append, he, hput, List.map_append]
      rfl
  | some v =>
    rw [hl] at hf
    obtain ⟨_, v', hv', hput⟩ := hj2 (by rw [hl]; rfl)
    rw [Nat.sub_zero] at hv' hput
    have hlen := congrArg List.length he
    rw [List.length_map, List.length_map] at hlen
    obtain ⟨hjl, hv2⟩ := List.getElem?_eq_some_iff.1 hv'
    have hje : j < es.toList.length := by omega
    have hge : gE es.toList[j] = hE L[j] := by
      have h1 := List.getElem_of_eq he (i := j) (by rw [List.length_map]; exact hje)
      rw [List.getElem_map, List.getElem_map] at h1
      exact h1
    rw [hv2] at hge
    have hkey : es.toList[j].key = .string (str s) := congrArg Prod.fst hge
    have hkey3 : (es[j]'(by simpa using hje)).key = .string (str s) := by simpa using hkey
    have hj3 : es.toList[j]? = some es.toList[j] := List.getElem?_eq_getElem hje
    have hj4 : es[j]? = some es.toList[j] := by rw [← Array.getElem?_toList]; exact hj3
    refine ⟨ChangeMaps.setBlock w b (.map (es.modify j fun e' => { e' with key := .string (str s), val := u }) clock), ?_, ⟨_, _, ChangeMaps.heap_setBlock_same hb _, ?_, ?_⟩, ⟨rfl, rfl, rfl, by simp [ChangeMaps.setBlock], fun i _ hi => ChangeMaps.heap_setBlock_other hb _ (fun e => hi (by rw [e]))⟩, by simp [ChangeMaps.setBlock]⟩
    · simp [Instr.mapUpdate, run_underlying hT, MapKept.run_getObj_map hb, hc, hf, hj4, hkey3, run_keyThatStays (isKey_str (str s)), MapKept.run_setObj_map _ hb, Result.andThen, ChangeMaps.setBlock]
    · have hmod : (es.modify j fun e' => { e' with key := .string (str s), val := u }) = es.modify j fun e' => { e' with val := u } := by
        apply Array.ext_getElem?
        intro i
        rw [Array.getElem?_modify, Array.getElem?_modify]
        by_cases hi : j = i
        · subst hi
          rw [if_pos rfl, if_pos rfl, hj4]
          simp [← hkey]
        · rw [if_neg hi, if_neg hi]
      rw [hmod]
      exact stamped_modify hst _ _ (fun _ _ => rfl) (fun _ _ _ => rfl)
    · rw [hput]
      apply List.ext_getElem?
      intro i
      have hei : (es.toList.map gE)[i]? = (L.map hE)[i]? := by rw [he]
      rw [List.getElem?_map, List.getElem?_map, Array.getElem?_toList, Array.getElem?_modify, List.getElem?_set]
      rw [List.getElem?_map, List.getElem?_map, Array.getElem?_toList] at hei
      by_cases hi : j = i
      · subst hi
        rw [if_pos rfl, if_pos rfl, if_pos hjl, hj4]
        rfl
      · rw [if_neg hi, if_neg hi]
        exact hei
end
end Go.Proofs.Ytmbgcphiigmdjaa
/-
  The range over a map by names.
-/
namespace Go.Proofs.Ytmbgcphiigmdjaa
open Go.RowKit Go.MapKept Ds

theorem perm_out {L : List MapEntry} (hn : (L.map (·.born)).Nodup) {e : MapEntry} (he : e ∈ L) : L.Perm (e :: L.filter fun x => !(x.born == e.born)) := by
  induction L with
  | nil => cases he
  | cons x r ih =>
    rw [List.map_cons, List.nodup_cons] at hn
    by_cases hx : x.born = e.born
    · have hnot : ∀ y ∈ r, (!(y.born == e.born)) = true := fun y hy => by
        have : ¬ y.born = e.born := fun h => hn.1 (by rw [hx, ← h]; exact List.mem_map_of_mem (f := fun z : MapEntry => z.born) hy)
        simpa using this
      rcases List.mem_cons.1 he with rfl | he
      · rw [List.filter_cons_of_neg (by simp), List.filter_eq_self.2 hnot]
      · have := hnot e he
        simp at this
    · rcases List.mem_cons.1 he with rfl | he
      · exact absurd rfl hx
      · rw [List.filter_cons_of_pos (by simpa using hx)]
        exact ((ih hn.2 he).cons x).trans (List.Perm.swap _ _ _)
/-- What an entry stands for. -/
def decP (p : Value × Value) : Str × Value := (match p.1 with | .string s => bl s | _ => [], p.2)
theorem dec_h (x : Str × Value) : decP (hE x) = x := by
  obtain ⟨s, v⟩ := x
  show (bl (str s), v) = (s, v)
  rw [bl_str]
/-- A range that is under way: what has come out, and what is left. -/
def SRng (w : World) (b r : Nat) (L done : List (Str × Value)) : Prop := ∃ es clock since seen c0, w.heap[b]? = some (.map es clock) ∧ w.heap[r]? = some (.mapIter (some b) since seen c0) ∧ (es.toList.map (·.born)).Nodup ∧ (∀ x ∈ es.toList, x.born < since) ∧ since ≤ c0 ∧ since ≤ clock ∧
  (∀ e ∈ es.toList, gE e = hE (decP (gE e))) ∧ (done ++ (leftOf es seen).toList.map fun e => decP (gE e)).Perm L
theorem SRng.keep {w w' : World} {b r : Nat} {L done : List (Str × Value)} (h : SRng w b r L done) (hb : w'.heap[b]? = w.heap[b]?) (hr : w'.heap[r]? = w.heap[r]?) : SRng w' b r L done := by
  obtain ⟨es, clock, since, seen, c0, h1, h2, h3⟩ := h
  exact ⟨es, clock, since, seen, c0, hb.trans h1, hr.trans h2, h3⟩
theorem SRng.sub {w : World} {b r : Nat} {L done : List (Str × Value)} (h : SRng w b r L done) : done.length ≤ L.length ∧ ∀ x ∈ done, x ∈ L := by
  obtain ⟨_, _, _, _, _, _, _, _, _, _, _, _, hp⟩ := h
  have := hp.length_eq
  rw [List.length_append] at this
  exact ⟨by omega, fun x hx => hp.mem_iff.1 (List.mem_append_left _ hx)⟩
abbrev iterO (w : World) (b : Nat) : Obj := .mapIter (some b) (match w.heap[b]? with | some (.map _ c) => c | _ => 0) #[] (match w.heap[b]? with | some (.map _ c) => c | _ => 0)
theorem SRng.start {w : World} {b : Nat} {L : List (Str × Value)} {T K E : TypeId} (hT : Try.prog.underlying T = some (.map K E)) (h : SM w b L) : (Instr.range T (.map (some b))).run Try.prog w = .ok (.pointer (some ⟨w.heap.size, 0, none⟩)) (w.alloc (iterO w b)) ∧
    SRng (w.alloc (iterO w b)) b w.heap.size L [] := by
  obtain ⟨es, clock, hb, hs, he⟩ := h
  have hlt := lt_of_block hb
  unfold iterO
  rw [hb]
  refine ⟨run_range_map w T _ _ b es clock hT hb, es, clock, clock, #[], clock, (Below.heap_alloc _ _ _ hlt).trans hb, heap_alloc_new w _, hs.2.1, hs.1, Nat.le_refl _, Nat.le_refl _, fun e hem => ?_, ?_⟩
  · have h1 : gE e ∈ L.map hE := he ▸ List.mem_map_of_mem (f := gE) hem
    obtain ⟨x, _, hx⟩ := List.mem_map.1 h1
    rw [← hx, dec_h]
  · have h2 : (es.toList.map fun e => decP (gE e)) = L := by
      have h3 := congrArg (List.map decP) he
      rw [List.map_map, List.map_map] at h3
      have h4 : L.map (decP ∘ hE) = L := by
        conv => rhs; rw [← List.map_id L]
        exact List.map_congr_left fun x _ => dec_h x
      rw [h4] at h3
      exact h3
    rw [show (leftOf es #[]).toList = es.toList by simp [leftOf], h2]
    exact List.Perm.refl _
theorem SRng.next {w : World} {b r : Nat} {L done : List (Str × Value)} (h : SRng w b r L done) (hbr : b ≠ r) (ty : TypeId) :
    (done.Perm L ∧ (Instr.next (.pointer (some ⟨r, 0, none⟩)) false ty).run Try.prog w = .ok (.tuple #[.bool false]) w) ∨
    ∃ (x : Str × Value) (w' : World), (Instr.next (.pointer (some ⟨r, 0, none⟩)) false ty).run Try.prog w = .ok (.tuple #[.bool true, .string (str x.1), x.2]) w' ∧ SRng w' b r L (done ++ [x]) ∧ w.grownBy w' (some r) ∧ w'.heap.size = w.heap.size ∧
      (Instr.entry (.pointer (some ⟨r, 0, none⟩))).run Try.prog w' = .ok (.tuple #[.string (str x.1), x.2]) w' := by
  obtain ⟨es, clock, since, seen, c0, hb, hr, hn, hold, hsc, hsk, hdec, hperm⟩ := h
  rcases run_next_at (P := Try.prog) w ty r b since c0 seen es clock hr hb hold hsc with ⟨h0, hrun⟩ | ⟨e, he, w1, hal, hrun⟩
  · refine .inl ⟨?_, hrun⟩
    have : (leftOf es seen).toList = [] := List.eq_nil_of_length_eq_zero (by rw [Array.length_toList, h0])
    rw [this, List.map_nil, List.append_nil] at hperm
    exact hperm
  · have hem : e ∈ es.toList := by
      have := he
      simp [leftOf] at this
      exact Array.mem_toList_iff.2 this.1
    have hLn : ((leftOf es seen).toList.map (·.born)).Nodup := by
      have : (leftOf es seen).toList.Sublist es.toList := by simp [leftOf]
      exact (this.map _).nodup hn
    have hout := perm_out hLn he
    have hL' : (leftOf es (seen.push e.born)).toList = (leftOf es seen).toList.filter fun x => !(x.born == e.born) := by
      simp only [leftOf, Array.toList_filter, List.filter_filter]
      congr 1
      funext x
      rw [contains_push]
      cases seen.contains x.born <;> cases (x.born == e.born) <;> rfl
    have hge := hdec e hem
    have hk : e.key = .string (str (decP (gE e)).1) := congrArg Prod.fst hge
    have hr1 : w1.heap[r]? = some (.mapIter (some b) since seen c0) := by rcases hal with rfl | rfl <;> exact hr
    have hb1 : w1.heap[b]? = some (.map es clock) := by rcases hal with rfl | rfl <;> exact hb
    have hset := heap_set (o' := .mapIter (some b) since (seen.push e.born) clock) hr1
    have hb' : (ChangeMaps.setBlock w1 r (.mapIter (some b) since (seen.push e.born) clock)).heap[b]? = some (.map es clock) := (hset.2 b hbr).trans hb1
    have hen := run_entry_at (P := Try.prog) _ r b since seen es clock e hset.1 hb' hem hn
    rw [hk] at hrun hen
    refine .inr ⟨decP (gE e), _, hrun, ⟨es, clock, since, seen.push e.born, clock, hb', hset.1, hn, hold, hsk, hsk, hdec, ?_⟩, ?_, ?_, hen⟩
    · rw [hL', List.append_assoc]
      exact (List.Perm.append_left done (hout.map fun e => decP (gE e)).symm).trans hperm
    · rcases hal with rfl | rfl <;> exact ⟨rfl, rfl, rfl, by simp [ChangeMaps.setBlock], fun i _ hi => hset.2 i (fun e1 => hi (by rw [e1]))⟩
    · rcases hal with rfl | rfl <;> simp [ChangeMaps.setBlock]
end Go.Proofs.Ytmbgcphiigmdjaa
/-
  What users have used, as plain functions.
-/
namespace Go.Proofs.Ytmbgcphiigmdjaa
open Go.RowKit Ss

/-- A user: a name, what they had used, since when. -/
abbrev Usr := Str × Int × Int
/-- A use behind the whole half-lives that have passed. -/
def late (h : Int) (u : Int × Int) (now : Int) : Int × Int := (halves u.1 ((now - u.2).tdiv h), u.2 + (now - u.2).tdiv h * h)
def timeB (now : Int) : Prop := 0 ≤ now ∧ now ≤ 1099511627776
instance (now : Int) : Decidable (timeB now) := inferInstanceAs (Decidable (_ ∧ _))
/-- What a user has used at a time, and the error. -/
def atP (h : Int) (M : List Usr) (s : Str) (now : Int) : (Int × Int) × Int :=
  if timeB now then match lookG s M with
    | none => ((0, now), 0)
    | some u => if now < u.2 then ((0, 0), 1) else (late h u now, 0)
  else ((0, 0), 1)
def nameB (s : Str) (am : Int) : Prop := s ≠ [] ∧ s.length ≤ 16 ∧ 0 ≤ am ∧ am ≤ 1099511627776
instance (s : Str) (am : Int) : Decidable (nameB s am) := inferInstanceAs (Decidable (_ ∧ _))
def capI (n : Int) : Int := if n ≤ 1152921504606846976 then n else 1152921504606846976
def addP (h : Int) (M : List Usr) (s : Str) (am now : Int) : List Usr × Int :=
  if (atP h M s now).2 ≠ 0 then (M, (atP h M s now).2) else
  if nameB s am then
    if lookG s M = none ∧ M.length = 1024 then (M, 5) else (putG s (capI ((atP h M s now).1.1 + am), (atP h M s now).1.2) M, 0)
  else (M, 1)
def usedP (h : Int) (M : List Usr) (s : Str) (now : Int) : Int × Int := ((atP h M s now).1.1, (atP h M s now).2)
/-- What one adds to the sum. -/
def partU (h now : Int) (x : Usr) : Int := if x.2.2 ≤ now then (late h x.2 now).1 else 0
def sumI : List Int → Int
  | [] => 0
  | x :: r => x + sumI r
def sumU (h : Int) (M : List Usr) (now : Int) : Int := sumI (M.map (partU h now))
def satI (n : Int) : Int := if n ≤ 9223372036854775807 then n else 9223372036854775807
def totalP (h : Int) (M : List Usr) (now : Int) : Int × Int := if timeB now then (satI (sumU h M now), 0) else (0, 1)
/-- Parts of 1000, rounded up. -/
def partsP (u t : Int) : Int := ((u.toNat * 1000 / t.toNat + (if u.toNat * 1000 % t.toNat = 0 then 0 else 1) : Nat) : Int)
def factorP (h : Int) (M : List Usr) (s : Str) (now : Int) : Int × Int :=
  if (usedP h M s now).2 ≠ 0 then (0, (usedP h M s now).2) else
  if (totalP h M now).1 = 0 then (1000, 0) else (1000 - partsP (usedP h M s now).1 (totalP h M now).1, 0)

/-- A ledger's users. -/
structure Good (M : List Usr) : Prop where
  nodup : (M.map Prod.fst).Nodup
  len : M.length ≤ 1024
  each : ∀ x ∈ M, x.1 ≠ [] ∧ x.1.length ≤ 16 ∧ 0 ≤ x.2.1 ∧ x.2.1 ≤ 1152921504606846976 ∧ 0 ≤ x.2.2 ∧ x.2.2 ≤ 1099511627776
theorem Good.nil : Good [] := ⟨List.nodup_nil, Nat.zero_le _, fun _ h => by cases h⟩
theorem Good.look {M : List Usr} (h : Good M) {s : Str} {u : Int × Int} (hl : lookG s M = some u) : 0 ≤ u.1 ∧ u.1 ≤ 1152921504606846976 ∧ 0 ≤ u.2 ∧ u.2 ≤ 1099511627776 := (h.each _ (lookG_mem hl)).2.2
/-- Whole half-lives that have passed. -/
theorem passed {h d : Int} (h1 : 1 ≤ h) (h0 : 0 ≤ d) : 0 ≤ d.tdiv h ∧ d.tdiv h ≤ d ∧ 0 ≤ d.tdiv h * h ∧ d.tdiv h * h ≤ d := by
  rw [Int.tdiv_eq_ediv_of_nonneg h0]
  have e1 : 0 ≤ d / h := Int.ediv_nonneg h0 (by omega)
  have e2 : d / h ≤ d := Int.ediv_le_self h h0
  have e3 : d / h * h ≤ d := Int.ediv_mul_le d (by omega)
  have e4 : 0 ≤ d / h * h := Int.mul_nonneg e1 (by omega)
  exact ⟨e1, e2, e4, e3⟩
theorem late_facts {h now : Int} {u : Int × Int} (h1 : 1 ≤ h) (hu : 0 ≤ u.1) (hn : u.2 ≤ now) : 0 ≤ (late h u now).1 ∧ (late h u now).1 ≤ u.1 ∧ u.2 ≤ (late h u now).2 ∧ (late h u now).2 ≤ now := by
  obtain ⟨a, b, c, d⟩ := passed (d := now - u.2) h1 (by omega)
  obtain ⟨e, f⟩ := (halves_near u.1 ((now - u.2).tdiv h)).1 hu
  exact ⟨e, f, by show u.2 ≤ u.2 + _; omega, by show u.2 + _ ≤ now; omega⟩
theorem at_facts {h now : Int} {M : List Usr} {s : Str} (h1 : 1 ≤ h) (hg : Good M) (he : (atP h M s now).2 = 0) : timeB now ∧ 0 ≤ (atP h M s now).1.1 ∧ (atP h M s now).1.1 ≤ 1152921504606846976 ∧ 0 ≤ (atP h M s now).1.2 ∧ (atP h M s now).1.2 ≤ now := by
  unfold atP at *
  by_cases ht : timeB now
  · rw [if_pos ht] at *
    obtain ⟨t0, t1⟩ := ht
    cases hl : lookG s M with
    | none => exact ⟨⟨t0, t1⟩, Int.le_refl _, (show (0 : Int) ≤ 1152921504606846976 by decide), t0, Int.le_refl _⟩
    | some u =>
      rw [hl] at he
      simp only at he ⊢
      obtain ⟨a, b, c, d⟩ := hg.look hl
      by_cases hn : now < u.2
      · rw [if_pos hn] at he; cases he
      · rw [if_neg hn]
        obtain ⟨e, f, g, i⟩ := late_facts (h := h) (now := now) h1 a (by omega)
        exact ⟨⟨t0, t1⟩, e, by show (late h u now).1 ≤ _; omega, by show 0 ≤ (late h u now).2; omega, i⟩
  · rw [if_neg ht] at he; cases he
theorem at_err (h : Int) (M : List Usr) (s : Str) (now : Int) : (atP h M s now).2 = 0 ∨ ((atP h M s now).2 = 1 ∧ (atP h M s now).1 = (0, 0)) := by
  unfold atP
  split
  · cases lookG s M with
    | none => exact .inl rfl
    | some u =>
      simp only
      split
      · exact .inr ⟨rfl, rfl⟩
      · exact .inl rfl
  · exact .inr ⟨rfl, rfl⟩
theorem add_good {h : Int} {M : List Usr} {s : Str} {am now : Int} (h1 : 1 ≤ h) (hg : Good M) : Good (addP h M s am now).1 := by
  unfold addP
  split
  · exact hg
  · rename_i he
    have he0 : (atP h M s now).2 = 0 := by simpa using he
    obtain ⟨⟨t0, t1⟩, a1, a2, a3, a4⟩ := at_facts h1 hg he0
    split
    · rename_i hn
      obtain ⟨n1, n2, n3, n4⟩ := hn
      split
      · exact hg
      · rename_i hm
        refine ⟨putG_nodup hg.nodup, ?_, fun x hx => ?_⟩
        · rw [putG_len]
          have := hg.len
          cases hl : lookG s M with
          | none =>
            have : M.length ≠ 1024 := fun e => hm ⟨hl, e⟩
            simp
            omega
          | some u => simpa using this
        · rcases putG_mem hx with rfl | hx
          · refine ⟨n1, n2, ?_, ?_, a3, ?_⟩
            · show 0 ≤ capI _
              unfold capI
              split <;> omega
            · show capI _ ≤ _
              unfold capI
              split <;> omega
            · show (atP h M s now).1.2 ≤ _
              omega
          · exact hg.each x hx
    · exact hg
/-- None has a time above the last. -/
def Till (M : List Usr) (last : Int) : Prop := ∀ x ∈ M, x.2.2 ≤ last
theorem sumI_app (a b : List Int) : sumI (a ++ b) = sumI a + sumI b := by
  induction a with
  | nil => simp [sumI]
  | cons x r ih => rw [List.cons_append, sumI, sumI, ih]; omega
theorem sumI_perm {a b : List Int} (h : a.Perm b) : sumI a = sumI b := by
  induction h with
  | nil => rfl
  | cons x _ ih => rw [sumI, sumI, ih]
  | swap x y l => simp only [sumI]; omega
  | trans _ _ h1 h2 => exact h1.trans h2
theorem sumI_nonneg {l : List Int} (h : ∀ x ∈ l, 0 ≤ x) : 0 ≤ sumI l := by
  induction l with
  | nil => exact Int.le_refl _
  | cons x r ih =>
    have := h x (List.mem_cons_self ..)
    have := ih fun y hy => h y (List.mem_cons_of_mem _ hy)
    rw [sumI]; omega
theorem sumI_ge {l : List Int} (h : ∀ x ∈ l, 0 ≤ x) {y : Int} (hy : y ∈ l) : y ≤ sumI l := by
  induction l with
  | nil => cases hy
  | cons x r ih =>
    have h1 := h x (List.mem_cons_self ..)
    have h2 := sumI_nonneg fun y hy => h y (List.mem_cons_of_mem _ hy)
    rw [sumI]
    rcases List.mem_cons.1 hy with rfl | hy
    · omega
    · have := ih (fun y hy => h y (List.mem_cons_of_mem _ hy)) hy
      omega
theorem part_facts {h now : Int} {M : List Usr} (h1 : 1 ≤ h) (hg : Good M) {x : Usr} (hx : x ∈ M) : 0 ≤ partU h now x ∧ partU h now x ≤ 1152921504606846976 := by
  obtain ⟨_, _, a, b, _, _⟩ := hg.each x hx
  unfold partU
  split
  · rename_i hn
    obtain ⟨e, f, _⟩ := late_facts (h := h) h1 a hn
    omega
  · omega
theorem sumU_nonneg {h now : Int} {M : List Usr} (h1 : 1 ≤ h) (hg : Good M) : 0 ≤ sumU h M now := sumI_nonneg fun y hy => by
  obtain ⟨x, hx, rfl⟩ := List.mem_map.1 hy
  exact (part_facts h1 hg hx).1
theorem most_sat {a : Int} (h : 0 ≤ a) : most a = satI a := by
  unfold most satI Fits
  (repeat' split) <;> omega
theorem sat_add {a b : Int} (ha : 0 ≤ a) (hb : 0 ≤ b) : satI (satI a + b) = satI (a + b) := by
  unfold satI
  (repeat' split) <;> omega
theorem sat_facts {a : Int} (ha : 0 ≤ a) : 0 ≤ satI a ∧ satI a ≤ 9223372036854775807 ∧ satI a ≤ a := by
  unfold satI
  split <;> omega
/-- What one has used is no more than what all have. -/
theorem used_total {h now : Int} {M : List Usr} {s : Str} (h1 : 1 ≤ h) (hg : Good M) (he : (usedP h M s now).2 = 0) : 0 ≤ (usedP h M s now).1 ∧ (usedP h M s now).1 ≤ 1152921504606846976 ∧ (totalP h M now).2 = 0 ∧ (usedP h M s now).1 ≤ (totalP h M now).1 ∧ (totalP h M now).1 ≤ 9223372036854775807 := by
  obtain ⟨ht, a1, a2, _, _⟩ := at_facts h1 hg (show (atP h M s now).2 = 0 from he)
  have hs := sumU_nonneg (now := now) h1 hg
  unfold totalP
  rw [if_pos ht]
  refine ⟨a1, a2, rfl, ?_, (sat_facts hs).2.1⟩
  show (atP h M s now).1.1 ≤ satI _
  have hle : (atP h M s now).1.1 ≤ sumU h M now := by
    have he : (atP h M s now).2 = 0 := he
    unfold atP at he ⊢
    rw [if_pos ht] at he ⊢
    cases hl : lookG s M with
    | none => exact hs
    | some u =>
      rw [hl] at he
      simp only at he ⊢
      by_cases hn : now < u.2
      · rw [if_pos hn] at he; cases he
      · rw [if_neg hn]
        refine sumI_ge (fun y hy => ?_) ?_
        · obtain ⟨x, hx, rfl⟩ := List.mem_map.1 hy
          exact (part_facts h1 hg hx).1
        · refine List.mem_map.2 ⟨(s, u), lookG_mem hl, ?_⟩
          unfold partU
          rw [if_pos (by show u.2 ≤ now; omega)]
  unfold satI
  split <;> omega
theorem parts_facts {u t : Int} (hu : 0 ≤ u) (h : u ≤ t) (ht : t ≠ 0) : 0 ≤ partsP u t ∧ partsP u t ≤ 1000 := by
  unfold partsP
  refine ⟨Int.natCast_nonneg _, ?_⟩
  have hle : u.toNat ≤ t.toNat := by omega
  have ht : 0 < t.toNat := by omega
  generalize u.toNat = a at *
  generalize t.toNat = b at *
  have h1 : a * 1000 ≤ 1000 * b := by omega
  by_cases e : a * 1000 = 1000 * b
  · rw [e, Nat.mul_div_cancel _ ht, Nat.mul_mod_left, if_pos rfl]
    decide
  · have h2 : a * 1000 / b < 1000 := (Nat.div_lt_iff_lt_mul ht).2 (by omega)
    split <;> omega
end Go.Proofs.Ytmbgcphiigmdjaa
/-
  A ledger in memory; whether one was made; a use later.
-/
namespace Go.Proofs.Ytmbgcphiigmdjaa
open Go.RowKit Ss Ds

abbrev TLed : TypeId := 61
abbrev TUse : TypeId := 66
abbrev TMap : TypeId := 59
def useV (u : Int × Int) : Value := .agg #[.int .i64 u.1, .int .i64 u.2]
def UL (M : List Usr) : List (Str × Value) := M.map fun x => (x.1, useV x.2)
theorem look_UL (M : List Usr) (s : Str) : lookG s (UL M) = (lookG s M).map useV := lookG_map useV
theorem put_UL (M : List Usr) (s : Str) (u : Int × Int) : putG s (useV u) (UL M) = UL (putG s u M) := putG_map useV
theorem UL_len (M : List Usr) : (UL M).length = M.length := List.length_map _
theorem zeroUse (w : World) : (zeroValue TUse).run Try.prog w = .ok (useV (0, 0)) w := by kernel_rfl
/-- A block of cells. -/
def Box (w : World) (b : Nat) (T : TypeId) (cs : List Value) : Prop := w.heap[b]? = some (.cells cs.toArray T)
theorem Box.lt {w : World} {b : Nat} {T : TypeId} {cs : List Value} (h : Box w b T cs) : b < w.heap.size := lt_of_block h
theorem Box.below {w w' : World} {b B : Nat} {T : TypeId} {cs : List Value} (h : Box w b T cs) (hb : Below B w w') (hB : b < B) : Box w' b T cs := (hb.block b hB).trans h
theorem Box.cell {w : World} {b : Nat} {T : TypeId} {cs : List Value} (h : Box w b T cs) (i : Nat) : w.cell? ⟨b, i, none⟩ = cs[i]? := by
  unfold Box at h
  simp [World.cell?, h]
theorem Box.free {w : World} {b : Nat} {T : TypeId} {cs : List Value} (h : Box w b T cs) (i : Nat) : w.frozen? ⟨b, i, none⟩ = false := by
  unfold Box at h
  simp [World.frozen?, h]
theorem Box.set {w : World} {b : Nat} {T : TypeId} {cs : List Value} (h : Box w b T cs) (i : Nat) (v : Value) : Box (w.setCell ⟨b, i, none⟩ v) b T (cs.set i v) := by
  unfold Box at *
  unfold World.setCell
  simp only [Array.getElem?_modify, if_true, h, Option.map_some]
  simp
theorem Box.other {w : World} {b : Nat} {T : TypeId} {cs : List Value} (h : Box w b T cs) {a : Addr} (ha : b ≠ a.block) (v : Value) : Box (w.setCell a v) b T cs := by
  unfold Box at *
  rw [Below.heap_setCell _ _ _ _ ha]; exact h
theorem Box.new (w : World) (T : TypeId) (cs : List Value) : Box (w.alloc (.cells cs.toArray T)) w.heap.size T cs := heap_alloc_new w _
theorem Box.keep {w w' : World} {b : Nat} {T : TypeId} {cs : List Value} (h : Box w b T cs) (hk : w'.heap[b]? = w.heap[b]?) : Box w' b T cs := hk.trans h
/-- A ledger: its object's block, and its map's. -/
def LB (w : World) (p m : Nat) (h : Int) (M : List Usr) : Prop := Box w p TLed [.int .i64 h, .map (some m)] ∧ SM w m (UL M)
section
variable {w w' : World} {p m B : Nat} {h : Int} {M : List Usr}
theorem LB.lt (l : LB w p m h M) : p < w.heap.size ∧ m < w.heap.size := ⟨l.1.lt, l.2.lt⟩
theorem LB.ne (l : LB w p m h M) : p ≠ m := by
  obtain ⟨h1, es, c, h2, _⟩ := l
  intro e
  subst e
  rw [h1] at h2
  cases h2
theorem LB.below (l : LB w p m h M) (hb : Below w.heap.size w w') : LB w' p m h M := ⟨l.1.below hb l.1.lt, l.2.below hb l.2.lt⟩
theorem LB.grown (l : LB w p m h M) {k : Nat} (hg : w.grownBy w' (some k)) (h1 : p ≠ k) (h2 : m ≠ k) : LB w' p m h M :=
  ⟨l.1.keep (hg.block p l.lt.1 (by simpa using h1)), l.2.keep (hg.block m l.lt.2 (by simpa using h2))⟩
theorem LB.cells (l : LB w p m h M) : w.cell? ⟨p, 0, none⟩ = some (.int .i64 h) ∧ w.cell? ⟨p, 1, none⟩ = some (.map (some m)) ∧ w.frozen? ⟨p, 0, none⟩ = false ∧ w.frozen? ⟨p, 1, none⟩ = false :=
  ⟨l.1.cell 0, l.1.cell 1, l.1.free 0, l.1.free 1⟩
end
theorem below_grown {w w' : World} {m : Nat} (h : Below w.heap.size w w') : w.grownBy w' (some m) := ⟨h.os, h.tape, h.output, h.size, fun k hk _ => h.block k hk⟩
theorem grown_trans {a b c : World} {m : Nat} (h : a.grownBy b (some m)) (g : b.grownBy c (some m)) : a.grownBy c (some m) :=
  ⟨g.os.trans h.os, g.tape.trans h.tape, g.output.trans h.output, Nat.le_trans h.size g.size, fun k hk hne => (g.block k (Nat.lt_of_lt_of_le hk h.size) hne).trans (h.block k hk hne)⟩
theorem grown_below {a b : World} {m B : Nat} (h : a.grownBy b (some m)) (hB : B ≤ m) (hs : B ≤ a.heap.size) : Below B a b :=
  ⟨h.os, h.tape, h.output, h.size, fun k hk => h.block k (by omega) (by intro e; injection e with e; omega)⟩
/-- A half-life is from 1 to a million. -/
def halfB (h : Int) : Prop := 1 ≤ h ∧ h ≤ 1000000
set_option maxRecDepth 100000 in
set_option maxHeartbeats 1000000 in
theorem made_any {w : World} {p m : Nat} {h : Int} {M : List Usr} (l : LB w p m h M) (hh : halfB h) : Calls Try.prog 38 #[.pointer (some ⟨p, 0, none⟩)] w fun e w' => e = .returned (.bool true) ∧ w' = w := by
  obtain ⟨c0, c1, _, _⟩ := l.cells
  have hp := l.lt.1
  obtain ⟨h1, h2⟩ := hh
  have i0 : h > 0 := by omega
  clear l
  go_enter Try.func38, Try.ntmps38
  go_wp2
  go_ret
  exact ⟨by simp, rfl⟩
/-- Nothing is told of such a one. -/
def NoMade (w : World) (pa : Option Addr) : Prop := Calls Try.prog 38 #[.pointer pa] w fun e w' => e = .returned (.bool false) ∧ w' = w
set_option maxRecDepth 100000 in
set_option maxHeartbeats 1000000 in
theorem refused_any {w : World} {p m : Nat} {h : Int} {M : List Usr} (l : LB w p m h M) (hh : halfB h) (now : Int) :
    Calls Try.prog 34 #[.pointer (some ⟨p, 0, none⟩), .int .i64 now] w fun e w' => e = .returned (.int .i64 (if timeB now then 0 else 1)) ∧ w' = w := by
  have hm := made_any l hh
  by_cases h0 : now < 0
  · rw [show (if timeB now then (0 : Int) else 1) = 1 from if_neg (by unfold timeB; omega)]
    clear l
    go_enter Try.func34, Try.ntmps34
    go_wp2_with (go_at_call 38; (with_reducible refine hm.mono ?_); rintro e w' ⟨rfl, rfl⟩)
    go_ret
    exact ⟨rfl, rfl⟩
  · by_cases h1 : now > 1099511627776
    · rw [show (if timeB now then (0 : Int) else 1) = 1 from if_neg (by unfold timeB; omega)]
      clear l
      go_enter Try.func34, Try.ntmps34
      go_wp2_with (go_at_call 38; (with_reducible refine hm.mono ?_); rintro e w' ⟨rfl, rfl⟩)
      go_ret
      exact ⟨rfl, rfl⟩
    · rw [show (if timeB now then (0 : Int) else 1) = 0 from if_pos (by unfold timeB; omega)]
      clear l
      go_enter Try.func34, Try.ntmps34
      go_wp2_with (go_at_call 38; (with_reducible refine hm.mono ?_); rintro e w' ⟨rfl, rfl⟩)
      go_ret
      exact ⟨rfl, rfl⟩
end Go.Proofs.Ytmbgcphiigmdjaa
/-
  A use later; what a user has used at a time.
-/
namespace Go.Proofs.Ytmbgcphiigmdjaa
open Go.RowKit Ss Ds

theorem set2 {w u : World} (h : Below w.heap.size w u) {b : Nat} (hb : w.heap.size ≤ b) (x y : Value) : Below w.heap.size w ((u.setCell ⟨b, 0, none⟩ x).setCell ⟨b, 1, none⟩ y) :=
  (h.setCell (p := ⟨b, 0, none⟩) hb _).setCell (p := ⟨b, 1, none⟩) hb _
/-- Two blocks of cells, made in turn. -/
theorem two_boxes (w : World) (T : TypeId) (cs : List Value) (T' : TypeId) (cs' : List Value) : ∃ W, W = (w.alloc (.cells cs.toArray T)).alloc (.cells cs'.toArray T') ∧ Below w.heap.size w W ∧ Box W w.heap.size T cs ∧ Box W (w.heap.size + 1) T' cs' := by
  refine ⟨_, rfl, ((Below.refl _ _).alloc (Nat.le_refl _) _).alloc (by rw [World.size_alloc]; omega) _, (Below.heap_alloc _ _ _ (by rw [World.size_alloc]; omega)).trans (heap_alloc_new w _), ?_⟩
  have := heap_alloc_new (w.alloc (.cells cs.toArray T)) (.cells cs'.toArray T')
  rwa [World.size_alloc] at this
set_option maxRecDepth 100000 in
set_option maxHeartbeats 4000000 in
theorem later_any {w : World} {p m : Nat} {h : Int} {M : List Usr} (l : LB w p m h M) (hh : halfB h) (u : Int × Int) (now : Int) (hu : 0 ≤ u.1 ∧ u.1 ≤ 1152921504606846976 ∧ 0 ≤ u.2) (hn : u.2 ≤ now) (ht : now ≤ 1099511627776) :
    Calls Try.prog 36 #[.pointer (some ⟨p, 0, none⟩), useV u, .int .i64 now] w fun e w' => e = .returned (useV (late h u now)) ∧ Below w.heap.size w w' := by
  obtain ⟨c0, c1, _, _⟩ := l.cells
  have hp := l.lt.1
  obtain ⟨hh1, hh2⟩ := hh
  obtain ⟨a, t⟩ := u
  obtain ⟨u0, u1, u2⟩ := hu
  simp only at u0 u1 u2 hn
  obtain ⟨q0, q1, q2, q3⟩ := passed (h := h) (d := now - t) hh1 (by omega)
  have hH : ∀ w, Calls Try.prog 57 #[.int .i64 a, .int .i64 ((now - t).tdiv h)] w fun e w' => e = .returned (.int .i64 (halves a ((now - t).tdiv h))) ∧ w' = w := fun w => (Halves_any a ((now - t).tdiv h) w (by unfold Fits; omega)).mono fun e w' ⟨h1, h2⟩ => ⟨h1, h2.symm⟩
  obtain ⟨f0, f1⟩ := (halves_near a ((now - t).tdiv h)).1 u0
  unfold late useV
  simp only
  generalize halves a ((now - t).tdiv h) = ha at *
  have hne : ¬ h = 0 := by omega
  obtain ⟨W1, hW1, B1, X0, X1⟩ := two_boxes w TUse [.int .i64 a, .int .i64 t] TUse [.int .i64 0, .int .i64 0]
  have l1 := l.below B1
  clear l c0 c1
  replace hW1 := fhid hW1
  go_enter Try.func36, Try.ntmps36
  go_upto_region 1 with fail
  rw [← hW1.out]
  clear hW1
  obtain ⟨c0, c1, _, _⟩ := l1.cells
  have x0 := X0.cell 0
  have x1 := X0.cell 1
  have z0 := X1.free 0
  have z1 := X1.free 1
  have y0 := X1.cell 0
  have y1 := X1.cell 1
  simp only [List.getElem?_cons_zero, List.getElem?_cons_succ] at x0 x1 y0 y1
  have hp1 := l1.lt.1
  have hx1 := X1.lt
  have hx0 := X0.lt
  replace X0 := fhid X0
  replace X1 := fhid X1
  replace l1 := fhid l1
  replace B1 := fhid B1
  have u3 : IntKind.i64.wrap ((now - t).tdiv h * h) = (now - t).tdiv h * h := IntWalk.i64_in _ (by omega)
  have u4 : IntKind.i64.wrap (t + (now - t).tdiv h * h) = t + (now - t).tdiv h * h := IntWalk.i64_in _ (by omega)
  go_region
  go_upto_region 2 with fail
  clear c0 c1 x0 x1 y0 y1 z0 z1
  have B2 := fhid (show Below w.heap.size w W1.drew from B1.out.drew)
  have X2 := fhid (show Box W1.drew w.heap.size TUse [.int .i64 a, .int .i64 t] from X0.out)
  have X3 := fhid (show Box W1.drew (w.heap.size + 1) TUse [.int .i64 0, .int .i64 0] from X1.out)
  have l2 := fhid (show LB W1.drew p m h M from l1.out.below ((Below.refl _ _).drew))
  generalize W1.drew = W2 at *
  clear B1 X0 X1 l1 hx0 hx1 hp1
  obtain ⟨c0, c1, _, _⟩ := l2.out.cells
  have x0 := X2.out.cell 0
  have x1 := X2.out.cell 1
  simp only [List.getElem?_cons_zero, List.getElem?_cons_succ] at x0 x1
  have hp1 := l2.out.lt.1
  have hx0 := X2.out.lt
  refine wp_region_still_tail 14 (by kernel_rfl) (by kernel_rfl) ?_
  simp only [List.take_succ_cons, List.take_zero, List.drop_succ_cons, List.drop_zero]
  iterate 3 still_step
  still_call (hH _)
  iterate 10 still_step
  refine wpStill_nil ?_
  change wpList _ _ _ _ _ W2.drew
  have B3 := fhid (show Below w.heap.size w W2.drew from B2.out.drew)
  have X4 := fhid (show Box W2.drew (w.heap.size + 1) TUse [.int .i64 0, .int .i64 0] from X3.out)
  generalize W2.drew = W3 at *
  clear B2 X2 X3 l2 c0 c1 x0 x1 hp1 hx0
  have z0 := X4.out.free 0
  have z1 := X4.out.free 1
  have y0 := X4.out.cell 0
  have y1 := X4.out.cell 1
  simp only [List.getElem?_cons_zero, List.getElem?_cons_succ] at y0 y1
  have hx1 := X4.out.lt
  go_wp2_with fail
  have X5 := (X4.out.set 0 (.int .i64 ha)).set 1 (.int .i64 (t + (now - t).tdiv h * h))
  have d0 := X5.cell 0
  have d1 := X5.cell 1
  simp only [List.set_cons_zero, List.set_cons_succ, List.getElem?_cons_zero, List.getElem?_cons_succ] at d0 d1
  exact bodyPost_ret (v := .agg #[.int .i64 ha, .int .i64 (t + (now - t).tdiv h * h)]) (by simp [results, Try.results36, go_sem, d0, d1]) rfl ⟨rfl, set2 B3.out (by omega) _ _⟩
end Go.Proofs.Ytmbgcphiigmdjaa
/-
  What a user has used at a time, by the program.
-/
namespace Go.Proofs.Ytmbgcphiigmdjaa
open Go.RowKit Ss Ds

theorem one_box (w : World) (T : TypeId) (cs : List Value) : ∃ W, W = w.alloc (.cells cs.toArray T) ∧ Below w.heap.size w W ∧ Box W w.heap.size T cs :=
  ⟨_, rfl, (Below.refl _ _).alloc (Nat.le_refl _) _, heap_alloc_new w _⟩
theorem box_alloc {w : World} {b : Nat} {T : TypeId} {cs : List Value} (h : Box w b T cs) (o : Obj) : Box (w.alloc o) b T cs := (Below.heap_alloc _ _ _ h.lt).trans h
theorem LB.alloc {w : World} {p m : Nat} {h : Int} {M : List Usr} (l : LB w p m h M) (o : Obj) : LB (w.alloc o) p m h M := l.below ((Below.refl _ _).alloc (Nat.le_refl _) _)
theorem LB.set {w : World} {p m : Nat} {h : Int} {M : List Usr} (l : LB w p m h M) {b j : Nat} (h1 : p ≠ b) (h2 : m ≠ b) (v : Value) : LB (w.setCell ⟨b, j, none⟩ v) p m h M :=
  ⟨l.1.other h1 v, l.2.keep (Below.heap_setCell _ _ _ _ h2)⟩
/-- What a call gives that answers a use and an error. -/
def UseP (w : World) (r : (Int × Int) × Int) (e : Ending) (w' : World) : Prop := e = .returned (.tuple #[useV r.1, .int .i64 r.2]) ∧ Below w.heap.size w w'
set_option maxRecDepth 100000 in
set_option maxHeartbeats 4000000 in
theorem at_any {w : World} {p m : Nat} {h : Int} {M : List Usr} (l : LB w p m h M) (hh : halfB h) (hg : Good M) (s : Str) (now : Int) :
    Calls Try.prog 29 #[.pointer (some ⟨p, 0, none⟩), .string (str s), .int .i64 now] w (UseP w (atP h M s now)) := by
  obtain ⟨W1, hW1, B1, X1⟩ := one_box w TUse [.int .i64 0, .int .i64 0]
  have l1 := l.below B1
  have hr := refused_any l1 hh now
  clear l
  replace hW1 := fhid hW1
  unfold UseP
  by_cases ht : timeB now
  · rw [if_pos ht] at hr
    obtain ⟨t0, t1⟩ := ht
    have hlk := run_sm_look (w := W1) true Try.underlying59 Try.underlying9 (zeroUse _) l1.2 s
    rw [look_UL] at hlk
    cases hl : lookG s M with
    | none =>
      rw [hl] at hlk
      have hP : atP h M s now = ((0, now), 0) := by unfold atP; rw [if_pos ⟨t0, t1⟩, hl]
      rw [hP]
      clear hP hl
      simp only [Option.map_none, Option.getD_none, Option.isSome_none, if_true] at hlk
      unfold useV at *
      simp only at hlk ⊢
      obtain ⟨W2, hW2, B2', X3⟩ := one_box W1 TUse [.int .i64 0, .int .i64 0]
      have l2 := l1.below B2'
      have X2 := X1.below B2' X1.lt
      have B2 := B1.trans (B2'.mono B1.size)
      have hs2 := fhid (show W1.heap.size ≠ w.heap.size from fun e => by have := X1.lt; omega)
      have hp := l1.lt.1
      obtain ⟨c0, c1, _, _⟩ := l1.cells
      replace hW2 := fhid hW2
      replace l1 := fhid l1
      replace X1 := fhid X1
      replace B1 := fhid B1
      replace l2 := fhid l2
      replace X2 := fhid X2
      replace B2 := fhid B2
      replace X3 := fhid X3
      clear B2'
      go_enter Try.func29, Try.ntmps29
      go_upto_region 1 with fail
      rw [← hW1.out]
      clear hW1
      go_upto_region 5 with (go_at_call 34; (with_reducible refine hr.mono ?_); rintro e w' ⟨rfl, rfl⟩)
      rw [← hW2.out]
      have s2 := hs2.out
      clear hW2 l1 X1 B1 hlk c0 c1 hr hp hs2
      have x0 := X3.out.cell 0
      have x1 := X3.out.cell 1
      have y0 := X2.out.cell 0
      have y1 := X2.out.cell 1
      have z0 := X2.out.free 0
      have z1 := X2.out.free 1
      have hx2 := X2.out.lt
      have hx3 := X3.out.lt
      simp only [List.getElem?_cons_zero, List.getElem?_cons_succ] at x0 x1 y0 y1
      go_wp2_with fail
      have X5 := (X2.out.set 0 (.int .i64 0)).set 1 (.int .i64 now)
      have d0 := X5.cell 0
      have d1 := X5.cell 1
      simp only [List.set_cons_zero, List.set_cons_succ, List.getElem?_cons_zero, List.getElem?_cons_succ] at d0 d1
      exact bodyPost_ret (v := .tuple #[.agg #[.int .i64 0, .int .i64 now], .int .i64 0]) (by simp [results, Try.results29, go_sem, d0, d1]) rfl ⟨rfl, set2 B2.out (Nat.le_refl _) _ _⟩
    | some u =>
      rw [hl] at hlk
      obtain ⟨u0, u1, u2, u3⟩ := hg.look hl
      have hP : atP h M s now = if now < u.2 then ((0, 0), 1) else (late h u now, 0) := by unfold atP; rw [if_pos ⟨t0, t1⟩, hl]
      rw [hP]
      clear hP hl
      obtain ⟨a, t⟩ := u
      simp only at u0 u1 u2 u3
      simp only [Option.map_some, Option.getD_some, Option.isSome_some, if_true] at hlk
      by_cases hn : now < t
      · rw [if_pos hn]
        unfold useV at *
        simp only at hlk ⊢
        obtain ⟨W2, hW2, B2', X3⟩ := one_box W1 TUse [.int .i64 a, .int .i64 t]
        have l2 := l1.below B2'
        have X2 := X1.below B2' X1.lt
        have B2 := B1.trans (B2'.mono B1.size)
        have hs2 := fhid (show W1.heap.size ≠ w.heap.size from fun e => by have := X1.lt; omega)
        have hp := l1.lt.1
        obtain ⟨c0, c1, _, _⟩ := l1.cells
        replace hW2 := fhid hW2
        replace l1 := fhid l1
        replace X1 := fhid X1
        replace B1 := fhid B1
        replace l2 := fhid l2
        replace X2 := fhid X2
        replace B2 := fhid B2
        replace X3 := fhid X3
        clear B2'
        go_enter Try.func29, Try.ntmps29
        go_upto_region 1 with fail
        rw [← hW1.out]
        clear hW1
        go_upto_region 5 with (go_at_call 34; (with_reducible refine hr.mono ?_); rintro e w' ⟨rfl, rfl⟩)
        rw [← hW2.out]
        have s2 := hs2.out
        clear hW2 l1 X1 B1 hlk c0 c1 hr hp hs2
        have x0 := X3.out.cell 0
        have x1 := X3.out.cell 1
        have y0 := X2.out.cell 0
        have y1 := X2.out.cell 1
        have z0 := X2.out.free 0
        have z1 := X2.out.free 1
        have hx2 := X2.out.lt
        have hx3 := X3.out.lt
        simp only [List.getElem?_cons_zero, List.getElem?_cons_succ] at x0 x1 y0 y1
        go_wp2_with fail
        have X5 := (X2.out.set 0 (.int .i64 0)).set 1 (.int .i64 0)
        have d0 := X5.cell 0
        have d1 := X5.cell 1
        simp only [List.set_cons_zero, List.set_cons_succ, List.getElem?_cons_zero, List.getElem?_cons_succ] at d0 d1
        exact bodyPost_ret (v := .tuple #[.agg #[.int .i64 0, .int .i64 0], .int .i64 1]) (by simp [results, Try.results29, go_sem, d0, d1]) rfl ⟨rfl, set2 B2.out (Nat.le_refl _) _ _⟩
      · rw [if_neg hn]
        have hla := fun W (l : LB W p m h M) => later_any l hh (a, t) now ⟨u0, u1, u2⟩ (by show t ≤ now; omega) t1
        generalize late h (a, t) now = r at *
        obtain ⟨ra, rt⟩ := r
        unfold useV at *
        simp only at hlk hla ⊢
        obtain ⟨W2, hW2, B2', X3⟩ := one_box W1 TUse [.int .i64 a, .int .i64 t]
        have l2 := l1.below B2'
        have X2 := X1.below B2' X1.lt
        have B2 := B1.trans (B2'.mono B1.size)
        have hs2 := fhid (show W1.heap.size ≠ w.heap.size from fun e => by have := X1.lt; omega)
        have hp := l1.lt.1
        obtain ⟨c0, c1, _, _⟩ := l1.cells
        replace hW2 := fhid hW2
        replace l1 := fhid l1
        replace X1 := fhid X1
        replace B1 := fhid B1
        replace l2 := fhid l2
        replace X2 := fhid X2
        replace B2 := fhid B2
        replace X3 := fhid X3
        clear B2'
        go_enter Try.func29, Try.ntmps29
        go_upto_region 1 with fail
        rw [← hW1.out]
        clear hW1
        go_upto_region 5 with (go_at_call 34; (with_reducible refine hr.mono ?_); rintro e w' ⟨rfl, rfl⟩)
        rw [← hW2.out]
        have s2 := hs2.out
        clear hW2 l1 X1 B1 hlk c0 c1 hr hp hs2
        have x0 := X3.out.cell 0
        have x1 := X3.out.cell 1
        have y0 := X2.out.cell 0
        have y1 := X2.out.cell 1
        have z0 := X2.out.free 0
        have z1 := X2.out.free 1
        have hx2 := X2.out.lt
        have hx3 := X3.out.lt
        simp only [List.getElem?_cons_zero, List.getElem?_cons_succ] at x0 x1 y0 y1
        go_upto_region 9 with fail
        go_wp2_with (go_at_call 36; (with_reducible refine (hla _ l2.out).mono ?_); rintro e w4 ⟨rfl, b4⟩
                     have X6 := fhid (X2.out.below b4 hx2)
                     have z6 := X6.out.free 0
                     have z7 := X6.out.free 1
                     have y6 := X6.out.cell 0
                     have y7 := X6.out.cell 1
                     simp only [List.getElem?_cons_zero, List.getElem?_cons_succ] at y6 y7
                     have hx6 := X6.out.lt)
        have X5 := (X6.out.set 0 (.int .i64 ra)).set 1 (.int .i64 rt)
        have d0 := X5.cell 0
        have d1 := X5.cell 1
        simp only [List.set_cons_zero, List.set_cons_succ, List.getElem?_cons_zero, List.getElem?_cons_succ] at d0 d1
        exact bodyPost_ret (v := .tuple #[.agg #[.int .i64 ra, .int .i64 rt], .int .i64 0]) (by simp [results, Try.results29, go_sem, d0, d1]) rfl ⟨rfl, set2 (B2.out.trans (b4.mono B2.out.size)) (Nat.le_refl _) _ _⟩
  · rw [if_neg ht] at hr
    have hP : atP h M s now = ((0, 0), 1) := by unfold atP; rw [if_neg ht]
    rw [hP]
    clear hP ht
    unfold useV
    simp only
    replace l1 := fhid l1
    have B2 := fhid B1
    have X2 := fhid X1
    clear B1 X1
    have z0 := X2.out.free 0
    have z1 := X2.out.free 1
    have y0 := X2.out.cell 0
    have y1 := X2.out.cell 1
    simp only [List.getElem?_cons_zero, List.getElem?_cons_succ] at y0 y1
    have hx2 := X2.out.lt
    go_enter Try.func29, Try.ntmps29
    go_upto_region 1 with fail
    rw [← hW1.out]
    clear hW1
    go_wp2_with (go_at_call 34; (with_reducible refine hr.mono ?_); rintro e w' ⟨rfl, rfl⟩)
    have X5 := (X2.out.set 0 (.int .i64 0)).set 1 (.int .i64 0)
    have d0 := X5.cell 0
    have d1 := X5.cell 1
    simp only [List.set_cons_zero, List.set_cons_succ, List.getElem?_cons_zero, List.getElem?_cons_succ] at d0 d1
    exact bodyPost_ret (v := .tuple #[.agg #[.int .i64 0, .int .i64 0], .int .i64 1]) (by simp [results, Try.results29, go_sem, d0, d1]) rfl ⟨rfl, set2 B2.out (Nat.le_refl _) _ _⟩
end Go.Proofs.Ytmbgcphiigmdjaa
/-
  What one has used, and what all have, by the program.
-/
namespace Go.Proofs.Ytmbgcphiigmdjaa
open Go.RowKit Ss Ds

/-- What a call gives that answers a number and an error. -/
def IntP (w : World) (r : Int × Int) (e : Ending) (w' : World) : Prop := e = .returned (.tuple #[.int .i64 r.1, .int .i64 r.2]) ∧ Below w.heap.size w w'
set_option maxRecDepth 100000 in
set_option maxHeartbeats 4000000 in
theorem Used_of {w : World} {pa : Option Addr} {s : Str} {now : Int} {r : (Int × Int) × Int} (h : Calls Try.prog 29 #[.pointer pa, .string (str s), .int .i64 now] w (UseP w r)) :
    Calls Try.prog 16 #[.pointer pa, .string (str s), .int .i64 now] w (IntP w (r.1.1, r.2)) := by
  unfold UseP useV at h
  unfold IntP
  obtain ⟨⟨a, t⟩, e⟩ := r
  simp only at h ⊢
  go_enter Try.func16, Try.ntmps16
  go_wp2_with (go_at_call 29; (with_reducible refine h.mono ?_); rintro e w' ⟨rfl, b1⟩)
  go_ret2
  exact ⟨rfl, b1.alloc b1.size _⟩
theorem Used_any {w : World} {p m : Nat} {h : Int} {M : List Usr} (l : LB w p m h M) (hh : halfB h) (hg : Good M) (s : Str) (now : Int) :
    Calls Try.prog 16 #[.pointer (some ⟨p, 0, none⟩), .string (str s), .int .i64 now] w (IntP w (usedP h M s now)) := Used_of (at_any l hh hg s now)
def intV : Option Value → Int
  | some (.int _ n) => n
  | _ => 0
def dU (x : Str × Value) : Usr := match x.2 with
  | .agg cs => (x.1, intV cs[0]?, intV cs[1]?)
  | _ => (x.1, 0, 0)
theorem dU_UL (D : List Usr) : (UL D).map dU = D := by
  unfold UL
  rw [List.map_map]
  conv => rhs; rw [← List.map_id D]
  exact List.map_congr_left fun x _ => rfl
/-- A range over a ledger's users that is under way. -/
def URg (w : World) (b r : Nat) (M D : List Usr) : Prop := SRng w b r (UL M) (UL D)
theorem URg.next {w : World} {b r : Nat} {M D : List Usr} (h : URg w b r M D) (hbr : b ≠ r) (ty : TypeId) :
    (D.Perm M ∧ (Instr.next (.pointer (some ⟨r, 0, none⟩)) false ty).run Try.prog w = .ok (.tuple #[.bool false]) w) ∨
    ∃ (x : Usr) (w' : World), x ∈ M ∧ D.length < M.length ∧ (Instr.next (.pointer (some ⟨r, 0, none⟩)) false ty).run Try.prog w = .ok (.tuple #[.bool true, .string (str x.1), useV x.2]) w' ∧ URg w' b r M (D ++ [x]) ∧ w.grownBy w' (some r) ∧ w'.heap.size = w.heap.size ∧
      (Instr.entry (.pointer (some ⟨r, 0, none⟩))).run Try.prog w' = .ok (.tuple #[.string (str x.1), useV x.2]) w' := by
  rcases SRng.next h hbr ty with ⟨hp, hr⟩ | ⟨x, w', h1, h2, h3, h4, h5⟩
  · refine .inl ⟨?_, hr⟩
    have := hp.map dU
    rwa [dU_UL, dU_UL] at this
  · obtain ⟨hl, hm⟩ := h2.sub
    obtain ⟨y, hy, hx⟩ := List.mem_map.1 (hm x (List.mem_append_right _ (List.mem_singleton.2 rfl)))
    subst hx
    rw [List.length_append, UL_len, UL_len, List.length_singleton] at hl
    refine .inr ⟨y, w', hy, by omega, h1, ?_, h3, h4, h5⟩
    show SRng w' b r (UL M) (UL (D ++ [y]))
    unfold UL at h2 ⊢
    rw [List.map_append]
    exact h2
theorem field_use (a t : Int) (w : World) : (Instr.field TUse (.agg #[.int .i64 a, .int .i64 t]) 0).run Try.prog w = .ok (.int .i64 a) w := by kernel_rfl
theorem late_eq {h now : Int} {x : Usr} (hn : x.2.2 ≤ now) : (late h x.2 now).1 = partU h now x := by unfold partU; rw [if_pos hn]
set_option maxRecDepth 100000 in
set_option maxHeartbeats 8000000 in
theorem Total_any {w : World} {p m : Nat} {h : Int} {M : List Usr} (l : LB w p m h M) (hh : halfB h) (hg : Good M) (now : Int) :
    Calls Try.prog 20 #[.pointer (some ⟨p, 0, none⟩), .int .i64 now] w (IntP w (totalP h M now)) := by
  have hr := refused_any l hh now
  unfold IntP totalP
  by_cases ht : timeB now
  · rw [if_pos ht] at hr ⊢
    obtain ⟨hrun, hR⟩ := SRng.start Try.underlying59 l.2
    have hT := ht
    obtain ⟨t0, t1⟩ := ht
    obtain ⟨c0, c1, _, _⟩ := l.cells
    have hp := l.lt.1
    have hm := l.lt.2
    have B1 := fhid ((Below.refl w.heap.size w).alloc (Nat.le_refl _) (iterO w m))
    have l1 := fhid (l.alloc (iterO w m))
    have z1 := fhid (World.size_alloc w (iterO w m))
    have hR1 : Hid (URg (w.alloc (iterO w m)) m w.heap.size M []) := fhid hR
    generalize iterO w m = it at *
    replace l := fhid l
    clear hR
    go_enter Try.func20, Try.ntmps20
    go_upto_region 6 with (go_at_call 34; (with_reducible refine hr.mono ?_); rintro e w' ⟨rfl, rfl⟩)
    clear hr hrun c0 c1
    rename World => w
    generalize w.alloc it = w2 at *
    clear it
    go_loopg [7] M.length (fun k v wr => ∃ D : List Usr, D.length + k = M.length ∧ v = .int .i64 (satI (sumI (D.map (partU h now)))) ∧ (∀ x ∈ D, x ∈ M) ∧ URg wr m w.heap.size M D ∧ LB wr p m h M ∧ Below w.heap.size w wr ∧ w.heap.size + 1 ≤ wr.heap.size)
    case atStart => exact ⟨[], by simp, rfl, (fun x hx => by cases hx), hR1.out, l1.out, B1.out, by have := z1.out; omega⟩
    case round =>
      clear hR1 l1 B1 z1
      obtain ⟨D, hk, rfl, hD, hRg, lr, Br, zr⟩ := hrel
      have hpr := lr.lt
      rcases hRg.next (by omega) 0 with ⟨hperm, hx⟩ | ⟨⟨s, a, t⟩, w3, hxM, hlt, hx, hR3, k3, z3, hen⟩
      · have hE := fhid (show sumI (D.map (partU h now)) = sumU h M now from sumI_perm (hperm.map _))
        have Br' := fhid Br
        clear hk hD hRg lr Br hperm
        go_wp2_with fail
        go_ret2
        exact ⟨by rw [hE.out]; rfl, Br'.out⟩
      · have hs0 : 0 ≤ sumI (D.map (partU h now)) := sumI_nonneg fun y hy => by
          obtain ⟨x, hx, rfl⟩ := List.mem_map.1 hy
          exact (part_facts hh.1 hg (hD x hx)).1
        obtain ⟨q0, q1⟩ := part_facts (now := now) hh.1 hg hxM
        obtain ⟨_, _, a0, a1, b0, b1⟩ := hg.each _ hxM
        simp only at a0 a1 b0 b1
        have hsn : sumI ((D ++ [(s, a, t)]).map (partU h now)) = sumI (D.map (partU h now)) + partU h now (s, a, t) := by rw [List.map_append, sumI_app]; simp [sumI]
        have l3 := lr.grown k3 (by omega) (by omega)
        have B3 := Br.trans (grown_below (B := w.heap.size) k3 (Nat.le_refl _) (by omega))
        obtain ⟨W4, hW4, B4', X4⟩ := one_box w3 TUse [.int .i64 a, .int .i64 t]
        have l4 := l3.below B4'
        have R4 : URg W4 m w.heap.size M (D ++ [(s, a, t)]) := SRng.keep hR3 (B4'.block m (by omega)) (B4'.block w.heap.size (by omega))
        have B4 := B3.trans (B4'.mono B3.size)
        have z4 := B4'.size
        have x0 := X4.cell 0
        have x1 := X4.cell 1
        have hx4 := X4.lt
        simp only [List.getElem?_cons_zero, List.getElem?_cons_succ] at x0 x1
        have hDn : ∀ x ∈ D ++ [(s, a, t)], x ∈ M := fun x hx => by
          rcases List.mem_append.1 hx with hx | hx
          · exact hD x hx
          · rw [List.mem_singleton.1 hx]; exact hxM
        have hlen := fhid (show (D ++ [(s, a, t)]).length + (gk - 1) = M.length by rw [List.length_append, List.length_singleton]; omega)
        have hkp := fhid (show gk - 1 < gk by omega)
        have hz5 := fhid (show w.heap.size + 1 ≤ W4.heap.size by omega)
        unfold useV at hx hen
        simp only at hx hen
        replace z3 := fhid z3
        generalize sumI (D.map (partU h now)) = S at *
        replace hDn := fhid hDn
        replace hW4 := fhid hW4
        replace l4 := fhid l4
        replace R4 := fhid R4
        replace B4 := fhid B4
        clear hk hD hRg lr Br hR3 k3 l3 B3 B4' X4 hlt hxM
        by_cases hn : t ≤ now
        · have hla := fun W (l : LB W p m h M) => later_any l hh (a, t) now ⟨a0, a1, b0⟩ hn t1
          have hfs := sat_facts hs0
          have hlf := late_facts (h := h) (now := now) (u := (a, t)) hh.1 a0 hn
          have hpl := late_eq (h := h) (x := (s, a, t)) hn
          simp only at hpl hlf
          rw [← hpl] at hsn q0 q1
          generalize late h (a, t) now = r at *
          obtain ⟨ra, rt⟩ := r
          unfold useV at hla
          simp only at hla hsn q0 q1
          have hmo : ∀ w, Calls Try.prog 35 #[.int .i64 (satI S), .int .i64 ra] w fun e w' => e = .returned (.int .i64 (satI (S + ra))) ∧ w' = w := fun w => (Most_any (satI S) ra w (by unfold Fits; omega) (by unfold Fits; omega)).mono fun e w' ⟨h1, h2⟩ => ⟨by rw [h1, most_sat (by omega), sat_add hs0 q0], h2.symm⟩
          generalize satI S = S1 at *
          have hfd := fun W => field_use ra rt W
          replace hsn := fhid hsn
          clear hfs hlf hpl
          go_upto_region 8 with fail
          rw [← hW4.out]
          clear hW4 hx hen
          go_wp2_with (first
            | (go_at_call 36; (with_reducible refine (hla _ l4.out).mono ?_); rintro e w5 ⟨rfl, b5⟩)
            | (go_at_call 35; (with_reducible refine (hmo _).mono ?_); rintro e w6 ⟨rfl, rfl⟩))
          go_roundg (gk - 1)
          case rel => exact ⟨_, hlen.out, by rw [hsn.out], hDn.out, SRng.keep R4.out (b5.block m (Nat.lt_of_lt_of_le hm (Nat.le_trans (Nat.le_succ _) hz5.out))) (b5.block w.heap.size hz5.out), l4.out.below b5, B4.out.trans (b5.mono B4.out.size), Nat.le_trans hz5.out b5.size⟩
          case measure => exact hkp.out
        · have hpl : partU h now (s, a, t) = 0 := by unfold partU; exact if_neg hn
          rw [hpl, Int.add_zero] at hsn
          replace hsn := fhid hsn
          go_upto_region 8 with fail
          rw [← hW4.out]
          clear hW4 hx hen
          go_wp2_with fail
          go_roundg (gk - 1)
          case rel => exact ⟨_, hlen.out, by rw [hsn.out], hDn.out, R4.out, l4.out, B4.out, hz5.out⟩
          case measure => exact hkp.out
  · rw [if_neg ht] at hr ⊢
    replace l := fhid l
    go_enter Try.func20, Try.ntmps20
    go_wp2_with (go_at_call 34; (with_reducible refine hr.mono ?_); rintro e w' ⟨rfl, rfl⟩)
    go_ret2
    exact ⟨rfl, Below.refl _ _⟩
end Go.Proofs.Ytmbgcphiigmdjaa
