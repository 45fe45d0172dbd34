/-
  A map that counts vectors.
-/
import Derived.Test.YtkmknogejhhajaaDoorVTal
import Derived.Test.YtkmknogejhhajaaDoorVSafe
import Derived.MapKept
import Derived.WideKeyRuns
import Derived.ChangeMaps5
import Derived.WideKeyEntry
namespace Go.Proofs.YtkmknogejhhajaaDoor
open Go.RowKit Go.MapKept Go.WideElems

abbrev TVc : TypeId := 23
abbrev TMp : TypeId := 65
theorem same_vec (a b c d e f : Int) (w : World) : (Op.equal TVc (vec a b c) (vec d e f)).run Tryd.prog w = .ok (decide (a = d ∧ b = e ∧ c = f)) w := by
  have h := eql_vec a b c d e f w
  rw [run_eql_struct] at h
  unfold Op.equal
  rw [show Op.maxDepth = 10000 from rfl]
  cases hr : (Op.equalIn 10000 TVc (vec a b c) (vec d e f)).run Tryd.prog w with
  | ok v w1 =>
    rw [hr] at h
    obtain ⟨rfl, rfl⟩ : v = (decide (a = d) && (decide (b = e) && decide (c = f))) ∧ w1 = w := by simpa [Result.andThen] using h
    simp
  | halt _ _ =>
    rw [hr] at h
    simp [Result.andThen] at h
theorem check_vec (em : Bool) (a b c : Int) (w : World) : (Instr.checkKey em 10000 TVc (vec a b c)).run Tryd.prog w = .ok () w := by
  cases em <;> kernel_rfl
/-- Where a vector stands, and how many of it. -/
def findT (v : V3) : Tal → Nat → Option (Nat × Nat)
  | [], _ => none
  | x :: r, i => if x.1 = v then some (i, x.2) else findT v r (i + 1)
theorem find_vec (v : V3) (w : World) : ∀ (es : List MapEntry) (t : Tal) (i : Nat), es.map (fun e => (e.key, e.val)) = t.map (fun x => (vv x.1, Value.int .i64 (x.2 : Nat))) → (Instr.findAsking TVc (vv v) es i).run Tryd.prog w = .ok ((findT v t i).map fun y => (y.1, Value.int .i64 (y.2 : Nat))) w
  | [], [], i, _ => rfl
  | [], _ :: _, _, h => by simp at h
  | _ :: _, [], _, h => by simp at h
  | e :: es, x :: r, i, h => by
    simp only [List.map_cons, List.cons.injEq, Prod.mk.injEq] at h
    obtain ⟨⟨hk, hv⟩, hr⟩ := h
    have ih := find_vec v w es r (i + 1) hr
    have hs := same_vec v.1 v.2.1 v.2.2 x.1.1 x.1.2.1 x.1.2.2 w
    unfold Instr.findAsking
    simp only [Sem.run_bind, hk, hs, Result.andThen]
    by_cases hx : x.1 = v
    · subst hx
      simp [findT, hv]
    · have hd : decide (v.1 = x.1.1 ∧ v.2.1 = x.1.2.1 ∧ v.2.2 = x.1.2.2) = false := decide_eq_false fun ⟨e1, e2, e3⟩ => hx (Prod.ext e1.symm (Prod.ext e2.symm e3.symm))
      rw [hd]
      simp only [Bool.false_eq_true, if_false]
      rw [ih, findT, if_neg hx]
/-- The map in block b counts these. -/
def TMap (w : World) (b : Nat) (t : Tal) : Prop := ∃ es clock, w.heap[b]? = some (.map es clock) ∧ Stamped es clock ∧ es.toList.map (fun e => (e.key, e.val)) = t.map fun x => (vv x.1, Value.int .i64 (x.2 : Nat))
theorem TMap.new (w : World) : TMap (w.alloc (.map #[] 0)) w.heap.size [] := ⟨#[], 0, heap_alloc_new w _, stamped_empty 0, rfl⟩
theorem TMap.keep {w w' : World} {b : Nat} {t : Tal} (h : TMap w b t) (hk : w'.heap[b]? = w.heap[b]?) : TMap w' b t := by
  obtain ⟨es, c, a, e⟩ := h
  exact ⟨es, c, hk.trans a, e⟩
theorem zeroI (w : World) : (zeroValue 3).run Tryd.prog w = .ok (.int .i64 0) w := by kernel_rfl
theorem findK {w : World} (v : V3) {es : Array MapEntry} {t : Tal} (h : es.toList.map (fun e => (e.key, e.val)) = t.map fun x => (vv x.1, Value.int .i64 (x.2 : Nat))) : (Instr.findKey TVc (vv v) es.toList).run Tryd.prog w = .ok ((findT v t 0).map fun y => (y.1, Value.int .i64 (y.2 : Nat))) w := by
  have e := run_findKey_eq (P := Tryd.prog) (w := w) (k := TVc) (by kernel_rfl) (vv v) es.toList
  exact e.trans (find_vec v w _ _ 0 h)
theorem run_lookT {w : World} {b : Nat} {t : Tal} (h : TMap w b t) (v : V3) : (Instr.lookup TMp (.map (some b)) (vv v) false).run Tryd.prog w = .ok (.int .i64 (((findT v t 0).map fun y => y.2).getD 0 : Nat)) w := by
  obtain ⟨es, clock, hb, _, he⟩ := h
  have hf := findK (w := w) v he
  have hc := fun e => check_vec e v.1 v.2.1 v.2.2 w
  cases hl : findT v t 0 with
  | none =>
    rw [hl] at hf
    simp [Instr.lookup, run_underlying Tryd.underlying65, MapKept.run_getObj_map hb, hc, hf, zeroI, Result.andThen]
  | some y =>
    rw [hl] at hf
    simp [Instr.lookup, run_underlying Tryd.underlying65, MapKept.run_getObj_map hb, hc, hf, Result.andThen]
theorem stays_vec (a b c : Int) (w : World) : (Instr.keyThatStays (vec a b c) (vec a b c)).run Tryd.prog w = .ok (vec a b c) w := by
  unfold Instr.keyThatStays
  rw [if_pos (by simp [Instr.sameBits])]
  rfl
theorem findT_at {v : V3} : ∀ {t : Tal} {i k n : Nat}, findT v t i = some (k, n) → i ≤ k ∧ ∃ h : k - i < t.length, t[k - i] = (v, n)
  | [], _, _, _, h => by cases h
  | x :: r, i, k, n, h => by
    unfold findT at h
    by_cases hx : x.1 = v
    · rw [if_pos hx] at h
      injection h with h
      injection h with h1 h2
      subst h1 h2
      refine ⟨Nat.le_refl _, by simp, ?_⟩
      simp only [Nat.sub_self, List.getElem_cons_zero]
      exact Prod.ext hx rfl
    · rw [if_neg hx] at h
      obtain ⟨h1, h2, h3⟩ := findT_at h
      refine ⟨by omega, by rw [List.length_cons]; omega, ?_⟩
      have e : k - i = (k - (i + 1)) + 1 := by omega
      simp only [e, List.getElem_cons_succ]
      exact h3
theorem findT_not {v : V3} : ∀ {t : Tal} {i : Nat}, findT v t i = none → ∀ x ∈ t, x.1 ≠ v
  | [], _, _ => fun x hx => by cases hx
  | y :: r, i, h => by
    unfold findT at h
    by_cases hy : y.1 = v
    · rw [if_pos hy] at h; cases h
    · rw [if_neg hy] at h
      intro x hx
      rcases List.mem_cons.1 hx with rfl | hx
      · exact hy
      · exact findT_not h x hx
/-- One counted more. -/
def bump (v : V3) (t : Tal) : Tal := match findT v t 0 with
  | some (k, n) => t.set k (v, n + 1)
  | none => t ++ [(v, 1)]
abbrev gE (e : MapEntry) : Value × Value := (e.key, e.val)
abbrev hE (x : V3 × Nat) : Value × Value := (vv x.1, Value.int .i64 (x.2 : Nat))
theorem modify_map (u : Value) : ∀ (l : List MapEntry) (j : Nat) (k : Value), (∀ e, l[j]? = some e → e.key = k) → (l.modify j fun e => { e with val := u }).map gE = (l.map gE).set j (k, u)
  | [], _, _, _ => by simp
  | x :: l, 0, k, h => by
    have := h x rfl
    subst this
    rfl
  | x :: l, j + 1, k, h => by
    rw [List.modify_succ_cons, List.map_cons, List.map_cons, List.set_cons_succ, modify_map u l j k (fun e he => h e (by simpa using he))]
theorem run_store {w : World} {b : Nat} {es : Array MapEntry} {clock j : Nat} {e0 : MapEntry} (hb : w.heap[b]? = some (.map es clock)) (hn : (es.toList.map (·.born)).Nodup) (hj : es.toList[j]? = some e0) (u : Value) :
    (Instr.entryStore TMp (.map (some b)) (.int .i64 (e0.born : Nat)) u).run Tryd.prog w = .ok () (ChangeMaps.setBlock w b (.map (es.modify j fun e => { e with val := u }) clock)) := by
  have hf := findIdx_born hn hj
  rw [← findIdx_arr] at hf
  simp [Instr.entryStore, MapKept.run_getObj_map hb, asInt, asIntOf, hf, MapKept.run_setObj_map _ hb, Result.andThen, ChangeMaps.setBlock]
set_option maxRecDepth 100000 in
/-- An entry is looked for, made where there is none, and counted more. -/
theorem run_bump {w : World} {b : Nat} {t : Tal} (h : TMap w b t) (v : V3) : ∃ (c s : Nat) (w1 w2 : World), ((findT v t 0).map fun y => y.2).getD 0 = c ∧ (Instr.mapEntry TMp (.map (some b)) (vv v)).run Tryd.prog w = .ok (.tuple #[.int .i64 (c : Nat), .int .i64 (s : Nat)]) w1 ∧
    (Instr.lookup TMp (.map (some b)) (vv v) false).run Tryd.prog w1 = .ok (.int .i64 (c : Nat)) w1 ∧ w.grownBy w1 (some b) ∧ w1.heap.size = w.heap.size ∧
    (Instr.entryStore TMp (.map (some b)) (.int .i64 (s : Nat)) (.int .i64 ((c : Int) + 1))).run Tryd.prog w1 = .ok () w2 ∧ TMap w2 b (bump v t) ∧ w.grownBy w2 (some b) ∧ w2.heap.size = w.heap.size := by
  obtain ⟨es, clock, hb, hs, he⟩ := h
  have hf := findK (w := w) v he
  have hc := fun e => check_vec e v.1 v.2.1 v.2.2 w
  have hlen := congrArg List.length he
  rw [List.length_map, List.length_map] at hlen
  cases hl : findT v t 0 with
  | some y =>
    obtain ⟨k, n⟩ := y
    obtain ⟨_, hk, hkt⟩ := findT_at hl
    simp only [Nat.sub_zero] at hk hkt
    rw [hl] at hf
    have hke : k < es.toList.length := by omega
    have hge : gE es.toList[k] = hE t[k] := by
      have h1 := List.getElem_of_eq he (i := k) (by rw [List.length_map]; exact hke)
      rw [List.getElem_map, List.getElem_map] at h1
      exact h1
    rw [hkt] at hge
    have hkey : es.toList[k].key = vv v := congrArg Prod.fst hge
    have hj : es.toList[k]? = some es.toList[k] := List.getElem?_eq_getElem hke
    have hj2 : es[k]? = some es.toList[k] := by rw [← Array.getElem?_toList]; exact hj
    have hself : (es.modify k fun e => { e with key := vv v }) = es := by
      apply Array.ext_getElem?
      intro i
      rw [Array.getElem?_modify]
      by_cases hi : k = i
      · subst hi
        rw [if_pos rfl, hj2]
        simp [← hkey]
      · rw [if_neg hi]
    have hst : (Instr.keyThatStays (vv v) (vv v)).run Tryd.prog w = .ok (vv v) w := stays_vec v.1 v.2.1 v.2.2 w
    have hkey3 : (es[k]'(by simpa using hke)).key = vv v := by simpa using hkey
    have hb1 : (ChangeMaps.setBlock w b (.map es clock)).heap[b]? = some (.map es clock) := ChangeMaps.heap_setBlock_same hb _
    have hT1 : TMap (ChangeMaps.setBlock w b (.map es clock)) b t := ⟨es, clock, hb1, hs, he⟩
    have hlk := run_lookT hT1 v
    rw [hl] at hlk
    have hgrow : ∀ o, w.grownBy (ChangeMaps.setBlock w b o) (some b) := fun o => ⟨rfl, rfl, rfl, by simp [ChangeMaps.setBlock], fun i _ hi => ChangeMaps.heap_setBlock_other hb _ (fun e => hi (by rw [e]))⟩
    have hsto := run_store hb1 hs.2.1 hj (.int .i64 ((n : Int) + 1))
    refine ⟨n, es.toList[k].born, _, _, rfl, ?_, hlk, hgrow _, by simp [ChangeMaps.setBlock], hsto, ?_, ?_, by simp [ChangeMaps.setBlock]⟩
    · simp [Instr.mapEntry, run_underlying Tryd.underlying65, MapKept.run_getObj_map hb, hc, hf, hj2, hkey3, hst, hself, MapKept.run_setObj_map _ hb, goInt, Result.andThen, ChangeMaps.setBlock]
    · refine ⟨_, clock, ChangeMaps.heap_setBlock_same hb1 _, stamped_modify hs _ _ (fun _ _ => rfl) (fun _ _ _ => rfl), ?_⟩
      rw [Array.toList_modify]
      show List.map gE _ = _
      rw [modify_map _ _ k (vv v) (fun e h => by rw [hj] at h; injection h with h; rw [← h]; exact hkey)]
      show (es.toList.map fun e => (e.key, e.val)).set k _ = _
      rw [he]
      unfold bump
      rw [hl]
      simp only [List.map_set]
      rfl
    · exact ⟨rfl, rfl, rfl, by simp [ChangeMaps.setBlock], fun i hi hne => (ChangeMaps.heap_setBlock_other hb1 _ (fun e => hne (by rw [e]))).trans ((hgrow _).block i hi hne)⟩
  | none =>
    rw [hl] at hf
    have hne : ∀ x ∈ es.toList, x.key ≠ vv v := fun x hx e => by
      have hm := List.mem_map_of_mem (f := gE) hx
      have hm2 : gE x ∈ t.map hE := he ▸ hm
      obtain ⟨y, hy, e2⟩ := List.mem_map.1 hm2
      have e3 : vv y.1 = vv v := (congrArg Prod.fst e2).trans e
      have e4 : y.1 = v := by
        simp only [vv, vec, Value.agg.injEq] at e3
        simp at e3
        exact Prod.ext e3.1 (Prod.ext e3.2.1 e3.2.2)
      exact findT_not hl y hy e4
    have hb1 : (ChangeMaps.setBlock w b (.map (es.push ⟨vv v, .int .i64 0, clock⟩) (clock + 1))).heap[b]? = some (.map (es.push ⟨vv v, .int .i64 0, clock⟩) (clock + 1)) := ChangeMaps.heap_setBlock_same hb _
    have hs1 := stamped_push (val := .int .i64 0) hs hne
    have he1 : (es.push ⟨vv v, .int .i64 0, clock⟩).toList.map (fun e => (e.key, e.val)) = (t ++ [(v, 0)]).map fun (x : V3 × Nat) => (vv x.1, Value.int .i64 (x.2 : Nat)) := by
      rw [Array.toList_push, List.map_append, he, List.map_append]
      rfl
    have hT1 : TMap (ChangeMaps.setBlock w b (.map (es.push ⟨vv v, .int .i64 0, clock⟩) (clock + 1))) b (t ++ [(v, 0)]) := ⟨_, _, hb1, hs1, he1⟩
    have hlk := run_lookT hT1 v
    have hf2 : ∀ (t : Tal) (i : Nat), findT v t i = none → findT v (t ++ [(v, 0)]) i = some (i + t.length, 0) := by
      intro t
      induction t with
      | nil => intro i _; simp [findT]
      | cons x r ih =>
        intro i h
        unfold findT at h
        by_cases hx : x.1 = v
        · rw [if_pos hx] at h; cases h
        · rw [if_neg hx] at h
          rw [List.cons_append, findT, if_neg hx, ih (i + 1) h, List.length_cons]
          congr 2
          omega
    rw [hf2 t 0 hl] at hlk
    have hgrow : ∀ o, w.grownBy (ChangeMaps.setBlock w b o) (some b) := fun o => ⟨rfl, rfl, rfl, by simp [ChangeMaps.setBlock], fun i _ hi => ChangeMaps.heap_setBlock_other hb _ (fun e => hi (by rw [e]))⟩
    have hj : (es.push ⟨vv v, .int .i64 0, clock⟩).toList[es.size]? = some ⟨vv v, .int .i64 0, clock⟩ := by simp
    have hsto := run_store hb1 hs1.2.1 hj (.int .i64 ((0 : Nat) + 1))
    refine ⟨0, clock, _, _, rfl, ?_, hlk, hgrow _, by simp [ChangeMaps.setBlock], hsto, ?_, ?_, by simp [ChangeMaps.setBlock]⟩
    · simp [Instr.mapEntry, run_underlying Tryd.underlying65, MapKept.run_getObj_map hb, hc, hf, zeroI, MapKept.run_setObj_map _ hb, goInt, Result.andThen, ChangeMaps.setBlock]
    · refine ⟨_, _, ChangeMaps.heap_setBlock_same hb1 _, stamped_modify hs1 _ _ (fun _ _ => rfl) (fun _ _ _ => rfl), ?_⟩
      rw [Array.toList_modify]
      show List.map gE _ = _
      rw [modify_map _ _ es.size (vv v) (fun e h => by rw [hj] at h; injection h with h; rw [← h])]
      show ((es.push ⟨vv v, .int .i64 0, clock⟩).toList.map fun e => (e.key, e.val)).set es.size _ = _
      rw [he1]
      unfold bump
      rw [hl]
      have hz : es.size = t.length := by rw [← hlen, Array.length_toList]
      rw [hz, List.map_append, List.map_append, List.set_append_right _ _ (by rw [List.length_map]; exact Nat.le_refl _), List.length_map, Nat.sub_self]
      rfl
    · exact ⟨rfl, rfl, rfl, by simp [ChangeMaps.setBlock], fun i hi hne => (ChangeMaps.heap_setBlock_other hb1 _ (fun e => hne (by rw [e]))).trans ((hgrow _).block i hi hne)⟩
end Go.Proofs.YtkmknogejhhajaaDoor
