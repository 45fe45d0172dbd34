/-
  PROVED: ShareUses: every call is answered as the document says, in every order, for every input; what came in reads as it did.
  Conditions: none; every input.
-/
import Derived.Test.YtmbgcphiigmdjaaRows
import Derived.Test.YtmbgcphiigmdjaaU1
import Derived.ProofKit
import Derived.OpenShut
import Derived.Laws.IdiomArrays
import Derived.SizedLaws
import Derived.JoinedCond
import Derived.Deep.Slices
import Derived.Deep.Strs
import Derived.Lib.SmallJoins
import Derived.Test.YtmbgcphiigmdjaaR4
set_option linter.unusedSimpArgs false
set_option linter.unusedVariables false
/-
  Acts and scripts that came in.
-/
namespace Go.Proofs.Ytmbgcphiigmdjaa
open Go.Joins Go.ChangeShapes Go.WideShapes Go.ChangeAt Go.WideMaps Go.WideElems Go.RowKit Go.Deep Ds

theorem own : ownKnob Try.prog.godebug = none := by kernel_rfl
theorem laidOut : laidOutB Try.prog = true := by kernel_rfl
theorem cellsIntC : Try.prog.cellsOf 3 = 1 := by kernel_rfl
theorem cellsStrC : Try.prog.cellsOf 9 = 1 := by kernel_rfl
theorem cellsAct : Try.prog.cellsOf TAct = 3 := by kernel_rfl
theorem plain_addr2 {w : World} {a : Addr} {v : Value} (h : w.cell? a = some v) : a.spot = none ∧ a.block < w.heap.size := by
  obtain ⟨b, off, sp⟩ := a
  refine ⟨World.cell?_spot h, ?_⟩
  by_cases hb : b < w.heap.size
  · exact hb
  · simp only [World.cell?] at h
    rw [Array.getElem?_eq_none (by omega)] at h
    cases h
theorem add_off2 (b o k : Nat) : (⟨b, o, none⟩ : Addr).add k = ⟨b, o + k, none⟩ := by
  unfold Addr.add
  by_cases hk : k = 0
  · subst hk; rfl
  · rw [if_neg hk]
theorem rows_seg {α : Type} (f : α → List Value) (k : Nat) (hf : ∀ x, (f x).length = k) {W : World} {b o : Nat} (hb : b < W.heap.size) : ∀ n, (∀ i, i < n → ∃ x, ∀ j, j < k → W.cell? ⟨b, o + i * k + j, none⟩ = (f x)[j]?) → ∃ l : List α, l.length = n ∧ ∀ j (hj : j < (l.flatMap f).length), W.cell? ⟨b, o + j, none⟩ = some (l.flatMap f)[j]
  | 0, _ => ⟨[], rfl, fun j hj => absurd hj (Nat.not_lt_zero _)⟩
  | n + 1, h => by
    obtain ⟨l, hl, hc⟩ := rows_seg f k hf hb n (fun i hi => h i (by omega))
    obtain ⟨x, hx⟩ := h n (by omega)
    have hlen : (l.flatMap f).length = n * k := by rw [flat_len f k hf, hl]
    refine ⟨l ++ [x], by simp [hl], fun j hj => ?_⟩
    have e : (l ++ [x]).flatMap f = l.flatMap f ++ f x := by simp
    have hj2 : j < (l.flatMap f ++ f x).length := by rw [← e]; exact hj
    have : ((l ++ [x]).flatMap f)[j] = (l.flatMap f ++ f x)[j] := by simp only [e]
    rw [this]
    by_cases h1 : j < (l.flatMap f).length
    · rw [List.getElem_append_left h1]
      exact hc j h1
    · rw [List.getElem_append_right (by omega)]
      rw [List.length_append, hf] at hj2
      have := hx (j - n * k) (by omega)
      rw [show o + n * k + (j - n * k) = o + j by omega] at this
      rw [this, List.getElem?_eq_getElem (by rw [hf]; omega)]
      simp only [hlen]
/-- A slice whose elements read so. -/
theorem open_rows {H : Type} {enc : TypeId × Value → H} {W : World} {q : Nat} {t e : TypeId} {v : Value} {x : DataW H × List MemPlace} {α : Type} (f : α → List Value) (k : Nat) (hk : 0 < k) (hf : ∀ x, (f x).length = k)
    (ht : Try.prog.underlying t = some (.slice e)) (hC : Try.prog.cellsOf e = k)
    (hel : ∀ (n : Nat) (cs : List Value) (y : DataW H × List MemPlace), DataW.trod enc Try.prog W 0 (fun _ => true) true n e cs = some y → cs.length = k → ∃ a : α, cs = f a)
    (h : DataW.trod enc Try.prog W 0 (fun _ => true) true q t [v] = some x) : ∃ (A : Option Addr) (l : List α) (cap : Nat), v = .slice A l.length cap ∧ RdS W A l.length cap (l.flatMap f) := by
  rcases open_slice ht h with ⟨hcs, _⟩ | ⟨a, len, cap, m, n, D, Pl, hcs, _, hlc, hcm, hm, _, hi⟩
  · injection hcs with hcs
    subst hcs
    exact ⟨none, [], 0, rfl, Nat.le_refl _, by unfold maxLen; omega, SegP.nil _ _ _⟩
  · injection hcs with hcs
    subst hcs
    have hm' : m = cap := by simpa using hm
    clear hm
    by_cases h0 : len = 0
    · subst h0
      exact ⟨some a, [], cap, rfl, Nat.zero_le _, hcm, SegP.nil _ _ _⟩
    · have hcell : ∀ i, i < len → ∃ y : α, ∀ j, j < k → W.cell? ((a.add (i * k)).add j) = (f y)[j]? := by
        intro i hlt
        obtain ⟨cs', hc, hte⟩ := hi i (by omega)
        rw [hC] at hc
        obtain ⟨_, hcl, hat⟩ := World.cells?_some hc
        obtain ⟨y, rfl⟩ := hel _ _ _ hte hcl
        exact ⟨y, fun j hj => by rw [hat j hj]⟩
      obtain ⟨y0, hy0⟩ := hcell 0 (by omega)
      have hz := hy0 0 hk
      rw [List.getElem?_eq_getElem (by rw [hf]; exact hk)] at hz
      have ha0 : (a.add (0 * k)).add 0 = a := by rw [Nat.zero_mul]; rfl
      rw [ha0] at hz
      have hz' := hz
      obtain ⟨hsp, hb⟩ := plain_addr2 hz'
      obtain ⟨b, o, sp⟩ := a
      have hsp' : sp = none := hsp
      subst hsp'
      obtain ⟨l, hl, hc⟩ := rows_seg f k hf (o := o) hb len (fun i hlt => by
        obtain ⟨y, hy⟩ := hcell i hlt
        refine ⟨y, fun j hj => ?_⟩
        have := hy j hj
        rw [add_off2, add_off2] at this
        exact this)
      exact ⟨some ⟨b, o, none⟩, l, cap, by rw [hl], by rw [hl]; exact hlc, hcm, fun _ => ⟨b, o, rfl, hb, hc⟩⟩
theorem str_of (s : ByteArray) : str s.data.toList = s := str_bl s
set_option maxRecDepth 100000 in
theorem act_cells {H : Type} {enc : TypeId × Value → H} {W : World} {n : Nat} {cs : List Value} {x : DataW H × List MemPlace}
    (h : DataW.trod enc Try.prog W 0 (fun _ => true) true n TAct cs = some x) (hl : cs.length = 3) : ∃ a : {a : Act3 // okA a}, cs = actV a.1 := by
  obtain ⟨y0, y1, y2, n', _, _, h0, h1, h2⟩ := trod_struct3 Try.underlying24 h
  match cs, hl with
  | [c0, c1, c2], _ =>
    simp only [cellsIntC, cellsStrC, List.drop_zero, List.drop_succ_cons, List.take_succ_cons, List.take_zero] at h0 h1 h2
    obtain ⟨s, es, _, ws⟩ := DataW.trod_string Try.underlying9 h0
    obtain ⟨a, ea, _, wa⟩ := DataW.trod_int Try.underlying3 h1
    obtain ⟨b, eb, _, wb⟩ := DataW.trod_int Try.underlying3 h2
    injection es with es _
    injection ea with ea _
    injection eb with eb _
    subst es ea eb
    exact ⟨⟨(s.data.toList, a, b), by show s.data.toList.length ≤ maxLen; rw [Array.length_toList]; exact ws⟩, by unfold actV; rw [str_of]⟩
set_option maxRecDepth 100000 in
/-- An act that came in. -/
theorem open_act {H : Type} {enc : TypeId × Value → H} {W : World} {base : Nat} {v : Value} {d : DataW H} {ps : List MemPlace}
    (hv : Value.okWide Try.prog W .any base TAct v) (h : DataW.Trod enc Try.prog W 0 (fun _ => true) true TAct v d ps) : ∃ a : Act3, v = .agg (actV a).toArray ∧ okA a := by
  obtain ⟨cs, rfl, hsz⟩ := okWide_struct Try.underlying24 hv
  rw [cellsAct] at hsz
  obtain ⟨fuel, hf⟩ := h
  obtain ⟨l⟩ := cs
  obtain ⟨⟨a, ha⟩, e⟩ := act_cells hf hsz
  exact ⟨a, by rw [← e]; rfl, ha⟩
theorem flat_val (l : List {a : Act3 // okA a}) : l.flatMap (fun a => actV a.1) = AVs (l.map (·.1)) := by
  induction l with
  | nil => rfl
  | cons a l ih => rw [List.flatMap_cons, ih]; rfl
set_option maxRecDepth 100000 in
/-- A script that came in. -/
theorem open_acts {H : Type} {enc : TypeId × Value → H} {W : World} {base : Nat} {v : Value} {d : DataW H} {ps : List MemPlace}
    (hv : Value.okWide Try.prog W .any base 22 v) (h : DataW.Trod enc Try.prog W 0 (fun _ => true) true 22 v d ps) :
    ∃ (A : Option Addr) (l : List Act3) (cap : Nat), v = .slice A l.length cap ∧ RdS W A l.length cap (AVs l) ∧ ∀ a ∈ l, okA a := by
  obtain ⟨a0, len, cap, rfl⟩ := okWide_slice Try.underlying22 hv
  obtain ⟨fuel, hf⟩ := h
  obtain ⟨A, l, c, e, hr⟩ := open_rows (fun a : {a : Act3 // okA a} => actV a.1) 3 (by decide) (fun _ => rfl) Try.underlying22 cellsAct (fun n cs y hy hl => act_cells hy hl) hf
  refine ⟨A, l.map (·.1), c, by rw [List.length_map]; exact e, ?_, fun a ha => ?_⟩
  · rw [List.length_map, ← flat_val]; exact hr
  · obtain ⟨x, _, rfl⟩ := List.mem_map.1 ha
    exact x.2
end Go.Proofs.Ytmbgcphiigmdjaa
namespace Go.Proofs.Ytmbgcphiigmdjaa
open Go.ChangeShapes Go.WideShapes Go.ChangeAt Go.WideMaps Go.WideElems Go.RowKit

set_option maxRecDepth 100000 in
theorem shareUses_lifted (os : Os) (started : os.Started) (H : Type) (enc : TypeId × Value → H) :
    ReturnsInHanded {} Try.checked os 3 .any (Rows.shareUsesSpec.pre6 enc Try.prog Try.f3 Rows.shareUsesRow.domain false) (Rows.shareUsesSpec.post enc Try.prog Try.f3 false true false false) := by
  refine returnsInHanded_of_change_sized (C := Try.checked) own started (by kernel_rfl) Try.func3
    (ChangeSpec.witness6 (enc := enc) (C := Try.checked) false ⟨#[], #[.int .i64 0, .slice none 0 0, .agg #[.string ⟨#[]⟩, .int .i64 0, .int .i64 0]], []⟩ 8 (by kernel_rfl) (by kernel_rfl) (by kernel_rfl) (by kernel_rfl)) ?_
  intro W base args ds gs before hval0 hW hcnd hsz0 _
  have hval : ∀ (j : Nat) t v, Try.f3.params[j]? = some t → args[j]? = some v → Value.okWide Try.prog W .any base t v := hval0
  have hW' := hW
  obtain ⟨p, q, hA0, hV, rfl, hfz, hnd⟩ := hW
  have hA : DataW.TrodAll enc Try.prog W 0 (fun _ => true) true Try.f3.params.toList args.toList ds p := hA0
  rw [Try.params3] at hA hval
  obtain ⟨v0, v1, v2, d0, d1, d2, p0, p1, p2, rfl, rfl, rfl, h0, h1, h2⟩ := trodAll_three hA
  obtain ⟨rfl, rfl⟩ := trodVars_none hV
  obtain ⟨n0, rfl, _, _, wy0⟩ := open_int Try.underlying3 (hval 0 3 v0 rfl rfl) h0
  obtain ⟨A1, l1, c1, rfl, r1, ok1⟩ := open_acts (hval 1 22 v1 rfl rfl) h1
  obtain ⟨a2, rfl, ok2⟩ := open_act (hval 2 24 v2 rfl rfl) h2
  have hlt : ∀ z ∈ p0 ++ (p1 ++ p2), z.block < W.heap.size := fun z hz => hW'.lt z (by simp [hz])
  clear hA0 hval0 hcnd hsz0
  simp only [List.append_nil, List.append_assoc] at hW'
  refine (uses_walk n0 A1 l1 c1 a2 W r1 ok1).mono fun e W' ⟨he, hb⟩ => ?_
  subst he
  refine ⟨_, rfl, ⟨_, _, _, [], p0 ++ (p1 ++ p2), [], hW', trodAll_mk1 (shut_bool Try.underlying4 _), ?_, rfl, hb.frame _, fun h => by cases h⟩⟩
  exact trodAll_mk3 (Below.trod laidOut (by kernel_rfl) (of_decide_eq_true (by kernel_rfl)) h0 hb (fun z hz => hlt z (by simp [hz]))) (Below.trod laidOut (by kernel_rfl) (of_decide_eq_true (by kernel_rfl)) h1 hb (fun z hz => hlt z (by simp [hz]))) (Below.trod laidOut (by kernel_rfl) (of_decide_eq_true (by kernel_rfl)) h2 hb (fun z hz => hlt z (by simp [hz])))

theorem shareUses_proved : Rows.ShareUsesSaid :=
  OpenClaim.holds_of_wide 3 Try.f3 rfl rfl rfl rfl rfl rfl rfl ⟨rfl, rfl, rfl, rfl, rfl⟩ rfl rfl rfl rfl rfl (by kernel_rfl) Try.func3 (by kernel_rfl)
    (of_decide_eq_true (by kernel_rfl)) (by unfold Func.isWrapper; rw [if_neg (of_decide_eq_false (by kernel_rfl))]; exact ⟨rfl, rfl⟩)
    (fun os started H enc _ => shareUses_lifted os started H enc)
end Go.Proofs.Ytmbgcphiigmdjaa
