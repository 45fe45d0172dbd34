/-
  The range over a map by names.
-/
import Derived.Test.YtmbgcphiigmdjaaUMap
import Derived.Maps.RangeRun
import Derived.Maps.Range
import Derived.Laws.IdiomRangeMap
namespace Go.Proofs.Ytmbgcphiigmdjaa
open Go.RowKit Go.MapKept Ds

theorem perm_out {L : List MapEntry} (hn : (L.map (·.born)).Nodup) {e : MapEntry} (he : e ∈ L) : L.Perm (e :: L.filter fun x => !(x.born == e.born)) := by
  induction L with
  | nil => cases he
  | cons x r ih =>
    rw [List.map_cons, List.nodup_cons] at hn
    by_cases hx : x.born = e.born
    · have hnot : ∀ y ∈ r, (!(y.born == e.born)) = true := fun y hy => by
        have : ¬ y.born = e.born := fun h => hn.1 (by rw [hx, ← h]; exact List.mem_map_of_mem (f := fun z : MapEntry => z.born) hy)
        simpa using this
      rcases List.mem_cons.1 he with rfl | he
      · rw [List.filter_cons_of_neg (by simp), List.filter_eq_self.2 hnot]
      · have := hnot e he
        simp at this
    · rcases List.mem_cons.1 he with rfl | he
      · exact absurd rfl hx
      · rw [List.filter_cons_of_pos (by simpa using hx)]
        exact ((ih hn.2 he).cons x).trans (List.Perm.swap _ _ _)
/-- What an entry stands for. -/
def decP (p : Value × Value) : Str × Value := (match p.1 with | .string s => bl s | _ => [], p.2)
theorem dec_h (x : Str × Value) : decP (hE x) = x := by
  obtain ⟨s, v⟩ := x
  show (bl (str s), v) = (s, v)
  rw [bl_str]
/-- A range that is under way: what has come out, and what is left. -/
def SRng (w : World) (b r : Nat) (L done : List (Str × Value)) : Prop := ∃ es clock since seen c0, w.heap[b]? = some (.map es clock) ∧ w.heap[r]? = some (.mapIter (some b) since seen c0) ∧ (es.toList.map (·.born)).Nodup ∧ (∀ x ∈ es.toList, x.born < since) ∧ since ≤ c0 ∧ since ≤ clock ∧
  (∀ e ∈ es.toList, gE e = hE (decP (gE e))) ∧ (done ++ (leftOf es seen).toList.map fun e => decP (gE e)).Perm L
theorem SRng.keep {w w' : World} {b r : Nat} {L done : List (Str × Value)} (h : SRng w b r L done) (hb : w'.heap[b]? = w.heap[b]?) (hr : w'.heap[r]? = w.heap[r]?) : SRng w' b r L done := by
  obtain ⟨es, clock, since, seen, c0, h1, h2, h3⟩ := h
  exact ⟨es, clock, since, seen, c0, hb.trans h1, hr.trans h2, h3⟩
theorem SRng.sub {w : World} {b r : Nat} {L done : List (Str × Value)} (h : SRng w b r L done) : done.length ≤ L.length ∧ ∀ x ∈ done, x ∈ L := by
  obtain ⟨_, _, _, _, _, _, _, _, _, _, _, _, hp⟩ := h
  have := hp.length_eq
  rw [List.length_append] at this
  exact ⟨by omega, fun x hx => hp.mem_iff.1 (List.mem_append_left _ hx)⟩
abbrev iterO (w : World) (b : Nat) : Obj := .mapIter (some b) (match w.heap[b]? with | some (.map _ c) => c | _ => 0) #[] (match w.heap[b]? with | some (.map _ c) => c | _ => 0)
theorem SRng.start {w : World} {b : Nat} {L : List (Str × Value)} {T K E : TypeId} (hT : Try.prog.underlying T = some (.map K E)) (h : SM w b L) : (Instr.range T (.map (some b))).run Try.prog w = .ok (.pointer (some ⟨w.heap.size, 0, none⟩)) (w.alloc (iterO w b)) ∧
    SRng (w.alloc (iterO w b)) b w.heap.size L [] := by
  obtain ⟨es, clock, hb, hs, he⟩ := h
  have hlt := lt_of_block hb
  unfold iterO
  rw [hb]
  refine ⟨run_range_map w T _ _ b es clock hT hb, es, clock, clock, #[], clock, (Below.heap_alloc _ _ _ hlt).trans hb, heap_alloc_new w _, hs.2.1, hs.1, Nat.le_refl _, Nat.le_refl _, fun e hem => ?_, ?_⟩
  · have h1 : gE e ∈ L.map hE := he ▸ List.mem_map_of_mem (f := gE) hem
    obtain ⟨x, _, hx⟩ := List.mem_map.1 h1
    rw [← hx, dec_h]
  · have h2 : (es.toList.map fun e => decP (gE e)) = L := by
      have h3 := congrArg (List.map decP) he
      rw [List.map_map, List.map_map] at h3
      have h4 : L.map (decP ∘ hE) = L := by
        conv => rhs; rw [← List.map_id L]
        exact List.map_congr_left fun x _ => dec_h x
      rw [h4] at h3
      exact h3
    rw [show (leftOf es #[]).toList = es.toList by simp [leftOf], h2]
    exact List.Perm.refl _
theorem SRng.next {w : World} {b r : Nat} {L done : List (Str × Value)} (h : SRng w b r L done) (hbr : b ≠ r) (ty : TypeId) :
    (done.Perm L ∧ (Instr.next (.pointer (some ⟨r, 0, none⟩)) false ty).run Try.prog w = .ok (.tuple #[.bool false]) w) ∨
    ∃ (x : Str × Value) (w' : World), (Instr.next (.pointer (some ⟨r, 0, none⟩)) false ty).run Try.prog w = .ok (.tuple #[.bool true, .string (str x.1), x.2]) w' ∧ SRng w' b r L (done ++ [x]) ∧ w.grownBy w' (some r) ∧ w'.heap.size = w.heap.size ∧
      (Instr.entry (.pointer (some ⟨r, 0, none⟩))).run Try.prog w' = .ok (.tuple #[.string (str x.1), x.2]) w' := by
  obtain ⟨es, clock, since, seen, c0, hb, hr, hn, hold, hsc, hsk, hdec, hperm⟩ := h
  rcases run_next_at (P := Try.prog) w ty r b since c0 seen es clock hr hb hold hsc with ⟨h0, hrun⟩ | ⟨e, he, w1, hal, hrun⟩
  · refine .inl ⟨?_, hrun⟩
    have : (leftOf es seen).toList = [] := List.eq_nil_of_length_eq_zero (by rw [Array.length_toList, h0])
    rw [this, List.map_nil, List.append_nil] at hperm
    exact hperm
  · have hem : e ∈ es.toList := by
      have := he
      simp [leftOf] at this
      exact Array.mem_toList_iff.2 this.1
    have hLn : ((leftOf es seen).toList.map (·.born)).Nodup := by
      have : (leftOf es seen).toList.Sublist es.toList := by simp [leftOf]
      exact (this.map _).nodup hn
    have hout := perm_out hLn he
    have hL' : (leftOf es (seen.push e.born)).toList = (leftOf es seen).toList.filter fun x => !(x.born == e.born) := by
      simp only [leftOf, Array.toList_filter, List.filter_filter]
      congr 1
      funext x
      rw [contains_push]
      cases seen.contains x.born <;> cases (x.born == e.born) <;> rfl
    have hge := hdec e hem
    have hk : e.key = .string (str (decP (gE e)).1) := congrArg Prod.fst hge
    have hr1 : w1.heap[r]? = some (.mapIter (some b) since seen c0) := by rcases hal with rfl | rfl <;> exact hr
    have hb1 : w1.heap[b]? = some (.map es clock) := by rcases hal with rfl | rfl <;> exact hb
    have hset := heap_set (o' := .mapIter (some b) since (seen.push e.born) clock) hr1
    have hb' : (ChangeMaps.setBlock w1 r (.mapIter (some b) since (seen.push e.born) clock)).heap[b]? = some (.map es clock) := (hset.2 b hbr).trans hb1
    have hen := run_entry_at (P := Try.prog) _ r b since seen es clock e hset.1 hb' hem hn
    rw [hk] at hrun hen
    refine .inr ⟨decP (gE e), _, hrun, ⟨es, clock, since, seen.push e.born, clock, hb', hset.1, hn, hold, hsk, hsk, hdec, ?_⟩, ?_, ?_, hen⟩
    · rw [hL', List.append_assoc]
      exact (List.Perm.append_left done (hout.map fun e => decP (gE e)).symm).trans hperm
    · rcases hal with rfl | rfl <;> exact ⟨rfl, rfl, rfl, by simp [ChangeMaps.setBlock], fun i _ hi => hset.2 i (fun e1 => hi (by rw [e1]))⟩
    · rcases hal with rfl | rfl <;> simp [ChangeMaps.setBlock]
end Go.Proofs.Ytmbgcphiigmdjaa
