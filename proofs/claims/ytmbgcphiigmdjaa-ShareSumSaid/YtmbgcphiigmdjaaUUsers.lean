/-
  All users, rising, by the program.
-/
import Derived.Test.YtmbgcphiigmdjaaUAlive
import Derived.Test.YtmbgcphiigmdjaaSIterZ
import Derived.Test.YtmbgcphiigmdjaaSSortM
import Derived.Shelf.SlIter.Nil
import Derived.Shelf.SortM.Plain
import Derived.Shelf.SortM.SortNone
import Derived.WideKeyRuns
namespace Go.Proofs.Ytmbgcphiigmdjaa
open Go.RowKit Go.Maps Go.MapKept Ss Ds

/-- All names, rising. -/
def namesS (M : List Usr) : List Str := (M.map Prod.fst).mergeSort fun x y => decide (x ≤ y)
theorem names_perm (M : List Usr) : (namesS M).Perm (M.map Prod.fst) := List.mergeSort_perm _ _
theorem names_len (M : List Usr) : (namesS M).length = M.length := by rw [(names_perm M).length_eq, List.length_map]
/-- Names, as cells. -/
def SV (ns : List Str) : List Value := ns.map fun s => .string (str s)
theorem SV_len (ns : List Str) : (SV ns).length = ns.length := List.length_map _
abbrev TStr : TypeId := 9
def OwnS (w : World) (base : Nat) (v : Value) (ns : List Str) : Prop := w.ownsRow base TStr 1 v ns.length (SV ns)
theorem OwnS.shape {w : World} {base : Nat} {v : Value} {ns : List Str} (h : OwnS w base v ns) : ∃ A cap, v = .slice A ns.length cap ∧ ns.length ≤ cap ∧ cap ≤ maxLen ∧ SegC w w.heap.size A (SV ns) := ownsRow_shape h
/-- How an entry's value reads: as anything. -/
def RAny : Value → Option (DataW Unit × List MemPlace) := fun _ => some (.lit (.bool true), [])
theorem keyOf_str {s : Str} (h : s.length ≤ maxLen) : keyOf Try.prog TStr (.string (str s)) = some (.string s) := by
  have hz : (str s).size ≤ maxLen := by rw [str_size]; exact h
  simp [keyOf, Try.underlying9, mapKey, hz]
  simp [str]
set_option maxRecDepth 100000 in
theorem SM.owns {w : World} {b : Nat} {L : List (Str × Value)} (h : SM w b L) (hl : L.length ≤ maxLen) (hx : ∀ x ∈ L, x.1.length ≤ maxLen) : ∃ D : DataW Unit, w.ownsMap Try.prog TStr RAny b L.length D ∧ (strKeys D).Perm (L.map Prod.fst) ∧ Maps.size D = L.length := by
  obtain ⟨es, clock, hb, hs, he⟩ := h
  have hlen := congrArg List.length he
  rw [List.length_map, List.length_map, Array.length_toList] at hlen
  have hkey : ∀ x ∈ es.toList, ∃ y, y ∈ L ∧ x.key = .string (str y.1) ∧ keyOf Try.prog TStr x.key = some (.string y.1) := fun x hx1 => by
    have hm := List.mem_map_of_mem (f := gE) hx1
    rw [he] at hm
    obtain ⟨y, hy, e2⟩ := List.mem_map.1 hm
    have e3 : Value.string (str y.1) = x.key := congrArg Prod.fst e2
    refine ⟨y, hy, e3.symm, ?_⟩
    rw [← e3]
    exact keyOf_str (hx y hy)
  have hread : ∀ x ∈ es.toList, ∀ y ∈ L, x.key = .string (str y.1) → WideElems.rd Try.prog TStr RAny x = some (.string y.1, .lit (.bool true)) := fun x hx1 y hy e => by
    obtain ⟨z, _, e1, e2⟩ := hkey x hx1
    have : z.1 = y.1 := by rw [e1] at e; injection e with e; exact str_inj e
    unfold WideElems.rd RAny
    rw [e2, this]; rfl
  have F : WideElems.Fit Try.prog TStr RAny es clock := ⟨by omega, hs, fun x hx1 => by
    obtain ⟨y, hy, e1, _⟩ := hkey x hx1
    exact ⟨_, hread x hx1 y hy e1⟩⟩
  refine ⟨_, ⟨es, clock, hb, F, by omega, rfl⟩, ?_, ?_⟩
  · show (((es.toList.map (WideElems.rg Try.prog TStr RAny)).foldr DataW.insert []).map fun p => strOf p.1).Perm (L.map Prod.fst)
    refine ((WideShapes.sorted_perm _).map _).trans ?_
    rw [List.map_map]
    have : es.toList.map ((fun p : Lit × DataW Unit => strOf p.1) ∘ WideElems.rg Try.prog TStr RAny) = L.map Prod.fst := by
      apply List.ext_getElem
      · rw [List.length_map, List.length_map, Array.length_toList, hlen]
      · intro j h1 h2
        rw [List.getElem_map, List.getElem_map]
        have h3 : j < es.toList.length := by simpa using h1
        have h4 : j < L.length := by simpa using h2
        have e4 : (es.toList.map gE)[j]'(by simpa using h3) = (L.map hE)[j]'(by simpa using h4) := by simp only [he]
        rw [List.getElem_map, List.getElem_map] at e4
        have e5 : es.toList[j].key = .string (str L[j].1) := congrArg Prod.fst e4
        have e6 := WideElems.rg_of (hread _ (List.getElem_mem h3) _ (List.getElem_mem h4) e5)
        rw [Function.comp, e6]
        rfl
    rw [this]
  · show ((es.toList.map (WideElems.rg Try.prog TStr RAny)).foldr DataW.insert []).length = _
    rw [length_sorted, List.length_map, Array.length_toList, hlen]
set_option maxRecDepth 100000 in
/-- slices.Sort's two contracts at this dump, at the fence that asks nothing. -/
theorem sortsZ (m : Nat) : AnyZ.SortsIn Try.prog Try.sortedZ_ren Fence.wide m :=
  ⟨fun blk off cap ss W hH hblk hsz => callsIn_wide.2 (Try.slices_Sort_string blk off cap ss W hH hblk hsz),
   fun p cap W => callsIn_wide.2 (Try.slices_Sort_string_none p cap W)⟩
abbrev keysV (w : World) : Value := .func (.func 60) #[] #[.pointer (some ⟨w.heap.size, 0, none⟩)]
set_option maxRecDepth 100000 in
theorem Keys_any (mb : Option Nat) (w : World) : Calls Try.prog 40 #[.map mb] w fun e w' => e = .returned (keysV w) ∧ w' = w.alloc (.cells #[.map mb] TMap) :=
  (callsIn_wide (n := 5)).1 (AnyZ.keys_in Try.keysZ Fence.wide 5 trivial rfl mb w)
/-- Names of the call's own, from a base on. -/
def NamesFrom (w : World) (B : Nat) (l : List Str) (e : Ending) (w' : World) : Prop := ∃ v, e = .returned v ∧ OwnS w' B v l ∧ Below w.heap.size w w'
set_option maxRecDepth 100000 in
/-- The keys, sorted: w is the world ahead of the call of maps.Keys. -/
theorem Sorted_any (b : Nat) (L : List (Str × Value)) (w : World) (h : SM w b L) (hl : L.length ≤ 1024) (hx : ∀ x ∈ L, x.1.length ≤ maxLen) :
    Calls Try.prog 39 #[keysV w] (w.alloc (.cells #[.map (some b)] TMap)) (NamesFrom (w.alloc (.cells #[.map (some b)] TMap)) (w.heap.size + 1) ((L.map Prod.fst).mergeSort fun x y => decide (x ≤ y))) := by
  have hbl := h.lt
  obtain ⟨D0, hown, hperm, hsize⟩ := h.owns (by unfold maxLen; omega) hx
  have hseq : SeqGives Fence.wide 2 Try.prog 60 #[.pointer (some ⟨w.heap.size, 0, none⟩)] encStr (fun ss => ss.Perm (strKeys D0)) (Maps.size D0) (w.alloc (.cells #[.map (some b)] TMap)) :=
    AnyZ.keys_gives (ρ := Try.keysZ_ren) { Try.keysZ with } Fence.wide _ trivial rfl (by omega) w.heap.size b L.length D0 _ (by simp) (by simp) (by
      obtain ⟨es, clock, hb, Ft, hs, hD⟩ := hown
      exact ⟨es, clock, (Below.heap_alloc _ _ b hbl).trans hb, Ft, hs, hD⟩)
  have cS := AnyZ.sorted_in Try.sortedZ Fence.wide 5 trivial trivial trivial trivial rfl (by omega) (sortsZ _) (enters_of Try.func59 (by kernel_rfl) rfl) 60 #[.pointer (some ⟨w.heap.size, 0, none⟩)] trivial (enters_of Try.func60 (by kernel_rfl) rfl) _ _ (by rw [hsize]; unfold maxLen; omega) (by rw [hsize]; omega) _ hseq
  change CallsIn _ _ Try.prog 39 _ _ _ at cS
  refine (callsIn_wide.1 cS).mono ?_
  rintro e w' ⟨v, ss, rfl, hS, hrow, hnil, hb⟩
  have hsl : ss.mergeSort (fun x y => decide (x ≤ y)) = (L.map Prod.fst).mergeSort fun x y => decide (x ≤ y) := mergeSort_of_perm (hS.trans hperm)
  refine ⟨v, rfl, ?_, hb⟩
  have hlen : ss.length = ((L.map Prod.fst).mergeSort fun x y => decide (x ≤ y)).length := by rw [← hsl, List.length_mergeSort]
  rw [hsl, hlen] at hrow
  unfold OwnS
  rw [← World.size_alloc w (.cells #[.map (some b)] TMap)]
  exact hrow
set_option maxRecDepth 100000 in
set_option maxHeartbeats 4000000 in
theorem Users_any {w : World} {p m : Nat} {h : Int} {M : List Usr} (l : LB w p m h M) (hh : halfB h) (hg : Good M) :
    Calls Try.prog 23 #[.pointer (some ⟨p, 0, none⟩)] w (NamesFrom w w.heap.size (namesS M)) := by
  have hr := made_any l hh
  have hk := Keys_any (some m) w
  have hs := Sorted_any m (UL M) w l.2 (by rw [UL_len]; exact hg.len) (fun x hx => by
    obtain ⟨y, hy, rfl⟩ := List.mem_map.1 hx
    have := (hg.each y hy).2.1
    show y.1.length ≤ maxLen
    unfold maxLen
    omega)
  have hm : (UL M).map Prod.fst = M.map Prod.fst := by unfold UL; rw [List.map_map]; rfl
  rw [hm] at hs
  obtain ⟨c0, c1, _, _⟩ := l.cells
  have hp := l.lt.1
  have hb := fhid ((Below.refl w.heap.size w).alloc (Nat.le_refl _) (.cells #[.map (some m)] TMap))
  clear l
  unfold namesS
  generalize ((M.map Prod.fst).mergeSort fun x y => decide (x ≤ y)) = ns at *
  go_enter Try.func23, Try.ntmps23
  go_wp2_with (first
    | (go_at_call 38; (with_reducible refine hr.mono ?_); rintro e w1 ⟨rfl, rfl⟩)
    | (go_at_call 40; (with_reducible refine hk.mono ?_); rintro e w2 ⟨rfl, rfl⟩)
    | (go_at_call 39; (with_reducible refine hs.mono ?_); rintro e w3 ⟨v, rfl, o3, b3⟩))
  go_ret
  exact ⟨_, rfl, ownsRow_base o3 (by omega), hb.out.trans (b3.mono (by rw [World.size_alloc]; omega))⟩
end Go.Proofs.Ytmbgcphiigmdjaa
