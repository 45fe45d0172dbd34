/-
  Whether a job is come to again from its own jobs, by the program.
-/
import Derived.Test.YtpelmclgkkhjeaaDoorDRLoop
import Derived.Test.YtpelmclgkkhjeaaDoorDSeen
namespace Go.Proofs.YtpelmclgkkhjeaaDoor
open Go.RowKit

abbrev zeroDep : Value := .agg #[.bool false, .slice none 0 0]
theorem zeroDep_run (w : World) : (zeroValue 33).run Tryd.prog w = .ok zeroDep w := by kernel_rfl
/-- The map in block b has each of these jobs once, with what it waits for, in blocks below B. -/
def DM (w : World) (b B : Nat) (vs : List (Int × Value)) (l : List Dp) : Prop := IMap w b vs ∧ vs.length = l.length ∧ ∀ k (h : k < l.length), ∃ A c, vs[k]? = some (l[k].1, .agg #[.bool l[k].2.1, .slice A l[k].2.2.length c]) ∧ Its w B A l[k].2.2
theorem DM.below {w w' : World} {b B : Nat} {vs : List (Int × Value)} {l : List Dp} (h : DM w b B vs l) (hb : Below B w w') (hB : b < B) : DM w' b B vs l := by
  obtain ⟨h1, h2, h3⟩ := h
  refine ⟨h1.below hb hB, h2, fun k hk => ?_⟩
  obtain ⟨A, c, e, i⟩ := h3 k hk
  exact ⟨A, c, e, i.below hb⟩
theorem look_at {α : Type} {g : List (Int × α)} (hn : (g.map fun e => e.1).Nodup) {k : Nat} {x : Int} {v : α} (h : g[k]? = some (x, v)) : look g x = some v := by
  induction g generalizing k with
  | nil => simp at h
  | cons y r ih =>
    rw [List.map_cons, List.nodup_cons] at hn
    cases k with
    | zero =>
      have e : y = (x, v) := by simpa using h
      subst e
      exact if_pos rfl
    | succ k =>
      have h' : r[k]? = some (x, v) := by simpa using h
      have hne : ¬ y.1 = x := fun e => hn.1 (by rw [e]; exact List.mem_map.2 ⟨(x, v), List.mem_of_getElem? h', rfl⟩)
      exact (if_neg hne).trans (ih hn.2 h')
theorem look_no {α : Type} {g : List (Int × α)} {x : Int} (h : ∀ e ∈ g, e.1 ≠ x) : look g x = none := by
  induction g with
  | nil => rfl
  | cons y r ih => exact (if_neg (h y (by simp))).trans (ih fun e he => h e (by simp [he]))
theorem uq_nil : uq [] = [] := by
  unfold uq
  rw [uq_ins]
  rfl
/-- What a look-up comes to. -/
theorem DM.at_ {w : World} {b B : Nat} {vs : List (Int × Value)} {l : List Dp} (h : DM w b B vs l) (hn : (l.map fun d => d.1).Nodup) (hx : ∀ d ∈ l, d.2.2.length ≤ 1000 ∧ ∀ x ∈ d.2.2, x.2.length ≤ 1000) (x : Int) :
    ∃ (any : Bool) (its : List Itm) (A : Option Addr) (c : Nat), (look vs x).getD zeroDep = .agg #[.bool any, .slice A its.length c] ∧ Its w B A its ∧ its.length ≤ 1000 ∧ (∀ y ∈ its, y.2.length ≤ 1000) ∧ uq its = edges (grp l) x := by
  obtain ⟨_, hl, hk⟩ := h
  have hmap : vs.map (fun e => e.1) = l.map fun d => d.1 := by
    apply List.ext_getElem
    · rw [List.length_map, List.length_map, hl]
    · intro k h1 h2
      rw [List.length_map] at h1 h2
      obtain ⟨A, c, e, _⟩ := hk k h2
      rw [List.getElem_map, List.getElem_map]
      rw [List.getElem?_eq_getElem h1] at e
      rw [Option.some.inj e]
  by_cases hex : ∃ k, ∃ hk : k < l.length, l[k].1 = x
  · obtain ⟨k, hkl, e⟩ := hex
    obtain ⟨A, c, e2, hI⟩ := hk k hkl
    obtain ⟨x1, x2⟩ := hx l[k] (List.getElem_mem hkl)
    subst e
    refine ⟨l[k].2.1, l[k].2.2, A, c, ?_, hI, x1, x2, ?_⟩
    · rw [look_at (by rw [hmap]; exact hn) e2]; rfl
    · rw [edges_at hn hkl]
      exact uq_ins _
  · refine ⟨false, [], none, 0, ?_, Its.nil _ _ _, by simp, (fun y hy => by cases hy), ?_⟩
    · rw [look_no (x := x)]
      · rfl
      · intro e he h1
        obtain ⟨k, hk1, e2⟩ := List.getElem_of_mem he
        rw [hl] at hk1
        obtain ⟨A, c, e3, _⟩ := hk k hk1
        rw [List.getElem?_eq_getElem (by rw [hl]; exact hk1)] at e3
        have e4 := Option.some.inj e3
        exact hex ⟨k, hk1, by rw [← h1, ← e2, e4]⟩
    · rw [uq_nil, edges_none fun k hk1 e => hex ⟨k, hk1, e⟩]
/-- A row of the call's own, its last number left out. -/
theorem own_short {w : World} {base : Nat} {A : Option Addr} {n c : Nat} {ns : List Int} {z : Int} (h : OwnI w base (.slice A n c) (ns ++ [z])) : OwnI w base (.slice A (n - 1) c) ns ∧ n = ns.length + 1 := by
  obtain ⟨hl, hor⟩ := h
  have hN : (ns ++ [z]).length = ns.length + 1 := by simp
  rcases hor with ⟨e, hz⟩ | ⟨g, cap, cur, e, hg, hh, hle, hcm, hsz, ht⟩
  · rw [hN] at hz; omega
  · injection e with e1 e2 e3
    rw [hN] at e2
    subst e1 e3
    refine ⟨⟨by rw [IV_len, Nat.mul_one], .inr ⟨g, c, cur, by rw [e2]; rfl, hg, hh, by rw [hN] at hle; omega, hcm, hsz, ?_⟩⟩, e2⟩
    have := congrArg (List.take ns.length) ht
    rw [List.take_take, hN, IV_app, Nat.mul_one, show min ns.length (ns.length + 1) = ns.length by omega, List.take_left' (IV_len ns)] at this
    rw [Nat.mul_one]
    exact this
theorem OwnI.other {w w' : World} {base : Nat} {v : Value} {ns : List Int} (h : OwnI w base v ns) (hk : ∀ g, base ≤ g → g < w.heap.size → w'.heap[g]? = w.heap[g]?) : OwnI w' base v ns := by
  refine ⟨h.1, ?_⟩
  rcases h.2 with ⟨rfl, hn⟩ | ⟨g, cap, cur, rfl, hg, hh, rest⟩
  · exact .inl ⟨rfl, hn⟩
  · exact .inr ⟨g, cap, cur, rfl, hg, (hk g hg (lt_of_block hh)).trans hh, rest⟩
/-- Where the search is. -/
def PRel (w : World) (_b : Nat) (_vs : List (Int × Value)) (l : List Dp) (a : Int) (v : Value) (wr : World) : Prop := ∃ S O : List Int, OwnI wr (w.heap.size + 1) v O ∧ O.length ≤ 9000000 ∧ KMap wr w.heap.size S ∧ S.Nodup ∧ Dfs (grp l) a S O ∧ Below w.heap.size w wr ∧ w.heap.size + 1 ≤ wr.heap.size ∧ O.length + 400 * (((grp l).flatMap fun e => e.2).length - S.length) ≤ 9000000
def lenV : Value → Nat | .slice _ n _ => n | _ => 0
theorem below_map {w w' : World} {b B : Nat} (h : w.grownBy w' (some b)) (hB : B ≤ b) (hb : B ≤ w.heap.size) : Below B w w' :=
  ⟨h.os, h.tape, h.output, h.size, fun k hk => h.block k (by omega) (by intro e; injection e with e; omega)⟩
set_option maxRecDepth 100000 in
set_option maxHeartbeats 8000000 in
theorem pLoop_any (l : List Dp) (b : Nat) (vs : List (Int × Value)) (a : Int) (w : World) (hD : DM w b w.heap.size vs l) (hb : b < w.heap.size) (hn : (l.map fun d => d.1).Nodup) (hx : ∀ d ∈ l, d.2.2.length ≤ 1000 ∧ ∀ x ∈ d.2.2, x.2.length ≤ 1000) (hG : ((grp l).flatMap fun e => e.2).length ≤ 20000) (hE : ∀ x, (edges (grp l) x).length ≤ 400) :
    Calls Tryd.prog 7 #[.map (some b), .int .i64 a] w (LoopPost w l a) := by
  have hmm := @run_makeMap Tryd.prog
  have hat := fun (W : World) (h : Below w.heap.size w W) x => (hD.below h hb).at_ hn hx x
  have hIm := fun (W : World) (h : Below w.heap.size w W) => (hD.below h hb).1
  have m0 : KMap (w.alloc (.map #[] 0)) w.heap.size [] := KMap.new w
  have g0 : Below w.heap.size w (w.alloc (.map #[] 0)) := (Below.refl _ _).alloc (Nat.le_refl _) _
  have z0 := World.size_alloc w (.map #[] 0)
  replace hat := fhid hat
  replace hIm := fhid hIm
  replace hE := fhid hE
  replace hx := fhid hx
  replace hn := fhid hn
  clear hD
  go_enter Tryd.func7, Tryd.ntmps7
  go_upto_region 2 with fail
  generalize w.alloc _ = w1 at *
  obtain ⟨any, its, A0, c0, hlk, hI, l1, l2, hu⟩ := hat.out w1 g0 a
  have hjb := Jobs_any any its A0 c0 w1 (hI.more (by omega)) l1 l2
  rw [hu] at hjb
  replace hlk := fhid hlk
  replace m0 := fhid m0
  replace z0 := fhid z0
  clear hI hu hmm
  go_wp2_with (first
    | (at_lookup; refine imap_look rfl _ _ 23 3 33 rfl Tryd.underlying23 Tryd.underlying3 zeroDep (zeroDep_run _) b vs rfl (hIm.out w1 g0) a rfl ?_; rw [hlk.out])
    | (go_at_call 13; (with_reducible refine hjb.mono ?_); rintro e w2 ⟨v2, rfl, o2, b2⟩))
  have g2 := g0.trans (b2.mono g0.size)
  have hs2 := b2.size
  have hz0 := z0.out
  have m2 := m0.out.below b2 (by omega)
  rw [hz0] at o2
  replace o2 := fhid o2
  replace m2 := fhid m2
  go_loopw [6] (fun v wr => PRel w b vs l a v wr) (fun v wr => (20001 - mapLen wr w.heap.size) * 401 + lenV v)
  case atStart => exact ⟨[], edges (grp l) a, o2.out, by have := hE.out a; omega, m2.out, List.nodup_nil, Dfs.start, g2, by omega, by have := hE.out a; rw [List.length_nil]; omega⟩
  case round =>
    clear o2 m2 g2 hjb hlk b2
    obtain ⟨S, O, hO, hOl, hM, hSn, hF, hB, hzw, hbud⟩ := hrel
    have hzB := hB.size
    have hlenM := hM.mapLen
    have hEa := hE.out
    rename World => wo
    rcases List.eq_nil_or_concat O with rfl | ⟨O1, j, rfl⟩
    · have hd := fhid hF.done
      obtain ⟨Av, cv, rfl, _, _, _⟩ := hO.shape
      clear hF hO hlenM hbud hOl
      replace hM := fhid hM
      simp only [List.length_nil]
      go_wp2_with fail
      go_ret
      exact ⟨false, rfl, ⟨(by intro h; cases h), fun h => absurd h hd.out⟩, hB⟩
    · rw [List.concat_eq_append] at *
      have hlO : (O1 ++ [j]).length = O1.length + 1 := by simp
      obtain ⟨Av, cv, rfl, hv1, hv2, hvi⟩ := hO.shape
      obtain ⟨hO1, _⟩ := own_short hO
      have hjc := Ints.at_ hvi (k := O1.length) (by rw [hlO]; omega)
      obtain ⟨bo, oo, rfl, hbo, hco⟩ := hjc
      rw [List.getElem_append_right (Nat.le_refl _)] at hco
      simp only [Nat.sub_self, List.getElem_cons_zero] at hco
      rw [hlO] at hO1 hv1 hOl hbud ⊢
      rw [show O1.length + 1 - 1 = O1.length by omega] at hO1
      have i0 : (0 : Int) < (O1.length : Int) + 1 := by omega
      have i2 : (0 : Int) ≤ O1.length := by omega
      have i3 : (O1.length : Int) < (O1.length : Int) + 1 := by omega
      have i4 : (O1.length : Int) ≤ cv := by omega
      have i5 : (O1.length : Int) + 1 ≤ cv := by omega
      have i6 : (O1.length : Int) ≤ 9000000 := by omega
      have hfd : j = a → From (grp l) a a := fun e => by subst e; exact hF.found
      have hsk := fun (h : j ∈ S) => hF.skip h
      have hpu := fun (h : j ≠ a) => hF.push h
      have hroom := fun (h : j ∉ S) => hF.room hSn h
      clear hO hvi hlO hF
      have hMk := fhid (fun (W : World) (h : W.heap[w.heap.size]? = wo.heap[w.heap.size]?) => hM.keep (w' := W) h)
      have hMl := hM.lt
      by_cases hja : j = a
      · have e1 : (j == a) = true := beq_iff_eq.2 hja
        have hX := fhid (hfd hja)
        clear hja hfd hsk hpu hroom hM hlenM
        go_wp2_with fail
        go_ret
        exact ⟨true, rfl, ⟨fun _ => hX.out, fun _ => rfl⟩, hB⟩
      · have e1 : (j == a) = false := beq_eq_false_iff_ne.2 hja
        have hpu2 := fhid (hpu hja)
        clear hja hfd hpu
        replace hO1 := fhid hO1
        replace hM := fhid hM
        by_cases hjS : j ∈ S
        · have hd : decide (j ∈ S) = true := decide_eq_true hjS
          have hF2 := fhid (hsk hjS)
          clear hjS hsk hroom hpu2
          go_wp2_with (at_lookup; refine kmap_look rfl _ _ rfl w.heap.size S rfl (hMk.out _ rfl) j rfl true hd ?_)
          go_roundw
          case rel => exact ⟨S, O1, OwnI.below hO1.out ((Below.refl _ _).alloc (Nat.le_refl _) _), by omega, hM.out.below ((Below.refl _ _).alloc (Nat.le_refl _) _) hMl, hSn, hF2.out, hB.alloc hzB _, by rw [World.size_alloc]; omega, by omega⟩
          case measure =>
            have hk := (hM.out.below (w' := wo.alloc (.cells #[] 53)) ((Below.refl _ _).alloc (Nat.le_refl _) _) hMl).mapLen
            rw [hlenM, hk]
            show _ + O1.length < _ + (O1.length + 1)
            omega
        · have hd : decide (j ∈ S) = false := decide_eq_false hjS
          have hF2 := hpu2
          obtain ⟨hr1, hr2⟩ := hroom hjS
          have hr1' := hr1
          replace hr2 := fhid hr2
          replace hjS := fhid hjS
          clear hsk hroom hpu2
          have hEj := hEa j
          have bA : Below wo.heap.size wo (wo.alloc (.cells #[] 53)) := (Below.refl _ _).alloc (Nat.le_refl _) _
          have hAz := World.size_alloc wo (.cells #[] 53)
          replace hAz := fhid hAz
          go_wp2_with (first
            | (at_lookup; refine kmap_look rfl _ _ rfl w.heap.size S rfl (hMk.out _ rfl) j rfl false hd ?_)
            | (at_mapUpdate; refine kmap_put rfl _ _ _ rfl w.heap.size S rfl (hMk.out _ (Below.heap_alloc _ _ _ hMl)) j rfl rfl hjS.out ?_; intro w6 m6 g6 z6
               have bM := below_map (B := w.heap.size) g6 (Nat.le_refl _) (by have := hAz.out; omega)
               have g66 := (hB.alloc hzB (.cells #[] 53)).trans bM
               replace z6 := fhid z6
               obtain ⟨any2, its2, A2, c2, hlk, hI, n1, n2, hu⟩ := hat.out w6 g66 j
               replace hlk := fhid hlk
               have hjb := Jobs_any any2 its2 A2 c2 w6 (hI.more g66.size) n1 n2
               rw [hu] at hjb
               clear hI hu
               replace m6 := fhid m6
               have o6 := fhid ((OwnI.below hO1.out bA).other (w' := w6) fun g h1 h2 => g6.block g h2 (by intro e; injection e with e; omega)))
            | (at_lookup; refine imap_look rfl _ _ 23 3 33 rfl Tryd.underlying23 Tryd.underlying3 zeroDep (zeroDep_run _) b vs rfl (hIm.out w6 g66) j rfl ?_; rw [hlk.out])
            | (go_at_call 13; (with_reducible refine hjb.mono ?_); rintro e w7 ⟨v7, rfl, o7, b7⟩
               obtain ⟨A7, c7, rfl, _, _, n7⟩ := o7.shape)
            | (at_builtin; refine app_nums rfl _ _ rfl (w.heap.size + 1) _ O1 (edges (grp l) j) rfl (OwnI.below o6.out b7) w7.heap.size _ _ rfl n7 (by omega) (by have := z6.out; have := hAz.out; have := b7.size; omega) ?_; intro v8 w8 o8 b8))
          have m8 := (m6.out.below b7 (by have := z6.out; have := hAz.out; omega)).below b8 (Nat.lt_succ_self _)
          have g8 := (g66.trans (b7.mono g66.size)).trans (b8.mono (Nat.le_succ _))
          have hS1 : (S ++ [j]).length = S.length + 1 := by simp
          go_roundw
          case rel => exact ⟨S ++ [j], O1 ++ edges (grp l) j, o8, by rw [List.length_append]; omega, m8, hr2.out, hF2.out, g8, by have := b8.size; have := b7.size; have := z6.out; have := hAz.out; omega, by rw [List.length_append, hS1]; omega⟩
          case measure =>
            have hk := m8.mapLen
            rw [hS1] at hk
            obtain ⟨A8, c8, rfl, _, _, _⟩ := o8.shape
            rw [hlenM]
            show (20001 - mapLen w8 w.heap.size) * 401 + (O1 ++ edges (grp l) j).length < _ + (O1.length + 1)
            rw [hk, List.length_append]
            omega
end Go.Proofs.YtpelmclgkkhjeaaDoor
