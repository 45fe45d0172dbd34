/-
  Parts: USaveM USave ULoadM ULoad UGoesM ULGoes.
-/
import Derived.Test.YtmbgcphiigmdjaaU1
import Derived.Test.YtmbgcphiigmdjaaC2
import Derived.Test.YtmbgcphiigmdjaaU2
import Derived.Deep.RegionHeld3
set_option linter.unusedSimpArgs false
set_option linter.unusedVariables false
/-
  A ledger's bytes, as plain functions.
-/
namespace Go.Proofs.Ytmbgcphiigmdjaa
open Go.RowKit Ss Ds

def userB (x : Usr) : List UInt8 := Cs.tb x.1 ++ (Cs.nb x.2.1 ++ Cs.nb x.2.2)
def saveB (L : List Usr) : List UInt8 := Cs.nb (L.length : Int) ++ L.flatMap userB
/-- Its users, rising. -/
def useOf (M : List Usr) (s : Str) : Int × Int := (lookG s M).getD (0, 0)
def sortU (M : List Usr) : List Usr := (namesS M).map fun s => (s, useOf M s)
theorem sortU_len (M : List Usr) : (sortU M).length = M.length := by unfold sortU; rw [List.length_map, names_len]
theorem sortU_get (M : List Usr) {k : Nat} (hk : k < (namesS M).length) (h : k < (sortU M).length) : (sortU M)[k] = ((namesS M)[k], useOf M (namesS M)[k]) := by
  simp only [sortU, List.getElem_map]
theorem sortU_mem {M : List Usr} (hg : Good M) {x : Usr} (hx : x ∈ sortU M) : x ∈ M := by
  unfold sortU at hx
  obtain ⟨s, hs, rfl⟩ := List.mem_map.1 hx
  obtain ⟨y, hy, rfl⟩ := List.mem_map.1 ((names_perm M).mem_iff.1 hs)
  unfold useOf
  rw [mem_lookG hg.nodup hy]
  exact hy
theorem sortU_look {M : List Usr} (hg : Good M) {k : Nat} (hk : k < (namesS M).length) : lookG (namesS M)[k] M = some (useOf M (namesS M)[k]) := by
  obtain ⟨y, hy, he⟩ := List.mem_map.1 ((names_perm M).mem_iff.1 (List.getElem_mem hk))
  unfold useOf
  rw [← he, mem_lookG hg.nodup hy]
  rfl
theorem userB_len {x : Usr} (h : x.1.length ≤ 16 ∧ 0 ≤ x.2.1 ∧ x.2.1 ≤ 1152921504606846976 ∧ 0 ≤ x.2.2 ∧ x.2.2 ≤ 1099511627776) : (userB x).length ≤ 46 := by
  obtain ⟨h0, h1, h2, h3, h4⟩ := h
  have k1 := Cs.nb_ten (x.1.length : Int) (by omega) (by omega)
  have k2 := Cs.nb_ten x.2.1 (by omega) (by omega)
  have k3 := Cs.nb_ten x.2.2 (by omega) (by omega)
  unfold userB Cs.tb
  rw [List.length_append, List.length_append, List.length_append]
  omega
theorem flat_users {L : List Usr} (h : ∀ x ∈ L, x.1.length ≤ 16 ∧ 0 ≤ x.2.1 ∧ x.2.1 ≤ 1152921504606846976 ∧ 0 ≤ x.2.2 ∧ x.2.2 ≤ 1099511627776) : (L.flatMap userB).length ≤ 46 * L.length := by
  induction L with
  | nil => exact Nat.le_refl _
  | cons x r ih =>
    have h1 := userB_len (h x (List.mem_cons_self ..))
    have h2 := ih fun y hy => h y (List.mem_cons_of_mem _ hy)
    rw [List.flatMap_cons, List.length_append, List.length_cons]
    omega
theorem save_take {M : List Usr} (hg : Good M) (k : Nat) : (Cs.nb (M.length : Int) ++ ((sortU M).take k).flatMap userB).length ≤ 48000 := by
  have h1 := Cs.nb_ten (M.length : Int) (by omega) (by have := hg.len; omega)
  have h2 := flat_users (L := (sortU M).take k) fun x hx => by
    obtain ⟨_, a, b, c, d, e⟩ := hg.each x (sortU_mem hg (List.mem_of_mem_take hx))
    exact ⟨a, b, c, d, e⟩
  have h3 : ((sortU M).take k).length ≤ 1024 := by rw [List.length_take, sortU_len]; have := hg.len; omega
  rw [List.length_append]
  omega
theorem save_all (M : List Usr) : saveB (sortU M) = Cs.nb (M.length : Int) ++ ((sortU M).take (namesS M).length).flatMap userB := by
  unfold saveB
  rw [sortU_len, List.take_of_length_le (by rw [sortU_len, names_len]; exact Nat.le_refl _)]
theorem save_snoc (M : List Usr) {k : Nat} (hk : k < (namesS M).length) : ((sortU M).take (k + 1)).flatMap userB = ((sortU M).take k).flatMap userB ++ userB ((namesS M)[k], useOf M (namesS M)[k]) := by
  have h2 : k < (sortU M).length := by rw [sortU_len, ← names_len]; exact hk
  rw [List.take_succ_eq_append_getElem h2, List.flatMap_append, sortU_get M hk h2]
  simp
end Go.Proofs.Ytmbgcphiigmdjaa
/-
  A ledger's bytes, by the program.
-/
namespace Go.Proofs.Ytmbgcphiigmdjaa
open Go.RowKit Ss Ds

abbrev TWr : TypeId := 84
/-- What a writing call comes to: w is the world ahead of the slice that it is handed. -/
def WroteP (w : World) (g : Nat) (v : Value) (l : List UInt8) (e : Ending) (w' : World) : Prop := ∃ v', e = .returned (.tuple #[]) ∧ Cs.Wr w' g v' l ∧ Cs.Ext (some g) v w v' w'
theorem wr_own {W : World} {g : Nat} {v : Value} {l : List UInt8} (h : Cs.Wr W g v l) {b : Nat} (hb : v.ownBlock = some b) : b < W.heap.size := (h.2.lt b hb).2
theorem wr_int (g : Nat) (W : World) (v : Value) (l : List UInt8) (ns : List Int) (k : Nat) (hk : W.heap.size = k) (h : Cs.Wr W g v l) (hr : ∀ n ∈ ns, Cs.InR n) (hl : l.length + 10 * ns.length + 10 ≤ 140737488355328) :
    Calls Try.prog 41 #[.pointer (some ⟨g, 0, none⟩), .slice (some ⟨k, 0, none⟩) ns.length ns.length] (W.alloc (.cells (ns.map (.int .i64)).toArray 3)) (WroteP W g v (l ++ ns.flatMap Cs.nb)) := by
  subst hk
  have hb := (Below.refl W.heap.size W).alloc (Nat.le_refl _) (.cells (ns.map (.int .i64)).toArray 3)
  have hX := Box.new W 3 (ns.map (.int .i64))
  refine (Cs.Int_put g v l (some ⟨W.heap.size, 0, none⟩) ns ns.length _ (h.below hb) (fun h0 => ⟨W.heap.size, 0, rfl, Box.lt hX, fun j hj => ?_⟩) (fun _ a ha => ?_) hr hl).mono ?_
  · rw [Nat.zero_add]
    exact (Box.cell hX j).trans (List.getElem?_eq_getElem hj)
  · injection ha with ha
    subst ha
    refine ⟨?_, fun e => ?_⟩
    · show W.heap.size ≠ g
      have := h.lt
      omega
    · have := wr_own h e.symm
      simp at this
  · rintro e w' ⟨v', rfl, hw, he⟩
    exact ⟨v', rfl, hw, (Cs.Ext.ofBelow (some g) v hb).trans he⟩
theorem wr_text (g : Nat) (W : World) (v : Value) (l : List UInt8) (s : Str) (k : Nat) (hk : W.heap.size = k) (h : Cs.Wr W g v l) (hl : l.length + (Cs.tb s).length + 10 ≤ 140737488355328) :
    Calls Try.prog 42 #[.pointer (some ⟨g, 0, none⟩), .slice (some ⟨k, 0, none⟩) 1 1] (W.alloc (.cells #[.string (str s)] 9)) (WroteP W g v (l ++ Cs.tb s)) := by
  subst hk
  have hb := (Below.refl W.heap.size W).alloc (Nat.le_refl _) (.cells #[.string (str s)] 9)
  have hX := Box.new W 9 [.string (str s)]
  have hf : l ++ [s].flatMap Cs.tb = l ++ Cs.tb s := by simp
  rw [← hf]
  refine (Cs.Text_put g v l (some ⟨W.heap.size, 0, none⟩) [s] 1 _ (h.below hb) (fun h0 => ⟨W.heap.size, 0, rfl, Box.lt hX, fun j hj => ?_⟩) (fun _ a ha => ?_) (by simpa using hl) (by simp)).mono ?_
  · rw [Nat.zero_add]
    exact (Box.cell hX j).trans (List.getElem?_eq_getElem hj)
  · injection ha with ha
    subst ha
    refine ⟨?_, fun e => ?_⟩
    · show W.heap.size ≠ g
      have := h.lt
      omega
    · have := wr_own h e.symm
      simp at this
  · rintro e w' ⟨v', rfl, hw, he⟩
    exact ⟨v', rfl, hw, (Cs.Ext.ofBelow (some g) v hb).trans he⟩
theorem wr_int1 (g : Nat) (W : World) (v : Value) (l : List UInt8) (x : Int) (k : Nat) (hk : W.heap.size = k) (h : Cs.Wr W g v l) (hr : Cs.InR x) (hl : l.length ≤ 1000000) :
    Calls Try.prog 41 #[.pointer (some ⟨g, 0, none⟩), .slice (some ⟨k, 0, none⟩) 1 1] (W.alloc (.cells #[.int .i64 x] 3)) fun e w' => ∃ v', e = .returned (.tuple #[]) ∧ Cs.Wr w' g v' (l ++ Cs.nb x) ∧ Cs.Ext (some g) v W v' w' := by
  have := wr_int g W v l [x] k hk h (fun n hn => by rw [List.mem_singleton.1 hn]; exact hr) (by simp; omega)
  have e : [x].flatMap Cs.nb = Cs.nb x := by simp
  rw [e] at this
  exact this
theorem wr_int2 (g : Nat) (W : World) (v : Value) (l : List UInt8) (x y : Int) (k : Nat) (hk : W.heap.size = k) (h : Cs.Wr W g v l) (hr : Cs.InR x ∧ Cs.InR y) (hl : l.length ≤ 1000000) :
    Calls Try.prog 41 #[.pointer (some ⟨g, 0, none⟩), .slice (some ⟨k, 0, none⟩) 2 2] (W.alloc (.cells #[.int .i64 x, .int .i64 y] 3)) fun e w' => ∃ v', e = .returned (.tuple #[]) ∧ Cs.Wr w' g v' (l ++ (Cs.nb x ++ Cs.nb y)) ∧ Cs.Ext (some g) v W v' w' := by
  have := wr_int g W v l [x, y] k hk h (fun n hn => by
    rcases List.mem_cons.1 hn with rfl | hn
    · exact hr.1
    · rw [List.mem_singleton.1 hn]; exact hr.2) (by simp; omega)
  have e : [x, y].flatMap Cs.nb = Cs.nb x ++ Cs.nb y := by simp
  rw [e] at this
  exact this
/-- What Save comes to: bytes of the call's own. -/
def SavePost (w : World) (l : List UInt8) (e : Ending) (w' : World) : Prop := ∃ v, e = .returned v ∧ Cs.Own w' w.heap.size v l ∧ Below w.heap.size w w'
set_option maxRecDepth 100000 in
set_option maxHeartbeats 8000000 in
theorem Save_any {w : World} {p m : Nat} {h : Int} {M : List Usr} (l : LB w p m h M) (hh : halfB h) (hg : Good M) :
    Calls Try.prog 25 #[.pointer (some ⟨p, 0, none⟩)] w (SavePost w (saveB (sortU M))) := by
  have hm := made_any l hh
  have hus := fun W (l : LB W p m h M) => Users_any l hh hg
  have hsave := save_all M
  have hlen := save_take hg
  have hsn := fun k (hk : k < (namesS M).length) => save_snoc M hk
  have hlook := fun k (hk : k < (namesS M).length) => sortU_look hg hk
  have hml : (M.length : Int) ≤ 1024 := by have := hg.len; omega
  have hnl := names_len M
  generalize namesS M = ns at *
  have hpost := fhid (show ∀ W W' v, Below w.heap.size w W → Cs.Own W' W.heap.size v (saveB (sortU M)) → Below W.heap.size W W' → SavePost w (saveB (sortU M)) (.returned v) W' from fun W W' v hb ho hb2 => ⟨v, rfl, ownsRow_base ho hb.size, hb.trans (hb2.mono hb.size)⟩)
  rw [hsave] at hpost ⊢
  generalize SavePost w _ = Post at *
  have r0 := Cs.Wr.new w
  have B0 := (Below.refl w.heap.size w).alloc (Nat.le_refl _) (.cells #[.slice none 0 0] TWr)
  have l0 := l.below B0
  have hlw := fhid l
  clear l
  unfold NamesFrom at hus
  replace hsn := fhid hsn
  replace hlook := fhid hlook
  replace hlen := fhid hlen
  replace hsave := fhid hsave
  go_enter Try.func25, Try.ntmps25
  go_upto_region 4 with (go_at_call 38; (with_reducible refine hm.mono ?_); rintro e w2 ⟨rfl, rfl⟩)
  clear hm
  rename World => w
  generalize hW1 : w.alloc _ = w1 at *
  replace hW1 := fhid hW1
  obtain ⟨c0, c1, _, _⟩ := l0.cells
  have hp0 := l0.lt.1
  have hml2 := fun T => l0.2.len (M := TMap) (by kernel_rfl) T
  rw [UL_len] at hml2
  have hint1 := wr_int1 w.heap.size w1 (.slice none 0 0) [] (M.length : Int) _ rfl r0 (by unfold Cs.InR; omega) (by simp)
  rw [List.nil_append] at hint1
  replace l0 := fhid l0
  replace r0 := fhid r0
  replace B0 := fhid B0
  go_upto_region 5 with (go_at_call 41; (with_reducible refine hint1.mono ?_); rintro e w3 ⟨v3, rfl, r3, e3⟩)
  clear hint1 hml2 c0 c1 hp0
  have b1w := B0.out.size
  have hgw : w.heap.size < w1.heap.size := r0.out.lt
  have B3 : Below w.heap.size w w3 := B0.out.trans (e3.below b1w (fun b e => by injection e with e; omega) (fun b e => by simp [Value.ownBlock] at e))
  have hv3 : ∀ b, v3.ownBlock = some b → w.heap.size ≤ b ∧ b < w3.heap.size := fun b hb => ⟨by
    rcases e3.at_ with e | e | ⟨g, e, hg⟩
    · rw [e] at hb; simp [Value.ownBlock] at hb
    · rw [e] at hb; cases hb
    · rw [e] at hb
      injection hb with hb
      omega, wr_own r3 hb⟩
  have hg3 : w.heap.size < w3.heap.size := r3.lt
  have l3 := hlw.out.below B3
  have hu3 := hus w3 l3
  clear e3 r0 B0 hW1 hus l0
  replace l3 := fhid l3
  replace r3 := fhid r3
  replace B3 := fhid B3
  replace hv3 := fhid hv3
  go_upto_region 6 with (go_at_call 23; (with_reducible refine hu3.mono ?_); rintro e w5 ⟨v5, rfl, o5, b5⟩; obtain ⟨A5, c5, rfl, hnm⟩ := name_at2 o5; replace hnm := fhid hnm)
  have r5 := fhid (r3.out.below b5)
  have B5 := fhid (B3.out.trans (b5.mono B3.out.size))
  have z5 := fhid b5.size
  clear hu3 l3 r3 b5 o5
  go_loopw [20] (fun i wr => ∃ (k : Nat) (v : Value), k ≤ ns.length ∧ i = .int .i64 (k : Nat) ∧ Cs.Wr wr w.heap.size v (Cs.nb (M.length : Int) ++ ((sortU M).take k).flatMap userB) ∧ Cs.Ext (some w.heap.size) v3 w5 v wr) (fun i _ => ns.length - (intOf i).toNat)
  case atStart => exact ⟨0, v3, Nat.zero_le _, rfl, by simpa using r5.out, Cs.Ext.refl _ _ _⟩
  case round =>
    obtain ⟨k, v, hk, rfl, hw, he⟩ := hrel
    have k0 : (0 : Int) ≤ k := by omega
    have Br : Below w.heap.size w wr := B5.out.trans (he.below B5.out.size (fun b e => by injection e with e; omega) (fun b e => (hv3.out b e).1))
    by_cases hlt : k < ns.length
    · have k1 : (k : Int) < ns.length := by omega
      obtain ⟨b, o, rfl, hbb, hb, q0⟩ := hnm.out k hlt
      have q1 := (he.cell (a := ⟨b, o + k, none⟩) hb (by intro e; injection e with e; have e : b = w.heap.size := e; omega) (fun e => by have : b < w3.heap.size := (hv3.out _ e.symm).2; omega)).trans q0
      have hbr := Nat.lt_of_lt_of_le hb he.size
      have hst := hsn.out k hlt
      have hlo := hlook.out k hlt
      have hle := hlen.out k
      have hx := hg.each _ (lookG_mem hlo)
      generalize ns[k] = s at *
      generalize useOf M s = u at *
      obtain ⟨a, tm⟩ := u
      obtain ⟨_, s16, a0, a1, t0, t1⟩ := hx
      simp only at s16 a0 a1 t0 t1
      have lr := hlw.out.below Br
      have hlk := run_sm_look (w := wr) false Try.underlying59 Try.underlying9 (zeroUse _) lr.2 s
      rw [look_UL, hlo] at hlk
      obtain ⟨c0, c1, _, _⟩ := lr.cells
      have hp := lr.lt.1
      simp only [Option.map_some, Option.getD_some, Bool.false_eq_true, if_false] at hlk
      unfold useV at hlk
      simp only at hlk
      have hb6 := (Below.refl wr.heap.size wr).alloc (Nat.le_refl _) (.cells #[.int .i64 a, .int .i64 tm] TUse)
      have r6 := hw.below hb6
      have e6 := he.trans (Cs.Ext.ofBelow (some w.heap.size) v hb6)
      have X6 := Box.new wr TUse [.int .i64 a, .int .i64 tm]
      have hbox := fhid (show wr.heap.size ≠ w.heap.size ∧ some wr.heap.size ≠ v.ownBlock from ⟨by have := hw.lt; omega, fun e => by have := wr_own hw e.symm; omega⟩)
      have htb : (Cs.tb s).length ≤ 26 := by
        have := Cs.nb_ten (s.length : Int) (by omega) (by omega)
        unfold Cs.tb
        rw [List.length_append]
        omega
      clear lr hw he q0 hb6 Br
      replace X6 := fhid X6
      replace r6 := fhid r6
      replace e6 := fhid e6
      replace hst := fhid hst
      go_upto_region 9 with fail
      generalize wr.alloc _ = w6 at *
      generalize wr.heap.size = x at *
      clear hlk c0 c1 hp
      have htx := wr_text w.heap.size w6 v _ s _ rfl r6.out (Nat.le_trans (Nat.add_le_add_right (Nat.add_le_add hle htb) 10) (by decide))
      unfold WroteP at htx
      go_upto_region 10 with (go_at_call 42; (with_reducible refine htx.mono ?_); rintro e w7 ⟨v7, rfl, r7, e7⟩)
      have X7 := X6.out.keep (e7.block x X6.out.lt (by intro e; injection e with e; exact hbox.out.1 e) hbox.out.2)
      have x0 := X7.cell 0
      have x1 := X7.cell 1
      have xl := X7.lt
      simp only [List.getElem?_cons_zero, List.getElem?_cons_succ] at x0 x1
      have hin := wr_int2 w.heap.size w7 v7 _ a tm _ rfl r7 (by unfold Cs.InR; omega) (by rw [List.length_append]; omega)
      have e7' := fhid (e6.out.trans e7)
      clear htx X7 X6 r6 e6 e7
      replace r7 := fhid r7
      go_wp2_with (go_at_call 41; (with_reducible refine hin.mono ?_); rintro e w8 ⟨v8, rfl, r8, e8⟩; have r8 := fhid r8; have e8 := fhid e8)
      go_roundw
      case rel => exact ⟨k + 1, v8, by omega, by go_num, by rw [hst.out]; have := r8.out; simpa [userB] using this, e7'.out.trans e8.out⟩
      case measure => simp [intOf]; omega
    · obtain rfl : k = ns.length := by omega
      have k1 : ¬ ((ns.length : Int) < ns.length) := by omega
      have hle := hlen.out ns.length
      have hbt := Cs.Bytes_any w.heap.size v _ wr hw (Nat.le_trans hle (by decide))
      unfold Cs.Fresh at hbt
      replace hw := fhid hw
      replace he := fhid he
      replace Br := fhid Br
      go_wp2_with (go_at_call 43; (with_reducible refine hbt.mono ?_); rintro e w6 ⟨v6, rfl, o6, b6⟩)
      exact hpost.out _ _ _ Br.out o6 b6
end Go.Proofs.Ytmbgcphiigmdjaa
/-
  What bytes are read as, as plain functions.
-/
namespace Go.Proofs.Ytmbgcphiigmdjaa
open Go.RowKit Ss Ds

theorem drop_at {C P R : List UInt8} (h : C = P ++ R) : C.drop P.length = R := by
  subst h; exact List.drop_left
theorem in_put {C P R : List UInt8} {n low high : Int} (h : C = P ++ (Cs.nb n ++ R)) (h1 : -9223372036854775808 ≤ n) (h2 : n ≤ 9223372036854775807) (hl : low ≤ n) (hh : n ≤ high) (f : Int) :
    Cs.inStep C P.length 0 f low high = (n, (P ++ Cs.nb n).length, 0, f) := by
  have hr : Cs.numRes C P.length low high = (n, (P ++ Cs.nb n).length, 0, 0) := by
    unfold Cs.numRes
    rw [drop_at h, Cs.dec_nb n R h1 h2]
    simp only [Cs.unfold_fold]
    rw [if_neg (by omega), List.length_append]
  unfold Cs.inStep
  rw [hr]
  simp
/-- Where a reader is: its place, its fault. -/
abbrev St := Nat × Int × Int
def userR (b : List UInt8) (s : St) : Usr × St :=
  let t := Cs.textStep b s.1 s.2.1 s.2.2 16
  let a := Cs.inStep b t.2.1 t.2.2.1 t.2.2.2 0 1152921504606846976
  let c := Cs.inStep b a.2.1 a.2.2.1 a.2.2.2 0 1099511627776
  ((t.1, a.1, c.1), c.2)
/-- So many users more, behind the last name. -/
def loadR (b : List UInt8) : Nat → List Usr → Str → St → Option (List Usr × St)
  | 0, M, _, s => some (M, s)
  | k + 1, M, last, s => if (userR b s).1.1 ≤ last then none else loadR b k (putG (userR b s).1.1 (userR b s).1.2 M) (userR b s).1.1 (userR b s).2
def headL (b : List UInt8) : Int × St := Cs.inStep b 0 0 0 0 1024
def bodyL (b : List UInt8) : Option (List Usr × St) := loadR b (headL b).1.toNat [] [] (headL b).2
/-- What bytes are loaded to. -/
def loadP (b : List UInt8) : Option (List Usr) := match bodyL b with
  | none => none
  | some (M, s) => if (Cs.endStep b s.1 s.2.1 s.2.2).1 = 0 then some M else none
theorem text_put {C P R : List UInt8} {t : Str} {most : Int} (h : C = P ++ (Cs.tb t ++ R)) (ht : (t.length : Int) ≤ most) (h2 : most ≤ 9223372036854775807) (f : Int) :
    Cs.textStep C P.length 0 f most = (t, (P ++ Cs.tb t).length, 0, f) := by
  have h' : C = P ++ (Cs.nb (t.length : Int) ++ (t ++ R)) := by rw [h]; unfold Cs.tb; rw [List.append_assoc]
  have hr : Cs.numRes C P.length 0 most = ((t.length : Int), (P ++ Cs.nb (t.length : Int)).length, 0, 0) := by
    unfold Cs.numRes
    rw [drop_at h', Cs.dec_nb _ _ (by omega) (by omega)]
    simp only [Cs.unfold_fold]
    rw [if_neg (by omega), List.length_append]
  have hd : C.drop (P ++ Cs.nb (t.length : Int)).length = t ++ R := drop_at (P := P ++ Cs.nb (t.length : Int)) (by rw [h', List.append_assoc])
  have hlen : C.length = (P ++ Cs.nb (t.length : Int)).length + (t.length + R.length) := by
    rw [h']
    simp only [List.length_append]
    omega
  unfold Cs.textStep
  rw [hr]
  simp only
  rw [if_neg (by simp), if_neg (by simp), if_neg (by rw [hlen]; omega), hd, Int.toNat_natCast, List.take_left]
  refine Prod.ext rfl (Prod.ext ?_ rfl)
  simp [Cs.tb]
  omega
theorem user_put {C P R : List UInt8} {x : Usr} (hx : x.1.length ≤ 16 ∧ 0 ≤ x.2.1 ∧ x.2.1 ≤ 1152921504606846976 ∧ 0 ≤ x.2.2 ∧ x.2.2 ≤ 1099511627776) (h : C = P ++ (userB x ++ R)) (f : Int) : userR C (P.length, 0, f) = (x, (P ++ userB x).length, 0, f) := by
  obtain ⟨h0, h1, h2, h3, h4⟩ := hx
  obtain ⟨s, a, t⟩ := x
  simp only at h0 h1 h2 h3 h4
  unfold userB at h ⊢
  simp only at h ⊢
  unfold userR
  have q1 := text_put (C := C) (P := P) (R := Cs.nb a ++ (Cs.nb t ++ R)) (t := s) (most := 16) (by rw [h]; simp) (by omega) (by omega) f
  have q2 := in_put (C := C) (P := P ++ Cs.tb s) (R := Cs.nb t ++ R) (n := a) (low := 0) (high := 1152921504606846976) (by rw [h]; simp) (by omega) (by omega) h1 h2 f
  have q3 := in_put (C := C) (P := (P ++ Cs.tb s) ++ Cs.nb a) (R := R) (n := t) (low := 0) (high := 1099511627776) (by rw [h]; simp) (by omega) (by omega) h3 h4 f
  simp only [q1, q2, q3]
  simp
/-- Names that rise, each above the one ahead. -/
def Rise : Str → List Usr → Prop
  | _, [] => True
  | last, x :: r => last < x.1 ∧ Rise x.1 r
theorem load_put {C : List UInt8} : ∀ (L M : List Usr) (last : Str) (P : List UInt8) (f : Int), (∀ x ∈ L, x.1.length ≤ 16 ∧ 0 ≤ x.2.1 ∧ x.2.1 ≤ 1152921504606846976 ∧ 0 ≤ x.2.2 ∧ x.2.2 ≤ 1099511627776) → Rise last L → (∀ x ∈ M, x.1 ≤ last) → C = P ++ L.flatMap userB →
    loadR C L.length M last (P.length, 0, f) = some (M ++ L, C.length, 0, f)
  | [], M, last, P, f, _, _, _, h => by
    rw [List.flatMap_nil, List.append_nil] at h
    show some (M, P.length, 0, f) = _
    rw [List.append_nil, h]
  | x :: r, M, last, P, f, hx, hr, hm, h => by
    obtain ⟨h1, h2⟩ := hr
    rw [List.flatMap_cons] at h
    have hu := user_put (hx x (List.mem_cons_self ..)) h f
    show (if (userR C (P.length, 0, f)).1.1 ≤ last then none else loadR C r.length (putG (userR C (P.length, 0, f)).1.1 (userR C (P.length, 0, f)).1.2 M) (userR C (P.length, 0, f)).1.1 (userR C (P.length, 0, f)).2) = _
    rw [hu]
    simp only
    rw [if_neg (fun hle => absurd h1 (List.not_lt.2 hle))]
    have hput : putG x.1 x.2 M = M ++ [x] := by
      have hn : x.1 ∉ M.map Prod.fst := fun hmm => by
        obtain ⟨y, hy, e⟩ := List.mem_map.1 hmm
        have := hm y hy
        rw [e] at this
        exact absurd h1 (List.not_lt.2 this)
      clear hm hu
      induction M with
      | nil => rfl
      | cons y q ih =>
        rw [List.map_cons, List.mem_cons, not_or] at hn
        rw [putG, if_neg (Ne.symm hn.1), ih hn.2]
        rfl
    rw [hput, load_put r (M ++ [x]) x.1 (P ++ userB x) f (fun y hy => hx y (List.mem_cons_of_mem _ hy)) h2 (fun y hy => by
      rcases List.mem_append.1 hy with hy | hy
      · exact Std.le_of_lt (Std.lt_of_le_of_lt (hm y hy) h1)
      · rw [List.mem_singleton.1 hy]; exact List.le_refl _) (by rw [h, List.append_assoc]), List.append_assoc]
    rfl
theorem load_save {L : List Usr} (hl : L.length ≤ 1024) (hx : ∀ x ∈ L, x.1.length ≤ 16 ∧ 0 ≤ x.2.1 ∧ x.2.1 ≤ 1152921504606846976 ∧ 0 ≤ x.2.2 ∧ x.2.2 ≤ 1099511627776) (hr : Rise [] L) : loadP (saveB L) = some L := by
  have h0 : headL (saveB L) = ((L.length : Int), ([] ++ Cs.nb (L.length : Int)).length, 0, 0) := in_put (C := saveB L) (P := []) (R := L.flatMap userB) (by unfold saveB; rfl) (by omega) (by omega) (by omega) (by omega) 0
  have h1 : bodyL (saveB L) = some (L, (saveB L).length, 0, 0) := by
    unfold bodyL
    rw [h0]
    simp only [Int.toNat_natCast]
    exact load_put L [] [] ([] ++ Cs.nb (L.length : Int)) 0 hx hr (fun x hx => by cases hx) (by unfold saveB; simp)
  unfold loadP
  rw [h1]
  simp only
  have : Cs.endStep (saveB L) (saveB L).length 0 0 = (0, 0) := by unfold Cs.endStep; rw [if_neg (by omega)]
  rw [this, if_pos rfl]
theorem rise_sorted : ∀ (l : List Usr) (last : Str), (∀ x ∈ l, last < x.1) → (l.map Prod.fst).Pairwise (fun a b => a < b) → Rise last l
  | [], _, _, _ => trivial
  | x :: r, last, h, hp => by
    rw [List.map_cons, List.pairwise_cons] at hp
    exact ⟨h x (List.mem_cons_self ..), rise_sorted r x.1 (fun y hy => hp.1 y.1 (List.mem_map_of_mem (f := Prod.fst) hy)) hp.2⟩
theorem names_rise {M : List Usr} (hg : Good M) : (namesS M).Pairwise (fun a b => a < b) := by
  have hs : (namesS M).Pairwise fun x y => decide (x ≤ y) = true := List.pairwise_mergeSort (fun a b c h1 h2 => by simp only [decide_eq_true_eq] at *; exact List.le_trans h1 h2) (fun a b => by simp only [Bool.or_eq_true, decide_eq_true_eq]; exact List.le_total a b) _
  have hn : (namesS M).Pairwise fun a b => a ≠ b := (names_perm M).nodup_iff.2 hg.nodup
  refine List.Pairwise.imp₂ (fun a b h1 h2 => ?_) hs hn
  have h1 : a ≤ b := by simpa using h1
  rcases List.le_iff_lt_or_eq.1 h1 with h | h
  · exact h
  · exact absurd h h2
theorem sortU_keys (M : List Usr) : (sortU M).map Prod.fst = namesS M := by
  unfold sortU
  rw [List.map_map]
  conv => rhs; rw [← List.map_id (namesS M)]
  rfl
/-- A ledger's own bytes are loaded to its users, rising. -/
theorem load_own {M : List Usr} (hg : Good M) : loadP (saveB (sortU M)) = some (sortU M) :=
  load_save (by rw [sortU_len]; exact hg.len) (fun x hx => (hg.each x (sortU_mem hg hx)).2)
    (rise_sorted _ _ (fun x hx => by
      have := (hg.each x (sortU_mem hg hx)).1
      cases h : x.1 with
      | nil => exact absurd h this
      | cons a r => exact List.nil_lt_cons a r) (by rw [sortU_keys]; exact names_rise hg))
theorem sortU_perm {M : List Usr} (hg : Good M) : (sortU M).Perm M := by
  have h1 := (names_perm M).map fun s => (s, useOf M s)
  refine h1.trans ?_
  rw [List.map_map]
  have : M.map ((fun s => (s, useOf M s)) ∘ Prod.fst) = M := by
    conv => rhs; rw [← List.map_id M]
    refine List.map_congr_left fun x hx => ?_
    show (x.1, useOf M x.1) = x
    unfold useOf
    rw [mem_lookG hg.nodup hx]
    rfl
  rw [this]
end Go.Proofs.Ytmbgcphiigmdjaa
/-
  A ledger of bytes, by the program.
-/
namespace Go.Proofs.Ytmbgcphiigmdjaa
open Go.RowKit Ss Ds

theorem turns_grown {w w' : World} {g : Nat} (h : Cs.Turns w w' g) : w.grownBy w' (some g) := ⟨h.os, h.tape, h.output, h.size, fun k hk hx => h.block k hk (fun e => hx (by rw [e]))⟩
/-- A reader in block g, all of which lies from block B on. -/
def RdG (B : Nat) (w : World) (g : Nat) (l : List UInt8) (s : St) : Prop := Cs.Rdr w g l s.1 s.2.1 s.2.2 ∧ B ≤ g ∧ ∃ A cap, w.cell? ⟨g, 0, none⟩ = some (.slice A l.length cap) ∧ ∀ a, A = some a → B ≤ a.block
theorem RdG.lt {B : Nat} {w : World} {g : Nat} {l : List UInt8} {s : St} (h : RdG B w g l s) : g < w.heap.size := h.1.lt
theorem RdG.below {B : Nat} {w w' : World} {g : Nat} {l : List UInt8} {s : St} (h : RdG B w g l s) (hb : Below w.heap.size w w') : RdG B w' g l s := by
  obtain ⟨h1, h2, A, cap, h3, h4⟩ := h
  exact ⟨h1.below hb, h2, A, cap, (hb.cell (p := ⟨g, 0, none⟩) h1.lt).trans h3, h4⟩
theorem RdG.drew {B : Nat} {w : World} {g : Nat} {l : List UInt8} {s : St} (h : RdG B w g l s) : RdG B w.drew g l s := h.below ((Below.refl _ _).drew)
/-- A block below B turns. -/
theorem RdG.grown {B : Nat} {w w' : World} {g q : Nat} {l : List UInt8} {s : St} (h : RdG B w g l s) (hf : w.grownBy w' (some q)) (hq : q < B) : RdG B w' g l s := by
  obtain ⟨⟨A', cap', r1, r2, r3, r4, r5, r6⟩, h2, A, cap, h3, h4⟩ := h
  have hc := r1.c0
  rw [h3] at hc
  injection hc with hc
  injection hc with e1 _ e2
  subst e1 e2
  have hgb : w'.heap[g]? = w.heap[g]? := hf.block g r1.lt (by intro e; injection e with e; omega)
  refine ⟨⟨A, cap, hgb.trans r1, fun h0 => ?_, r3, r4, r5, r6⟩, h2, A, cap, (World.cell?_of_block hgb).trans h3, h4⟩
  obtain ⟨b, o, e, hb, hcl⟩ := r2 h0
  have hbB := h4 _ e
  refine ⟨b, o, e, Nat.lt_of_lt_of_le hb hf.size, fun j hj => ?_⟩
  exact (World.cell?_of_block (hf.block b hb (by intro e; injection e with e; have : B ≤ b := hbB; omega))).trans (hcl j hj)
/-- It has been read. -/
theorem RdG.turn {B : Nat} {w w' : World} {g : Nat} {l : List UInt8} {s s' : St} (h : RdG B w g l s) (hr : Cs.Rdr w' g l s'.1 s'.2.1 s'.2.2) (ht : Cs.Turns w w' g) : RdG B w' g l s' := by
  obtain ⟨h1, h2, A, cap, h3, h4⟩ := h
  exact ⟨hr, h2, A, cap, (ht.head h1.lt).trans h3, h4⟩
theorem rd_in {B : Nat} {w : World} {g : Nat} {l : List UInt8} {s : St} (low high : Int) {n : Int} {s' : St} (h : RdG B w g l s) (hs : Cs.inStep l s.1 s.2.1 s.2.2 low high = (n, s')) :
    Calls Try.prog 47 #[.pointer (some ⟨g, 0, none⟩), .int .i64 low, .int .i64 high] w fun e w' => e = .returned (.int .i64 n) ∧ RdG B w' g l s' ∧ w.grownBy w' (some g) := by
  refine (Cs.in_any g l s.1 s.2.1 s.2.2 low high w h.1).mono ?_
  rintro e w' ⟨he, hr, ht⟩
  rw [hs] at he hr
  exact ⟨he, h.turn hr ht, turns_grown ht⟩
theorem rd_text {B : Nat} {w : World} {g : Nat} {l : List UInt8} {s : St} (most : Int) {t : Str} {s' : St} (h : RdG B w g l s) (hs : Cs.textStep l s.1 s.2.1 s.2.2 most = (t, s')) :
    Calls Try.prog 48 #[.pointer (some ⟨g, 0, none⟩), .int .i64 most] w fun e w' => e = .returned (.string (str t)) ∧ RdG B w' g l s' ∧ w.grownBy w' (some g) := by
  refine (Cs.text_any g l s.1 s.2.1 s.2.2 most w h.1).mono ?_
  rintro e w' ⟨he, hr, ht⟩
  rw [hs] at he hr
  exact ⟨he, h.turn hr ht, turns_grown ht⟩
set_option maxHeartbeats 400000 in
/-- The call answers a reader of its own, all of which is new. -/
theorem newr_any (A : Option Addr) (l : List UInt8) (c : Nat) (w : World) (h : Cs.Seg w w.heap.size A l) (hl : l.length ≤ 140737488355328) :
    Calls Try.prog 46 #[.slice A l.length c] w fun e w' => ∃ g, e = .returned (.pointer (some ⟨g, 0, none⟩)) ∧ RdG w.heap.size w' g l (0, 0, 0) ∧ Below w.heap.size w w' := by
  have cl := Cs.Clone_any A l c w h hl
  clear h
  go_enter Try.func46, Try.ntmps46
  go_wp2_with (go_at_call 62; (with_reducible refine cl.mono ?_); rintro e w1 ⟨v1, rfl, o1, b1⟩; obtain ⟨A1, c1, rfl, hc1, _, s1⟩ := o1.shape)
  go_ret
  have hA : ∀ a, A1 = some a → w.heap.size ≤ a.block ∧ a.block < w1.heap.size := by
    rintro a rfl
    rcases o1.2 with ⟨hv, _⟩ | ⟨g, cap, cur, hv, hg, hh, _⟩
    · cases hv
    · injection hv with hA _ _
      injection hA with hA
      subst hA
      exact ⟨hg, (Array.getElem?_eq_some_iff.1 hh).1⟩
  have hX := Box.new w1 107 [.slice A1 l.length c1, .int .i64 0, .int .i64 0, .int .i64 0]
  refine ⟨w1.heap.size, rfl, ⟨⟨A1, c1, hX, ?_, hc1, ?_, Nat.zero_le _, hl⟩, b1.size, A1, c1, Box.cell hX 0, fun a ha => (hA a ha).1⟩, b1.alloc b1.size _⟩
  · rw [World.size_alloc]
    exact (s1.keep fun p hp => World.cell?_alloc_lt _ _ _ hp).more (by omega)
  · rintro a ha e
    have := (hA a ha).2
    omega
theorem less_str (s t : Str) : Op.bytesLess (str s).toList (str t).toList = decide (s < t) := by
  rw [bytesLess_eq, ByteArray.toList_eq, ByteArray.toList_eq]
  rfl
theorem same_str (s t : Str) : ((str s).toList == (str t).toList) = decide (s = t) := by
  rw [ByteArray.toList_eq, ByteArray.toList_eq, Bool.eq_iff_iff]
  simp [str]
theorem in_range (l : List UInt8) (a : Nat) (w f high : Int) (hh : 0 ≤ high) : 0 ≤ (Cs.inStep l a w f 0 high).1 ∧ (Cs.inStep l a w f 0 high).1 ≤ high := by
  unfold Cs.inStep
  split
  · exact ⟨Int.le_refl _, hh⟩
  · split
    · exact ⟨Int.le_refl _, hh⟩
    · simp only
      unfold Cs.numRes
      split
      · split
        · exact ⟨Int.le_refl _, hh⟩
        · simp only; omega
      · exact ⟨Int.le_refl _, hh⟩
      · exact ⟨Int.le_refl _, hh⟩
/-- What Load comes to. -/
def LoadPost (w : World) (h : Int) (b : List UInt8) (e : Ending) (w' : World) : Prop := Below w.heap.size w w' ∧
  ((¬ halfB h ∧ e = .returned (.tuple #[.pointer none, .int .i64 1])) ∨ (halfB h ∧ loadP b = none ∧ e = .returned (.tuple #[.pointer none, .int .i64 3])) ∨
   (halfB h ∧ ∃ M p m, loadP b = some M ∧ e = .returned (.tuple #[.pointer (some ⟨p, 0, none⟩), .int .i64 0]) ∧ w.heap.size ≤ p ∧ w.heap.size ≤ m ∧ LB w' p m h M))
set_option maxRecDepth 100000 in
set_option maxHeartbeats 16000000 in
theorem Load_any (h : Int) (A : Option Addr) (l : List UInt8) (cp : Nat) (w : World) (hs : Cs.Seg w w.heap.size A l) (hl : l.length ≤ 140737488355328) :
    Calls Try.prog 27 #[.int .i64 h, .slice A l.length cp] w (LoadPost w h l) := by
  by_cases hh : halfB h
  · have hnew := New_yes h w hh
    have hnr := fun W (hb : Below w.heap.size w W) => newr_any A l cp W ((hs.below hb).more hb.size) hl
    have hbad := fhid (show ∀ W, Below w.heap.size w W → loadP l = none → LoadPost w h l (.returned (.tuple #[.pointer none, .int .i64 3])) W from fun W hb he => ⟨hb, .inr (.inl ⟨hh, he, rfl⟩)⟩)
    have hgood := fhid (show ∀ W M p m, Below w.heap.size w W → loadP l = some M → w.heap.size ≤ p → w.heap.size ≤ m → LB W p m h M → LoadPost w h l (.returned (.tuple #[.pointer (some ⟨p, 0, none⟩), .int .i64 0])) W from fun W M p m hb he hp hm hL => ⟨hb, .inr (.inr ⟨hh, M, p, m, he, rfl, hp, hm, hL⟩)⟩)
    generalize LoadPost w h l = Post at *
    obtain ⟨n0, s0, hhd⟩ : ∃ n s, headL l = (n, s) := ⟨_, _, rfl⟩
    have hh' : Cs.inStep l 0 0 0 0 1024 = (n0, s0) := hhd
    obtain ⟨n00, n01⟩ := in_range l 0 0 0 1024 (by decide)
    rw [hh'] at n00 n01
    simp only at n00 n01
    have hbody : loadR l n0.toNat [] [] s0 = bodyL l := by unfold bodyL; rw [hhd]
    have hdef : loadP l = match bodyL l with
      | none => none
      | some (M, s) => if (Cs.endStep l s.1 s.2.1 s.2.2).1 = 0 then some M else none := rfl
    generalize bodyL l = BL at *
    obtain ⟨N, rfl⟩ : ∃ q : Nat, n0 = q := ⟨n0.toNat, by omega⟩
    rw [Int.toNat_natCast] at hbody
    replace hbody := fhid hbody
    replace hdef := fhid hdef
    clear hhd hs
    go_enter Try.func27, Try.ntmps27
    go_upto_region 4 with (go_at_call 10; (with_reducible refine hnew.mono ?_); rintro e w2 ⟨p, m, rfl, hwp, hwm, l2, B2⟩)
    have hpm := l2.lt
    clear hnew
    replace l2 := fhid l2
    go_upto_region 6 with (go_at_call 46; (with_reducible refine (hnr _ B2).mono ?_); rintro e w3 ⟨g, rfl, R3, b3⟩)
    have l3 := l2.out.below b3
    have hgB := R3.2.1
    have B3 := B2.trans (b3.mono B2.size)
    have hin0 := rd_in 0 1024 R3 hh'
    clear hnr l2 b3 hh'
    replace l3 := fhid l3
    replace R3 := fhid R3
    go_upto_region 7 with (go_at_call 47; (with_reducible refine hin0.mono ?_); rintro e w4 ⟨rfl, R4, f4⟩)
    have hgw : w.heap.size ≤ g := Nat.le_trans B2.size hgB
    have hpg : p ≠ g ∧ m ≠ g := by omega
    have l4 := fhid (l3.out.grown f4 hpg.1 hpg.2)
    have B4 := fhid (B3.trans (grown_below (B := w.heap.size) f4 hgw B3.size))
    replace R4 := fhid R4
    clear hin0 l3 R3 f4 B3
    go_loopw [9, 23] (fun lv i wr => ∃ (k : Nat) (M : List Usr) (last : Str) (s : St), k ≤ N ∧ i = .int .i64 (k : Nat) ∧ lv = .string (str last) ∧ LB wr p m h M ∧ RdG w2.heap.size wr g l s ∧ Below w.heap.size w wr ∧ loadR l (N - k) M last s = BL) (fun _ i _ => N - (intOf i).toNat)
    case atStart => exact ⟨0, [], [], s0, Nat.zero_le _, rfl, rfl, l4.out, R4.out, B4.out, hbody.out⟩
    case round =>
      clear l4 R4 B4 hbody
      obtain ⟨k, M, last, s, hk, rfl, rfl, lr, Rr, Br, hL⟩ := hrel
      have k0 : (0 : Int) ≤ k := by omega
      by_cases hlt : k < N
      · have k1 : (k : Int) < N := by omega
        obtain ⟨t, s1, h1⟩ : ∃ a s1, Cs.textStep l s.1 s.2.1 s.2.2 16 = (a, s1) := ⟨_, _, rfl⟩
        obtain ⟨x2, s2, h2⟩ : ∃ a s2, Cs.inStep l s1.1 s1.2.1 s1.2.2 0 1152921504606846976 = (a, s2) := ⟨_, _, rfl⟩
        obtain ⟨x3, s3, h3⟩ : ∃ a s3, Cs.inStep l s2.1 s2.2.1 s2.2.2 0 1099511627776 = (a, s3) := ⟨_, _, rfl⟩
        have hu : userR l s = ((t, x2, x3), s3) := by unfold userR; simp only [h1, h2, h3]
        have hL2 : (if t ≤ last then none else loadR l (N - (k + 1)) (putG t (x2, x3) M) t s3) = BL := by
          have e : N - k = (N - (k + 1)) + 1 := by omega
          rw [e] at hL
          have hL' : (if (userR l s).1.1 ≤ last then none else loadR l (N - (k + 1)) (putG (userR l s).1.1 (userR l s).1.2 M) (userR l s).1.1 (userR l s).2) = BL := hL
          rw [hu] at hL'
          exact hL'
        have c1 := rd_text 16 Rr h1
        have c2 := fun W (h : RdG w2.heap.size W g l s1) => rd_in 0 1152921504606846976 h h2
        have c3 := fun W (h : RdG w2.heap.size W g l s2) => rd_in 0 1099511627776 h h3
        have hA := less_str t last
        have hB := same_str t last
        clear h1 h2 h3 hu hL
        replace lr := fhid lr
        replace Rr := fhid Rr
        by_cases htl : t ≤ last
        · rw [if_pos htl] at hL2
          have hnone : loadP l = none := by rw [hdef.out, ← hL2]
          replace hnone := fhid hnone
          rcases List.le_iff_lt_or_eq.1 htl with hlt2 | heq
          · rw [decide_eq_true hlt2] at hA
            clear hL2 htl c2 c3 hB
            go_wp2_with (go_at_call 48; (with_reducible refine c1.mono ?_); rintro e w5 ⟨rfl, R5, f5⟩)
            exact hbad.out _ (Br.trans (grown_below (B := w.heap.size) f5 hgw Br.size)) hnone.out
          · subst heq
            rw [decide_eq_false (List.lt_irrefl _)] at hA
            clear hL2 htl c2 c3 hB
            go_wp2_with (go_at_call 48; (with_reducible refine c1.mono ?_); rintro e w5 ⟨rfl, R5, f5⟩)
            exact hbad.out _ (Br.trans (grown_below (B := w.heap.size) f5 hgw Br.size)) hnone.out
        · rw [if_neg htl] at hL2
          rw [decide_eq_false (fun h => htl (List.le_iff_lt_or_eq.2 (.inl h)))] at hA
          rw [decide_eq_false (fun h => htl (List.le_iff_lt_or_eq.2 (.inr h)))] at hB
          replace hL2 := fhid hL2
          clear htl
          go_upto_region 11 with (go_at_call 48; (with_reducible refine c1.mono ?_); rintro e w5 ⟨rfl, R5, f5⟩)
          have l5 := lr.out.grown f5 hpg.1 hpg.2
          have B5 := fhid (Br.trans (grown_below (B := w.heap.size) f5 hgw Br.size))
          clear c1 hA hB lr Rr Br f5
          have tt : w5.grownBy w5.drew (some g) := below_grown ((Below.refl _ _).drew)
          have hR : RdG w2.heap.size w5.drew g l s1 := R5.drew
          have zS := fhid (show ∀ W, w5.grownBy W (some g) → W.cell? ⟨p, 1, none⟩ = some (.map (some m)) from fun W hf => (l5.grown hf hpg.1 hpg.2).cells.2.1)
          have zM := fhid (show ∀ W, w5.grownBy W (some g) → SM W m (UL M) from fun W hf => (l5.grown hf hpg.1 hpg.2).2)
          have z := zS.out _ tt
          have hp5 := l5.lt.1
          have hne := l5.ne
          replace l5 := fhid l5
          replace R5 := fhid R5
          go_region_held3 (fun W => W.cell? ⟨p, 1, none⟩ = some (.map (some m))) (first | exact z | exact z9 | fail)
            (first
              | (go_at_call 47; (with_reducible refine (c2 _ hR).mono ?_); rintro e w7 ⟨rfl, hR, f7⟩; have tt := grown_trans tt f7; have z := zS.out _ tt)
              | (go_at_call 47; (with_reducible refine (c3 _ hR).mono ?_); rintro e w7 ⟨rfl, hR, f7⟩; have tt := grown_trans tt f7; have z := zS.out _ tt
                 obtain ⟨w9, hrun, hS9, hg9, hz9⟩ := run_sm_put Try.underlying59 Try.underlying9 (zM.out _ tt) t (.agg #[.int .i64 x2, .int .i64 x3])
                 have z9 := (World.cell?_of_block (a := ⟨p, 1, none⟩) (hg9.block p (Nat.lt_of_lt_of_le hp5 tt.size) (by intro e; injection e with e; exact hne e))).trans z)
              | fail)
          have l7 := l5.out.grown tt hpg.1 hpg.2
          have R9 := fhid (hR.grown hg9 hpm.2)
          have l9 := fhid (show LB w9 p m h (putG t (x2, x3) M) from ⟨l7.1.keep (hg9.block p l7.lt.1 (by intro e; injection e with e; exact hne e)), by rw [← put_UL]; exact hS9⟩)
          have B9 := fhid ((B5.out.trans (grown_below (B := w.heap.size) tt hgw B5.out.size)).trans (grown_below (B := w.heap.size) hg9 hwm (Nat.le_trans B5.out.size tt.size)))
          clear hR tt z z9 hS9 hg9 hrun l7 zS zM c2 c3
          go_wp2_with fail
          go_roundw
          case rel => exact ⟨k + 1, _, t, s3, by omega, by go_num, rfl, l9.out, R9.out, B9.out, hL2.out⟩
          case measure => simp [intOf]; omega
      · obtain rfl : k = N := by omega
        have k1 : ¬ ((k : Int) < k) := by omega
        rw [Nat.sub_self] at hL
        have hB : BL = some (M, s) := hL.symm
        have hend := Cs.end_any g l s.1 s.2.1 s.2.2 wr Rr.1
        unfold Cs.EndPost at hend
        rw [hB] at hdef
        have hdef := hdef.out
        simp only at hdef
        obtain ⟨⟨en, fa⟩, hE⟩ : ∃ x, Cs.endStep l s.1 s.2.1 s.2.2 = x := ⟨_, rfl⟩
        rw [hE] at hend hdef
        simp only at hend hdef
        have hfd := Cs.fault_why en fa
        replace hE := fhid hE
        replace lr := fhid lr
        replace Rr := fhid Rr
        clear hL hB
        by_cases he : en = 0
        · subst he
          rw [if_pos rfl] at hdef
          replace hdef := fhid hdef
          go_wp2_with (go_at_call 49; (with_reducible refine hend.mono ?_); rintro e w7 ⟨rfl, -, t7⟩)
          exact hgood.out _ _ _ _ (Br.trans (grown_below (B := w.heap.size) (turns_grown t7) hgw Br.size)) hdef.out hwp hwm (lr.out.grown (turns_grown t7) hpg.1 hpg.2)
        · rw [if_neg he] at hdef
          have j1 : (en != 0) = true := by simpa using he
          replace hdef := fhid hdef
          replace he := fhid he
          go_wp2_with (go_at_call 49; (with_reducible refine hend.mono ?_); rintro e w7 ⟨rfl, -, t7⟩)
          exact hbad.out _ (Br.trans (grown_below (B := w.heap.size) (turns_grown t7) hgw Br.size)) hdef.out
  · have hnew := New_no h w hh
    have hp := fhid (show LoadPost w h l (.returned (.tuple #[.pointer none, .int .i64 1])) w from ⟨Below.refl _ _, .inl ⟨hh, rfl⟩⟩)
    generalize LoadPost w h l = Post at *
    clear hs
    go_enter Try.func27, Try.ntmps27
    go_wp2_with (go_at_call 10; (with_reducible refine hnew.mono ?_); rintro e w2 ⟨rfl, rfl⟩)
    exact hp.out
end Go.Proofs.Ytmbgcphiigmdjaa
/-
  Plain mathematics: two ledgers of the same users, in whatever order.
-/
namespace Go.Proofs.Ytmbgcphiigmdjaa
open Go.RowKit Go.Maps Go.MapKept Ss Ds

theorem nodup_of_keys {L : List Usr} (h : (L.map Prod.fst).Nodup) : L.Nodup := by
  induction L with
  | nil => exact List.nodup_nil
  | cons x r ih =>
    rw [List.map_cons, List.nodup_cons] at h
    exact List.nodup_cons.2 ⟨fun hm => h.1 (List.mem_map_of_mem (f := Prod.fst) hm), ih h.2⟩
theorem mem_look {L : List Usr} (h : (L.map Prod.fst).Nodup) {x : Usr} : x ∈ L ↔ lookG x.1 L = some x.2 := ⟨fun hx => mem_lookG h hx, fun hx => lookG_mem hx⟩
theorem perm_of_look {L L' : List Usr} (h : (L.map Prod.fst).Nodup) (h' : (L'.map Prod.fst).Nodup) (he : ∀ s, lookG s L = lookG s L') : L.Perm L' :=
  (List.perm_ext_iff_of_nodup (nodup_of_keys h) (nodup_of_keys h')).2 fun x => by rw [mem_look h, mem_look h', he]
theorem look_perm {L L' : List Usr} (hp : L.Perm L') (h : (L.map Prod.fst).Nodup) (s : Str) : lookG s L = lookG s L' := by
  have h' : (L'.map Prod.fst).Nodup := (hp.map Prod.fst).nodup_iff.1 h
  cases hl : lookG s L with
  | none =>
    have h1 := lookG_none.1 hl
    rw [(hp.map Prod.fst).mem_iff] at h1
    exact (lookG_none.2 h1).symm
  | some u => exact (mem_lookG h' (hp.mem_iff.1 (lookG_mem hl))).symm
/-- Two ledgers that go on alike. -/
theorem add_perm {h : Int} {M M' : List Usr} (h1 : 1 ≤ h) (hg : Good M) (hp : M.Perm M') (s : Str) (am now : Int) :
    (addP h M s am now).2 = (addP h M' s am now).2 ∧ (addP h M s am now).1.Perm (addP h M' s am now).1 := by
  have hl := look_perm hp hg.nodup
  have ha : atP h M s now = atP h M' s now := by unfold atP; rw [hl s]
  have hlen := hp.length_eq
  have hn' : (M'.map Prod.fst).Nodup := (hp.map Prod.fst).nodup_iff.1 hg.nodup
  unfold addP
  rw [ha, hl s, hlen]
  split
  · exact ⟨rfl, hp⟩
  · split
    · split
      · exact ⟨rfl, hp⟩
      · exact ⟨rfl, perm_of_look (putG_nodup hg.nodup) (putG_nodup hn') fun t => by rw [lookG_put, lookG_put, hl t]⟩
    · exact ⟨rfl, hp⟩
theorem good_perm {M M' : List Usr} (hg : Good M) (hp : M.Perm M') : Good M' := ⟨(hp.map Prod.fst).nodup_iff.1 hg.nodup, by rw [← hp.length_eq]; exact hg.len, fun x hx => hg.each x (hp.mem_iff.2 hx)⟩
theorem sort_perm {M M' : List Usr} (hg : Good M) (hp : M.Perm M') : sortU M = sortU M' := by
  have h1 : namesS M = namesS M' := mergeSort_of_perm (hp.map Prod.fst)
  unfold sortU
  rw [h1]
  refine List.map_congr_left fun s _ => ?_
  unfold useOf
  rw [look_perm hp hg.nodup]
end Go.Proofs.Ytmbgcphiigmdjaa
/-
  ShareGoes, walked (written by tools/gen14g.py).
-/
namespace Go.Proofs.Ytmbgcphiigmdjaa
open Go.RowKit Ss Ds

/-- A region's walk under a stronger condition is one under the weaker. -/
theorem wpAnyH_strong {P : Program} {md : Region.Mode} {ops : Array Oper} {Q : Exit → Act → World → Prop} {S T : World → Prop} (hST : ∀ w, T w → S w) : ∀ (fuel : Nat) (listed : Array Bool) (a : Act) (w : World), wpAnyH P md ops Q T fuel listed a w → wpAnyH P md ops Q S fuel listed a w
  | 0, _, _, _, h => h
  | fuel + 1, _, _, _, h => ⟨h.1, fun i hi => wpOp_mono (fun a' w' h' => ⟨hST _ h'.1, wpAnyH_strong hST fuel _ a' w' h'.2⟩) (h.2 i hi)⟩
set_option maxRecDepth 100000 in
set_option maxHeartbeats 16000000 in
theorem goes_walk (h : Int) (A : Option Addr) (l : List Act3) (cap : Nat) (A2 : Option Addr) (l2' : List Act3) (cap2 : Nat) (w : World) (hs : RdS w A l.length cap (AVs l)) (ok : ∀ a ∈ l, okA a) (hs2 : RdS w A2 l2'.length cap2 (AVs l2')) (ok2 : ∀ a ∈ l2', okA a) :
    Calls Try.prog 7 #[.int .i64 h, .slice A l.length cap, .slice A2 l2'.length cap2] w (TrueP w) := by
  have hal := fun W => alive_any W
  have s0 := fhid (short_rds hs)
  have s9 := fhid (short_rds hs2)
  unfold TrueP
  by_cases hh : halfB h
  · have hnew := New_yes h w hh
    obtain ⟨hh1, hh2⟩ := hh
    have hh : halfB h := ⟨hh1, hh2⟩
    replace hs := fhid hs
    replace hs2 := fhid hs2
    go_enter Try.func7, Try.ntmps7
    go_upto_region 4 with (go_at_call 10; (with_reducible refine hnew.mono ?_); rintro e w2 ⟨p, m, rfl, hwp, hwm, l2, B2⟩)
    have s2 := hs.out.below B2
    clear hs hnew
    have hsh := short_any A l cap w2 s2
    have hsm := fun a (ha : a ∈ shortL l) => ok a (short_mem ha)
    have hsl := short_len l
    generalize shortL l = q at *
    replace l2 := fhid l2
    replace B2 := fhid B2
    clear ok s2
    go_upto_region 5 with (go_at_call 13; (with_reducible refine hsh.mono ?_); rintro e w3 ⟨c', rfl, s3, rfl⟩)
    clear hsh s3
    go_loopw [30] (fun i wr => ∃ j : Nat, j ≤ q.length ∧ i = .int .i64 (j : Nat) ∧ LB wr p m h (playP h (q.take j)).1 ∧ Below w.heap.size w wr) (fun i _ => q.length - (intOf i).toNat)
    case atStart => exact ⟨0, Nat.zero_le _, rfl, l2.out, B2.out⟩
    case round =>
      clear l2 B2
      obtain ⟨j, hj, rfl, lr, Br⟩ := hrel
      have P := play_ok hh1 (q.take j)
      have j0 : (0 : Int) ≤ j := by omega
      by_cases hlt : j < q.length
      · have j1 : (j : Int) < q.length := by omega
        have hst := play_take h q j hlt
        obtain ⟨b, o, rfl, hb, c0, c1, c2⟩ := act_at s0.out hlt
        have hokj := hsm q[j] (List.getElem_mem hlt)
        generalize q[j] = a at *
        obtain ⟨s, am, now⟩ := a
        generalize playP h (q.take j) = S at *
        obtain ⟨M, last⟩ := S
        obtain ⟨g, tl, t0, t1⟩ := P
        simp only at c0 c1 c2 g lr
        have d0 := (Br.cell (p := ⟨b, o + j * 3, none⟩) hb).trans c0
        have d1 := (Br.cell (p := ⟨b, o + j * 3 + 1, none⟩) hb).trans c1
        have d2 := (Br.cell (p := ⟨b, o + j * 3 + 2, none⟩) hb).trans c2
        have hbr := Nat.lt_of_lt_of_le hb Br.size
        obtain ⟨W4, hW4, b4, X4⟩ := one_box wr TAct [.string (str s), .int .i64 am, .int .i64 now]
        have l4 := lr.below b4
        have B4 := Br.trans (b4.mono Br.size)
        have hadd := Add_any l4 hh g s am now (Nat.le_trans hokj (by unfold maxLen; omega))
        have e0 := X4.cell 0
        have e1 := X4.cell 1
        have e2 := X4.cell 2
        have hx4 := X4.lt
        simp only [List.getElem?_cons_zero, List.getElem?_cons_succ] at e0 e1 e2
        replace hW4 := fhid hW4
        replace X4 := fhid X4
        replace l4 := fhid l4
        replace B4 := fhid B4
        clear lr Br b4 c0 c1 c2 tl t0 t1
        have hst1 : (playP h (q.take (j + 1))).1 = (addP h M s am now).1 := by rw [hst]; rfl
        unfold AddPost at hadd
        generalize addP h M s am now = R at *
        obtain ⟨M2, E⟩ := R
        simp only at hadd hst1
        replace hst1 := fhid hst1
        clear hst
        go_upto_region 7 with fail
        rw [← hW4.out]
        clear hW4 d0 d1 d2
        go_wp2_with (go_at_call 14; (with_reducible refine hadd.mono ?_); rintro e w5 ⟨rfl, l5, g5⟩
                     have l5 := fhid l5
                     have B5 := fhid (B4.out.trans (grown_below (B := w.heap.size) g5 hwm B4.out.size))
                     clear g5)
        go_roundw
        case rel => exact ⟨j + 1, by omega, by go_num, by rw [hst1.out]; exact l5.out, B5.out⟩
        case measure => simp [intOf]; omega
      · obtain rfl : j = q.length := by omega
        have j1 : ¬ ((q.length : Int) < q.length) := by omega
        rw [List.take_length] at lr P
        clear hsm s0
        generalize (playP h q) = S at *
        obtain ⟨M0, last⟩ := S
        have g := P.good
        simp only at g lr
        clear P
        have hsv := Save_any lr hh g
        have hlo := load_own g
        have gS : Good (sortU M0) := good_perm g (sortU_perm g).symm
        have hpS := sortU_perm g
        unfold SavePost at hsv
        have hle := save_take g (namesS M0).length
        rw [← save_all] at hle
        have hld := fun (A : Option Addr) (c : Nat) W (h' : Cs.Seg W W.heap.size A (saveB (sortU M0))) => Load_any h A (saveB (sortU M0)) c W h' (Nat.le_trans hle (by decide))
        have hps : ∀ W e W', LoadPost W h (saveB (sortU M0)) e W' → ∃ p m, e = .returned (.tuple #[.pointer (some ⟨p, 0, none⟩), .int .i64 0]) ∧ W.heap.size ≤ p ∧ W.heap.size ≤ m ∧ LB W' p m h (sortU M0) ∧ Below W.heap.size W W' := fun W e W' hP => by
          obtain ⟨hb, ⟨h1, _⟩ | ⟨_, h2, _⟩ | ⟨_, M, p, m, h3, h4, h5, h6, h7⟩⟩ := hP
          · exact absurd hh h1
          · rw [hlo] at h2; cases h2
          · rw [hlo] at h3
            injection h3 with h3
            subst h3
            exact ⟨p, m, h4, h5, h6, h7, hb⟩
        generalize saveB (sortU M0) = SB0 at *
        generalize sortU M0 = MS at *
        replace hps := fhid hps
        replace lr := fhid lr
        replace Br := fhid Br
        clear hlo hle
        go_upto_region 10 with (first
          | (go_at_call 25; (with_reducible refine hsv.mono ?_); rintro e w4 ⟨v4, rfl, o4, b4⟩; obtain ⟨A4, k4, rfl, _, _, g4⟩ := Cs.Own.shape o4)
          | (go_at_call 27; (with_reducible refine (hld A4 k4 w4 g4).mono ?_); rintro e w5 hpo; obtain ⟨p2, m2, rfl, hp2, hm2, l5, b5⟩ := hps.out _ _ _ hpo))
        have l4 := lr.out.below b4
        have B4 := Br.out.trans (b4.mono Br.out.size)
        have hpm4 := l4.lt
        have l6 := fhid (l4.below b5)
        have B5 := fhid (B4.trans (b5.mono B4.size))
        have hne : p ≠ p2 ∧ p ≠ m2 ∧ m ≠ p2 ∧ m ≠ m2 := by omega
        have hwm2 : w.heap.size ≤ m2 := Nat.le_trans B4.size hm2
        have sn := hs2.out.below B5.out
        clear hps hld hsv lr Br b4 b5 o4 l4 B4 hpm4 g4 hs2
        replace l5 := fhid l5
        have hsh := short_any A2 l2' cap2 w5 sn
        have hsm := fun a (ha : a ∈ shortL l2') => ok2 a (short_mem ha)
        have hsl2 := short_len l2'
        generalize shortL l2' = q2 at *
        clear ok2 sn
        go_upto_region 13 with (go_at_call 13; (with_reducible refine hsh.mono ?_); rintro e w3 ⟨c2', rfl, s3, rfl⟩)
        clear hsh s3
        go_loopw [59] (fun i wr => ∃ (j : Nat) (M M' : List Usr), j ≤ q2.length ∧ i = .int .i64 (j : Nat) ∧ LB wr p m h M ∧ LB wr p2 m2 h M' ∧ M.Perm M' ∧ Good M ∧ Below w.heap.size w wr) (fun i _ => q2.length - (intOf i).toNat)
        case atStart => exact ⟨0, M0, MS, Nat.zero_le _, rfl, l6.out, l5.out, hpS.symm, g, B5.out⟩
        case round =>
          clear l6 l5 B5 hpS gS g
          obtain ⟨j, M, M', hj, rfl, lr, lk, hp, g, Br⟩ := hrel
          have j0 : (0 : Int) ≤ j := by omega
          by_cases hlt : j < q2.length
          · have j1 : (j : Int) < q2.length := by omega
            obtain ⟨b, o, rfl, hb, c0, c1, c2⟩ := act_at s9.out hlt
            have hokj := hsm q2[j] (List.getElem_mem hlt)
            generalize q2[j] = a at *
            obtain ⟨s, am, now⟩ := a
            simp only at c0 c1 c2
            have g' := good_perm g hp
            have hsl' : s.length ≤ 9223372036854775807 := Nat.le_trans hokj (by unfold maxLen; omega)
            have ha1 := fun W (l : LB W p m h M) => Add_any l hh g s am now hsl'
            have ha2 := fun W (l : LB W p2 m2 h M') => Add_any l hh g' s am now hsl'
            obtain ⟨hE, hpp⟩ := add_perm (h := h) hh1 g hp s am now
            have g1 := add_good (s := s) (am := am) (now := now) hh1 g
            generalize addP h M s am now = R at *
            generalize addP h M' s am now = R' at *
            obtain ⟨M1, E⟩ := R
            obtain ⟨M1', E'⟩ := R'
            simp only at hE hpp g1
            subst hE
            have g1' := good_perm g1 hpp
            have hs1 := fun W (l : LB W p m h M1) => Save_any l hh g1
            have hs2 := fun W (l : LB W p2 m2 h M1') => Save_any l hh g1'
            rw [← sort_perm g1 hpp] at hs2
            have hcv := fhid (fun w9 B A9 k9 s9 => Cs.conv_seg w9 B A9 (saveB (sortU M1)) k9 s9)
            have hqq : ((Cs.str (saveB (sortU M1))).toList == (Cs.str (saveB (sortU M1))).toList) = true := by simp
            generalize saveB (sortU M1) = SB at *
            generalize Cs.str SB = ST at *
            unfold AddPost at ha1 ha2
            unfold SavePost at hs1 hs2
            simp only at ha1 ha2
            have d0 := (Br.cell (p := ⟨b, o + j * 3, none⟩) hb).trans c0
            have d1 := (Br.cell (p := ⟨b, o + j * 3 + 1, none⟩) hb).trans c1
            have d2 := (Br.cell (p := ⟨b, o + j * 3 + 2, none⟩) hb).trans c2
            have hbr := Nat.lt_of_lt_of_le hb Br.size
            obtain ⟨W4, hW4, b4, X4⟩ := one_box wr TAct [.string (str s), .int .i64 am, .int .i64 now]
            have hxm := fhid (show wr.heap.size ≠ m ∧ wr.heap.size ≠ m2 from ⟨fun e => by have := lr.lt.2; omega, fun e => by have := lk.lt.2; omega⟩)
            have l4 := fhid (lr.below b4)
            have k4 := fhid (lk.below b4)
            have B4 := fhid (Br.trans (b4.mono Br.size))
            replace hW4 := fhid hW4
            replace X4 := fhid X4
            replace g1 := fhid g1
            replace hpp := fhid hpp
            have hwm := fhid (And.intro hwm hwm2)
            have hne := fhid (And.intro hne.2.2.1.symm (And.intro hne.2.2.2.symm (And.intro hne.2.1 hne.2.2.2)))
            clear lr lk Br b4 c0 c1 c2 hp g g' g1'
            go_upto_region 15 with fail
            rw [← hW4.out]
            clear hW4 d0 d1 d2
            generalize wr.heap.size = x at *
            have tt : Below W4.heap.size W4 W4.drew := (Below.refl _ _).drew
            have X := X4.out.below tt X4.out.lt
            have lp := l4.out.below tt
            have lk := k4.out.below tt
            have B5 := fhid (B4.out.trans (tt.mono B4.out.size))
            have hz := fhid (show ∀ W, Box W x TAct [.string (str s), .int .i64 am, .int .i64 now] → W.cell? ⟨x, 0, none⟩ = some (.string (str s)) ∧ W.cell? ⟨x, 1, none⟩ = some (.int .i64 am) ∧ W.cell? ⟨x, 2, none⟩ = some (.int .i64 now) from fun W h => ⟨Box.cell h 0, Box.cell h 1, Box.cell h 2⟩)
            have z := hz.out _ X
            refine wp_region_noPanic ?_
            refine wp_region_held_drew (S := (fun W => W.cell? ⟨x, 0, none⟩ = some (.string (str s)) ∧ W.cell? ⟨x, 1, none⟩ = some (.int .i64 am) ∧ W.cell? ⟨x, 2, none⟩ = some (.int .i64 now))) (by kernel_rfl) z (fun hHeld => ?_)
            refine wpAnyH_take (i := 0) (v := ?_) (by (rw [List.getElem?_toArray]; exact rfl)) (by kernel_rfl) (by kernel_rfl) (by kernel_rfl) (fun _ _ _ h => h) (Or.inl ⟨by rfl, ?_⟩) (by assumption) ?_
            rotate_left
            · (intro W hSw; (try dsimp only at hSw); go_simp <;> with_reducible rfl)
            try simp only [Act.put, List.setIfInBounds_toArray, List.set_cons_zero, List.set_cons_succ]
            refine wpAnyH_take (i := 1) (v := ?_) (by (rw [List.getElem?_toArray]; exact rfl)) (by kernel_rfl) (by kernel_rfl) (by kernel_rfl) (fun _ _ _ h => h) (Or.inl ⟨by rfl, ?_⟩) (by assumption) ?_
            rotate_left
            · (intro W hSw; (try dsimp only at hSw); go_simp <;> with_reducible rfl)
            try simp only [Act.put, List.setIfInBounds_toArray, List.set_cons_zero, List.set_cons_succ]
            refine wpAnyH_take (i := 2) (v := ?_) (by (rw [List.getElem?_toArray]; exact rfl)) (by kernel_rfl) (by kernel_rfl) (by kernel_rfl) (fun _ _ _ h => h) (Or.inl ⟨by rfl, ?_⟩) (by assumption) ?_
            rotate_left
            · (intro W hSw; (try dsimp only at hSw); go_simp <;> with_reducible rfl)
            try simp only [Act.put, List.setIfInBounds_toArray, List.set_cons_zero, List.set_cons_succ]
            refine wpAnyH_take (i := 3) (v := ?_) (by (rw [List.getElem?_toArray]; exact rfl)) (by kernel_rfl) (by kernel_rfl) (by kernel_rfl) (fun _ _ _ h => h) (Or.inl ⟨by rfl, ?_⟩) (by assumption) ?_
            rotate_left
            · (intro W hSw; (try dsimp only at hSw); go_simp <;> with_reducible rfl)
            try simp only [Act.put, List.setIfInBounds_toArray, List.set_cons_zero, List.set_cons_succ]
            refine wpAnyH_take (i := 4) (v := ?_) (by (rw [List.getElem?_toArray]; exact rfl)) (by kernel_rfl) (by kernel_rfl) (by kernel_rfl) (fun _ _ _ h => h) (Or.inl ⟨by rfl, ?_⟩) (by assumption) ?_
            rotate_left
            · (intro W hSw; (try dsimp only at hSw); go_simp <;> with_reducible rfl)
            try simp only [Act.put, List.setIfInBounds_toArray, List.set_cons_zero, List.set_cons_succ]
            refine wpAnyH_take (i := 5) (v := ?_) (by (rw [List.getElem?_toArray]; exact rfl)) (by kernel_rfl) (by kernel_rfl) (by kernel_rfl) (fun _ _ _ h => h) (Or.inl ⟨by rfl, ?_⟩) (by assumption) ?_
            rotate_left
            · (intro W hSw; (try dsimp only at hSw); go_simp <;> with_reducible rfl)
            try simp only [Act.put, List.setIfInBounds_toArray, List.set_cons_zero, List.set_cons_succ]
            refine wpAnyH_take (i := 6) (v := ?_) (by (rw [List.getElem?_toArray]; exact rfl)) (by kernel_rfl) (by kernel_rfl) (by kernel_rfl) (fun _ _ _ h => h) (Or.inl ⟨by rfl, ?_⟩) (by assumption) ?_
            rotate_left
            · (intro W hSw; (try dsimp only at hSw); go_simp <;> with_reducible rfl)
            try simp only [Act.put, List.setIfInBounds_toArray, List.set_cons_zero, List.set_cons_succ]
            refine wpAnyH_take (i := 8) (v := ?_) (by (rw [List.getElem?_toArray]; exact rfl)) (by kernel_rfl) (by kernel_rfl) (by kernel_rfl) (fun _ _ _ h => h) (Or.inl ⟨by rfl, ?_⟩) (by assumption) ?_
            rotate_left
            · (intro W hSw; (try dsimp only at hSw); go_simp <;> with_reducible rfl)
            try simp only [Act.put, List.setIfInBounds_toArray, List.set_cons_zero, List.set_cons_succ]
            refine wpAnyH_take (i := 9) (v := ?_) (by (rw [List.getElem?_toArray]; exact rfl)) (by kernel_rfl) (by kernel_rfl) (by kernel_rfl) (fun _ _ _ h => h) (Or.inl ⟨by rfl, ?_⟩) (by assumption) ?_
            rotate_left
            · (intro W hSw; (try dsimp only at hSw); go_simp <;> with_reducible rfl)
            try simp only [Act.put, List.setIfInBounds_toArray, List.set_cons_zero, List.set_cons_succ]
            refine wpAnyH_take (i := 10) (v := ?_) (by (rw [List.getElem?_toArray]; exact rfl)) (by kernel_rfl) (by kernel_rfl) (by kernel_rfl) (fun _ _ _ h => h) (Or.inl ⟨by rfl, ?_⟩) (by assumption) ?_
            rotate_left
            · (intro W hSw; (try dsimp only at hSw); go_simp <;> with_reducible rfl)
            try simp only [Act.put, List.setIfInBounds_toArray, List.set_cons_zero, List.set_cons_succ]
            refine wpAnyH_take (i := 11) (v := ?_) (by (rw [List.getElem?_toArray]; exact rfl)) (by kernel_rfl) (by kernel_rfl) (by kernel_rfl) (fun _ _ _ h => h) (Or.inl ⟨by rfl, ?_⟩) (by assumption) ?_
            rotate_left
            · (intro W hSw; (try dsimp only at hSw); go_simp <;> with_reducible rfl)
            try simp only [Act.put, List.setIfInBounds_toArray, List.set_cons_zero, List.set_cons_succ]
            refine wpAnyH_take (i := 12) (v := ?_) (by (rw [List.getElem?_toArray]; exact rfl)) (by kernel_rfl) (by kernel_rfl) (by kernel_rfl) (fun _ _ _ h => h) (Or.inl ⟨by rfl, ?_⟩) (by assumption) ?_
            rotate_left
            · (intro W hSw; (try dsimp only at hSw); go_simp <;> with_reducible rfl)
            try simp only [Act.put, List.setIfInBounds_toArray, List.set_cons_zero, List.set_cons_succ]
            refine wpAnyH_take (i := 13) (v := ?_) (by (rw [List.getElem?_toArray]; exact rfl)) (by kernel_rfl) (by kernel_rfl) (by kernel_rfl) (fun _ _ _ h => h) (Or.inl ⟨by rfl, ?_⟩) (by assumption) ?_
            rotate_left
            · (intro W hSw; (try dsimp only at hSw); go_simp <;> with_reducible rfl)
            try simp only [Act.put, List.setIfInBounds_toArray, List.set_cons_zero, List.set_cons_succ]
            refine wpAnyH_take (i := 14) (v := ?_) (by (rw [List.getElem?_toArray]; exact rfl)) (by kernel_rfl) (by kernel_rfl) (by kernel_rfl) (fun _ _ _ h => h) (Or.inl ⟨by rfl, ?_⟩) (by assumption) ?_
            rotate_left
            · (intro W hSw; (try dsimp only at hSw); go_simp <;> with_reducible rfl)
            try simp only [Act.put, List.setIfInBounds_toArray, List.set_cons_zero, List.set_cons_succ]
            refine wpAnyH_ready (rs := [7]) (by kernel_rfl) (by simp) (AllReadyH.cons (by (rw [List.getElem?_toArray]; exact rfl)) (fun K hK => ?_) AllReadyH.nil)
            go_simp
            go_at_call 14
            with_reducible refine (ha1 _ lp).mono ?_
            rintro e wa ⟨rfl, la, ga⟩
            have lk := lk.grown ga hne.out.1 hne.out.2.1
            have Xa := X.keep (ga.block x X.lt (by intro e; injection e with e; exact hxm.out.1 e))
            have Ba := fhid (B5.out.trans (grown_below (B := w.heap.size) ga hwm.out.1 B5.out.size))
            have z := hz.out _ Xa
            replace la := fhid la
            go_simp
            refine hK.out _ _ z (fun hHeld => ?_)
            clear hK K
            try simp only [Act.put, List.setIfInBounds_toArray, List.set_cons_zero, List.set_cons_succ]
            refine wpAnyH_ready (rs := [15]) (by kernel_rfl) (by simp) (AllReadyH.cons (by (rw [List.getElem?_toArray]; exact rfl)) (fun K hK => ?_) AllReadyH.nil)
            go_simp
            go_at_call 14
            with_reducible refine (ha2 _ lk).mono ?_
            rintro e wb ⟨rfl, lb, gb⟩
            have la := la.out.grown gb hne.out.2.2.1 hne.out.2.2.2
            have Xb := Xa.keep (gb.block x Xa.lt (by intro e; injection e with e; exact hxm.out.2 e))
            have Bb := fhid (Ba.out.trans (grown_below (B := w.heap.size) gb hwm.out.2 Ba.out.size))
            have z := hz.out _ Xb
            go_simp
            refine hK.out _ _ z (fun hHeld => ?_)
            clear hK K
            try simp only [Act.put, List.setIfInBounds_toArray, List.set_cons_zero, List.set_cons_succ]
            refine wpAnyH_take (i := 16) (v := ?_) (by (rw [List.getElem?_toArray]; exact rfl)) (by kernel_rfl) (by kernel_rfl) (by kernel_rfl) (fun _ _ _ h => h) (Or.inl ⟨by rfl, ?_⟩) (by assumption) ?_
            rotate_left
            · (intro W hSw; (try dsimp only at hSw); go_simp <;> with_reducible rfl)
            try simp only [Act.put, List.setIfInBounds_toArray, List.set_cons_zero, List.set_cons_succ]
            refine wpAnyH_take (i := 17) (v := ?_) (by (rw [List.getElem?_toArray]; exact rfl)) (by kernel_rfl) (by kernel_rfl) (by kernel_rfl) (fun _ _ _ h => h) (Or.inl ⟨by rfl, ?_⟩) (by assumption) ?_
            rotate_left
            · (intro W hSw; (try dsimp only at hSw); go_simp <;> with_reducible rfl)
            try simp only [Act.put, List.setIfInBounds_toArray, List.set_cons_zero, List.set_cons_succ]
            refine wpAnyH_take (i := 18) (v := ?_) (by (rw [List.getElem?_toArray]; exact rfl)) (by kernel_rfl) (by kernel_rfl) (by kernel_rfl) (fun _ _ _ h => h) (Or.inl ⟨by rfl, ?_⟩) (by assumption) ?_
            rotate_left
            · (intro W hSw; (try dsimp only at hSw); go_simp <;> with_reducible rfl)
            try simp only [Act.put, List.setIfInBounds_toArray, List.set_cons_zero, List.set_cons_succ]
            refine wpAnyH_take (i := 21) (v := ?_) (by (rw [List.getElem?_toArray]; exact rfl)) (by kernel_rfl) (by kernel_rfl) (by kernel_rfl) (fun _ _ _ h => h) (Or.inl ⟨by rfl, ?_⟩) (by assumption) ?_
            rotate_left
            · (intro W hSw; (try dsimp only at hSw); go_simp <;> with_reducible rfl)
            try simp only [Act.put, List.setIfInBounds_toArray, List.set_cons_zero, List.set_cons_succ]
            refine wpAnyH_ready (rs := [19]) (by kernel_rfl) (by simp) (AllReadyH.cons (by (rw [List.getElem?_toArray]; exact rfl)) (fun K hK => ?_) AllReadyH.nil)
            go_simp
            go_at_call 25
            with_reducible refine (hs1 _ la).mono ?_
            rintro e wc ⟨va, rfl, oa, bc⟩
            obtain ⟨Aa, ka, rfl, _, _, sa⟩ := Cs.Own.shape oa
            have lb := lb.below bc
            have la := fhid (la.below bc)
            have Xc := Xb.below bc Xb.lt
            have Bc := fhid (Bb.out.trans (bc.mono Bb.out.size))
            have z := hz.out _ Xc
            have ra := hcv.out wc _ Aa ka sa
            go_simp
            refine hK.out _ _ z (fun hHeld => ?_)
            clear hK K
            try simp only [Act.put, List.setIfInBounds_toArray, List.set_cons_zero, List.set_cons_succ]
            refine wpAnyH_strong (T := (fun W => (W.cell? ⟨x, 0, none⟩ = some (.string (str s)) ∧ W.cell? ⟨x, 1, none⟩ = some (.int .i64 am) ∧ W.cell? ⟨x, 2, none⟩ = some (.int .i64 now)) ∧ (convert 49 9 (.slice Aa SB.length ka)).run Try.prog W = .ok (.string ST) W)) (fun W h => h.1) _ _ _ _ ?_
            have hHeld := And.intro hHeld ra
            refine wpAnyH_take (i := 20) (v := ?_) (by (rw [List.getElem?_toArray]; exact rfl)) (by kernel_rfl) (by kernel_rfl) (by kernel_rfl) (fun _ _ _ h => h) (Or.inl ⟨by rfl, ?_⟩) (by assumption) ?_
            rotate_left
            · (intro W hSw; (try dsimp only at hSw); go_simp <;> with_reducible rfl)
            try simp only [Act.put, List.setIfInBounds_toArray, List.set_cons_zero, List.set_cons_succ]
            refine wpAnyH_ready (rs := [22]) (by kernel_rfl) (by simp) (AllReadyH.cons (by (rw [List.getElem?_toArray]; exact rfl)) (fun K hK => ?_) AllReadyH.nil)
            go_simp
            go_at_call 25
            with_reducible refine (hs2 _ lb).mono ?_
            rintro e wd ⟨vb, rfl, ob, bd⟩
            obtain ⟨Ab, kb, rfl, _, _, sb⟩ := Cs.Own.shape ob
            have lb := fhid (lb.below bd)
            have la := fhid (la.out.below bd)
            have Xd := Xc.below bd Xc.lt
            have Bd := fhid (Bc.out.trans (bd.mono Bc.out.size))
            have z := hz.out _ Xd
            have rb := hcv.out wd _ Ab kb sb
            have ra := hcv.out wd _ Aa ka (sa.below bd)
            go_simp
            refine hK.out _ _ ⟨z, ra⟩ (fun hHeld => ?_)
            clear hK K
            try simp only [Act.put, List.setIfInBounds_toArray, List.set_cons_zero, List.set_cons_succ]
            refine wpAnyH_strong (T := (fun W => ((W.cell? ⟨x, 0, none⟩ = some (.string (str s)) ∧ W.cell? ⟨x, 1, none⟩ = some (.int .i64 am) ∧ W.cell? ⟨x, 2, none⟩ = some (.int .i64 now)) ∧ (convert 49 9 (.slice Aa SB.length ka)).run Try.prog W = .ok (.string ST) W) ∧ (convert 49 9 (.slice Ab SB.length kb)).run Try.prog W = .ok (.string ST) W)) (fun W h => h.1) _ _ _ _ ?_
            have hHeld := And.intro hHeld rb
            refine wpAnyH_take (i := 23) (v := ?_) (by (rw [List.getElem?_toArray]; exact rfl)) (by kernel_rfl) (by kernel_rfl) (by kernel_rfl) (fun _ _ _ h => h) (Or.inl ⟨by rfl, ?_⟩) (by assumption) ?_
            rotate_left
            · (intro W hSw; (try dsimp only at hSw); go_simp <;> with_reducible rfl)
            try simp only [Act.put, List.setIfInBounds_toArray, List.set_cons_zero, List.set_cons_succ]
            refine wpAnyH_take (i := 24) (v := ?_) (by (rw [List.getElem?_toArray]; exact rfl)) (by kernel_rfl) (by kernel_rfl) (by kernel_rfl) (fun _ _ _ h => h) (Or.inl ⟨by rfl, ?_⟩) (by assumption) ?_
            rotate_left
            · (intro W hSw; (try dsimp only at hSw); go_simp <;> with_reducible rfl)
            try simp only [Act.put, List.setIfInBounds_toArray, List.set_cons_zero, List.set_cons_succ]
            refine wpAnyH_take (i := 25) (v := ?_) (by (rw [List.getElem?_toArray]; exact rfl)) (by kernel_rfl) (by kernel_rfl) (by kernel_rfl) (fun _ _ _ h => h) (Or.inl ⟨by rfl, ?_⟩) (by assumption) ?_
            rotate_left
            · (intro W hSw; (try dsimp only at hSw); go_simp <;> with_reducible rfl)
            try simp only [Act.put, List.setIfInBounds_toArray, List.set_cons_zero, List.set_cons_succ]
            refine wpAnyH_done (by kernel_rfl) ?_ _
            refine NoPanic.normal ?_
            go_wp2_with fail
            go_roundw
            case rel => exact ⟨j + 1, M1, M1', by omega, by go_num, la.out, lb.out, hpp.out, g1.out, Bd.out⟩
            case measure => simp [intOf]; omega
          · have j1 : ¬ (j : Int) < q2.length := by omega
            clear lr lk
            go_wp2_with (go_at_call 12; (with_reducible refine (hal _).mono ?_); rintro e w6 ⟨rfl, b6⟩)
            go_ret
            exact ⟨rfl, Br.trans (b6.mono Br.size)⟩
  · have hnew := New_no h w hh
    clear hs hs2
    go_enter Try.func7, Try.ntmps7
    go_wp2_with (first
      | (go_at_call 10; (with_reducible refine hnew.mono ?_); rintro e w2 ⟨rfl, rfl⟩)
      | (go_at_call 12; (with_reducible refine (hal _).mono ?_); rintro e w6 ⟨rfl, b6⟩))
    go_ret
    exact ⟨rfl, b6⟩
end Go.Proofs.Ytmbgcphiigmdjaa
