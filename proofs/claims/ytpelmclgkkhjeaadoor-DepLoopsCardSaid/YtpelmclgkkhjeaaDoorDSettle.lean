/-
  What several things are at as one; what an item is at, by the program and by the document.
-/
import Derived.Test.YtpelmclgkkhjeaaDoorDLeaf
import Derived.Maps.RangeWalk
import Derived.Deep.QuietTactic
import Derived.BigQuiet
import Derived.Deep.DeepCutAuto
namespace Go.Proofs.YtpelmclgkkhjeaaDoor
open Go.RowKit

set_option maxHeartbeats 1000000 in
theorem settle_any (one all : Int) (hne : all ≠ one) (l : List Int) (ok : Nat → Prop) (A : Option Addr) (cap : Nat) (w : World) (hs : SegP w ok A (IV l)) (hl : l.length ≤ 9223372036854775807) :
    Calls Tryd.prog 22 #[.int .i64 one, .int .i64 all, .slice A l.length cap] w fun e w' => e = .returned (.int .i64 (settleP one all l)) ∧ w = w' := by
  replace hs := fhid hs
  have hne1 := fhid hne
  have b0 : (all == one) = false := by simpa using hne
  go_enter Tryd.func22, Tryd.ntmps22
  go_wp2_with fail
  go_loop [7, 13] (fun st i => ∃ k : Nat, k ≤ l.length ∧ i = .int .i64 (k : Int) ∧ Hid (one ∉ l.take k) ∧ st = .int .i64 (settleP one all (l.take k))) (fun _ i => l.length - (intOf i).toNat)
  case atStart => exact ⟨0, Nat.zero_le _, rfl, fhid (by simp), by rw [List.take_zero, settle_nil]⟩
  case round =>
    obtain ⟨k, hk, rfl, hno, rfl⟩ := hrel
    by_cases hlt : k < l.length
    · obtain ⟨b, o, rfl, hb, hc⟩ := Ints.at_ hs.out hlt
      have hsn := List.take_succ_eq_append_getElem hlt
      have hmem : l[k] ∈ l := List.getElem_mem hlt
      have i1 : (k : Int) < l.length := by omega
      have i0 : (0 : Int) ≤ k := by omega
      generalize l[k] = x at *
      by_cases h1 : x = one
      · subst h1
        have hE := fhid (settle_one (all := all) hmem)
        have b1 : (x == x) = true := by simp
        clear hsn hmem
        go_wp2_with fail
        go_ret
        exact ⟨fret1 hE.out.symm, rfl⟩
      · have b1 : (x == one) = false := by simpa using h1
        have hN := fhid (show one ∉ l.take (k + 1) by rw [hsn]; simp [hno.out, Ne.symm h1])
        by_cases h2 : x = all
        · subst h2
          have hE := fhid (show settleP one x (l.take (k + 1)) = settleP one x (l.take k) by rw [hsn]; exact settle_snoc_all hno.out h1)
          have b2 : (x != x) = false := by simp
          clear hsn hmem
          go_wp2_with fail
          go_round
          case rel => exact ⟨k + 1, by omega, by go_num, hN, by rw [hE.out]⟩
          case measure => simp [intOf]; omega
        · have hE := fhid (show settleP one all (l.take (k + 1)) = 0 by rw [hsn]; exact settle_snoc_other hno.out h1 h2)
          have b2 : (x != all) = true := by simpa using h2
          clear hsn hmem
          go_wp2_with fail
          go_round
          case rel => exact ⟨k + 1, by omega, by go_num, hN, by rw [hE.out]⟩
          case measure => simp [intOf]; omega
    · obtain rfl : k = l.length := by omega
      clear hno
      go_wp2_with fail
      go_ret
      exact ⟨rfl, rfl⟩

/-- A map's whole numbers. -/
def SV (m : List (Int × Int)) : List (Int × Value) := m.map fun x => (x.1, .int .i64 x.2)
theorem look_SV (m : List (Int × Int)) (k : Int) : look (SV m) k = (look m k).map fun v => Value.int .i64 v := by
  induction m with
  | nil => rfl
  | cons x r ih =>
    show (if x.1 = k then some (Value.int .i64 x.2) else look (SV r) k) = _
    by_cases h : x.1 = k
    · rw [if_pos h, show look (x :: r) k = some x.2 from if_pos h]; rfl
    · rw [if_neg h, ih, show look (x :: r) k = look r k from if_neg h]
/-- The map in block b has these states. -/
def SMap (w : World) (b : Nat) (m : List (Int × Int)) : Prop := IMap w b (SV m)
theorem SMap.below {w w' : World} {b B : Nat} {l : List (Int × Int)} (h : SMap w b l) (hb : Below B w w') (hB : b < B) : SMap w' b l := IMap.below h hb hB
theorem SMap.lt {w : World} {b : Nat} {l : List (Int × Int)} (h : SMap w b l) : b < w.heap.size := IMap.lt h
theorem zeroInt (w : World) : (zeroValue 3).run Tryd.prog w = .ok (.int .i64 0) w := by kernel_rfl
section
variable {w : World} {ops : Array Oper} {rest : List Oper} {o : Oper} {a : Act} {Q : Exit → Act → World → Prop}
theorem smap_some (hg : o.guard = none) (m x : Operand) (hop : o.op = Op.lookup 48 m x true) (b : Nat) (l : List (Int × Int)) (hm : a.eval m = .map (some b)) (h : SMap w b l) (k : Int) (hx : a.eval x = .int .i64 k) (v : Int) (hl : look l k = some v)
    (hq : wpList Tryd.prog ops Q rest (a.put o.dst (.tuple #[.int .i64 v, .bool true])) w) : wpList Tryd.prog ops Q (o :: rest) a w := by
  refine imap_look_ok hg m x 48 3 3 hop Tryd.underlying48 Tryd.underlying3 (.int .i64 0) (zeroInt w) b (SV l) hm h k hx ?_
  rw [look_SV, hl]
  exact hq
theorem smap_none (hg : o.guard = none) (m x : Operand) (hop : o.op = Op.lookup 48 m x true) (b : Nat) (l : List (Int × Int)) (hm : a.eval m = .map (some b)) (h : SMap w b l) (k : Int) (hx : a.eval x = .int .i64 k) (hl : look l k = none)
    (hq : wpList Tryd.prog ops Q rest (a.put o.dst (.tuple #[.int .i64 0, .bool false])) w) : wpList Tryd.prog ops Q (o :: rest) a w := by
  refine imap_look_ok hg m x 48 3 3 hop Tryd.underlying48 Tryd.underlying3 (.int .i64 0) (zeroInt w) b (SV l) hm h k hx ?_
  rw [look_SV, hl]
  exact hq
theorem smap_put (hg : o.guard = none) (m x v : Operand) (hop : o.op = Op.mapUpdate 48 m x v) (b : Nat) (l : List (Int × Int)) (hm : a.eval m = .map (some b)) (h : SMap w b l) (k : Int) (hx : a.eval x = .int .i64 k) (u : Int) (hv : a.eval v = .int .i64 u) (hl : look l k = none)
    (hq : ∀ w', SMap w' b (l ++ [(k, u)]) → w.grownBy w' (some b) → w'.heap.size = w.heap.size → wpList Tryd.prog ops Q rest (a.put o.dst undef) w') : wpList Tryd.prog ops Q (o :: rest) a w := by
  refine imap_put hg m x v 48 3 3 hop Tryd.underlying48 Tryd.underlying3 b (SV l) hm h k hx _ hv (by rw [look_SV, hl]; rfl) ?_
  intro w' h1
  refine hq w' ?_
  unfold SMap SV
  rw [List.map_append]
  exact h1
end
/-- An item, in memory; a dependency. -/
def IB (w : World) (b : Nat) (T : TypeId) (k : Int) (v : Value) : Prop := w.heap[b]? = some (.cells #[.int .i64 k, v] T (0, 0))
def DB (w : World) (b : Nat) (T : TypeId) (a : Bool) (v : Value) : Prop := w.heap[b]? = some (.cells #[.bool a, v] T (0, 0))
theorem IB.facts {w : World} {b : Nat} {T : TypeId} {k : Int} {v : Value} (h : IB w b T k v) : w.cell? ⟨b, 0, none⟩ = some (.int .i64 k) ∧ w.cell? ⟨b, 1, none⟩ = some v ∧ w.frozen? ⟨b, 0, none⟩ = false ∧ w.frozen? ⟨b, 1, none⟩ = false ∧ b < w.heap.size := by
  unfold IB at h
  exact ⟨by simp [World.cell?, h], by simp [World.cell?, h], by simp [World.frozen?, h], by simp [World.frozen?, h], lt_of_block h⟩
theorem DB.facts {w : World} {b : Nat} {T : TypeId} {a : Bool} {v : Value} (h : DB w b T a v) : w.cell? ⟨b, 0, none⟩ = some (.bool a) ∧ w.cell? ⟨b, 1, none⟩ = some v ∧ w.frozen? ⟨b, 0, none⟩ = false ∧ w.frozen? ⟨b, 1, none⟩ = false ∧ b < w.heap.size := by
  unfold DB at h
  exact ⟨by simp [World.cell?, h], by simp [World.cell?, h], by simp [World.frozen?, h], by simp [World.frozen?, h], lt_of_block h⟩
theorem IB.below {w w' : World} {B b : Nat} {T : TypeId} {k : Int} {v : Value} (h : IB w b T k v) (hb : Below B w w') (hB : b < B) : IB w' b T k v := (hb.block b hB).trans h
theorem DB.below {w w' : World} {B b : Nat} {T : TypeId} {k : Bool} {v : Value} (h : DB w b T k v) (hb : Below B w w') (hB : b < B) : DB w' b T k v := (hb.block b hB).trans h
/-- A call that answers a number, and makes memory. -/
def NP (w : World) (n : Int) (e : Ending) (w' : World) : Prop := e = .returned (.int .i64 n) ∧ Below w.heap.size w w'
set_option maxRecDepth 100000 in
set_option maxHeartbeats 2000000 in
theorem askItem_any (k : Int) (js : List Int) (A : Option Addr) (cap b : Nat) (m : List (Int × Int)) (alone : Bool) (w : World) (hs : Ints w w.heap.size A js) (hl : js.length ≤ 1048576) (hm : SMap w b m) :
    Calls Tryd.prog 21 #[.agg #[.int .i64 k, .slice A js.length cap], .map (some b), .bool alone] w (NP w (itemP (stOf m) alone (k, js))) := by
  have hbl := hm.lt
  by_cases h5 : k = 5
  · subst h5
    have hE := fhid (show itemP (stOf m) alone (5, js) = if alone = true then 1 else 0 from if_pos rfl)
    replace hs := fhid hs
    replace hm := fhid hm
    cases alone
    all_goals
      go_enter Tryd.func21, Tryd.ntmps21
      go_wp2_with fail
      go_ret
      exact ⟨fret1 hE.out.symm, (Below.refl _ _).alloc (Nat.le_refl _) _⟩
  · have b5 : (k == 5) = false := by simpa using h5
    have hE := fhid (show itemP (stOf m) alone (k, js) = settleP 2 1 (js.map fun j => oneP k (stOf m j)) from if_neg h5)
    obtain ⟨f, hf⟩ : ∃ f : Int → Int, (fun j => oneP k (stOf m j)) = f := ⟨_, rfl⟩
    have hf' : ∀ j, oneP k (stOf m j) = f j := fun j => by rw [← hf]
    rw [hf] at hE
    replace hf' := fhid hf'
    clear hf
    replace hs := fhid hs
    replace hm := fhid hm
    go_enter Tryd.func21, Tryd.ntmps21
    go_upto_region 1 with fail
    have hi := heap_alloc_new w (.cells #[.int .i64 k, .slice A js.length cap] 50)
    replace hi : IB _ w.heap.size 50 k (.slice A js.length cap) := hi
    have g0 : Below w.heap.size w (w.alloc (.cells #[.int .i64 k, .slice A js.length cap] 50)) := (Below.refl _ _).alloc (Nat.le_refl _) _
    generalize w.alloc _ = w1 at *
    obtain ⟨c0, c1, _, _, hz⟩ := hi.facts
    go_wp2_with fail
    go_loopw [7, 19] (fun v i wr => ∃ j : Nat, j ≤ js.length ∧ i = .int .i64 (j : Int) ∧ OwnI wr w1.heap.size v ((js.take j).map f) ∧ Below w1.heap.size w1 wr) (fun _ i _ => js.length - (intOf i).toNat)
    case atStart => exact ⟨0, Nat.zero_le _, rfl, OwnI.nil _ _, Below.refl _ _⟩
    case round =>
      obtain ⟨j, hj, rfl, hO, hB⟩ := hrel
      have hsz := hB.size
      have hI := hi.below hB hz
      clear c0 c1
      obtain ⟨c0, c1, _, _, _⟩ := hI.facts
      by_cases hlt : j < js.length
      · obtain ⟨bb, o, rfl, hbb, hc⟩ := Ints.at_ hs.out hlt
        replace hc := ((g0.trans (hB.mono g0.size)).cell (p := ⟨bb, o + j, none⟩) hbb).trans hc
        have hM := hm.out.below (g0.trans (hB.mono g0.size)) hbl
        have hsn := fhid (show (js.take (j + 1)).map f = (js.take j).map f ++ [f js[j]] by rw [List.take_succ_eq_append_getElem hlt, List.map_append]; rfl)
        have i1 : (j : Int) < js.length := by omega
        have i0 : (0 : Int) ≤ j := by omega
        have hln : ((js.take j).map f).length ≤ 1048576 := by rw [List.length_map, List.length_take]; omega
        generalize js[j] = x at *
        generalize (js.take j).map f = pre at *
        have h1 := fun s W => One_any k s W
        have hfx := hf'.out x
        replace hln := fhid hln
        replace hO := fhid hO
        cases hlk : look m x with
        | none =>
          have e7 : stOf m x = 7 := by unfold stOf; rw [hlk]; rfl
          rw [e7] at hfx
          have h1 := fun W => One_any k 7 W
          rw [hfx] at h1
          replace hlk := fhid hlk
          clear e7 hfx
          go_wp2_with (first
            | (at_lookup; refine smap_none rfl _ _ rfl b m rfl hM x rfl hlk.out ?_)
            | (go_at_call 12; (with_reducible refine (h1 _).mono ?_); rintro e w2 ⟨rfl, rfl⟩)
            | (at_builtin; refine app_int rfl _ _ rfl w1.heap.size _ pre (f x) wr rfl hO.out rfl _ rfl rfl hln.out hsz ?_; intro v2 w2 o2 _ b2))
          go_roundw
          case rel => exact ⟨j + 1, by omega, by go_num, by rw [hsn.out]; exact o2, hB.trans b2⟩
          case measure => simp [intOf]; omega
        | some s =>
          have e7 : stOf m x = s := by unfold stOf; rw [hlk]; rfl
          rw [e7] at hfx
          have h1 := fun W => One_any k s W
          rw [hfx] at h1
          replace hlk := fhid hlk
          clear e7 hfx
          go_wp2_with (first
            | (at_lookup; refine smap_some rfl _ _ rfl b m rfl hM x rfl s hlk.out ?_)
            | (go_at_call 12; (with_reducible refine (h1 _).mono ?_); rintro e w2 ⟨rfl, rfl⟩)
            | (at_builtin; refine app_int rfl _ _ rfl w1.heap.size _ pre (f x) wr rfl hO.out rfl _ rfl rfl hln.out hsz ?_; intro v2 w2 o2 _ b2))
          go_roundw
          case rel => exact ⟨j + 1, by omega, by go_num, by rw [hsn.out]; exact o2, hB.trans b2⟩
          case measure => simp [intOf]; omega
      · obtain rfl : j = js.length := by omega
        rw [List.take_length] at hO
        obtain ⟨A', cap', rfl, _, _, hS⟩ := hO.shape
        have hl2 : (js.map f).length ≤ 9223372036854775807 := by rw [List.length_map]; omega
        have hst := fun W (h : wr = W) => settle_any 2 1 (by decide) (js.map f) _ A' cap' W (h ▸ hS) hl2
        have i1 : ¬ (js.length : Int) < js.length := by omega
        replace hS := fhid hS
        clear hO
        generalize hLL : (js.map f).length = LL at *
        replace hLL := fhid hLL
        go_wp2_with (go_at_call 22; (with_reducible refine (hst _ rfl).mono ?_); rintro e w2 ⟨rfl, rfl⟩)
        go_ret
        exact ⟨fret1 (by rw [hE.out]), g0.trans (hB.mono g0.size)⟩
end Go.Proofs.YtpelmclgkkhjeaaDoor
