/-
  Parts: KROptsM KROpts KRLineM KRWords KRDoc.
-/
import Derived.Test.YtmnmcikbbfcjcaaGreatDoorD1
import Derived.Laws.OwnMore
import Derived.Test.YtmnmcikbbfcjcaaGreatDoorK5
import Derived.Test.YtmnmcikbbfcjcaaGreatDoorW1
set_option linter.unusedSimpArgs false
set_option linter.unusedVariables false
/-
  Options as the document reads them, and as the program does: plain facts.
-/
namespace Go.Proofs.YtmnmcikbbfcjcaaGreatDoor
open Go.RowKit Go.Shelf Vs

/-- One option more: of each name its number, -1 where it is not told. -/
def roStep (ks : List Str) (vs : List Int) (w : Str) : Option (List Int) := match place ks (Vs.upTo 61 w), readNumP (Vs.behind 61 w) with
  | some k, some n => if vs.getD k 0 < 0 then some (vs.set k n) else none
  | _, _ => none
def ro (ks : List Str) : List Str → List Int → Option (List Int)
  | [], vs => some vs
  | w :: ws, vs => match roStep ks vs w with
    | none => none
    | some vs' => ro ks ws vs'
def orV (ss : List Spec) (vs : List Int) : List Int := (ss.zip vs).map fun x => orI x.2 x.1.untold
theorem orV_len (ss : List Spec) (vs : List Int) (h : vs.length = ss.length) : (orV ss vs).length = ss.length := by unfold orV; simp [h]
theorem orV_get (ss : List Spec) (vs : List Int) (k : Nat) (h1 : k < ss.length) (h2 : k < vs.length) (h3 : k < (orV ss vs).length) : (orV ss vs)[k] = orI vs[k] ss[k].untold := by
  simp [orV]
theorem orV_set (ss : List Spec) (vs : List Int) (k : Nat) (n : Nat) (h : vs.length = ss.length) : orV ss (vs.set k (n : Int)) = (orV ss vs).set k (n : Int) := by
  apply List.ext_getElem
  · simp [orV]
  · intro i h1 h2
    have h1' : i < ss.length := by rw [orV_len ss _ (by simpa using h)] at h1; exact h1
    rw [List.getElem_set, orV_get ss _ i h1' (by simp; omega) h1, List.getElem_set]
    by_cases hk : k = i
    · rw [if_pos hk, if_pos hk]
      unfold orI
      rw [if_neg (by omega)]
    · rw [if_neg hk, if_neg hk, orV_get ss vs i h1' (by omega) (by rw [orV_len ss vs h]; exact h1')]
theorem place_is9 {l : List Str} {s : Str} {k : Nat} (h : place l s = some k) : ∃ hk : k < l.length, l[k] = s := by
  unfold place at h
  rw [List.findIdx?_eq_some_iff_getElem] at h
  obtain ⟨hk, h1, _⟩ := h
  exact ⟨hk, by simpa using h1⟩
theorem place_mem9 {l : List Str} {s : Str} (h : s ∈ l) : ∃ k, place l s = some k := by
  cases hp : place l s with
  | some k => exact ⟨k, rfl⟩
  | none =>
    unfold place at hp
    rw [List.findIdx?_eq_none_iff] at hp
    have := hp s h
    simp at this
theorem nodup_inj {l : List Str} (hn : l.Nodup) {i j : Nat} (hi : i < l.length) (hj : j < l.length) (h : l[i] = l[j]) : i = j := (List.getElem_inj hn).1 h
theorem opts_ro (ss : List Spec) (hn : (ss.map (·.key)).Nodup) : ∀ (ws came : List Str) (vs : List Int), vs.length = ss.length → (∀ x ∈ came, x ∈ ss.map (·.key)) → (∀ k (h : k < ss.length) (h' : k < vs.length), ss[k].key ∈ came ↔ 0 ≤ vs[k]) →
    optsP ss ws came (orV ss vs) = (ro (ss.map (·.key)) ws vs).map (orV ss)
  | [], came, vs, hl, hc, hi => by rw [opts_nil, ro]; rfl
  | w :: ws, came, vs, hl, hc, hi => by
    rw [ro]
    have hkl : (ss.map (·.key)).length = ss.length := by simp
    by_cases hx : Vs.upTo 61 w ∈ came
    · rw [opts_there hx]
      obtain ⟨k, hk⟩ := place_mem9 (hc _ hx)
      obtain ⟨hk1, hk2⟩ := place_is9 hk
      rw [hkl] at hk1
      rw [List.getElem_map] at hk2
      have h0 : 0 ≤ vs[k] := (hi k hk1 (by omega)).1 (by rw [hk2]; exact hx)
      have hs : roStep (ss.map (·.key)) vs w = none := by
        unfold roStep
        rw [hk]
        cases readNumP (Vs.behind 61 w) with
        | none => rfl
        | some n =>
          simp only
          rw [if_neg]
          rw [List.getD_eq_getElem?_getD, List.getElem?_eq_getElem (by omega), Option.getD_some]
          omega
      rw [hs]
      rfl
    · cases hk : place (ss.map (·.key)) (Vs.upTo 61 w) with
      | none =>
        have hs : roStep (ss.map (·.key)) vs w = none := by unfold roStep; rw [hk]
        have hp : putP ss (orV ss vs) (Vs.upTo 61 w) (Vs.behind 61 w) = none := by unfold putP; rw [hk]
        rw [hs, opts_none hx hp]
        rfl
      | some k =>
        cases hr : readNumP (Vs.behind 61 w) with
        | none =>
          have hs : roStep (ss.map (·.key)) vs w = none := by unfold roStep; rw [hk, hr]
          have hp : putP ss (orV ss vs) (Vs.upTo 61 w) (Vs.behind 61 w) = none := by unfold putP; rw [hk, hr]
          rw [hs, opts_none hx hp]
          rfl
        | some n =>
          obtain ⟨hk1, hk2⟩ := place_is9 hk
          rw [hkl] at hk1
          rw [List.getElem_map] at hk2
          have h0 : ¬ 0 ≤ vs[k] := fun h => hx (by rw [← hk2]; exact (hi k hk1 (by omega)).2 h)
          have hs : roStep (ss.map (·.key)) vs w = some (vs.set k (n : Int)) := by
            unfold roStep
            rw [hk, hr]
            simp only
            rw [if_pos]
            rw [List.getD_eq_getElem?_getD, List.getElem?_eq_getElem (by omega), Option.getD_some]
            omega
          have hp : putP ss (orV ss vs) (Vs.upTo 61 w) (Vs.behind 61 w) = some ((orV ss vs).set k (n : Int)) := by unfold putP; rw [hk, hr]
          rw [hs, opts_some hx hp, ← orV_set ss vs k n hl]
          refine opts_ro ss hn ws _ _ (by simpa using hl) ?_ ?_
          · intro x hxx
            rcases List.mem_append.1 hxx with h | h
            · exact hc x h
            · rw [List.mem_singleton] at h
              subst h
              rw [← hk2]
              exact List.mem_map_of_mem (List.getElem_mem hk1)
          · intro j hj hj'
            rw [List.mem_append, List.mem_singleton, List.getElem_set]
            by_cases hjk : k = j
            · subst hjk
              rw [if_pos rfl]
              exact ⟨fun _ => by omega, fun _ => .inr hk2⟩
            · rw [if_neg hjk, ← hi j hj (by omega)]
              constructor
              · rintro (h | h)
                · exact h
                · exact absurd (nodup_inj hn (by simpa using hk1) (by simpa using hj) (by rw [List.getElem_map, List.getElem_map, hk2, h])) hjk
              · exact .inl
def negs (n : Nat) : List Int := List.replicate n (-1)
theorem orV_negs (ss : List Spec) : orV ss (negs ss.length) = untold ss := by
  apply List.ext_getElem
  · simp [orV, negs, untold]
  · intro i h1 h2
    have h3 : i < ss.length := by simpa [orV, negs] using h1
    rw [orV_get ss _ i h3 (by simpa [negs] using h3) h1]
    simp [negs, untold, orI]
/-- What the document reads is what the program reads. -/
theorem opts_same (ss : List Spec) (hn : (ss.map (·.key)).Nodup) (ws : List Str) : optsP ss ws [] (untold ss) = (ro (ss.map (·.key)) ws (negs ss.length)).map (orV ss) := by
  rw [← orV_negs]
  exact opts_ro ss hn ws [] _ (by simp [negs]) (fun x hx => by cases hx) (fun k h h' => by simp [negs])
theorem behind_nil {w : Str} (h : 61 ∉ w) : readNumP (Vs.behind 61 w) = none := by
  have : Vs.behind 61 w = [] := by
    unfold Vs.behind
    rw [Vs.upTo_no h]
    exact List.drop_of_length_le (by omega)
  rw [this]
  rfl
end Go.Proofs.YtmnmcikbbfcjcaaGreatDoor
/-
  The document's reader of options, walked.
-/
namespace Go.Proofs.YtmnmcikbbfcjcaaGreatDoor
open Go.RowKit Go.Shelf Vs

/-- A slice of the call's own holds these numbers. -/
def OwnZ (w : World) (base : Nat) (v : Value) (vs : List Int) : Prop := w.ownsRow base 3 1 v vs.length (iv vs)
theorem OwnZ.nil (w : World) (base : Nat) : OwnZ w base (.slice none 0 0) [] := World.ownsRow_nil _ _ _ _
theorem OwnZ.below {w w' : World} {base : Nat} {v : Value} {vs : List Int} (h : OwnZ w base v vs) (hb : Below w.heap.size w w') : OwnZ w' base v vs := ownsRow_below h hb
section
variable {w : World} {ops : Array Oper} {rest : List Oper} {o : Oper} {a : Act} {Q : Exit → Act → World → Prop}
theorem app_z (hgd : o.guard = none) (s x : Operand) (ho : o.op = .call { callee := .builtin .append, args := #[s, x], argTypes := #[106, 106] })
    (base : Nat) (v : Value) (ns : List Int) (n : Int) (w0 : World) (hs : a.eval s = v) (hown : OwnZ w0 base v ns)
    (hw : w = w0.alloc (.cells #[.int .i64 n] 3)) (g : Nat) (hg : g = w0.heap.size) (hx : a.eval x = .slice (some ⟨g, 0, none⟩) 1 1) (hlen : ns.length ≤ 1048576) (hbase : base ≤ w0.heap.size)
    (h : ∀ v' w', OwnZ w' base v' (ns ++ [n]) → Below base w0 w' → wpList Tryz.prog ops Q rest (a.put o.dst v') w') : wpList Tryz.prog ops Q (o :: rest) a w := by
  subst hw
  subst hg
  refine app_own 106 3 (.int .i64 0) 1 8 Tryz.underlying106 infoInt rfl (by decide) hgd s x ho base v ns.length (iv ns) hs (World.ownsRow.alloc hown _) (w0.heap.size + 1) (some ⟨w0.heap.size, 0, none⟩) 1 1 [.int .i64 n] hx (one_cells w0 _ _) rfl (fun u hu => by simp at hu; rcases hu with rfl; rfl) (fun h => by cases h) (by omega) (by omega) (by rw [World.size_alloc]; omega) ?_
  intro v' w' h1 _ h3
  refine h v' w' ?_ (((Below.refl _ _).alloc hbase _).trans h3)
  unfold OwnZ
  rw [List.length_append]
  have e : iv (ns ++ [n]) = iv ns ++ [.int .i64 n] := by simp [iv]
  rw [e]
  exact h1
end
theorem ro_nil (ks : List Str) (vs : List Int) : ro ks [] vs = some vs := by unfold ro; rfl
theorem ro_none {ks : List Str} {x : Str} {ws : List Str} {vs : List Int} (h : roStep ks vs x = none) : ro ks (x :: ws) vs = none := by rw [ro, h]
theorem ro_some {ks : List Str} {x : Str} {ws : List Str} {vs r : List Int} (h : roStep ks vs x = some r) : ro ks (x :: ws) vs = ro ks ws r := by rw [ro, h]
/-- What a call of options comes to. -/
def OptPost (w : World) (R : Option (List Int)) (e : Ending) (w' : World) : Prop :=
  (R = none ∧ e = .returned (.tuple #[.slice none 0 0, .bool false]) ∧ Below w.heap.size w w') ∨ (∃ vs v, R = some vs ∧ e = .returned (.tuple #[v, .bool true]) ∧ OwnZ w' w.heap.size v vs ∧ Below w.heap.size w w')
theorem step_no {ks : List Str} {vs : List Int} {x : Str} (h : place ks (Vs.upTo 61 x) = none) : roStep ks vs x = none := by unfold roStep; rw [h]
theorem step_bad {ks : List Str} {vs : List Int} {x : Str} (h : readNumP (Vs.behind 61 x) = none) : roStep ks vs x = none := by
  unfold roStep; rw [h]; cases place ks (Vs.upTo 61 x) <;> rfl
theorem step_twice {ks : List Str} {vs : List Int} {x : Str} {p : Nat} (h : place ks (Vs.upTo 61 x) = some p) (hp : p < vs.length) (h0 : 0 ≤ vs[p]) : roStep ks vs x = none := by
  unfold roStep; rw [h]
  cases readNumP (Vs.behind 61 x) with
  | none => rfl
  | some n =>
    simp only
    rw [if_neg]
    rw [List.getD_eq_getElem?_getD, List.getElem?_eq_getElem hp, Option.getD_some]
    omega
theorem step_ok {ks : List Str} {vs : List Int} {x : Str} {p n : Nat} (h : place ks (Vs.upTo 61 x) = some p) (hp : p < vs.length) (h0 : vs[p] < 0) (hn : readNumP (Vs.behind 61 x) = some n) : roStep ks vs x = some (vs.set p (n : Int)) := by
  unfold roStep; rw [h, hn]
  simp only
  rw [if_pos]
  rw [List.getD_eq_getElem?_getD, List.getElem?_eq_getElem hp, Option.getD_some]
  exact h0
theorem cut_at {x : Str} {j : Nat} (hj : j < x.length) (h61 : x[j] = 61) (hn : 61 ∉ x.take j) : Vs.upTo 61 x = x.take j ∧ Vs.behind 61 x = x.drop (j + 1) := by
  have e : x = x.take j ++ 61 :: x.drop (j + 1) := by
    conv => lhs; rw [← List.take_append_drop j x, List.drop_eq_getElem_cons hj, h61]
  constructor
  · conv => lhs; rw [e]
    exact Vs.upTo_app hn
  · conv => lhs; rw [e]
    exact Vs.behind_app hn
def OIZ (w : World) (ks l : List Str) (v6 : Value) (k : Nat) (vs : List Int) (wr : World) : Prop := vs.length = ks.length ∧ OwnZ wr w.heap.size v6 vs ∧ Below w.heap.size w wr ∧ ro ks l (negs ks.length) = ro ks (l.drop k) vs
set_option maxRecDepth 100000 in
set_option maxHeartbeats 32000000 in
theorem options_any (AL : Option Addr) (cL : Nat) (l : List Str) (AK : Option Addr) (cK : Nat) (ks : List Str) (w : World) (hl : RdS w AL l.length cL (SV l)) (hk : RdS w AK ks.length cK (SV ks)) (hL : ∀ x ∈ l, x.length ≤ 1000000) (hks : ks.length ≤ 100) :
    Calls Tryz.prog 119 #[.slice AL l.length cL, .slice AK ks.length cK] w (OptPost w (ro ks l (negs ks.length))) := by
  have hz := go_le9 hl
  have hlI : (l.length : Int) ≤ 9223372036854775807 := by omega
  have hkI : (ks.length : Int) ≤ 100 := by omega
  have hat := fun (W : World) (hb : Below w.heap.size w W) (x : Str) => at_any AK cK ks.length ks x W (hk.below hb) (Nat.le_refl _)
  simp only [List.take_length] at hat
  have hnm := fun (S : ByteArray) (W : World) (hS : S.size ≤ 140737488355328) => rNumber_any9 S W hS
  obtain ⟨R, hR⟩ : ∃ R, ro ks l (negs ks.length) = R := ⟨_, rfl⟩
  rw [hR]
  have hbad := fhid (show ∀ W, R = none → Below w.heap.size w W → OptPost w R (.returned (.tuple #[.slice none 0 0, .bool false])) W from fun W h hb => .inl ⟨h, rfl, hb⟩)
  have hgood := fhid (show ∀ W vs v, R = some vs → OwnZ W w.heap.size v vs → Below w.heap.size w W → OptPost w R (.returned (.tuple #[v, .bool true])) W from fun W vs v h ho hb => .inr ⟨vs, v, h, rfl, ho, hb⟩)
  generalize OptPost w R = P at *
  replace hR := fhid hR
  replace hl := fhid hl
  replace hk := fhid hk
  replace hL := fhid hL
  go_enter Tryz.func119, Tryz.ntmps119
  go_wp2_with fail
  go_loopw [6, 7] (fun o i wr => ∃ k : Nat, k ≤ ks.length ∧ i = .int .i64 k ∧ OwnZ wr w.heap.size o (negs k) ∧ Below w.heap.size w wr) (fun _ i _ => ks.length - (intOf i).toNat)
  case atStart => exact ⟨0, Nat.zero_le _, rfl, OwnZ.nil _ _, Below.refl _ _⟩
  case round =>
    obtain ⟨k, hkk, rfl, ho, hB⟩ := hrel
    have k0 : (0 : Int) ≤ k := by omega
    have hbase := hB.size
    by_cases hlt : k < ks.length
    · have i1 : (k : Int) < ks.length := by omega
      have hnl := fhid (show (negs k).length ≤ 1048576 by unfold negs; simp; omega)
      have hne := fhid (show negs k ++ [-1] = negs (k + 1) by unfold negs; rw [List.replicate_succ'])
      replace ho := fhid ho
      replace hB := fhid hB
      go_wp2_with (at_builtin; refine app_z rfl _ _ rfl w.heap.size _ (negs k) (-1) _ rfl ho.out rfl _ (by first | rfl | simp) rfl hnl.out hbase ?_; intro v6 w6 o6 b6)
      go_roundw
      case rel => exact ⟨k + 1, by omega, by go_num, by rw [← hne.out]; exact o6, hB.out.trans b6⟩
      case measure => simp [intOf]; omega
    · obtain rfl : k = ks.length := by omega
      have i1 : ¬ (ks.length : Int) < ks.length := by omega
      obtain ⟨w1, rfl⟩ : ∃ w1 : World, w1 = wr := ⟨_, rfl⟩
      obtain ⟨A6, c6, rfl, _⟩ := ownsRow_shape ho
      have hn6 : (negs ks.length).length = ks.length := by unfold negs; simp
      rw [hn6]
      have hstart := fhid (show OIZ w ks l (.slice A6 ks.length c6) 0 (negs ks.length) w1 from ⟨hn6, by rw [hn6] at ho; exact ho, hB, rfl⟩)
      clear ho hn6 hbase hB
      go_wp2_with fail
      go_loopw [8] (fun i wr => ∃ (k : Nat) (vs : List Int), k ≤ l.length ∧ i = .int .i64 k ∧ OIZ w ks l (.slice A6 ks.length c6) k vs wr) (fun i _ => l.length - (intOf i).toNat)
      case atStart => exact ⟨0, _, Nat.zero_le _, rfl, hstart.out⟩
      case round =>
        obtain ⟨k, vs, hkl, rfl, hvl, ho, hB, heq⟩ := hrel
        have heq' := hR.out.symm.trans heq
        clear heq hstart
        have k0 : (0 : Int) ≤ k := by omega
        by_cases hlt : k < l.length
        · have i1 : (k : Int) < l.length := by omega
          rw [List.drop_eq_getElem_cons hlt] at heq'
          have hfail := fhid (show roStep ks vs l[k] = none → R = none from fun h => heq'.trans (ro_none h))
          have hnext := fhid (show ∀ r, roStep ks vs l[k] = some r → R = ro ks (l.drop (k + 1)) r from fun r h => heq'.trans (ro_some h))
          clear heq'
          obtain ⟨bL, oL, rfl, hbL, hcL⟩ := RdS.name hl.out hlt
          have hc1 := (hB.cell (p := ⟨bL, oL + k, none⟩) hbL).trans hcL
          have hbL1 : bL < wr.heap.size := Nat.lt_of_lt_of_le hbL hB.size
          have hxl := hL.out l[k] (List.getElem_mem hlt)
          obtain ⟨X, hX⟩ : ∃ X, str l[k] = X := ⟨_, rfl⟩
          have hbx : bl X = l[k] := by rw [← hX, bl_str]
          rw [hX] at hc1
          rw [← hbx] at hfail hnext hxl
          have hXz := bl_len X
          have hXs : (X.size : Int) ≤ 1000000 := by omega
          have hXs2 : X.size ≤ 140737488355328 := by omega
          have hatx := fun (W : World) (hb : Below w.heap.size w W) (j : Nat) => hat W hb ((bl X).take j)
          clear hcL hX hbx hat
          replace hB := fhid hB
          replace ho := fhid ho
          have hltI := fhid hlt
          go_wp2_with fail
          go_loop [9] (fun i => ∃ j : Nat, j ≤ X.size ∧ i = .int .i64 j ∧ 61 ∉ (bl X).take j) (fun i => X.size - (intOf i).toNat)
          case atStart => exact ⟨0, Nat.zero_le _, rfl, by simp⟩
          case round =>
            obtain ⟨j, hj, rfl, hno⟩ := hrel
            have j0 : (0 : Int) ≤ j := by omega
            have hext : X.extract 0 j = str ((bl X).take j) := by rw [ext_str]; simp
            by_cases hjl : j < X.size
            · have i2 : (j : Int) < X.size := by omega
              have hbj : j < (bl X).length := by omega
              have hget : (bl X)[j] = X[j] := bl_get X j hjl hbj
              by_cases h61 : X[j] = 61
              · -- the end of a name
                obtain ⟨hup, hbe⟩ := cut_at hbj (hget.trans h61) hno
                have x61 : (X[j].toNat : Int) = 61 := by rw [h61]; rfl
                have x61a : ((X[j].toNat : Int) == 61) = true := by simp; omega
                have x61b : ((X[j].toNat : Int) != 61) = false := by simp; omega
                have hjn : ((j : Int) == X.size) = false := by simp; omega
                have hjn2 : ¬ (j : Int) = X.size := by omega
                have hext2 : X.extract (j + 1) X.size = str ((bl X).drop (j + 1)) := by
                  rw [ext_str, List.take_of_length_le (by rw [List.length_drop]; omega)]
                have hatj := fun (W : World) (hb : Below w.heap.size w W) => hatx W hb j
                have hno1 := fhid (show place ks ((bl X).take j) = none → R = none from fun h => hfail.out (step_no (by rw [hup]; exact h)))
                have hbd1 := fhid (show readNumP ((bl X).drop (j + 1)) = none → R = none from fun h => hfail.out (step_bad (by rw [hbe]; exact h)))
                have htw1 := fhid (show ∀ p (hp : p < vs.length), place ks ((bl X).take j) = some p → 0 ≤ vs[p] → R = none from fun p hp h h0 => hfail.out (step_twice (by rw [hup]; exact h) hp h0))
                have hok1 := fhid (show ∀ p n (hp : p < vs.length), place ks ((bl X).take j) = some p → vs[p] < 0 → readNumP ((bl X).drop (j + 1)) = some n → R = ro ks (l.drop (k + 1)) (vs.set p (n : Int)) from fun p n hp h h0 hn => hnext.out _ (step_ok (by rw [hup]; exact h) hp h0 (by rw [hbe]; exact hn)))
                have hpl := fhid (show ∀ p, place ks ((bl X).take j) = some p → p < vs.length from fun p h => by rw [hvl]; exact (place_is9 h).1)
                have hnmS := hnm (str ((bl X).drop (j + 1)))
                rw [bl_str] at hnmS
                have hsz2 : (str ((bl X).drop (j + 1))).size ≤ 140737488355328 := by rw [str_size, List.length_drop]; omega
                clear hfail hnext hup hbe hno hget h61 hatx hnm
                generalize hpp : place ks ((bl X).take j) = pl at *
                generalize str ((bl X).take j) = S1 at *
                generalize hrr : readNumP ((bl X).drop (j + 1)) = rn at *
                generalize str ((bl X).drop (j + 1)) = S2 at *
                cases pl with
                | none =>
                  have hRn := fhid (hno1.out rfl)
                  unfold placeI at hatj
                  simp only at hatj
                  clear hno1 hbd1 htw1 hok1 hpl hnmS
                  go_wp2_with (go_at_call 96; (with_reducible refine (hatj _ hB.out).mono ?_); rintro e w1 ⟨rfl, rfl⟩)
                  first | exact hbad.out _ hRn.out hB.out | exact bodyPost_ret (by simp [results, Tryz.results119, go_sem]) rfl (hbad.out _ hRn.out hB.out)
                | some p =>
                  have hpv := hpl.out p rfl
                  unfold placeI at hatj
                  simp only at hatj
                  have p0 : (0 : Int) ≤ p := by omega
                  have p1 : ¬ (p : Int) < 0 := by omega
                  have p2 : (p : Int) < ks.length := by omega
                  have hpk : p < ks.length := by omega
                  obtain ⟨g6, rfl⟩ : ∃ g6, A6 = some ⟨g6, 0, none⟩ := by
                    rcases ho.out.2 with ⟨_, h0⟩ | ⟨g', cap', cur, h', _⟩
                    · omega
                    · injection h' with h1 _ _
                      exact ⟨g', h1⟩
                  have hoz : wr.ownsRow w.heap.size 3 1 (.slice (some ⟨g6, 0, none⟩) ks.length c6) ks.length (iv vs) := by have := ho.out; unfold OwnZ at this; rw [hvl] at this; exact this
                  have hcp : wr.cell? ⟨g6, p, none⟩ = some (.int .i64 vs[p]) := by
                    rw [hoz.cellAt p (by omega)]
                    simp [iv, hpv]
                  have hfp := hoz.frozenAt p
                  have hlt6 := (hoz.lt g6 rfl).2
                  have hge6 := (hoz.lt g6 rfl).1
                  by_cases hv0 : 0 ≤ vs[p]
                  · have hRn := fhid (htw1.out p hpv rfl hv0)
                    clear hno1 hbd1 htw1 hok1 hpl hnmS
                    replace hoz := fhid hoz
                    generalize vs[p] = vp at *
                    go_wp2_with (go_at_call 96; (with_reducible refine (hatj _ hB.out).mono ?_); rintro e w1 ⟨rfl, rfl⟩)
                    first | exact hbad.out _ hRn.out hB.out | exact bodyPost_ret (by simp [results, Tryz.results119, go_sem]) rfl (hbad.out _ hRn.out hB.out)
                  · cases rn with
                    | none =>
                      have hRn := fhid (hbd1.out rfl)
                      unfold numV at hnmS
                      simp only at hnmS
                      clear hno1 hbd1 htw1 hok1 hpl
                      replace hoz := fhid hoz
                      generalize vs[p] = vp at *
                      go_wp2_with (first
                        | (go_at_call 96; (with_reducible refine (hatj _ hB.out).mono ?_); rintro e w1 ⟨rfl, rfl⟩)
                        | (go_at_call 123; (with_reducible refine (hnmS _ hsz2).mono ?_); rintro e w1 ⟨rfl, rfl⟩))
                      first | exact hbad.out _ hRn.out hB.out | exact bodyPost_ret (by simp [results, Tryz.results119, go_sem]) rfl (hbad.out _ hRn.out hB.out)
                    | some n =>
                      have hRn := fhid (hok1.out p n hpv rfl (by omega) rfl)
                      unfold numV at hnmS
                      simp only at hnmS
                      have hst := fhid (hoz.stored p (.int .i64 (n : Int)))
                      have hiv := fhid (show (iv vs).set p (.int .i64 (n : Int)) = iv (vs.set p (n : Int)) by unfold iv; rw [List.map_set])
                      clear hno1 hbd1 htw1 hok1 hpl
                      replace hoz := fhid hoz
                      generalize hvpe : vs[p] = vp at *
                      clear hvpe
                      go_wp2_with (first
                        | (go_at_call 96; (with_reducible refine (hatj _ hB.out).mono ?_); rintro e w1 ⟨rfl, rfl⟩)
                        | (go_at_call 123; (with_reducible refine (hnmS _ hsz2).mono ?_); rintro e w1 ⟨rfl, rfl⟩))
                      go_roundw
                      case rel =>
                        refine ⟨k + 1, vs.set p (n : Int), hltI.out, by go_num, by simpa using hvl, ?_, hB.out.setCell (p := ⟨g6, p, none⟩) hge6 _, ?_⟩
                        · unfold OwnZ
                          rw [← hiv.out, List.length_set, hvl]
                          exact hst.out.1
                        · rw [hR.out]; exact hRn.out
                      case measure => have := hltI.out; simp [intOf]; omega
              · have n61 : ¬ (X[j].toNat : Int) = 61 := fun h => h61 (UInt8.toNat_inj.1 (by show X[j].toNat = 61; omega))
                have n61a : ((X[j].toNat : Int) == 61) = false := by simpa using n61
                have n61b : ((X[j].toNat : Int) != 61) = true := by simpa using n61
                have hno2 := fhid (show 61 ∉ (bl X).take (j + 1) by
                  rw [List.take_succ_eq_append_getElem hbj, List.mem_append, List.mem_singleton, hget]
                  rintro (h | h)
                  · exact hno h
                  · exact h61 h.symm)
                clear hno hget h61
                go_wp2_with fail
                go_round
                case rel => exact ⟨j + 1, by omega, by go_num, hno2.out⟩
                case measure => simp [intOf]; omega
            · obtain rfl : j = X.size := by omega
              have i2 : ¬ (X.size : Int) < X.size := by omega
              have htk : (bl X).take X.size = bl X := List.take_of_length_le (by omega)
              have hRn := fhid (hfail.out (step_bad (behind_nil (by rw [htk] at hno; exact hno))))
              have hatj := fun (W : World) (hb : Below w.heap.size w W) => hatx W hb X.size
              have hjn : ((X.size : Int) == X.size) = true := by simp
              clear hfail hnext hno htk hatx hnm
              generalize place ks ((bl X).take X.size) = pl at *
              generalize str ((bl X).take X.size) = S1 at *
              cases pl with
              | none =>
                unfold placeI at hatj
                simp only at hatj
                go_wp2_with (go_at_call 96; (with_reducible refine (hatj _ hB.out).mono ?_); rintro e w1 ⟨rfl, rfl⟩)
                first | exact hbad.out _ hRn.out hB.out | exact bodyPost_ret (by simp [results, Tryz.results119, go_sem]) rfl (hbad.out _ hRn.out hB.out)
              | some p =>
                unfold placeI at hatj
                simp only at hatj
                have p1 : ¬ (p : Int) < 0 := by omega
                go_wp2_with (go_at_call 96; (with_reducible refine (hatj _ hB.out).mono ?_); rintro e w1 ⟨rfl, rfl⟩)
                first | exact hbad.out _ hRn.out hB.out | exact bodyPost_ret (by simp [results, Tryz.results119, go_sem]) rfl (hbad.out _ hRn.out hB.out)
        · have i1 : ¬ (k : Int) < l.length := by omega
          have hRs := fhid (show R = some vs by rw [heq', List.drop_of_length_le (by omega), ro_nil])
          clear heq'
          go_wp2_with fail
          first | exact hgood.out _ _ _ hRs.out ho hB | exact bodyPost_ret (by simp [results, Tryz.results119, go_sem]) rfl (hgood.out _ _ _ hRs.out ho hB)
end Go.Proofs.YtmnmcikbbfcjcaaGreatDoor
/-
  What holds of a config that a text's lines have made so far: plain facts.
-/
namespace Go.Proofs.YtmnmcikbbfcjcaaGreatDoor
open Go.RowKit Go.Shelf Vs

theorem expand_bare {x : Str} (h : Hs.Bare x) : Hs.expand x = ([x], 0, 0) := by
  have h1 := Hs.pPart_bare x [] h (fun c hc => by simp at hc)
  rw [List.append_nil] at h1
  unfold Hs.expand
  rw [if_neg h.1]
  unfold Hs.pExpand
  rw [h1]
  simp [Hs.partCount, Hs.partNames]
theorem nodeName_bare {x : Str} (h : Hs.Bare x) : nodeNameP x = decide (x.length ≤ 32) := by
  unfold nodeNameP
  rw [expand_bare h]
  simp
def shortP (x : Str) : Bool := decide (x.length ≤ 32)
theorem names_short (l : Str) : (Hs.expand l).1.all nodeNameP = (Hs.expand l).1.all shortP := by
  have h := (Hs.expand_facts l).1
  generalize (Hs.expand l).1 = ns at *
  induction ns with
  | nil => rfl
  | cons a r ih =>
    rw [List.all_cons, List.all_cons, nodeName_bare (h a (by simp)), ih (fun x hx => h x (by simp [hx]))]
    rfl
theorem sum_pos {α : Type} (f : α → Nat) {l : List α} (h : l ≠ []) (hf : ∀ x ∈ l, 1 ≤ f x) : 1 ≤ (l.map f).sum := by
  cases l with
  | nil => exact absurd rfl h
  | cons a r =>
    rw [List.map_cons, List.sum_cons]
    have := hf a (by simp)
    omega
theorem part_some {r p : Str} {rs : List (Nat × Nat × Nat)} {k : Nat} (h : Hs.pPart r = .ok (p, rs) k) : Hs.partNames p rs ≠ [] := by
  obtain ⟨_, _, _, _, hr⟩ := Hs.pPart_ok h
  intro e
  have hl := Hs.partNames_length p rs
  rw [e] at hl
  unfold Hs.partCount at hl
  by_cases h0 : rs = []
  · rw [if_pos h0] at hl; simp at hl
  · rw [if_neg h0] at hl
    have := sum_pos Hs.spanCount h0 (fun x hx => by have := (hr x hx).1; unfold Hs.spanCount; omega)
    simp at hl
    omega
theorem pExpand_some : ∀ (f a : Nat) (r : Str) (ns : List Str), r.length < f → (Hs.pExpand f a r ns).2.1 = 0 → (Hs.pExpand f a r ns).1 ≠ []
  | 0, a, r, ns, hf, h => by omega
  | f + 1, a, r, ns, hf, h => by
    unfold Hs.pExpand at h ⊢
    cases hp : Hs.pPart r with
    | bad e k =>
      rw [hp] at h
      exact absurd h (Hs.pPart_badX hp)
    | ok x k =>
      obtain ⟨p, rs⟩ := x
      rw [hp] at h
      simp only at h ⊢
      have hs := part_some hp
      obtain ⟨h1, h2, _⟩ := Hs.pPart_ok hp
      split at h
      · simp at h
      · rename_i hm
        rw [if_neg hm]
        split at h
        · rename_i hk
          rw [if_pos hk]
          intro e
          exact hs (List.append_eq_nil_iff.1 e).2
        · rename_i hk
          rw [if_neg hk]
          exact pExpand_some f _ _ _ (by rw [List.length_drop]; omega) h
theorem expand_some {l : Str} (h : l ≠ []) (h0 : (Hs.expand l).2.1 = 0) : (Hs.expand l).1 ≠ [] := by
  unfold Hs.expand at h0 ⊢
  rw [if_neg h] at h0 ⊢
  exact pExpand_some _ _ _ _ (by omega) h0
theorem nodeAt_in {c : Cfg} {x : Str} {i : Nat} (h : nodeAt c x = some i) : i < 256 ∧ i < c.names.length := by
  obtain ⟨hi, _⟩ := place_is9 h
  rw [List.length_take] at hi
  omega
theorem setGo_facts (c : Cfg) : ∀ (ns : List Str) (l r : List Nat), setGo c ns l = some r → (∀ i ∈ r, i ∈ l ∨ (i < 256 ∧ i < c.names.length)) ∧ r.length = l.length + ns.length
  | [], l, r, h => by
    rw [setGo_nil] at h
    injection h with h
    subst h
    exact ⟨fun i hi => .inl hi, by simp⟩
  | n :: ns, l, r, h => by
    cases hn : nodeAt c n with
    | none => rw [setGo_none hn] at h; cases h
    | some i =>
      rw [setGo_some hn] at h
      obtain ⟨h1, h2⟩ := setGo_facts c ns _ r h
      refine ⟨fun j hj => ?_, by rw [h2]; simp; omega⟩
      rcases h1 j hj with h | h
      · rcases List.mem_append.1 h with h | h
        · exact .inl h
        · rw [List.mem_singleton] at h
          subst h
          exact .inr (nodeAt_in hn)
      · exact .inr h
/-- The set of a list of nodes has one, and none but the config's. -/
theorem setOf_facts {c : Cfg} {l : Str} (hl : l ≠ []) (h : (setOf c l).2 = 0) : hasOne (setOf c l).1 = true ∧ within c.names.length (setOf c l).1 = true := by
  unfold setOf at h ⊢
  by_cases he : (Hs.expand l).2.1 ≠ 0
  · rw [if_pos he] at h; simp at h
  · rw [if_neg he] at h ⊢
    cases hg : setGo c (Hs.expand l).1 [] with
    | none => rw [hg] at h; simp at h
    | some r =>
      simp only
      obtain ⟨h1, h2⟩ := setGo_facts c _ _ _ hg
      have hne := expand_some hl (by simpa using he)
      have h3 : 0 < r.length := by
        have := List.length_pos_iff.2 hne
        rw [h2]; simp; omega
      constructor
      · unfold hasOne memL
        rw [List.any_eq_true]
        have := List.getElem_mem h3
        rcases h1 _ this with h | h
        · simp at h
        · exact ⟨r[0], List.mem_range.2 h.1, by simp⟩
      · unfold within memL
        rw [List.all_eq_true]
        intro j _
        by_cases hj : j ∈ r
        · rcases h1 j hj with h | h
          · simp at h
          · rw [decide_eq_true h.2, Bool.or_true]
        · rw [decide_eq_false hj]; rfl
theorem within_more {n m : Nat} {p : Nat → Bool} (h : n ≤ m) (hw : within n p = true) : within m p = true := by
  unfold within at *
  rw [List.all_eq_true] at *
  intro j hj
  have := hw j hj
  simp only [Bool.or_eq_true, decide_eq_true_eq] at this ⊢
  rcases this with h1 | h1
  · exact .inl h1
  · exact .inr (by omega)
theorem wb_ne : ∀ (l : Str) (cur : Option Str), (∀ x, cur = some x → x ≠ []) → ∀ x ∈ wb cur l, x ≠ []
  | [], cur, h, x, hx => by
    rw [wb] at hx
    cases cur with
    | none => cases hx
    | some y => simp at hx; subst hx; exact h _ rfl
  | c :: r, cur, h, x, hx => by
    rw [wb] at hx
    split at hx
    · rcases List.mem_append.1 hx with h1 | h1
      · cases cur with
        | none => cases h1
        | some y => simp at h1; subst h1; exact h _ rfl
      · exact wb_ne r none (fun _ h => by cases h) x h1
    · exact wb_ne r _ (fun y hy => by injection hy with hy; subst hy; simp) x hx
theorem words_ne (l : Str) : ∀ x ∈ words l, x ≠ [] := by
  rw [words_wb]
  exact wb_ne l none (fun _ h => by cases h)
def recRight (v : V3) : Bool := Vs.right v.1 v.2.1 v.2.2
/-- What holds of a config that a text's lines have made so far. -/
structure GD (c : Cfg) : Prop where
  nd : c.names.Nodup
  nn : ∀ x ∈ c.names, nodeNameP x = true
  nl : c.names.length ≤ 256
  vl : c.vecs.length = c.names.length
  vr : ∀ v ∈ c.vecs, recRight v = true
  pw : ∀ p ∈ c.parts, partWrong p = false
  pin : ∀ p ∈ c.parts, within c.names.length p.nodes = true
  pn : (c.parts.map (·.name)).Nodup
  pl : c.parts.length ≤ 16
  qw : ∀ q ∈ c.qos, qosWrong q = false
  qn : (c.qos.map (·.name)).Nodup
  ql : c.qos.length ≤ 16
  vv : rightV valS c.vals = true
  vlen : c.vals.length = 8
theorem start_gd : GD startC := ⟨List.nodup_nil, fun x hx => (by cases hx), Nat.zero_le _, rfl, fun x hx => (by cases hx), fun x hx => (by cases hx), fun x hx => (by cases hx), List.nodup_nil, Nat.zero_le _, fun x hx => (by cases hx), List.nodup_nil, Nat.zero_le _, by decide +kernel, rfl⟩
theorem parse_right (v : Str) (h : (Vs.parseP v).2 = 0) : recRight (Vs.parseP v).1 = true := by
  unfold Vs.parseP at h ⊢
  cases hr : Vs.readP v with
  | none => rw [hr] at h; simp at h
  | some x =>
    rw [hr] at h
    simp only at h ⊢
    by_cases hx : Vs.right x.1 x.2.1 x.2.2 = true ∧ Vs.fmt x = v
    · rw [if_pos hx]; exact hx.1
    · rw [if_neg hx] at h; simp at h
theorem wordsP_gd {c c' : Cfg} (h : GD c) (ws : List Str) (hne : ∀ x ∈ ws, x ≠ []) (hw : wordsP c ws = .ok c') : GD c' := by
  cases ws with
  | nil =>
    injection hw with hw
    subst hw
    exact h
  | cons k os =>
    have hwp : wordsP c (k :: os) = if k = kNode then nodeP c os else if k = kPart then partP c os else if k = kQos then qosP c os else if k = kSet then setP c os else .error 3 := rfl
    rw [hwp] at hw
    split at hw
    · by_cases h2 : os.length = 2
      · obtain ⟨l, v, rfl⟩ : ∃ l v, os = [l, v] := by
          match os, h2 with
          | [l, v], _ => exact ⟨l, v, rfl⟩
        rw [nodeP_two] at hw
        split at hw
        · cases hw
        · rename_i hfe
          split at hw
          · cases hw
          · split at hw
            · cases hw
            · split at hw
              · cases hw
              · rename_i hall hn hl
                injection hw with hw
                subst hw
                have hall := Classical.not_not.1 hall
                rw [List.all_eq_true] at hall
                refine { h with nd := by simpa using hn, nn := ?_, nl := by simp; omega, vl := by simp [h.vl], vr := ?_, pin := fun p hp => within_more (by simp) (h.pin p hp) }
                · intro x hx
                  rcases List.mem_append.1 hx with hx | hx
                  · exact h.nn x hx
                  · exact hall x hx
                · intro x hx
                  rcases List.mem_append.1 hx with hx | hx
                  · exact h.vr x hx
                  · rw [List.eq_of_mem_replicate hx]
                    exact parse_right v (Classical.not_not.1 (fun q => hfe (.inr q)))
      · rw [nodeP_len h2] at hw; cases hw
    · split at hw
      · by_cases h2 : os.length < 2
        · rw [partP_few h2] at hw; cases hw
        · obtain ⟨n, l, os, rfl⟩ : ∃ n l os', os = n :: l :: os' := by
            match os, h2 with
            | [], h => simp at h
            | [_], h => simp at h
            | n :: l :: os, _ => exact ⟨_, _, _, rfl⟩
          cases hn : isNameP n with
          | false => rw [partP_name hn] at hw; cases hw
          | true =>
            cases ho : optsP partS os [] (untold partS) with
            | none => rw [partP_opts ho] at hw; cases hw
            | some r =>
              rw [partP_ok hn ho] at hw
              split at hw
              · cases hw
              · rename_i hse
                split at hw
                · cases hw
                · rename_i hnm
                  split at hw
                  · cases hw
                  · split at hw
                    · cases hw
                    · rename_i h16 hpw
                      injection hw with hw
                      subst hw
                      have hrl := optsP_len _ _ _ _ _ ho
                      obtain ⟨x, y, z, rfl⟩ : ∃ x y z, r = [x, y, z] := by
                        match r, hrl with
                        | [x, y, z], _ => exact ⟨_, _, _, rfl⟩
                      have hsf := setOf_facts (c := c) (hne l (by simp)) (Classical.not_not.1 hse)
                      refine { h with pw := ?_, pin := ?_, pn := ?_, pl := by simp; omega }
                      · intro p hp
                        rcases List.mem_append.1 hp with hp | hp
                        · exact h.pw p hp
                        · rw [List.mem_singleton] at hp
                          subst hp
                          simpa using hpw
                      · intro p hp
                        rcases List.mem_append.1 hp with hp | hp
                        · exact h.pin p hp
                        · rw [List.mem_singleton] at hp
                          subst hp
                          exact hsf.2
                      · rw [List.map_append, List.nodup_append]
                        exact ⟨h.pn, by simp, fun a ha b hb => by simp at hb; subst hb; exact fun e => hnm (e ▸ ha)⟩
      · split at hw
        · cases os with
          | nil => cases hw
          | cons n os =>
            cases hn : isNameP n with
            | false => rw [qosP_name hn] at hw; cases hw
            | true =>
              cases ho : optsP qosS os [] (untold qosS) with
              | none => rw [qosP_opts ho] at hw; cases hw
              | some r =>
                rw [qosP_ok hn ho] at hw
                split at hw
                · cases hw
                · rename_i hnm
                  split at hw
                  · cases hw
                  · split at hw
                    · cases hw
                    · rename_i h16 hpw
                      injection hw with hw
                      subst hw
                      have hrl := optsP_len _ _ _ _ _ ho
                      obtain ⟨x, y, rfl⟩ : ∃ x y, r = [x, y] := by
                        match r, hrl with
                        | [x, y], _ => exact ⟨_, _, rfl⟩
                      refine { h with qw := ?_, qn := ?_, ql := by simp; omega }
                      · intro p hp
                        rcases List.mem_append.1 hp with hp | hp
                        · exact h.qw p hp
                        · rw [List.mem_singleton] at hp
                          subst hp
                          simpa using hpw
                      · rw [List.map_append, List.nodup_append]
                        exact ⟨h.qn, by simp, fun a ha b hb => by simp at hb; subst hb; exact fun e => hnm (e ▸ ha)⟩
        · split at hw
          · by_cases h2 : os.length = 2
            · obtain ⟨l, v, rfl⟩ : ∃ l v, os = [l, v] := by
                match os, h2 with
                | [l, v], _ => exact ⟨l, v, rfl⟩
              cases hp : putP valS c.vals l v with
              | none => rw [setP_none hp] at hw; cases hw
              | some vs =>
                rw [setP_some hp] at hw
                split at hw
                · rename_i hr
                  injection hw with hw
                  subst hw
                  exact { h with vv := hr, vlen := by rw [putP_len hp]; exact h.vlen }
                · cases hw
            · rw [setP_len h2] at hw; cases hw
          · cases hw
theorem lineP_gd {c c' : Cfg} (h : GD c) (l : Str) (hw : lineP c l = .ok c') : GD c' := wordsP_gd h _ (words_ne _) hw
theorem all_true {α : Type} {l : List α} {f : α → Bool} (h : ∀ x ∈ l, f x = true) : l.all f = true := List.all_eq_true.2 h
/-- Of such a config three things alone are asked still. -/
theorem rightC_gd {c : Cfg} (h : GD c) : rightC c = (!c.names.isEmpty && !c.parts.isEmpty && minCap c.vals) := by
  unfold rightC rightNodesP rightPartsP rightQosP
  have h1 : (c.names.zip c.vecs).all (fun x => nodeNameP x.1 && Vs.right x.2.1 x.2.2.1 x.2.2.2) = true := all_true fun x hx => by
    have := List.of_mem_zip hx
    rw [h.nn _ this.1]
    exact h.vr _ this.2
  have h2 : c.parts.all (fun p => !partWrong p && within c.names.length p.nodes) = true := all_true fun p hp => by rw [h.pw p hp, h.pin p hp]; rfl
  have h3 : c.qos.all (fun q => !qosWrong q) = true := all_true fun p hp => by rw [h.qw p hp]; rfl
  rw [h1, h2, h3, h.vv, decide_eq_true h.nl, decide_eq_true h.vl.symm, decide_eq_true h.nd, decide_eq_true h.pl, decide_eq_true h.pn, decide_eq_true h.ql, decide_eq_true h.qn]
  simp
end Go.Proofs.YtmnmcikbbfcjcaaGreatDoor
/-
  The document's words of a line.
-/
namespace Go.Proofs.YtmnmcikbbfcjcaaGreatDoor
open Go.RowKit Go.Shelf Vs

/-- What has come of a word that began at a place. -/
def begun (l : Str) (f : Int) (k : Nat) : Option Str := if f < 0 then none else some ((l.drop f.toNat).take (k - f.toNat))
theorem begun_no (l : Str) (k : Nat) : begun l (-1) k = none := by unfold begun; rw [if_pos (by decide)]
theorem begun_yes (l : Str) (a k : Nat) : begun l a k = some ((l.drop a).take (k - a)) := by
  unfold begun; rw [if_neg (by omega)]; simp
theorem wb_blank {l : Str} {k : Nat} (hk : k < l.length) (hb : blankB l[k] = true) (st : Option Str) : wb st (l.drop k) = st.toList ++ wb none (l.drop (k + 1)) := by
  rw [List.drop_eq_getElem_cons hk, wb, if_pos hb]
theorem wb_start {l : Str} {k : Nat} (hk : k < l.length) (hb : blankB l[k] = false) : wb none (l.drop k) = wb (begun l k (k + 1)) (l.drop (k + 1)) := by
  have h1 : (l.drop k).take 1 = [l[k]] := by rw [List.drop_eq_getElem_cons hk]; rfl
  rw [begun_yes, show k + 1 - k = 1 by omega, h1, List.drop_eq_getElem_cons hk, wb, if_neg (by rw [hb]; decide)]
  rfl
theorem wb_more {l : Str} {a k : Nat} (hk : k < l.length) (ha : a < k) (hb : blankB l[k] = false) : wb (begun l a k) (l.drop k) = wb (begun l a (k + 1)) (l.drop (k + 1)) := by
  rw [begun_yes, begun_yes]
  conv => lhs; rw [List.drop_eq_getElem_cons hk, wb, if_neg (by rw [hb]; decide)]
  congr 2
  rw [show k + 1 - a = (k - a) + 1 by omega, List.take_succ_eq_append_getElem (by rw [List.length_drop]; omega), List.getElem_drop]
  simp [show a + (k - a) = k by omega]
theorem wb_end {l : Str} {k : Nat} (hk : l.length ≤ k) (st : Option Str) : wb st (l.drop k) = st.toList := by
  rw [List.drop_of_length_le hk]; rfl
theorem blank_iff (c : UInt8) : blankB c = true ↔ ((c.toNat : Int) = 32 ∨ (c.toNat : Int) = 9) := by
  unfold blankB
  rw [Bool.or_eq_true, beq_iff_eq, beq_iff_eq, ← UInt8.toNat_inj, ← UInt8.toNat_inj]
  show c.toNat = 32 ∨ c.toNat = 9 ↔ _
  omega
def WInv (w : World) (s : ByteArray) (o f i : Value) (wr : World) : Prop := ∃ (out : List Str) (k : Nat) (fi : Int), i = .int .i64 k ∧ f = .int .i64 fi ∧ OwnS wr w.heap.size o out ∧ Below w.heap.size w wr ∧ k ≤ s.size + 1 ∧ out.length ≤ k ∧ wb none (bl s) = out ++ wb (begun (bl s) fi k) ((bl s).drop k) ∧ (fi = -1 ∨ ∃ a : Nat, fi = a ∧ a < k ∧ k ≤ s.size)
set_option maxRecDepth 100000 in
set_option maxHeartbeats 16000000 in
theorem rWords_wb (s : ByteArray) (w : World) (hs : s.size ≤ 1000000) : Calls Tryz.prog 54 #[.string s] w fun e w' => ∃ v, e = .returned v ∧ OwnS w' w.heap.size v (wb none (bl s)) ∧ Below w.heap.size w w' := by
  have hsI : (s.size : Int) ≤ 1000000 := by omega
  have hz := bl_len s
  have h0 := fhid (show WInv w s (.slice none 0 0) (.int .i64 (-1)) (.int .i64 0) w from ⟨[], 0, -1, rfl, rfl, OwnS.nil _ _, Below.refl _ _, Nat.zero_le _, Nat.le_refl _, by rw [begun_no]; rfl, .inl rfl⟩)
  obtain ⟨R, hR⟩ : ∃ R, wb none (bl s) = R := ⟨_, rfl⟩
  rw [hR]
  replace hR := fhid hR
  go_enter Tryz.func54, Tryz.ntmps54
  go_wp2_with fail
  go_loopw [3, 4, 5] (fun o f i wr => WInv w s o f i wr) (fun _ _ i _ => s.size + 1 - (intOf i).toNat)
  case atStart => exact h0.out
  case round =>
    obtain ⟨out, k, fi, rfl, rfl, ho, hB, hk, hol, heq, hf⟩ := hrel
    obtain ⟨A, cap, rfl, _⟩ := ownsRow_shape ho
    have k0 : (0 : Int) ≤ k := by omega
    have hbase := hB.size
    replace ho := fhid ho
    replace hB := fhid hB
    by_cases hlt : k ≤ s.size
    · have i1 : (k : Int) ≤ s.size := by omega
      by_cases hlt2 : k < s.size
      · have i2 : (k : Int) < s.size := by omega
        have hl : k < (bl s).length := by omega
        have hc : (bl s)[k] = s[k] := bl_get s k hlt2 hl
        have hbi := blank_iff s[k]
        by_cases hbk : blankB s[k] = true
        · have hw1 := wb_blank hl (by rw [hc]; exact hbk) (begun (bl s) fi k)
          rw [hw1] at heq
          have hb2 := hbi.1 hbk
          clear hbi hw1 hc
          rcases hf with rfl | ⟨a, rfl, ha, hak⟩
          · rw [begun_no] at heq
            have hnx := fhid (show ∀ W, OwnS W w.heap.size (.slice A out.length cap) out → Below w.heap.size w W → WInv w s (.slice A out.length cap) (.int .i64 (-1)) (.int .i64 ((k : Int) + 1)) W from fun W h1 h2 => ⟨out, k + 1, -1, by go_num, rfl, h1, h2, by omega, by omega, by rw [begun_no]; exact heq, .inl rfl⟩)
            clear heq
            by_cases hc32 : (s[k].toNat : Int) = 32
            · have e1 : ((s[k].toNat : Int) != 32) = false := by simp; omega
              have e1' : ((s[k].toNat : Int) == 32) = true := by simp; omega
              clear hb2
              go_wp2_with fail
              go_roundw
              case rel => exact hnx.out _ ho.out hB.out
              case measure => simp [intOf]; omega
            · have hc9 : (s[k].toNat : Int) = 9 := by omega
              have e1 : ((s[k].toNat : Int) != 32) = true := by simp; omega
              have e2 : ((s[k].toNat : Int) != 9) = false := by simp; omega
              have e1' : ((s[k].toNat : Int) == 32) = false := by simp; omega
              have e2' : ((s[k].toNat : Int) == 9) = true := by simp; omega
              clear hb2
              go_wp2_with fail
              go_roundw
              case rel => exact hnx.out _ ho.out hB.out
              case measure => simp [intOf]; omega
          · rw [begun_yes] at heq
            have a0 : (0 : Int) ≤ a := by omega
            have a1 : (a : Int) ≤ k := by omega
            have an : ¬ (a : Int) < 0 := by omega
            obtain ⟨X, hX⟩ : ∃ X, s.extract a k = X := ⟨_, rfl⟩
            have hXs := fhid (show X = str (((bl s).drop a).take (k - a)) by rw [← hX, ext_str])
            generalize ((bl s).drop a).take (k - a) = x at *
            have hnx := fhid (show ∀ v W, OwnS W w.heap.size v (out ++ [x]) → Below w.heap.size w W → WInv w s v (.int .i64 (-1)) (.int .i64 ((k : Int) + 1)) W from fun v W h1 h2 => ⟨out ++ [x], k + 1, -1, by go_num, rfl, h1, h2, by omega, by simp; omega, by rw [begun_no, heq]; simp, .inl rfl⟩)
            clear heq
            have hol2 : out.length ≤ 1048576 := by omega
            by_cases hc32 : (s[k].toNat : Int) = 32
            · have e1 : ((s[k].toNat : Int) != 32) = false := by simp; omega
              have e1' : ((s[k].toNat : Int) == 32) = true := by simp; omega
              clear hb2
              go_wp2_with (at_builtin; refine app_name rfl _ _ rfl w.heap.size _ out x X hXs.out _ rfl ho.out rfl _ (by first | rfl | simp) rfl hol2 hbase ?_; intro v6 w6 o6 g6 b6)
              go_roundw
              case rel => exact hnx.out _ _ o6 (hB.out.trans b6)
              case measure => simp [intOf]; omega
            · have hc9 : (s[k].toNat : Int) = 9 := by omega
              have e1 : ((s[k].toNat : Int) != 32) = true := by simp; omega
              have e2 : ((s[k].toNat : Int) != 9) = false := by simp; omega
              have e1' : ((s[k].toNat : Int) == 32) = false := by simp; omega
              have e2' : ((s[k].toNat : Int) == 9) = true := by simp; omega
              clear hb2
              go_wp2_with (at_builtin; refine app_name rfl _ _ rfl w.heap.size _ out x X hXs.out _ rfl ho.out rfl _ (by first | rfl | simp) rfl hol2 hbase ?_; intro v6 w6 o6 g6 b6)
              go_roundw
              case rel => exact hnx.out _ _ o6 (hB.out.trans b6)
              case measure => simp [intOf]; omega
        · have hbf : blankB s[k] = false := by simpa using hbk
          have hn : ¬ ((s[k].toNat : Int) = 32 ∨ (s[k].toNat : Int) = 9) := fun h => hbk (hbi.2 h)
          have e1 : ((s[k].toNat : Int) != 32) = true := by simp; omega
          have e2 : ((s[k].toNat : Int) != 9) = true := by simp; omega
          have e1' : ((s[k].toNat : Int) == 32) = false := by simp; omega
          have e2' : ((s[k].toNat : Int) == 9) = false := by simp; omega
          have n1 : ¬ (s[k].toNat : Int) = 32 := fun h => hn (.inl h)
          have n2 : ¬ (s[k].toNat : Int) = 9 := fun h => hn (.inr h)
          clear hn hbi
          rcases hf with rfl | ⟨a, rfl, ha, hak⟩
          · rw [begun_no, wb_start hl (by rw [hc]; exact hbf)] at heq
            have hnx := fhid (show ∀ W, OwnS W w.heap.size (.slice A out.length cap) out → Below w.heap.size w W → WInv w s (.slice A out.length cap) (.int .i64 k) (.int .i64 ((k : Int) + 1)) W from fun W h1 h2 => ⟨out, k + 1, k, by go_num, rfl, h1, h2, by omega, by omega, heq, .inr ⟨k, rfl, by omega, by omega⟩⟩)
            clear heq hbf hbk hc
            have an : ¬ (k : Int) < 0 := by omega
            go_wp2_with fail
            all_goals try (exfalso; rename_i hx; simp only [bne_eq_false_iff_eq] at hx; omega)
            go_roundw
            case rel => exact hnx.out _ ho.out hB.out
            case measure => simp [intOf]; omega
          · rw [wb_more hl ha (by rw [hc]; exact hbf)] at heq
            have hnx := fhid (show ∀ W, OwnS W w.heap.size (.slice A out.length cap) out → Below w.heap.size w W → WInv w s (.slice A out.length cap) (.int .i64 a) (.int .i64 ((k : Int) + 1)) W from fun W h1 h2 => ⟨out, k + 1, a, by go_num, rfl, h1, h2, by omega, by omega, heq, .inr ⟨a, rfl, by omega, by omega⟩⟩)
            clear heq hbf hbk hc
            have a0 : (0 : Int) ≤ a := by omega
            have an : ¬ (a : Int) < 0 := by omega
            go_wp2_with fail
            go_roundw
            case rel => exact hnx.out _ ho.out hB.out
            case measure => simp [intOf]; omega
      · have i2 : ¬ (k : Int) < s.size := by omega
        rw [wb_end (by omega)] at heq
        rcases hf with rfl | ⟨a, rfl, ha, hak⟩
        · rw [begun_no] at heq
          have hnx := fhid (show ∀ W, OwnS W w.heap.size (.slice A out.length cap) out → Below w.heap.size w W → WInv w s (.slice A out.length cap) (.int .i64 (-1)) (.int .i64 ((k : Int) + 1)) W from fun W h1 h2 => ⟨out, k + 1, -1, by go_num, rfl, h1, h2, by omega, by omega, by rw [begun_no, wb_end (by omega)]; exact heq, .inl rfl⟩)
          clear heq
          go_wp2_with fail
          go_roundw
          case rel => exact hnx.out _ ho.out hB.out
          case measure => simp [intOf]; omega
        · rw [begun_yes] at heq
          have a0 : (0 : Int) ≤ a := by omega
          have a1 : (a : Int) ≤ k := by omega
          have an : ¬ (a : Int) < 0 := by omega
          obtain ⟨X, hX⟩ : ∃ X, s.extract a k = X := ⟨_, rfl⟩
          have hXs := fhid (show X = str (((bl s).drop a).take (k - a)) by rw [← hX, ext_str])
          generalize ((bl s).drop a).take (k - a) = x at *
          have hnx := fhid (show ∀ v W, OwnS W w.heap.size v (out ++ [x]) → Below w.heap.size w W → WInv w s v (.int .i64 (-1)) (.int .i64 ((k : Int) + 1)) W from fun v W h1 h2 => ⟨out ++ [x], k + 1, -1, by go_num, rfl, h1, h2, by omega, by simp; omega, by rw [begun_no, wb_end (by omega), heq]; simp, .inl rfl⟩)
          clear heq
          have hol2 : out.length ≤ 1048576 := by omega
          go_wp2_with (at_builtin; refine app_name rfl _ _ rfl w.heap.size _ out x X hXs.out _ rfl ho.out rfl _ (by first | rfl | simp) rfl hol2 hbase ?_; intro v6 w6 o6 g6 b6)
          go_roundw
          case rel => exact hnx.out _ _ o6 (hB.out.trans b6)
          case measure => simp [intOf]; omega
    · have i1 : ¬ (k : Int) ≤ s.size := by omega
      have hE := fhid (show out = R by
        rw [← hR.out, heq, wb_end (by omega)]
        rcases hf with rfl | ⟨a, rfl, ha, hak⟩
        · rw [begun_no]; simp
        · omega)
      clear heq hf
      go_wp2_with fail
      go_ret
      exact ⟨_, rfl, by rw [← hE.out]; exact ho.out, hB.out⟩
theorem rWords_any (s : ByteArray) (w : World) (hs : s.size ≤ 1000000) : Calls Tryz.prog 54 #[.string s] w fun e w' => ∃ v, e = .returned v ∧ OwnS w' w.heap.size v (words (bl s)) ∧ Below w.heap.size w w' := by
  rw [words_wb]
  exact rWords_wb s w hs
end Go.Proofs.YtmnmcikbbfcjcaaGreatDoor
/-
  The document's config in memory, and what turns in it.
-/
namespace Go.Proofs.YtmnmcikbbfcjcaaGreatDoor
open Go.RowKit Go.Shelf Vs

abbrev TDPart : TypeId := 68
abbrev TDQos : TypeId := 71
abbrev TDParts : TypeId := 24
abbrev TDQoss : TypeId := 25
theorem infoDPart : (Tryz.prog.info? TDPart).map (fun i => (i.zero, i.size, i.bytes)) = some (some (.agg #[.string ⟨#[]⟩, .int .u64 0, .int .u64 0, .int .u64 0, .int .u64 0, .int .i64 0, .int .i64 0, .int .i64 0]), 8, 72) := by kernel_rfl
theorem infoDQos : (Tryz.prog.info? TDQos).map (fun i => (i.zero, i.size, i.bytes)) = some (some (.agg #[.string ⟨#[]⟩, .int .i64 0, .int .i64 0]), 3, 32) := by kernel_rfl
def OwnRP (w : World) (base : Nat) (v : Value) (l : List PartC) : Prop := w.ownsRow base TDPart 8 v l.length (PVs l)
def OwnRQ (w : World) (base : Nat) (v : Value) (l : List QosC) : Prop := w.ownsRow base TDQos 3 v l.length (QVs l)
/-- The config in block b has such rows; all that is its own lies in blocks from B on. -/
structure DG (B : Nat) (w : World) (b : Nat) (ns : List Str) (vs : List V3) (ps : List PartC) (qs : List QosC) (vals : List Int) (vN vV vP vQ : Value) : Prop where
  box : VBox w b TRConf9 [vN, vV, vP, vQ] vals []
  len : vals.length = 8
  nm : OwnS w B vN ns
  vc : OwnV w B vV vs
  pt : OwnRP w B vP ps
  qs : OwnRQ w B vQ qs
  bb : B ≤ b
/-- The config in block b is c. -/
abbrev Doc (B : Nat) (w : World) (b : Nat) (c : Cfg) (vN vV vP vQ : Value) : Prop := DG B w b c.names c.vecs c.parts c.qos c.vals vN vV vP vQ
section
variable {B : Nat} {w w' : World} {b : Nat} {ns : List Str} {vs : List V3} {ps : List PartC} {qs : List QosC} {vals : List Int} {vN vV vP vQ : Value}
theorem DG.lt (h : DG B w b ns vs ps qs vals vN vV vP vQ) : b < w.heap.size := Box.lt h.box
theorem DG.below (h : DG B w b ns vs ps qs vals vN vV vP vQ) (hb : Below w.heap.size w w') : DG B w' b ns vs ps qs vals vN vV vP vQ :=
  { h with box := VBox.below h.box hb (Box.lt h.box), nm := ownsRow_below h.nm hb, vc := ownsRow_below h.vc hb, pt := ownsRow_below h.pt hb, qs := ownsRow_below h.qs hb }
/-- One value is another. -/
theorem DG.value (h : DG B w b ns vs ps qs vals vN vV vP vQ) (i k : Nat) (hi : i < 8) (hk : k = 4 + i) (n : Int) : DG B (w.setCell ⟨b, k, none⟩ (.int .i64 n)) b ns vs ps qs (vals.set i n) vN vV vP vQ :=
  { h with
    box := VBox.set h.box (by rw [h.len]; exact hi) hk n
    len := by rw [List.length_set]; exact h.len
    nm := own_set h.nm h.box (by decide) _ _
    vc := own_set h.vc h.box (by decide) _ _
    pt := own_set h.pt h.box (by decide) _ _
    qs := own_set h.qs h.box (by decide) _ _ }
/-- The qualities' row is another. -/
theorem DG.rowQ (h : DG B w b ns vs ps qs vals vN vV vP vQ) (hg : w.grownBy w' vQ.ownBlock) {vQ' : Value} {qs' : List QosC} (hr : OwnRQ w' B vQ' qs') : DG B (w'.setCell ⟨b, 3, none⟩ vQ') b ns vs ps qs' vals vN vV vP vQ' := by
  have hbx : Box w' b TRConf9 ([vN, vV, vP, vQ] ++ iv vals ++ []) := Box.grown h.box hg (own_tag h.qs h.box (by decide))
  exact { h with
    box := Box.set hbx 3 vQ'
    nm := own_set (own_grown h.nm hg (own_own h.nm h.qs (by decide))) hbx (by decide) _ _
    vc := own_set (own_grown h.vc hg (own_own h.vc h.qs (by decide))) hbx (by decide) _ _
    pt := own_set (own_grown h.pt hg (own_own h.pt h.qs (by decide))) hbx (by decide) _ _
    qs := own_set hr hbx (by decide) _ _ }
theorem DG.rowP (h : DG B w b ns vs ps qs vals vN vV vP vQ) (hg : w.grownBy w' vP.ownBlock) {vP' : Value} {ps' : List PartC} (hr : OwnRP w' B vP' ps') : DG B (w'.setCell ⟨b, 2, none⟩ vP') b ns vs ps' qs vals vN vV vP' vQ := by
  have hbx : Box w' b TRConf9 ([vN, vV, vP, vQ] ++ iv vals ++ []) := Box.grown h.box hg (own_tag h.pt h.box (by decide))
  exact { h with
    box := Box.set hbx 2 vP'
    nm := own_set (own_grown h.nm hg (own_own h.nm h.pt (by decide))) hbx (by decide) _ _
    vc := own_set (own_grown h.vc hg (own_own h.vc h.pt (by decide))) hbx (by decide) _ _
    pt := own_set hr hbx (by decide) _ _
    qs := own_set (own_grown h.qs hg (own_own h.qs h.pt (by decide))) hbx (by decide) _ _ }
theorem DG.rowN (h : DG B w b ns vs ps qs vals vN vV vP vQ) (hg : w.grownBy w' vN.ownBlock) {vN' : Value} {ns' : List Str} (hr : OwnS w' B vN' ns') : DG B (w'.setCell ⟨b, 0, none⟩ vN') b ns' vs ps qs vals vN' vV vP vQ := by
  have hbx : Box w' b TRConf9 ([vN, vV, vP, vQ] ++ iv vals ++ []) := Box.grown h.box hg (own_tag h.nm h.box (by decide))
  exact { h with
    box := Box.set hbx 0 vN'
    nm := own_set hr hbx (by decide) _ _
    vc := own_set (own_grown h.vc hg (own_own h.vc h.nm (by decide))) hbx (by decide) _ _
    pt := own_set (own_grown h.pt hg (own_own h.pt h.nm (by decide))) hbx (by decide) _ _
    qs := own_set (own_grown h.qs hg (own_own h.qs h.nm (by decide))) hbx (by decide) _ _ }
theorem DG.rowV (h : DG B w b ns vs ps qs vals vN vV vP vQ) (hg : w.grownBy w' vV.ownBlock) {vV' : Value} {vs' : List V3} (hr : OwnV w' B vV' vs') : DG B (w'.setCell ⟨b, 1, none⟩ vV') b ns vs' ps qs vals vN vV' vP vQ := by
  have hbx : Box w' b TRConf9 ([vN, vV, vP, vQ] ++ iv vals ++ []) := Box.grown h.box hg (own_tag h.vc h.box (by decide))
  exact { h with
    box := Box.set hbx 1 vV'
    nm := own_set (own_grown h.nm hg (own_own h.nm h.vc (by decide))) hbx (by decide) _ _
    vc := own_set hr hbx (by decide) _ _
    pt := own_set (own_grown h.pt hg (own_own h.pt h.vc (by decide))) hbx (by decide) _ _
    qs := own_set (own_grown h.qs hg (own_own h.qs h.vc (by decide))) hbx (by decide) _ _ }
theorem DG.fields (h : DG B w b ns vs ps qs vals vN vV vP vQ) : (w.cell? ⟨b, 0, none⟩ = some vN ∧ w.cell? ⟨b, 1, none⟩ = some vV ∧ w.cell? ⟨b, 2, none⟩ = some vP ∧ w.cell? ⟨b, 3, none⟩ = some vQ) ∧ (∀ i, w.frozen? ⟨b, i, none⟩ = false) ∧ b < w.heap.size :=
  ⟨⟨Box.cell h.box 0, Box.cell h.box 1, Box.cell h.box 2, Box.cell h.box 3⟩, Box.free h.box, Box.lt h.box⟩
end
theorem doc_cr {B : Nat} {w : World} {b : Nat} {c : Cfg} {vN vV vP vQ : Value} (h : Doc B w b c vN vV vP vQ) : ∃ AN cN AV cV AP cP AQ cQ a0 a1 a2 a3 a4 a5 a6 a7, vN = .slice AN c.names.length cN ∧ vV = .slice AV c.vecs.length cV ∧ vP = .slice AP c.parts.length cP ∧ vQ = .slice AQ c.qos.length cQ ∧
    c.vals = [a0, a1, a2, a3, a4, a5, a6, a7] ∧ Box w b TRConf9 [vN, vV, vP, vQ, .int .i64 a0, .int .i64 a1, .int .i64 a2, .int .i64 a3, .int .i64 a4, .int .i64 a5, .int .i64 a6, .int .i64 a7] ∧
    CR w (.agg #[.slice AN c.names.length cN, .slice AV c.vecs.length cV, .slice AP c.parts.length cP, .slice AQ c.qos.length cQ, .int .i64 a0, .int .i64 a1, .int .i64 a2, .int .i64 a3, .int .i64 a4, .int .i64 a5, .int .i64 a6, .int .i64 a7]) c := by
  obtain ⟨AN, cN, e1, p1⟩ := ownsRow_shape h.nm
  obtain ⟨AV, cV, e2, p2⟩ := ownsRow_shape h.vc
  obtain ⟨AP, cP, e3, p3⟩ := ownsRow_shape h.pt
  obtain ⟨AQ, cQ, e4, p4⟩ := ownsRow_shape h.qs
  obtain ⟨a0, a1, a2, a3, a4, a5, a6, a7, ev⟩ : ∃ a0 a1 a2 a3 a4 a5 a6 a7, c.vals = [a0, a1, a2, a3, a4, a5, a6, a7] := by
    have hl := h.len
    match c.vals, hl with
    | [a0, a1, a2, a3, a4, a5, a6, a7], _ => exact ⟨_, _, _, _, _, _, _, _, rfl⟩
  have hb := h.box
  unfold VBox at hb
  rw [ev] at hb
  exact ⟨AN, cN, AV, cV, AP, cP, AQ, cQ, a0, a1, a2, a3, a4, a5, a6, a7, e1, e2, e3, e4, ev, hb, _, _, _, _, _, _, _, _, _, _, _, _, _, _, _, _, rfl, ev, p1, p2, p3, p4⟩
/-- What a line's call comes to. -/
def LineD (B b : Nat) (r : Line) (w : World) (e : Ending) (w' : World) : Prop := Below B w w' ∧ match r with
  | .error k => e = .returned (.int .i64 (k : Int))
  | .ok c => e = .returned (.int .i64 0) ∧ ∃ vN vV vP vQ, Doc B w' b c vN vV vP vQ
theorem lined_bad {B b k : Nat} {r : Line} {w w' : World} (h : r = .error k) (hb : Below B w w') : LineD B b r w (.returned (.int .i64 (k : Int))) w' := by subst h; exact ⟨hb, rfl⟩
theorem lined_ok {B b : Nat} {r : Line} {c : Cfg} {w w' : World} {vN vV vP vQ : Value} (h : r = .ok c) (hb : Below B w w') (hr : Doc B w' b c vN vV vP vQ) : LineD B b r w (.returned (.int .i64 0)) w' := by subst h; exact ⟨hb, rfl, _, _, _, _, hr⟩
theorem lined_out {B b : Nat} {r : Line} {W W2 : World} {e : Ending} (h : LineD B b r W e W2) : ∃ x : Int, e = .returned (.int .i64 x) ∧ LineD B b r W (.returned (.int .i64 x)) W2 := by
  obtain ⟨h1, h2⟩ := h
  cases r with
  | error k => exact ⟨k, h2, h1, rfl⟩
  | ok c => exact ⟨0, h2.1, h1, rfl, h2.2⟩
/-- A partition put behind a row of the document's partitions. -/
theorem app_rpart {W : World} {B : Nat} {vP : Value} {l : List PartC} {q : PartC} (h : OwnRP W B vP l) (hl : l.length ≤ 1000) (hB : B ≤ W.heap.size) (g : Nat) (hg : Box W g TDPart (partV q)) (ty : TypeId) :
    ∃ A' c' w', (Builtin.append_ #[TDParts, TDParts] ty #[vP, .slice (some ⟨g, 0, none⟩) 1 1]).run Tryz.prog W = .ok (.slice A' (l.length + 1) c') w' ∧ OwnRP w' B (.slice A' (l.length + 1) c') (l ++ [q]) ∧ W.grownBy w' vP.ownBlock := by
  obtain ⟨v', w', h1, h2, h3, _⟩ := app_run (w := W) TDParts TDPart _ 8 72 Tryz.underlying24 infoDPart rfl (by decide) ty B vP l.length (PVs l) h W.heap.size (some ⟨g, 0, none⟩) 1 1 (partV q) (fun _ => ⟨g, 0, rfl, Box.lt hg, fun j hj => by rw [Nat.zero_add, Box.cell hg]; exact List.getElem?_eq_getElem hj⟩) rfl (part_one q) (by omega) (by omega) hB
  obtain ⟨A', c', rfl, -, -, -⟩ := ownsRow_shape h2
  exact ⟨A', c', w', h1, by unfold OwnRP; rw [PVs_app, List.length_append, List.length_singleton]; exact h2, h3⟩
/-- A quality put behind a row of the document's qualities. -/
theorem app_rqos {W : World} {B : Nat} {vQ : Value} {l : List QosC} {q : QosC} (h : OwnRQ W B vQ l) (hl : l.length ≤ 1000) (hB : B ≤ W.heap.size) (g : Nat) (hg : Box W g TDQos (qosV q)) (ty : TypeId) :
    ∃ A' c' w', (Builtin.append_ #[TDQoss, TDQoss] ty #[vQ, .slice (some ⟨g, 0, none⟩) 1 1]).run Tryz.prog W = .ok (.slice A' (l.length + 1) c') w' ∧ OwnRQ w' B (.slice A' (l.length + 1) c') (l ++ [q]) ∧ W.grownBy w' vQ.ownBlock := by
  obtain ⟨v', w', h1, h2, h3, _⟩ := app_run (w := W) TDQoss TDQos _ 3 32 Tryz.underlying25 infoDQos rfl (by decide) ty B vQ l.length (QVs l) h W.heap.size (some ⟨g, 0, none⟩) 1 1 (qosV q) (fun _ => ⟨g, 0, rfl, Box.lt hg, fun j hj => by rw [Nat.zero_add, Box.cell hg]; exact List.getElem?_eq_getElem hj⟩) rfl (qos_one q) (by omega) (by omega) hB
  obtain ⟨A', c', rfl, -, -, -⟩ := ownsRow_shape h2
  exact ⟨A', c', w', h1, by unfold OwnRQ; rw [QVs_app, List.length_append, List.length_singleton]; exact h2, h3⟩
/-- A name, in a row of its own, put behind a row of names. -/
theorem app_one {W : World} {B : Nat} {vN : Value} {l : List Str} (h : OwnS W B vN l) (hl : l.length ≤ 1000) (hB : B ≤ W.heap.size) (g : Nat) (x : Str) (hg : Box W g 9 [.string (str x)]) (ty : TypeId) :
    ∃ A' c' w', (Builtin.append_ #[TStrs, TStrs] ty #[vN, .slice (some ⟨g, 0, none⟩) 1 1]).run Tryz.prog W = .ok (.slice A' (l.length + 1) c') w' ∧ OwnS w' B (.slice A' (l.length + 1) c') (l ++ [x]) ∧ W.grownBy w' vN.ownBlock ∧ ((Value.slice A' (l.length + 1) c').ownBlock = vN.ownBlock ∨ (Value.slice A' (l.length + 1) c').ownBlock = some W.heap.size) :=
  app_strs h hl hB (some ⟨g, 0, none⟩) 1 1 [x] rfl (fun _ => ⟨g, 0, rfl, Box.lt hg, fun j hj => by rw [Nat.zero_add, Box.cell hg]; exact List.getElem?_eq_getElem hj⟩) (by omega) ty
/-- A vector, in a row of its own, put behind a row of vectors. -/
theorem app_vec1 {W : World} {B : Nat} {vV : Value} {l : List V3} (h : OwnV W B vV l) (hl : l.length ≤ 1000) (hB : B ≤ W.heap.size) (g : Nat) (x : V3) (hg : Box W g TVec [.int .i64 x.1, .int .i64 x.2.1, .int .i64 x.2.2]) (ty : TypeId) :
    ∃ A' c' w', (Builtin.append_ #[TVecs2, TVecs2] ty #[vV, .slice (some ⟨g, 0, none⟩) 1 1]).run Tryz.prog W = .ok (.slice A' (l.length + 1) c') w' ∧ OwnV w' B (.slice A' (l.length + 1) c') (l ++ [x]) ∧ W.grownBy w' vV.ownBlock ∧ ((Value.slice A' (l.length + 1) c').ownBlock = vV.ownBlock ∨ (Value.slice A' (l.length + 1) c').ownBlock = some W.heap.size) := by
  obtain ⟨v', w', h1, h2, h3, h4⟩ := app_run (w := W) TVecs2 TVec _ 3 24 Tryz.underlying23 infoVec rfl (by decide) ty B vV l.length (VVs l) h W.heap.size (some ⟨g, 0, none⟩) 1 1 (VVs [x]) (fun _ => ⟨g, 0, rfl, Box.lt hg, fun j hj => by rw [Nat.zero_add, Box.cell hg]; exact List.getElem?_eq_getElem hj⟩) rfl (VVs_one _) (by omega) (by omega) hB
  obtain ⟨A', c', rfl, -, -, -⟩ := ownsRow_shape h2
  exact ⟨A', c', w', h1, by unfold OwnV; rw [VVs_app, List.length_append, List.length_singleton]; exact h2, h3, h4⟩
theorem strs_grown {w w' : World} {row : Option Nat} {A : Option Addr} {ns : List Str} (h : Strs w w.heap.size A ns) (hg : w.grownBy w' row) (hr : ∀ g o, A = some ⟨g, o, none⟩ → row ≠ some g) : Strs w' w'.heap.size A ns := fun h0 => by
  obtain ⟨g, o, e, hb, hc⟩ := h h0
  exact ⟨g, o, e, Nat.lt_of_lt_of_le hb hg.size, fun j hj => (World.cell?_of_block (a := ⟨g, o + j, none⟩) (hg.block g hb (fun e2 => hr g o e e2.symm))).trans (hc j hj)⟩
end Go.Proofs.YtmnmcikbbfcjcaaGreatDoor
