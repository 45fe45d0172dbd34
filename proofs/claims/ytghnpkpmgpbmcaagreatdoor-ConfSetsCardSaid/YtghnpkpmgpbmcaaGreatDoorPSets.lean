/-
  PROVED: ConfSets: a value that is set is that, the last one of several, and one beyond its bounds is refused at its line, for every key and all numbers.
  Conditions: the library's tables and its two errors read as the program's text lays them (the card ties them); nothing else.
-/
import Derived.Test.YtghnpkpmgpbmcaaGreatDoorW1
import Derived.Test.YtghnpkpmgpbmcaaGreatDoorW2
import Derived.Test.YtghnpkpmgpbmcaaGreatDoorK7
import Derived.Deep.CutBlock
import Derived.Deep.DeepCutAuto
import Derived.Deep.RegionWith
import Derived.Test.YtghnpkpmgpbmcaaGreatDoorK8
import Derived.Deep.Slices
import Derived.Deep.Strs
import Derived.SizedLaws
set_option linter.unusedSimpArgs false
set_option linter.unusedVariables false
/-
  ConfSets, walked, given what Parse and the probe answer.
-/
namespace Go.Proofs.YtghnpkpmgpbmcaaGreatDoor
open Go.RowKit Go.Shelf Vs

/-- What Parse and the probe answer. -/
def ParseIs : Prop := ∀ (s : ByteArray) (W : World), Env W → s.size ≤ 140737488355328 → Calls Tryz.prog 9 #[.string s] W fun e w' => ∃ v, e = .returned (.tuple #[v, .agg #[.int .i64 ((parseC (bl s)).2.1 : Int), .int .i64 ((parseC (bl s)).2.2 : Int)]]) ∧ CR w' v (parseC (bl s)).1 ∧ Below W.heap.size W w'
def AliveIs : Prop := ∀ W : World, Env W → Calls Tryz.prog 8 #[] W fun e w' => e = .returned (.bool true) ∧ Below W.heap.size W w'
def highL (k : Nat) : Int := if k = 4 then 256 else highAt k
theorem low_high {k : Nat} (h : k < 8) : lowAt k = (if k = 1 ∨ k = 2 ∨ k = 3 ∨ k = 5 ∨ k = 6 then 1 else 0) ∧ highL k = (if k = 4 ∨ k = 5 then 256 else 1000000) := by
  rcases eight h with rfl | rfl | rfl | rfl | rfl | rfl | rfl | rfl <;> decide
theorem bad_iff {k : Nat} (h : k < 8) (v : Nat) : (badV k v = true) ↔ (((v : Int) < lowAt k ∨ (v : Int) > highL k) ∧ ¬ (k = 4 ∧ (v : Int) ≤ 1000000)) := by
  unfold badV highL
  rcases eight h with rfl | rfl | rfl | rfl | rfl | rfl | rfl | rfl <;>
    simp [lowAt, highAt, valS] <;> omega
def UV (l : List Nat) : List Value := l.map fun x : Nat => .int .u32 (x : Int)
theorem RdS.u32 {w : World} {A : Option Addr} {n cap : Nat} {l : List Nat} (h : RdS w A n cap (UV l)) {k : Nat} (hk : k < l.length) : ∃ b o, A = some ⟨b, o, none⟩ ∧ b < w.heap.size ∧ w.cell? ⟨b, o + k, none⟩ = some (.int .u32 (l[k] : Int)) := by
  obtain ⟨b, o, e, hb, hc⟩ := h.2.2 (by unfold UV; rw [List.length_map]; omega)
  refine ⟨b, o, e, hb, ?_⟩
  rw [hc k (by unfold UV; rw [List.length_map]; exact hk)]
  unfold UV
  rw [List.getElem_map]
theorem keys_at {k : Nat} (h : k < 8) : (SV keysL)[k]? = some (.string (str (keyAt k))) := by
  rcases eight h with rfl | rfl | rfl | rfl | rfl | rfl | rfl | rfl <;> rfl
/-- Between two rounds. -/
def SR (w : World) (k : Nat) (us : List Nat) (j : Nat) (s6 s9 s10 : Value) (wr : World) : Prop :=
  s6 = .string (str (sbText ++ setText k (us.take j))) ∧ s9 = .int .i64 (lastV (us.take j) (-1)) ∧ s10 = .int .i64 (badAt k (us.take j) 4 : Int) ∧ Below w.heap.size w wr
theorem text_len {k : Nat} (h : k < 8) : ∀ us : List Nat, (∀ v ∈ us, v < 2000000) → (setText k us).length ≤ us.length * 21 := by
  intro us
  induction us with
  | nil => intro _; simp [setText]
  | cons u us ih =>
    intro hu
    have := ih (fun v hv => hu v (by simp [hv]))
    have e : setText k (u :: us) = setLine k u ++ 10 :: setText k us := by unfold setText; rw [List.flatMap_cons]; simp
    have k7 := (key_facts h).2.2.2
    have d7 := dec_len7 7 u (by have := hu u (by simp); omega) (by omega)
    rw [e, List.length_append, List.length_cons, List.length_cons]
    unfold setLine
    rw [List.length_append, List.length_cons, List.length_append, List.length_cons]
    have : kSet.length = 3 := rfl
    omega
theorem text_snoc (k : Nat) (us : List Nat) (v : Nat) : sbText ++ setText k (us ++ [v]) = (sbText ++ setText k us) ++ ((([115, 101, 116, 32] ++ keyAt k) ++ [32]) ++ dec v ++ [10]) := by
  unfold setText setLine kSet
  simp [List.flatMap_append]
theorem cat_str (a b : Str) (ha : a.length ≤ 10000000) (hb : b.length ≤ 10000000) : str a ++ str b = str (a ++ b) ∧ ¬ 9223372036854775807 < (str a).size + (str b).size := by
  refine ⟨str_app a b, ?_⟩
  rw [str_size, str_size]; omega
abbrev TVal8 : TypeId := 36
theorem field_vals (n v p q : Nat) (N V P Q : Option Addr) (cn cv cp cq : Nat) (a0 a1 a2 a3 a4 a5 a6 a7 : Int) (w : World) : (Instr.field TRConf (.agg #[.slice N n cn, .slice V v cv, .slice P p cp, .slice Q q cq, .int .i64 a0, .int .i64 a1, .int .i64 a2, .int .i64 a3, .int .i64 a4, .int .i64 a5, .int .i64 a6, .int .i64 a7]) 4).run Tryz.prog w = .ok (.agg #[.int .i64 a0, .int .i64 a1, .int .i64 a2, .int .i64 a3, .int .i64 a4, .int .i64 a5, .int .i64 a6, .int .i64 a7]) w := by kernel_rfl
theorem index_vals {k : Nat} (h : k < 8) (a0 a1 a2 a3 a4 a5 a6 a7 x : Int) (hx : [a0, a1, a2, a3, a4, a5, a6, a7][k]? = some x) (w : World) : (Instr.index TVal8 (.agg #[.int .i64 a0, .int .i64 a1, .int .i64 a2, .int .i64 a3, .int .i64 a4, .int .i64 a5, .int .i64 a6, .int .i64 a7]) (.int .i64 (k : Int))).run Tryz.prog w = .ok (.int .i64 x) w := by
  rcases eight h with rfl | rfl | rfl | rfl | rfl | rfl | rfl | rfl <;> (simp at hx; subst hx; kernel_rfl)
theorem boolv {a b : Bool} (h : a = b) : Value.bool a = .bool b := by rw [h]
theorem lastV_pos {us : List Nat} (h : ¬ lastV us (-1) < 0) (x : Int) : lastV us x = lastV us (-1) := by
  unfold lastV at *
  cases hl : us.getLast? with
  | none => rw [hl] at h; simp at h
  | some v => rfl
theorem valsAt_get {k : Nat} (h : k < 8) (x : Int) : (valsAt k x)[k]? = some x := by
  unfold valsAt
  rw [List.getElem?_set_self (by simpa [untold, valS] using h)]
set_option maxRecDepth 100000 in
set_option maxHeartbeats 32000000 in
theorem sets_core (key : Nat) (xs : List Nat) (A : Option Addr) (cap : Nat) (w : World) (hP : ParseIs) (hA : AliveIs) (hw : Env w) (hr : RdS w A xs.length cap (UV xs)) (hx32 : ∀ x ∈ xs, x < 4294967296) : Calls Tryz.prog 7 #[.int .u8 (key : Int), .slice A xs.length cap] w fun e w' => e = .returned (.bool true) ∧ Below w.heap.size w w' := by
  obtain ⟨k, hk, hk8⟩ : ∃ k : Nat, (key : Int) % 8 = (k : Int) ∧ k < 8 := ⟨key % 8, by omega, by omega⟩
  have k0 : (0 : Int) ≤ k := by omega
  have k8 : (k : Int) < 8 := by omega
  have hcap := hr.1
  have hcap2 : cap ≤ 9223372036854775807 := by have := hr.2.1; unfold maxLen at this; omega
  obtain ⟨m, hm⟩ : ∃ m : Nat, m = min xs.length 30 := ⟨_, rfl⟩
  have hmi : min (xs.length : Int) 30 = (m : Int) := by omega
  have hm0 : m ≤ xs.length := by omega
  have hm30 : m ≤ 30 := by omega
  clear hm
  obtain ⟨us, hus⟩ : ∃ us : List Nat, us = (xs.take m).map (· % 2000000) := ⟨_, rfl⟩
  have hul : us.length = m := by rw [hus, List.length_map, List.length_take]; omega
  have hu2 : ∀ v ∈ us, v < 2000000 := by
    intro v hv
    rw [hus] at hv
    obtain ⟨x, _, rfl⟩ := List.mem_map.1 hv
    omega
  have hug : ∀ j (h : j < m), us[j]'(by omega) = xs[j]'(by omega) % 2000000 := by
    intro j h
    simp [hus]
  have hst := fhid (show SR w k us 0 (.string (str sbText)) (.int .i64 (-1)) (.int .i64 0) w from ⟨by simp [setText], rfl, rfl, Below.refl _ _⟩)
  have hsb : str sbText = ⟨#[110, 111, 100, 101, 32, 110, 48, 32, 99, 112, 117, 61, 49, 10, 112, 97, 114, 116, 32, 112, 32, 110, 48, 10, 115, 101, 116, 32, 99, 97, 112, 32, 50, 53, 54, 10]⟩ := rfl
  rw [hsb] at hst
  replace hx32 := fhid hx32
  replace hul := fhid hul
  replace hug := fhid hug
  replace hu2 := fhid hu2
  replace hr := fhid hr
  replace hw := fhid hw
  clear hsb hus
  go_enter Tryz.func7, Tryz.ntmps7
  go_upto_block 0 with fail
  clear hk
  go_cut [7, 8] (fun s7 s8 wx => s7 = .int .i64 (lowAt k) ∧ s8 = .int .i64 (highL k) ∧ wx = w)
  case first =>
    obtain ⟨q1, q2⟩ := low_high hk8
    replace q1 := fhid q1
    replace q2 := fhid q2
    rcases eight hk8 with rfl | rfl | rfl | rfl | rfl | rfl | rfl | rfl
    all_goals
      go_wp2_with fail
      go_meet
      exact ⟨by rw [q1.out]; rfl, by rw [q2.out]; rfl, rfl⟩
  case rest =>
    obtain ⟨rfl, rfl, hw2⟩ := hcut
    subst hw2
    rename World => w
    have L0 := (low_high hk8).1
    have H0 := (low_high hk8).2
    have hLr : 0 ≤ lowAt k ∧ lowAt k ≤ 1 := by rw [L0]; split <;> decide
    have hHr : 256 ≤ highL k ∧ highL k ≤ 1000000 := by rw [H0]; split <;> decide
    clear L0 H0
    have hbi := fhid (fun v => bad_iff hk8 v)
    generalize hLK : lowAt k = L at *
    generalize hHK : highL k = H at *
    replace hLK := fhid hLK
    replace hHK := fhid hHK
    have hky := fun W => keys_any W
    have hkc := fhid (keys_at hk8)
    have hkf := fhid (key_facts hk8)
    go_wp2
    go_loopw [35, 6, 9, 10] (fun i s6 s9 s10 wr => ∃ j : Nat, j ≤ m ∧ i = .int .i64 j ∧ SR w k us j s6 s9 s10 wr) (fun i _ _ _ _ => m - (intOf i).toNat)
    case atStart => exact ⟨0, Nat.zero_le _, rfl, hst.out⟩
    case round =>
      obtain ⟨j, hj, rfl, rfl, rfl, rfl, hB⟩ := hrel
      have j0 : (0 : Int) ≤ j := by omega
      have j30 : (j : Int) ≤ 30 := by omega
      by_cases hlt : j < m
      · have j1 : (j : Int) < m := by omega
        have hjx : j < xs.length := by omega
        obtain ⟨bb, oo, rfl, hbb, hc0⟩ := hr.out.u32 hjx
        have hc := (hB.cell (p := ⟨bb, oo + j, none⟩) hbb).trans hc0
        have hbb2 := Nat.lt_of_lt_of_le hbb hB.size
        have hju : j < us.length := by rw [hul.out]; exact hlt
        have hv := hug.out j hlt
        have hv2 := hu2.out us[j] (List.getElem_mem hju)
        have ht1 : us.take (j + 1) = us.take j ++ [us[j]] := List.take_succ_eq_append_getElem hju
        have hvx : ((xs[j] : Nat) : Int) % 2000000 = ((us[j] : Nat) : Int) := by rw [hv]; omega
        have hx0 : (0 : Int) ≤ (xs[j] : Nat) := by omega
        have hx3 : ((xs[j] : Nat) : Int) < 4294967296 := by have := hx32.out xs[j] (List.getElem_mem hjx); omega
        have hdg := fun W => digits_rec us[j] us[j] ((us[j] : Nat) : Int) W rfl (Nat.le_refl _) (by omega)
        have htl := text_len hk8 (us.take j) (fun v hv => hu2.out v (List.mem_of_mem_take hv))
        have hlj : (us.take j).length = j := by rw [List.length_take]; omega
        have hsl : sbText.length = 36 := by decide
        have hkl := hkf.out.2.2.2
        have hdl := dec_len7 7 us[j] (by omega) (by omega)
        obtain ⟨c1, d1⟩ := cat_str [115, 101, 116, 32] (keyAt k) (by decide) (by omega)
        obtain ⟨c2, d2⟩ := cat_str ([115, 101, 116, 32] ++ keyAt k) [32] (by rw [List.length_append]; show 4 + _ ≤ _; omega) (by decide)
        obtain ⟨c3, d3⟩ := cat_str (([115, 101, 116, 32] ++ keyAt k) ++ [32]) (dec us[j]) (by rw [List.length_append, List.length_append]; show 4 + _ + 1 ≤ _; omega) (by omega)
        obtain ⟨c4, d4⟩ := cat_str ((([115, 101, 116, 32] ++ keyAt k) ++ [32]) ++ dec us[j]) [10] (by rw [List.length_append, List.length_append, List.length_append]; show 4 + _ + 1 + _ ≤ _; omega) (by decide)
        obtain ⟨c5, d5⟩ := cat_str (sbText ++ setText k (us.take j)) (((([115, 101, 116, 32] ++ keyAt k) ++ [32]) ++ dec us[j]) ++ [10]) (by rw [List.length_append]; omega) (by rw [List.length_append, List.length_append, List.length_append, List.length_append]; show 4 + _ + 1 + _ + 1 ≤ _; omega)
        have hnt := text_snoc k (us.take j) us[j]
        rw [← ht1] at hnt
        rw [← hnt] at c5
        have hba := badAt_snoc (k := k) (us.take j) us[j] 4 (by decide)
        rw [← ht1, hlj] at hba
        have hla := lastV_snoc (us.take j) us[j] (-1)
        rw [← ht1] at hla
        have hbv := hbi.out us[j]
        rw [show str [115, 101, 116, 32] = ⟨#[115, 101, 116, 32]⟩ from rfl] at c1 d1
        rw [show str [32] = ⟨#[32]⟩ from rfl] at c2 d2
        rw [show str [10] = ⟨#[10]⟩ from rfl] at c4 d4
        replace d1 : ¬ 9223372036854775807 < 4 + (str (keyAt k)).size := d1
        replace d2 : ¬ 9223372036854775807 < (str ([115, 101, 116, 32] ++ keyAt k)).size + 1 := d2
        replace d4 : ¬ 9223372036854775807 < (str ((([115, 101, 116, 32] ++ keyAt k) ++ [32]) ++ dec us[j])).size + 1 := d4
        replace hkc := hkc.out
        have hkx : ∀ (W : World) (g : Nat), Box W g 9 (SV keysL) → W.cell? ⟨g, k, none⟩ = some (.string (str (keyAt k))) := fun W g h => (Box.cell h k).trans hkc
        clear hkc hc0 hv ht1 htl hsl hkl hdl hnt
        replace hv2 := fhid hv2
        replace hlj := fhid hlj
        replace hba := fhid hba
        replace hla := fhid hla
        replace hbv := fhid hbv
        replace hju := fhid hju
        replace hkx := fhid hkx
        generalize hV : us[j] = V at *
        generalize hX : xs[j] = X at *
        replace hV := fhid hV
        replace hX := fhid hX
        generalize str (dec V) = SD at *
        generalize hN : str (sbText ++ setText k (us.take (j + 1))) = NT at *
        generalize str (sbText ++ setText k (us.take j)) = TT at *
        generalize str (((([115, 101, 116, 32] ++ keyAt k) ++ [32]) ++ dec V) ++ [10]) = Q4 at *
        generalize str ((([115, 101, 116, 32] ++ keyAt k) ++ [32]) ++ dec V) = Q3 at *
        generalize str (([115, 101, 116, 32] ++ keyAt k) ++ [32]) = Q2 at *
        generalize str ([115, 101, 116, 32] ++ keyAt k) = Q1 at *
        generalize str (keyAt k) = KS at *
        replace hN := fhid hN
        generalize lastV (us.take j) (-1) = LV at *
        generalize hL2 : lastV (us.take (j + 1)) (-1) = LV2 at *
        replace hL2 := fhid hL2
        generalize badAt k (us.take j) 4 = BA at *
        generalize hA2 : badAt k (us.take (j + 1)) 4 = BA2 at *
        replace hA2 := fhid hA2
        generalize badV k V = BV at *
        replace hB := fhid hB
        go_upto_region 19 with fail
        simp only [hvx]
        clear hvx hx0 hx3
        go_cut [6] (fun s6 wx => s6 = .string NT ∧ Below wr.heap.size wr wx)
        case first =>
          have z : Below wr.heap.size wr wr.drew := (Below.refl _ _).drew
          go_region_with (first
            | (go_at_call 29; (with_reducible refine (hky _).mono ?_); rintro e w1 ⟨g, rfl, hg, hbx, b1⟩
               have z := z.trans (b1.mono z.size)
               have kc := hkx.out _ _ hbx
               have kl := Box.lt hbx
               replace hbx := fhid hbx)
            | (go_at_call 30; (with_reducible refine (hdg _).mono ?_); rintro e w2 ⟨rfl, b2⟩
               have z := z.trans (b2.mono z.size)
               try (have kc2 := (b2.cell (p := ⟨g, k, none⟩) kl).trans kc
                    clear kc)))
          all_goals
            go_wp2_with fail
            go_meet
            exact ⟨rfl, z⟩
        case rest =>
          obtain ⟨rfl, hb3⟩ := hcut
          obtain ⟨w3, rfl⟩ : ∃ w3 : World, w3 = wc := ⟨_, rfl⟩
          have hB3 := fhid (hB.out.trans (hb3.mono hB.out.size))
          clear hb3
          have hF4 : ∀ b : Bool, decide (k = 4) = b → ((k : Int) == 4) = b ∧ (k == 4) = b ∧ decide ((k : Int) = 4) = b := by
            intro b hb
            cases b with
            | true => have : k = 4 := of_decide_eq_true hb; subst this; exact ⟨rfl, rfl, rfl⟩
            | false => have : ¬ k = 4 := of_decide_eq_false hb; exact ⟨by simp; omega, by simpa using this, by simp; omega⟩
          have hFB : ∀ b : Bool, decide (BA = 0) = b → ((BA : Int) == 0) = b ∧ (BA == 0) = b ∧ decide ((BA : Int) = 0) = b := by
            intro b hb
            cases b with
            | true => have : BA = 0 := of_decide_eq_true hb; subst this; exact ⟨rfl, rfl, rfl⟩
            | false => have : ¬ BA = 0 := of_decide_eq_false hb; exact ⟨by simp; omega, by simpa using this, by simp; omega⟩
          have hv0 : (0 : Int) ≤ V := by omega
          have hv3 : (V : Int) < 2000000 := by have := hv2.out; omega
          replace hF4 := fhid hF4
          replace hFB := fhid hFB
          go_upto_region 20 with fail
          go_cut [75] (fun s wx => s = .bool (BV && decide (BA = 0)) ∧ wx = w3)
          case first =>
            by_cases hb : BV = true
            · have hyes := hbv.out.1 hb
              have E0 : (BV && decide (BA = 0)) = decide (BA = 0) := by rw [hb, Bool.true_and]
              obtain ⟨hlh, hnk⟩ := hyes
              replace hb := fhid hb
              by_cases hba0 : decide (BA = 0) = true
              · obtain ⟨u1, u2, u3⟩ := hFB.out _ hba0
                have E1 := fhid (E0.trans hba0)
                clear E0
                by_cases hk4 : decide (k = 4) = true
                · obtain ⟨r1, r2, r3⟩ := hF4.out _ hk4
                  have hm6 : ¬ (V : Int) ≤ 1000000 := fun h => hnk ⟨of_decide_eq_true hk4, h⟩
                  replace hnk := fhid hnk
                  by_cases hl : (V : Int) < L
                  · replace hlh := fhid hlh
                    go_wp2_with fail
                    go_meet
                    exact ⟨boolv E1.out.symm, rfl⟩
                  · have hh : (V : Int) > H := by omega
                    replace hlh := fhid hlh
                    go_wp2_with fail
                    go_meet
                    exact ⟨boolv E1.out.symm, rfl⟩
                · rw [Bool.not_eq_true] at hk4
                  obtain ⟨r1, r2, r3⟩ := hF4.out _ hk4
                  replace hnk := fhid hnk
                  by_cases hl : (V : Int) < L
                  · replace hlh := fhid hlh
                    go_wp2_with fail
                    go_meet
                    exact ⟨boolv E1.out.symm, rfl⟩
                  · have hh : (V : Int) > H := by omega
                    replace hlh := fhid hlh
                    go_wp2_with fail
                    go_meet
                    exact ⟨boolv E1.out.symm, rfl⟩
              · rw [Bool.not_eq_true] at hba0
                obtain ⟨u1, u2, u3⟩ := hFB.out _ hba0
                have E1 := fhid (E0.trans hba0)
                clear E0
                replace hnk := fhid hnk
                by_cases hl : (V : Int) < L
                · replace hlh := fhid hlh
                  go_wp2_with fail
                  go_meet
                  exact ⟨boolv E1.out.symm, rfl⟩
                · have hh : (V : Int) > H := by omega
                  replace hlh := fhid hlh
                  go_wp2_with fail
                  go_meet
                  exact ⟨boolv E1.out.symm, rfl⟩
            · have E0 : (BV && decide (BA = 0)) = false := by rw [Bool.not_eq_true] at hb; rw [hb, Bool.false_and]
              have E1 := fhid E0
              have hno : ¬ (((V : Int) < L ∨ (V : Int) > H) ∧ ¬ (k = 4 ∧ (V : Int) ≤ 1000000)) := fun h => hb (hbv.out.2 h)
              clear E0
              replace hb := fhid hb
              by_cases hk4 : decide (k = 4) = true
              · obtain ⟨r1, r2, r3⟩ := hF4.out _ hk4
                have hk4' : k = 4 := of_decide_eq_true hk4
                by_cases hl : (V : Int) < L
                · have hm6 : (V : Int) ≤ 1000000 := by omega
                  by_cases hba0 : decide (BA = 0) = true
                  · obtain ⟨u1, u2, u3⟩ := hFB.out _ hba0
                    replace hno := fhid hno
                    replace hk4' := fhid hk4'
                    go_wp2_with fail
                    go_meet
                    exact ⟨boolv E1.out.symm, rfl⟩
                  · rw [Bool.not_eq_true] at hba0
                    obtain ⟨u1, u2, u3⟩ := hFB.out _ hba0
                    replace hno := fhid hno
                    replace hk4' := fhid hk4'
                    go_wp2_with fail
                    go_meet
                    exact ⟨boolv E1.out.symm, rfl⟩
                · by_cases hh : (V : Int) > H
                  · have hm6 : (V : Int) ≤ 1000000 := by omega
                    by_cases hba0 : decide (BA = 0) = true
                    · obtain ⟨u1, u2, u3⟩ := hFB.out _ hba0
                      replace hno := fhid hno
                      replace hk4' := fhid hk4'
                      go_wp2_with fail
                      go_meet
                      exact ⟨boolv E1.out.symm, rfl⟩
                    · rw [Bool.not_eq_true] at hba0
                      obtain ⟨u1, u2, u3⟩ := hFB.out _ hba0
                      replace hno := fhid hno
                      replace hk4' := fhid hk4'
                      go_wp2_with fail
                      go_meet
                      exact ⟨boolv E1.out.symm, rfl⟩
                  · replace hno := fhid hno
                    replace hk4' := fhid hk4'
                    go_wp2_with fail
                    go_meet
                    exact ⟨boolv E1.out.symm, rfl⟩
              · rw [Bool.not_eq_true] at hk4
                have hk4' : ¬ k = 4 := of_decide_eq_false hk4
                have hl : ¬ (V : Int) < L := by omega
                have hh : ¬ (V : Int) > H := by omega
                replace hno := fhid hno
                replace hk4' := fhid hk4'
                go_wp2_with fail
                go_meet
                exact ⟨boolv E1.out.symm, rfl⟩
          case rest =>
            obtain ⟨rfl, hw⟩ := hcut
            subst hw
            rename World => w3
            have hnx := fhid (show ∀ W : World, Below w.heap.size w W → ∀ a : Int, a = (BA2 : Int) → SR w k us (j + 1) (.string NT) (.int .i64 (V : Int)) (.int .i64 a) W from
              fun W hW a ha => ⟨by rw [hN.out], by rw [hL2.out, hla.out], by rw [hA2.out, ha], hW⟩)
            have hE := fhid (fun h : (BV && decide (BA = 0)) = true => show (j : Int) + 4 = (BA2 : Int) by
              rw [Bool.and_eq_true] at h
              rw [hba.out, if_pos (of_decide_eq_true h.2), if_pos h.1]
              omega)
            have hF := fhid (fun h : (BV && decide (BA = 0)) = false => show (BA : Int) = (BA2 : Int) by
              rw [Bool.and_eq_false_iff] at h
              rw [hba.out]
              rcases h with h | h
              · rw [h]
                by_cases h0 : BA = 0
                · rw [if_pos h0, if_neg (by decide), h0]
                · rw [if_neg h0]
              · rw [if_neg (of_decide_eq_false h)])
            generalize hbb : (BV && decide (BA = 0)) = bb at *
            clear hF4 hFB hbv hba hla hN hL2 hA2
            cases bb with
            | true =>
              have hE2 := fhid (hE.out rfl)
              clear hbb hE hF
              go_wp2
              go_roundw
              case rel => exact ⟨j + 1, hlt, by go_num, hnx.out _ hB3.out _ hE2.out⟩
              case measure => simp [intOf]; omega
            | false =>
              have hE2 := fhid (hF.out rfl)
              clear hbb hE hF
              go_wp2
              go_roundw
              case rel => exact ⟨j + 1, hlt, by go_num, hnx.out _ hB3.out _ hE2.out⟩
              case measure => simp [intOf]; omega
      · obtain rfl : j = m := by omega
        have htk : us.take j = us := List.take_of_length_le (by rw [hul.out]; exact Nat.le_refl _)
        rw [htk]
        have hpz := sets_parse hk8 us hu2.out (by rw [hul.out]; exact hm30)
        have htl := text_len hk8 us hu2.out
        have hsl : sbText.length = 36 := by decide
        have hpa := fun W hW => hP (str (sbText ++ setText k us)) W hW (by rw [str_size, List.length_append]; have := hul.out; omega)
        rw [bl_str] at hpa
        have hal := fun W (h : Below w.heap.size w W) => hA W (hw.out.below h)
        have hlp := fhid (fun h : ¬ lastV us (-1) < 0 => lastV_pos h ((untold valS).getD k 0))
        generalize str (sbText ++ setText k us) = T at *
        generalize parseC (sbText ++ setText k us) = R at *
        generalize hLV : lastV us (-1) = LV at *
        generalize hBAe : badAt k us 4 = BA at *
        replace hLV := fhid hLV
        replace hBAe := fhid hBAe
        clear htk htl hsl hbi hky hkc hkf hug hul hu2 hst hLK hHK hLr hHr hr
        have hF4 : ∀ b : Bool, decide (k = 4) = b → ((k : Int) == 4) = b ∧ (k == 4) = b ∧ decide ((k : Int) = 4) = b := by
          intro b hb
          cases b with
          | true => have : k = 4 := of_decide_eq_true hb; subst this; exact ⟨rfl, rfl, rfl⟩
          | false => have : ¬ k = 4 := of_decide_eq_false hb; exact ⟨by simp; omega, by simpa using this, by simp; omega⟩
        replace hF4 := fhid hF4
        replace hw := fhid hw.out
        by_cases hb : BA = 0
        · rw [if_pos hb] at hpz
          have i0 : ¬ (BA : Int) > 0 := by omega
          by_cases h4 : k = 4 ∧ LV > 256
          · rw [if_pos h4] at hpz
            subst hpz
            have hq := eql_fault 12 0 12 0
            rw [show ((12 : Int) == 12 && (0 : Int) == 0) = true from rfl] at hq
            obtain ⟨r1, r2, r3⟩ := hF4.out true (decide_eq_true h4.1)
            have h5 := h4.2
            simp only at hpa
            clear h4 hb
            go_upto_region 25 with (go_at_call 9; (with_reducible refine (hpa _ (hw.out.below hB)).mono ?_); rintro e w1 ⟨v, rfl, hcr, b1⟩
                                    have hcr0 := fhid hcr
                                    obtain ⟨AN, cN, AV, cV, AP, cP, AQ, cQ, a0, a1, a2, a3, a4, a5, a6, a7, rfl, -, -, -, -, -⟩ := hcr)
            obtain ⟨q0, q1, bA, hz⟩ := two_boxes w1 TConf 31 [.slice AN noCfg.names.length cN, .slice AV noCfg.vecs.length cV, .slice AP noCfg.parts.length cP, .slice AQ noCfg.qos.length cQ, .int .i64 a0, .int .i64 a1, .int .i64 a2, .int .i64 a3, .int .i64 a4, .int .i64 a5, .int .i64 a6, .int .i64 a7] [.int .i64 12, .int .i64 0]
            generalize (w1.alloc _).alloc _ = w2 at *
            have g2 := (hB.trans (b1.mono hB.size)).trans (bA.mono (Nat.le_trans hB.size b1.size))
            have f0 : w2.cell? ⟨w1.heap.size + 1, 0, none⟩ = some (.int .i64 12) := Box.cell q1 0
            have f1 : w2.cell? ⟨w1.heap.size + 1, 1, none⟩ = some (.int .i64 0) := Box.cell q1 1
            replace q0 := fhid q0
            replace q1 := fhid q1
            replace hz := fhid hz
            clear hpa
            go_wp2_with (go_at_call 8; (with_reducible refine (hal _ g2).mono ?_); rintro e w4 ⟨rfl, b4⟩)
            go_ret
            exact ⟨rfl, g2.trans (b4.mono g2.size)⟩
          · rw [if_neg h4] at hpz
            subst hpz
            have hq := eql_fault 0 0 0 0
            rw [show ((0 : Int) == 0 && (0 : Int) == 0) = true from rfl] at hq
            have ho := fun v W h => ours_any v (sbC (valsAt k (lastV us ((untold valS).getD k 0)))) W h (show 1 ≤ 60 by decide) (show 0 ≤ 60 by decide)
            unfold ConfP at ho
            simp only at hpa
            have hsv : (sbC (valsAt k (lastV us ((untold valS).getD k 0)))).vals = valsAt k (lastV us ((untold valS).getD k 0)) := rfl
            generalize sbC (valsAt k (lastV us ((untold valS).getD k 0))) = C at *
            have hidx := fhid (fun (h : ¬ LV < 0) (b0 b1 b2 b3 b4 b5 b6 b7 : Int) (he : C.vals = [b0, b1, b2, b3, b4, b5, b6, b7]) W => index_vals hk8 b0 b1 b2 b3 b4 b5 b6 b7 LV (by
              rw [← he, hsv, hlp.out h]
              exact valsAt_get hk8 LV) W)
            have h4b : decide (k = 4) = true → ¬ LV > 256 := fun h g => h4 ⟨of_decide_eq_true h, g⟩
            clear h4 hb hsv
            replace hsv := True.intro
            cases hk4 : decide (k = 4) with
            | true =>
              obtain ⟨r1, r2, r3⟩ := hF4.out true hk4
              have h5 := h4b hk4
              clear h4b hk4
              by_cases hn : LV < 0
              · go_upto_region 25 with (go_at_call 9; (with_reducible refine (hpa _ (hw.out.below hB)).mono ?_); rintro e w1 ⟨v, rfl, hcr, b1⟩
                                        have hcr0 := fhid hcr
                                        obtain ⟨AN, cN, AV, cV, AP, cP, AQ, cQ, a0, a1, a2, a3, a4, a5, a6, a7, rfl, -, -, -, -, -⟩ := hcr)
                obtain ⟨q0, q1, bA, hz⟩ := two_boxes w1 TConf 31 [.slice AN C.names.length cN, .slice AV C.vecs.length cV, .slice AP C.parts.length cP, .slice AQ C.qos.length cQ, .int .i64 a0, .int .i64 a1, .int .i64 a2, .int .i64 a3, .int .i64 a4, .int .i64 a5, .int .i64 a6, .int .i64 a7] [.int .i64 0, .int .i64 0]
                generalize (w1.alloc _).alloc _ = w2 at *
                have g2 := (hB.trans (b1.mono hB.size)).trans (bA.mono (Nat.le_trans hB.size b1.size))
                have f0 : w2.cell? ⟨w1.heap.size + 1, 0, none⟩ = some (.int .i64 0) := Box.cell q1 0
                have f1 : w2.cell? ⟨w1.heap.size + 1, 1, none⟩ = some (.int .i64 0) := Box.cell q1 1
                obtain ⟨c0, c1, c2, c3, c4, c5, c6, c7, c8, c9, c10, c11⟩ := Box.twelve q0
                have hcr2 := fhid (hcr0.out.below bA)
                replace q0 := fhid q0
                replace q1 := fhid q1
                replace hz := fhid hz
                clear hpa
                go_wp2_with (go_at_call 8; (with_reducible refine (hal _ g2).mono ?_); rintro e w4 ⟨rfl, b4⟩)
                go_ret
                exact ⟨rfl, g2.trans (b4.mono g2.size)⟩
              · go_upto_region 25 with (go_at_call 9; (with_reducible refine (hpa _ (hw.out.below hB)).mono ?_); rintro e w1 ⟨v, rfl, hcr, b1⟩
                                        have hcr0 := fhid hcr
                                        obtain ⟨AN, cN, AV, cV, AP, cP, AQ, cQ, a0, a1, a2, a3, a4, a5, a6, a7, rfl, -, -, -, -, -⟩ := hcr)
                obtain ⟨q0, q1, bA, hz⟩ := two_boxes w1 TConf 31 [.slice AN C.names.length cN, .slice AV C.vecs.length cV, .slice AP C.parts.length cP, .slice AQ C.qos.length cQ, .int .i64 a0, .int .i64 a1, .int .i64 a2, .int .i64 a3, .int .i64 a4, .int .i64 a5, .int .i64 a6, .int .i64 a7] [.int .i64 0, .int .i64 0]
                generalize (w1.alloc _).alloc _ = w2 at *
                have g2 := (hB.trans (b1.mono hB.size)).trans (bA.mono (Nat.le_trans hB.size b1.size))
                have f0 : w2.cell? ⟨w1.heap.size + 1, 0, none⟩ = some (.int .i64 0) := Box.cell q1 0
                have f1 : w2.cell? ⟨w1.heap.size + 1, 1, none⟩ = some (.int .i64 0) := Box.cell q1 1
                obtain ⟨c0, c1, c2, c3, c4, c5, c6, c7, c8, c9, c10, c11⟩ := Box.twelve q0
                have hcr2 := fhid (hcr0.out.below bA)
                replace q0 := fhid q0
                replace q1 := fhid q1
                replace hz := fhid hz
                clear hpa
                go_wp2_with (first
                  | (go_at_call 12; (with_reducible refine (ho _ _ hcr2.out).mono ?_); rintro e w3 ⟨v3, rfl, hc3, b3⟩
                     obtain ⟨BN, dN, BV', dV, BP, dP, BQ, dQ, b0, b1', b2, b3', b4, b5, b6, b7, rfl, ev3, -, -, -, -⟩ := hc3
                     have hfl := fun W => field_vals C.names.length C.vecs.length C.parts.length C.qos.length BN BV' BP BQ dN dV dP dQ b0 b1' b2 b3' b4 b5 b6 b7 W
                     have hix := fun W => hidx.out hn _ _ _ _ _ _ _ _ ev3 W
                     clear ev3
                     have g3 := g2.trans (b3.mono g2.size))
                  | (go_at_call 8; (with_reducible refine (hal _ g3).mono ?_); rintro e w4 ⟨rfl, b4⟩))
                go_ret
                exact ⟨rfl, g3.trans (b4.mono g3.size)⟩
            | false =>
              obtain ⟨r1, r2, r3⟩ := hF4.out false hk4
              clear h4b hk4
              by_cases hn : LV < 0
              · go_upto_region 25 with (go_at_call 9; (with_reducible refine (hpa _ (hw.out.below hB)).mono ?_); rintro e w1 ⟨v, rfl, hcr, b1⟩
                                        have hcr0 := fhid hcr
                                        obtain ⟨AN, cN, AV, cV, AP, cP, AQ, cQ, a0, a1, a2, a3, a4, a5, a6, a7, rfl, -, -, -, -, -⟩ := hcr)
                obtain ⟨q0, q1, bA, hz⟩ := two_boxes w1 TConf 31 [.slice AN C.names.length cN, .slice AV C.vecs.length cV, .slice AP C.parts.length cP, .slice AQ C.qos.length cQ, .int .i64 a0, .int .i64 a1, .int .i64 a2, .int .i64 a3, .int .i64 a4, .int .i64 a5, .int .i64 a6, .int .i64 a7] [.int .i64 0, .int .i64 0]
                generalize (w1.alloc _).alloc _ = w2 at *
                have g2 := (hB.trans (b1.mono hB.size)).trans (bA.mono (Nat.le_trans hB.size b1.size))
                have f0 : w2.cell? ⟨w1.heap.size + 1, 0, none⟩ = some (.int .i64 0) := Box.cell q1 0
                have f1 : w2.cell? ⟨w1.heap.size + 1, 1, none⟩ = some (.int .i64 0) := Box.cell q1 1
                obtain ⟨c0, c1, c2, c3, c4, c5, c6, c7, c8, c9, c10, c11⟩ := Box.twelve q0
                have hcr2 := fhid (hcr0.out.below bA)
                replace q0 := fhid q0
                replace q1 := fhid q1
                replace hz := fhid hz
                clear hpa
                go_wp2_with (go_at_call 8; (with_reducible refine (hal _ g2).mono ?_); rintro e w4 ⟨rfl, b4⟩)
                go_ret
                exact ⟨rfl, g2.trans (b4.mono g2.size)⟩
              · go_upto_region 25 with (go_at_call 9; (with_reducible refine (hpa _ (hw.out.below hB)).mono ?_); rintro e w1 ⟨v, rfl, hcr, b1⟩
                                        have hcr0 := fhid hcr
                                        obtain ⟨AN, cN, AV, cV, AP, cP, AQ, cQ, a0, a1, a2, a3, a4, a5, a6, a7, rfl, -, -, -, -, -⟩ := hcr)
                obtain ⟨q0, q1, bA, hz⟩ := two_boxes w1 TConf 31 [.slice AN C.names.length cN, .slice AV C.vecs.length cV, .slice AP C.parts.length cP, .slice AQ C.qos.length cQ, .int .i64 a0, .int .i64 a1, .int .i64 a2, .int .i64 a3, .int .i64 a4, .int .i64 a5, .int .i64 a6, .int .i64 a7] [.int .i64 0, .int .i64 0]
                generalize (w1.alloc _).alloc _ = w2 at *
                have g2 := (hB.trans (b1.mono hB.size)).trans (bA.mono (Nat.le_trans hB.size b1.size))
                have f0 : w2.cell? ⟨w1.heap.size + 1, 0, none⟩ = some (.int .i64 0) := Box.cell q1 0
                have f1 : w2.cell? ⟨w1.heap.size + 1, 1, none⟩ = some (.int .i64 0) := Box.cell q1 1
                obtain ⟨c0, c1, c2, c3, c4, c5, c6, c7, c8, c9, c10, c11⟩ := Box.twelve q0
                have hcr2 := fhid (hcr0.out.below bA)
                replace q0 := fhid q0
                replace q1 := fhid q1
                replace hz := fhid hz
                clear hpa
                go_wp2_with (first
                  | (go_at_call 12; (with_reducible refine (ho _ _ hcr2.out).mono ?_); rintro e w3 ⟨v3, rfl, hc3, b3⟩
                     obtain ⟨BN, dN, BV', dV, BP, dP, BQ, dQ, b0, b1', b2, b3', b4, b5, b6, b7, rfl, ev3, -, -, -, -⟩ := hc3
                     have hfl := fun W => field_vals C.names.length C.vecs.length C.parts.length C.qos.length BN BV' BP BQ dN dV dP dQ b0 b1' b2 b3' b4 b5 b6 b7 W
                     have hix := fun W => hidx.out hn _ _ _ _ _ _ _ _ ev3 W
                     clear ev3
                     have g3 := g2.trans (b3.mono g2.size))
                  | (go_at_call 8; (with_reducible refine (hal _ g3).mono ?_); rintro e w4 ⟨rfl, b4⟩))
                go_ret
                exact ⟨rfl, g3.trans (b4.mono g3.size)⟩
        · rw [if_neg hb] at hpz
          subst hpz
          have i0 : (BA : Int) > 0 := by omega
          have hq := eql_fault 12 BA 12 BA
          rw [show ((12 : Int) == 12 && (BA : Int) == BA) = true from by simp] at hq
          simp only at hpa
          clear hb
          go_upto_region 25 with (go_at_call 9; (with_reducible refine (hpa _ (hw.out.below hB)).mono ?_); rintro e w1 ⟨v, rfl, hcr, b1⟩
                                  have hcr0 := fhid hcr
                                  obtain ⟨AN, cN, AV, cV, AP, cP, AQ, cQ, a0, a1, a2, a3, a4, a5, a6, a7, rfl, -, -, -, -, -⟩ := hcr)
          obtain ⟨q0, q1, bA, hz⟩ := two_boxes w1 TConf 31 [.slice AN noCfg.names.length cN, .slice AV noCfg.vecs.length cV, .slice AP noCfg.parts.length cP, .slice AQ noCfg.qos.length cQ, .int .i64 a0, .int .i64 a1, .int .i64 a2, .int .i64 a3, .int .i64 a4, .int .i64 a5, .int .i64 a6, .int .i64 a7] [.int .i64 12, .int .i64 (BA : Int)]
          generalize (w1.alloc _).alloc _ = w2 at *
          have g2 := (hB.trans (b1.mono hB.size)).trans (bA.mono (Nat.le_trans hB.size b1.size))
          have f0 : w2.cell? ⟨w1.heap.size + 1, 0, none⟩ = some (.int .i64 12) := Box.cell q1 0
          have f1 : w2.cell? ⟨w1.heap.size + 1, 1, none⟩ = some (.int .i64 (BA : Int)) := Box.cell q1 1
          replace q0 := fhid q0
          replace q1 := fhid q1
          replace hz := fhid hz
          clear hpa
          go_wp2_with (go_at_call 8; (with_reducible refine (hal _ g2).mono ?_); rintro e w4 ⟨rfl, b4⟩)
          go_ret
          exact ⟨rfl, g2.trans (b4.mono g2.size)⟩
end Go.Proofs.YtghnpkpmgpbmcaaGreatDoor
/-
  Numbers of 32 bits that came in.
-/
namespace Go.Proofs.YtghnpkpmgpbmcaaGreatDoor
open Go.Joins Go.ChangeShapes Go.WideShapes Go.ChangeAt Go.WideMaps Go.WideElems Go.RowKit Go.Deep Vs

theorem cellsU32 : Tryz.prog.cellsOf 73 = 1 := by kernel_rfl
theorem wf_U32 {n : Int} (h : (Lit.int .u32 n).wf = true) : 0 ≤ n ∧ n ≤ 4294967295 := by
  simpa [Lit.wf, IntKind.min, IntKind.max, IntKind.signed, IntKind.bits] using h
theorem wf_U8 {n : Int} (h : (Lit.int .u8 n).wf = true) : 0 ≤ n ∧ n ≤ 255 := by
  simpa [Lit.wf, IntKind.min, IntKind.max, IntKind.signed, IntKind.bits] using h
theorem plain_addr {w : World} {a : Addr} {v : Value} (h : w.cell? a = some v) : a.spot = none ∧ a.block < w.heap.size := by
  obtain ⟨b, off, sp⟩ := a
  refine ⟨World.cell?_spot h, ?_⟩
  by_cases hb : b < w.heap.size
  · exact hb
  · simp only [World.cell?] at h
    rw [Array.getElem?_eq_none (by omega)] at h
    cases h
theorem add_off (b o k : Nat) : (⟨b, o, none⟩ : Addr).add k = ⟨b, o + k, none⟩ := by
  unfold Addr.add
  by_cases hk : k = 0
  · subst hk; rfl
  · rw [if_neg hk]
set_option maxRecDepth 100000 in
theorem open_u32s {H : Type} {enc : TypeId × Value → H} {W : World} {base : Nat} {v : Value} {d : DataW H} {ps : List MemPlace}
    (hv : Value.okWide Tryz.prog W .any base 72 v) (h : DataW.Trod enc Tryz.prog W 0 (fun _ => true) true 72 v d ps) :
    ∃ (A : Option Addr) (l : List Nat) (cap : Nat), v = .slice A l.length cap ∧ RdS W A l.length cap (UV l) ∧ ∀ x ∈ l, x < 4294967296 := by
  obtain ⟨a0, len0, cap0, rfl⟩ := okWide_slice Tryz.underlying72 hv
  obtain ⟨fuel, hf⟩ := h
  rcases open_ints Tryz.underlying72 Tryz.underlying73 cellsU32 hf with ⟨hcs, _⟩ | ⟨a, len', cap', zs, hcs, _, hl, hm, hz, hd, hcell, hw⟩
  · simp [Value.cells] at hcs
    obtain ⟨rfl, rfl, rfl⟩ := hcs
    exact ⟨none, [], 0, rfl, ⟨Nat.le_refl _, by unfold maxLen; omega, SegC.nil _ _ _⟩, fun x hx => by cases hx⟩
  · simp [Value.cells] at hcs
    obtain ⟨rfl, rfl, rfl⟩ := hcs
    simp at hz
    have hlen : ((zs.take len0).map Int.toNat).length = len0 := by rw [List.length_map, List.length_take]; omega
    have huv : UV ((zs.take len0).map Int.toNat) = (zs.take len0).map fun n => .int .u32 n := by
      unfold UV
      rw [List.map_map]
      refine List.map_congr_left fun n hn => ?_
      have := wf_U32 (hw n (List.mem_of_mem_take hn))
      show Value.int .u32 ((n.toNat : Nat) : Int) = _
      rw [Int.toNat_of_nonneg this.1]
    refine ⟨some a, (zs.take len0).map Int.toNat, cap0, by rw [hlen], ⟨by rw [hlen]; exact hl, hm, ?_⟩, fun x hx => ?_⟩
    · rw [huv]
      intro h0
      have hl2 : ((zs.take len0).map fun n => Value.int .u32 n).length = len0 := by rw [List.length_map, List.length_take]; omega
      rw [hl2] at h0
      obtain ⟨hsp, hb⟩ := plain_addr (hcell 0 (by omega))
      obtain ⟨b, off, sp⟩ := a
      have hsp : sp = none := by simpa [Addr.add] using hsp
      subst hsp
      rw [add_off] at hb
      refine ⟨b, off, rfl, hb, fun j hj => ?_⟩
      rw [hl2] at hj
      have := hcell j (by omega)
      rw [add_off] at this
      rw [this, List.getElem_map, List.getElem_take, List.getD_eq_getElem?_getD, List.getElem?_eq_getElem (by omega), Option.getD_some]
    · obtain ⟨n, hn, rfl⟩ := List.mem_map.1 hx
      have := wf_U32 (hw n (List.mem_of_mem_take hn))
      omega
end Go.Proofs.YtghnpkpmgpbmcaaGreatDoor
namespace Go.Proofs.YtghnpkpmgpbmcaaGreatDoor
open Go.ChangeShapes Go.WideShapes Go.ChangeAt Go.WideMaps Go.WideElems Go.RowKit Vs
set_option maxRecDepth 100000 in
theorem sets_lifted (os : Os) (started : os.Started) (H : Type) (enc : TypeId × Value → H) :
    ReturnsInHanded {} Tryz.checked os 7 .any (fun w args => (Rows.confSetsSpec.pre enc Tryz.prog Tryz.f7 [] false w args ∧ laidMetH Tryz.prog laidList w) ∧ sizedMet enc Tryz.prog Tryz.f7 (OpenSpec.ofChange Rows.confSetsSpec) false w args)
      (Rows.confSetsSpec.post enc Tryz.prog Tryz.f7 false true false false) := by
  refine returnsInHanded_of_change_and (C := Tryz.checked) (X := fun w _ => laidMetH Tryz.prog laidList w) (fun _ _ _ hh h => h.of_heap hh) own started (by kernel_rfl) Tryz.func7
    (ChangeSpec.witness_shaped (enc := enc) (C := Tryz.checked) (os := os) (X := fun w _ => laidMetH Tryz.prog laidList w) false (World.laidAll Tryz.prog os laidList) #[.int .u8 0, .slice none 0 0] 8 (World.laidAll_os _ _ _) (World.shaped_of_ZipB (by kernel_rfl) (by kernel_rfl)) (by kernel_rfl) (by kernel_rfl) (by kernel_rfl) (lay_met os _)) ?_
  intro W base args ds gs before hval0 hW _ hsz0 hL _
  have hval : ∀ (j : Nat) t v, Tryz.f7.params[j]? = some t → args[j]? = some v → Value.okWide Tryz.prog W .any base t v := hval0
  have hsz : (DataW.weightsEach Tryz.prog (Tryz.f7.params.toList ++ Rows.confSetsSpec.plain.varTypes Tryz.prog) (ds ++ gs)).all (· ≤ reachBytes) = true := hsz0
  have hW' := hW
  obtain ⟨p, q, hA0, hV, rfl, hfz, hnd⟩ := hW
  have hA : DataW.TrodAll enc Tryz.prog W 0 (fun _ => true) true Tryz.f7.params.toList args.toList ds p := hA0
  rw [Tryz.params7] at hA hval hsz
  obtain ⟨v0, v1, d0, d1, p0, p1, rfl, rfl, rfl, h0, h1⟩ := trodAll_two hA
  obtain ⟨rfl, rfl⟩ := trodVars_none hV
  have hT := env_of hL
  obtain ⟨n0, rfl, hd, rfl, wn⟩ := open_int Tryz.underlying5 (hval 0 5 v0 rfl rfl) h0
  obtain ⟨A, l, cap, rfl, hr, hx⟩ := open_u32s (hval 1 72 v1 rfl rfl) h1
  have hn := wf_U8 wn
  obtain ⟨key, rfl⟩ : ∃ key : Nat, n0 = (key : Int) := ⟨n0.toNat, by omega⟩
  simp only [List.append_nil] at hW'
  have hlt : ∀ z ∈ p1, z.block < W.heap.size := fun z hz => hW'.lt z (by simp [hz])
  clear hA0 hval0 hsz0
  refine (sets_core key l A cap W (fun s W hW hs => Parse_any9 s W hW hs) (fun W hW => alive_any W hW) hT hr hx).mono fun e W' ⟨he, hb⟩ => ?_
  subst he
  refine ⟨_, rfl, ⟨_, _, _, [], [] ++ p1, [], hW', trodAll_mk1 (shut_bool Tryz.underlying4 _), ?_, rfl, hb.frame _, fun h => by cases h⟩⟩
  exact trodAll_mk2 (Below.trod laidOut (by kernel_rfl) (of_decide_eq_true (by kernel_rfl)) h0 hb (fun z hz => by simp at hz)) (Below.trod laidOut (by kernel_rfl) (of_decide_eq_true (by kernel_rfl)) h1 hb hlt)

theorem sets_holds : Rows.ConfSetsSaid :=
  OpenClaim.holds_of_wide 7 Tryz.f7 rfl rfl rfl rfl rfl rfl rfl ⟨rfl, rfl, rfl, rfl, rfl⟩ rfl rfl rfl rfl rfl (by kernel_rfl) Tryz.func7 (by kernel_rfl)
    (of_decide_eq_true (by kernel_rfl)) (by unfold Func.isWrapper; rw [if_neg (of_decide_eq_false (by kernel_rfl))]; exact ⟨rfl, rfl⟩)
    (fun os started H enc _ => sets_lifted os started H enc)
theorem sets_card : Rows.ConfSetsCardSaid :=
  Claim7.holds_tied_plain_at .later [] [.data, .data, .data, .data, .sentinel, .sentinel, .pinned] true Rows.confSetsCard.stood.harness true
    sets_holds (fun _ h => by cases h) (by kernel_rfl) (fun _ h => by cases h) confSets_row_tie rfl ⟨rfl, rfl⟩ (by kernel_rfl) rfl
    (fun f fn hf hfn => by
      obtain rfl : f = 7 := Option.some.inj ((show Tryz.prog.funcNamed "marlinspike/marlinspikelaw09.ConfSets" = some 7 by kernel_rfl).symm.trans hf) |>.symm
      obtain rfl : fn = Tryz.f7 := (Option.some.inj (Tryz.func7.symm.trans hfn)).symm
      exact ⟨by kernel_rfl, fun j t ht => by
        rw [Tryz.params7] at ht
        have hm : t ∈ [5, 72] := by simpa using Array.mem_of_getElem? ht
        have hall : ([5, 72].all fun u => !Tryz.prog.wantsStandIn u) = true := by kernel_rfl
        exact (show Tryz.prog.wantsStandIn t = false by simpa using List.all_eq_true.1 hall t hm)⟩)
    (by kernel_rfl)
end Go.Proofs.YtghnpkpmgpbmcaaGreatDoor
