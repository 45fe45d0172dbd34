/-
  Parts: KMath KLeaf KSet KNums KUntold KPut KRight KMake KAft KOpts KWrong KConf.
-/
import Derived.Test.YtmnmcikbbfcjcaaGreatDoorH1
import Derived.Test.YtmnmcikbbfcjcaaGreatDoorV1
import Derived.Lib.FieldsP
import Derived.Test.YtmnmcikbbfcjcaaGreatDoorH2
import Derived.Shelf.Strings.SlTrimAscii
import Derived.MapKept
import Derived.ChangeMaps5
import Derived.WideLaws
import Derived.BigRegion
import Derived.Deep.RegionLaw
import Derived.BigQuiet
import Derived.Test.YtmnmcikbbfcjcaaGreatDoorB1
import Derived.Lib.SlicesS
set_option linter.unusedSimpArgs false
set_option linter.unusedVariables false
/-
  What a config is, and what its text tells, as plain functions.
-/
namespace Go.Proofs.YtmnmcikbbfcjcaaGreatDoor

abbrev Str := List UInt8
structure PartC where
  name : Str
  nodes : Nat → Bool
  max : Int
  time : Int
  prio : Int
structure QosC where
  name : Str
  prio : Int
  max : Int
structure Cfg where
  names : List Str
  vecs : List Vs.V3
  parts : List PartC
  qos : List QosC
  vals : List Int
def noPart : PartC := ⟨[], fun _ => false, 0, 0, 0⟩
def noQos : QosC := ⟨[], 0, 0⟩
def noCfg : Cfg := ⟨[], [], [], [], [0, 0, 0, 0, 0, 0, 0, 0]⟩
/-- A key, what its number may be, and what it is if no text tells it. -/
structure Spec where
  key : Str
  least : Int
  most : Int
  untold : Int
def kSuspend : Str := [115, 117, 115, 112, 101, 110, 100]
def kBoot : Str := [98, 111, 111, 116]
def kStop : Str := [115, 116, 111, 112]
def kHalf : Str := [104, 97, 108, 102]
def kMin : Str := [109, 105, 110]
def kCap : Str := [99, 97, 112]
def kRate : Str := [114, 97, 116, 101]
def kRetry : Str := [114, 101, 116, 114, 121]
def kMax : Str := [109, 97, 120]
def kTime : Str := [116, 105, 109, 101]
def kPrio : Str := [112, 114, 105, 111]
def kNode : Str := [110, 111, 100, 101]
def kPart : Str := [112, 97, 114, 116]
def kQos : Str := [113, 111, 115]
def kSet : Str := [115, 101, 116]
def valS : List Spec := [⟨kSuspend, 0, 1000000, 100⟩, ⟨kBoot, 1, 1000000, 10⟩, ⟨kStop, 1, 1000000, 5⟩, ⟨kHalf, 1, 1000000, 1000⟩, ⟨kMin, 0, 1000000, 0⟩, ⟨kCap, 1, 256, 256⟩, ⟨kRate, 1, 1000000, 16⟩, ⟨kRetry, 0, 1000000, 3⟩]
def partS : List Spec := [⟨kMax, 1, 256, 256⟩, ⟨kTime, 1, 1000000, 1000000⟩, ⟨kPrio, 0, 1000, 0⟩]
def qosS : List Spec := [⟨kPrio, 0, 1000, 0⟩, ⟨kMax, 1, 1024, 1024⟩]
def PartC.vals (p : PartC) : List Int := [p.max, p.time, p.prio]
def QosC.vals (q : QosC) : List Int := [q.prio, q.max]
/-- All numbers are as they may be. -/
def rightV (ss : List Spec) (vs : List Int) : Bool := (ss.zip vs).all fun x => decide (x.1.least ≤ x.2) && decide (x.2 ≤ x.1.most)
def digCs : Str := [48, 49, 50, 51, 52, 53, 54, 55, 56, 57]
def nameCs : Str := [97, 98, 99, 100, 101, 102, 103, 104, 105, 106, 107, 108, 109, 110, 111, 112, 113, 114, 115, 116, 117, 118, 119, 120, 121, 122, 45, 95] ++ digCs
def isOfP (s : Str) (n : Nat) (cs : Str) : Bool := !s.isEmpty && decide (s.length ≤ n) && s.all (cs.contains ·)
def isNameP (s : Str) : Bool := isOfP s 16 nameCs
def readNumP (s : Str) : Option Nat := if isOfP s 7 digCs = true then some (Vs.dval s) else none
/-- A list that is nothing but it. -/
def nodeNameP (s : Str) : Bool := decide (s.length ≤ 32) && decide ((Hs.expand s).2.1 = 0) && decide ((Hs.expand s).1 = [s])
/-- The first place of a text among some. -/
def place (l : List Str) (s : Str) : Option Nat := l.findIdx? (· == s)
def nodeAt (c : Cfg) (s : Str) : Option Nat := place (c.names.take 256) s
def setGo (c : Cfg) : List Str → List Nat → Option (List Nat)
  | [], l => some l
  | n :: ns, l => match nodeAt c n with
    | none => none
    | some i => setGo c ns (l ++ [i])
/-- The set of a list's nodes. -/
def memL (l : List Nat) : Nat → Bool := fun j => decide (j ∈ l)
def setOf (c : Cfg) (l : Str) : (Nat → Bool) × Nat :=
  if (Hs.expand l).2.1 ≠ 0 then (memL [], 3) else match setGo c (Hs.expand l).1 [] with
    | none => (memL [], 6)
    | some ns => (memL ns, 0)
def putP (ss : List Spec) (vs : List Int) (k v : Str) : Option (List Int) := match place (ss.map (·.key)) k, readNumP v with
  | some i, some n => some (vs.set i n)
  | _, _ => none
def optsP (ss : List Spec) : List Str → List Str → List Int → Option (List Int)
  | [], _, vs => some vs
  | w :: ws, came, vs => if Vs.upTo 61 w ∈ came then none else match putP ss vs (Vs.upTo 61 w) (Vs.behind 61 w) with
    | none => none
    | some vs' => optsP ss ws (came ++ [Vs.upTo 61 w]) vs'
def untold (ss : List Spec) : List Int := ss.map (·.untold)
def hasOne (p : Nat → Bool) : Bool := (List.range 256).any p
def partWrong (p : PartC) : Bool := !isNameP p.name || !hasOne p.nodes || !rightV partS p.vals
def qosWrong (q : QosC) : Bool := !isNameP q.name || !rightV qosS q.vals
def partOf (n : Str) (s : Nat → Bool) : List Int → PartC
  | [a, b, c] => ⟨n, s, a, b, c⟩
  | _ => noPart
def qosOf (n : Str) : List Int → QosC
  | [a, b] => ⟨n, a, b⟩
  | _ => noQos
/-- What a line comes to: a config, or an error. -/
abbrev Line := Except Nat Cfg
def nodeP (c : Cfg) : List Str → Line
  | [l, v] =>
    if (Hs.expand l).2.1 ≠ 0 ∨ (Vs.parseP v).2 ≠ 0 then .error 3
    else if ¬ (Hs.expand l).1.all nodeNameP = true then .error 3
    else if ¬ (c.names ++ (Hs.expand l).1).Nodup then .error 7
    else if 256 < c.names.length + (Hs.expand l).1.length then .error 5
    else .ok { c with names := c.names ++ (Hs.expand l).1, vecs := c.vecs ++ List.replicate (Hs.expand l).1.length (Vs.parseP v).1 }
  | _ => .error 3
def partP (c : Cfg) : List Str → Line
  | n :: l :: os => match isNameP n, optsP partS os [] (untold partS) with
    | true, some vs =>
      if (setOf c l).2 ≠ 0 then .error (setOf c l).2
      else if n ∈ c.parts.map (·.name) then .error 7
      else if 16 < c.parts.length + 1 then .error 5
      else if partWrong (partOf n (setOf c l).1 vs) = true then .error 12
      else .ok { c with parts := c.parts ++ [partOf n (setOf c l).1 vs] }
    | _, _ => .error 3
  | _ => .error 3
def qosP (c : Cfg) : List Str → Line
  | n :: os => match isNameP n, optsP qosS os [] (untold qosS) with
    | true, some vs =>
      if n ∈ c.qos.map (·.name) then .error 7
      else if 16 < c.qos.length + 1 then .error 5
      else if qosWrong (qosOf n vs) = true then .error 12
      else .ok { c with qos := c.qos ++ [qosOf n vs] }
    | _, _ => .error 3
  | _ => .error 3
def setP (c : Cfg) : List Str → Line
  | [k, v] => match putP valS c.vals k v with
    | none => .error 3
    | some vs => if rightV valS vs = true then .ok { c with vals := vs } else .error 12
  | _ => .error 3
def isBlankP (r : Nat) : Bool := r == 32 || r == 9
def words (s : Str) : List Str := (Lib.goFieldsP isBlankP ⟨s.toArray⟩).map fun x => x.data.toList
def wordsP (c : Cfg) : List Str → Line
  | [] => .ok c
  | k :: ws => if k = kNode then nodeP c ws else if k = kPart then partP c ws else if k = kQos then qosP c ws else if k = kSet then setP c ws else .error 3
def lineP (c : Cfg) (l : Str) : Line := wordsP c (words (Vs.upTo 35 l))
/-- The lines, one by one; the error with its line's number. -/
def linesP : Nat → Cfg → List Str → Except (Nat × Nat) Cfg
  | _, c, [] => .ok c
  | k, c, l :: ls => match lineP c l with
    | .error e => .error (e, k)
    | .ok c' => linesP (k + 1) c' ls
def startC : Cfg := ⟨[], [], [], [], untold valS⟩
def rightNodesP (c : Cfg) : Bool := !c.names.isEmpty && decide (c.names.length ≤ 256) && decide (c.names.length = c.vecs.length) && (c.names.zip c.vecs).all (fun x => nodeNameP x.1 && Vs.right x.2.1 x.2.2.1 x.2.2.2) && decide c.names.Nodup
def within (n : Nat) (p : Nat → Bool) : Bool := (List.range 256).all fun j => !p j || decide (j < n)
def rightPartsP (c : Cfg) : Bool := !c.parts.isEmpty && decide (c.parts.length ≤ 16) && c.parts.all (fun p => !partWrong p && within c.names.length p.nodes) && decide (c.parts.map (·.name)).Nodup
def rightQosP (c : Cfg) : Bool := decide (c.qos.length ≤ 16) && c.qos.all (fun q => !qosWrong q) && decide (c.qos.map (·.name)).Nodup
def minCap (vs : List Int) : Bool := match vs with
  | [_, _, _, _, a, b, _, _] => decide (a ≤ b)
  | _ => false
def rightC (c : Cfg) : Bool := rightNodesP c && rightPartsP c && rightQosP c && rightV valS c.vals && minCap c.vals
/-- A text's lines: what stands between bytes 10. -/
def lines : Str → List Str
  | [] => [[]]
  | c :: r => if c = 10 then [] :: lines r else match lines r with
    | [] => [[c]]
    | x :: xs => (c :: x) :: xs
/-- A text's config, or its fault. -/
def parseC (s : Str) : Cfg × Nat × Nat := if 65536 < s.length then (noCfg, 5, 0) else match linesP 1 startC (lines s) with
  | .error (e, k) => (noCfg, e, k)
  | .ok c => if rightC c = true then (c, 0, 0) else (noCfg, 12, 0)
end Go.Proofs.YtmnmcikbbfcjcaaGreatDoor
/-
  The smallest calls: blanks, places, names, numbers.
-/
namespace Go.Proofs.YtmnmcikbbfcjcaaGreatDoor
open Go.RowKit Go.Shelf Vs

theorem hs_str (l : Str) : Hs.str l = str l := rfl
theorem hs_bl (s : ByteArray) : Hs.bl s = bl s := rfl
theorem hs_tab {w : World} (h : Env w) : Hs.Tab w := h.1
theorem dw_nil (p : UInt8 → Bool) : ∀ l : Str, l.dropWhile p = [] ↔ ∀ x ∈ l, p x = true
  | [] => by simp
  | c :: r => by
    rw [List.dropWhile_cons]
    by_cases h : p c = true
    · rw [if_pos h, dw_nil p r]; simp [h]
    · rw [if_neg h]; simp [h]
theorem dw_head (p : UInt8 → Bool) : ∀ (l : Str) (c : UInt8) (r : Str), l.dropWhile p = c :: r → p c = false
  | [], c, r, h => by simp at h
  | d :: l, c, r, h => by
    rw [List.dropWhile_cons] at h
    by_cases hd : p d = true
    · rw [if_pos hd] at h; exact dw_head p l c r h
    · rw [if_neg hd] at h
      injection h with h1 _
      subst h1
      simpa using hd
theorem trimS_nil (l cs : Str) : Lib.trimS l cs = [] ↔ l.all (fun x => cs.contains x) = true := by
  unfold Lib.trimS Lib.trimLeftS Lib.trimRightS
  rw [dw_nil, List.all_eq_true]
  constructor
  · intro h
    have hd : l.reverse.dropWhile (fun x => cs.contains x) = [] := by
      cases hx : l.reverse.dropWhile (fun x => cs.contains x) with
      | nil => rfl
      | cons x r =>
        have h1 := h x (by rw [hx]; simp)
        have h2 := dw_head _ _ _ _ hx
        rw [h1] at h2
        cases h2
    intro x hx
    exact (dw_nil _ _).1 hd x (by simpa using hx)
  · intro h x hx
    have h1 : x ∈ l.reverse.dropWhile (fun x => cs.contains x) := by simpa using hx
    have := (List.dropWhile_sublist (fun x => cs.contains x) (l := l.reverse)).subset h1
    exact h x (by simpa using this)
def BoolP (w : World) (b : Bool) (e : Ending) (w' : World) : Prop := e = .returned (.bool b) ∧ Below w.heap.size w w'
theorem ascii_nameCs : ∀ (j : Nat) (b : UInt8), (str nameCs).data.toList[j]? = some b → b.toNat < 128 := by
  have h : ∀ b ∈ nameCs, b.toNat < 128 := by decide
  intro j b hb
  exact h b (List.mem_of_getElem? (show nameCs[j]? = some b from hb))
set_option maxRecDepth 100000 in
set_option maxHeartbeats 1000000 in
theorem isOf_any (s cs : ByteArray) (n : Nat) (w : World) (hs : n ≤ 140737488355328) (hcs : cs.size < 4294967281) (ha : ∀ (j : Nat) (b : UInt8), cs.data.toList[j]? = some b → b.toNat < 128) :
    Calls Tryz.prog 129 #[.string s, .int .i64 n, .string cs] w (BoolP w (isOfP (bl s) n (bl cs))) := by
  have ht : s.size ≤ n → ∀ W, Calls Tryz.prog 143 #[.string s, .string cs] W fun e w' => e = .returned (.string ⟨(Lib.trimS s.data.toList cs.data.toList).toArray⟩) ∧ Below W.heap.size W w' := fun hn W => Any.strings_Trim_laid Tryz.lays160 (by kernel_rfl) s cs W (by omega) hcs ha
  unfold isOfP BoolP
  rw [bl_len]
  by_cases h0 : bl s = []
  · have h1 : s.toList = [] := by rw [ByteArray.toList_eq]; exact h0
    rw [h0]
    clear h0 ht
    go_enter Tryz.func129, Tryz.ntmps129
    go_wp2_with fail
    go_ret
    exact ⟨rfl, Below.refl _ _⟩
  · have h1 : ¬ s.toList = [] := by rw [ByteArray.toList_eq]; exact h0
    have h2 : s.toList.isEmpty = false := by simpa using h1
    have h3 : (bl s).isEmpty = false := by simpa using h0
    by_cases hn : s.size ≤ n
    · have ht := ht hn
      have i1 : (s.size : Int) ≤ n := by omega
      have hT : (⟨(Lib.trimS s.data.toList cs.data.toList).toArray⟩ : ByteArray).toList.isEmpty = (bl s).all (fun x => (bl cs).contains x) := by
        rw [ByteArray.toList_eq, Bool.eq_iff_iff]
        simp only [List.isEmpty_iff]
        exact trimS_nil _ _
      rw [h3, decide_eq_true hn]
      generalize (bl s).all (fun x => (bl cs).contains x) = R at *
      generalize (⟨(Lib.trimS s.data.toList cs.data.toList).toArray⟩ : ByteArray) = T at *
      clear h0 h3
      go_enter Tryz.func129, Tryz.ntmps129
      go_wp2_with (go_at_call 143; (with_reducible refine (ht _).mono ?_); rintro e w1 ⟨rfl, b1⟩)
      go_ret
      exact ⟨by rfl, b1⟩
    · have i1 : ¬ (s.size : Int) ≤ n := by omega
      rw [h3, decide_eq_false hn]
      clear h0 h3 ht
      go_enter Tryz.func129, Tryz.ntmps129
      go_wp2_with fail
      go_ret
      exact ⟨rfl, Below.refl _ _⟩
set_option maxRecDepth 100000 in
theorem isName0 (s : ByteArray) (w : World) : Calls Tryz.prog 109 #[.string s] w (BoolP w (isNameP (bl s))) := by
  have ho : ∀ W, Calls Tryz.prog 129 #[.string s, .int .i64 16, .string ⟨#[97, 98, 99, 100, 101, 102, 103, 104, 105, 106, 107, 108, 109, 110, 111, 112, 113, 114, 115, 116, 117, 118, 119, 120, 121, 122, 45, 95, 48, 49, 50, 51, 52, 53, 54, 55, 56, 57]⟩] W (BoolP W (isNameP (bl s))) :=
    fun W => isOf_any s (str nameCs) 16 W (by decide) (by decide) ascii_nameCs
  unfold BoolP at *
  generalize isNameP (bl s) = R at *
  go_enter Tryz.func109, Tryz.ntmps109
  go_wp2_with (go_at_call 129; (with_reducible refine (ho _).mono ?_); rintro e w1 ⟨rfl, b1⟩)
  go_ret
  exact ⟨rfl, b1⟩
theorem isDig_digCs (c : UInt8) : digCs.contains c = isDig c := by
  have h : ∀ n : Fin 256, digCs.contains (UInt8.ofNat n.val) = isDig (UInt8.ofNat n.val) := by decide +kernel
  have := h ⟨c.toNat, c.toNat_lt⟩
  simpa using this
/-- What a call that reads a number answers. -/
def numV (o : Option Nat) : Value := match o with
  | some n => .tuple #[.int .i64 (n : Int), .bool true]
  | none => .tuple #[.int .i64 0, .bool false]
set_option maxRecDepth 100000 in
set_option maxHeartbeats 2000000 in
theorem isNodeName_any (s : ByteArray) (w : World) (hw : Env w) : Calls Tryz.prog 63 #[.string s] w (BoolP w (nodeNameP (bl s))) := by
  unfold nodeNameP BoolP
  rw [bl_len]
  by_cases hs : s.size ≤ 32
  · have hx := fun W (hW : Hs.Tab W) => Hs.Expand_any s W hW (by omega)
    rw [hs_bl] at hx
    rw [decide_eq_true hs]
    obtain ⟨⟨ns, f1, f2⟩, hR⟩ : ∃ r, Hs.expand (bl s) = r := ⟨_, rfl⟩
    rw [hR] at hx ⊢
    unfold Hs.ExpPost at hx
    simp only at hx ⊢
    have i1 : ¬ (s.size : Int) > 32 := by omega
    clear hR
    replace hw := fhid hw
    by_cases h1 : f1 = 0
    · subst h1
      by_cases h2 : ns.length = 1
      · obtain ⟨x, rfl⟩ := List.length_eq_one_iff.1 h2
        have hq := str_eq (str x) s
        rw [bl_str] at hq
        rw [show decide ([x] = [bl s]) = decide (x = bl s) by simp]
        generalize decide (x = bl s) = R at *
        clear h2
        go_enter Tryz.func63, Tryz.ntmps63
        go_wp2_with (go_at_call 106; (with_reducible refine (hx _ (hs_tab hw.out)).mono ?_); rintro e w1 ⟨v, rfl, own, b1⟩
                     obtain ⟨A, cap, rfl, _, _, sg⟩ := own.shape
                     obtain ⟨bb, oo, rfl, hb, hc⟩ := sg (by simp [Hs.SV])
                     have hc0 := hc 0 (by simp [Hs.SV])
                     simp only [Hs.SV, List.map_cons, List.map_nil, List.getElem_cons_zero, Nat.add_zero] at hc0
                     rw [hs_str] at hc0
                     clear hc sg own
                     generalize str x = X at *)
        go_ret
        exact ⟨fretb (by simp), b1.alloc b1.size _⟩
      · have h3 : decide (ns = [bl s]) = false := decide_eq_false fun e => h2 (by rw [e]; rfl)
        have i2 : ((ns.length : Int) == 1) = false := by simp; omega
        rw [h3]
        clear h3 h2
        go_enter Tryz.func63, Tryz.ntmps63
        go_wp2_with (go_at_call 106; (with_reducible refine (hx _ (hs_tab hw.out)).mono ?_); rintro e w1 ⟨v, rfl, own, b1⟩
                     obtain ⟨A, cap, rfl, _, _, sg⟩ := own.shape
                     clear sg own)
        go_ret
        exact ⟨fretb (by simp), b1.alloc b1.size _⟩
    · have i2 : ((f1 : Int) == 0) = false := by simp; omega
      rw [decide_eq_false h1]
      go_enter Tryz.func63, Tryz.ntmps63
      go_wp2_with (go_at_call 106; (with_reducible refine (hx _ (hs_tab hw.out)).mono ?_); rintro e w1 ⟨v, rfl, own, b1⟩
                   obtain ⟨A, cap, rfl, _, _, sg⟩ := own.shape
                   clear sg own)
      go_ret
      exact ⟨fretb (by simp), b1.alloc b1.size _⟩
  · have i1 : (s.size : Int) > 32 := by omega
    rw [decide_eq_false hs]
    go_enter Tryz.func63, Tryz.ntmps63
    go_wp2
    go_ret
    exact ⟨rfl, Below.refl _ _⟩
end Go.Proofs.YtmnmcikbbfcjcaaGreatDoor
/-
  A map that is a set of names; a name put to it.
-/
namespace Go.Proofs.YtmnmcikbbfcjcaaGreatDoor
open Go.RowKit Go.Shelf Vs

abbrev unit : Value := .agg #[]
abbrev TSet : TypeId := 159
/-- The map in block b has just these keys, in the order in which they came. -/
def SMap (w : World) (b : Nat) (l : List Str) : Prop := ∃ es clock, w.heap[b]? = some (.map es clock) ∧ es.toList.map (fun e => (e.key, e.val)) = l.map fun s => (Value.string (str s), unit)
section
variable {w w' : World} {b B : Nat} {l : List Str}
theorem SMap.new (w : World) : SMap (w.alloc (.map #[] 0)) w.heap.size [] := ⟨#[], 0, heap_alloc_new w _, rfl⟩
theorem SMap.keep (h : SMap w b l) (hk : w'.heap[b]? = w.heap[b]?) : SMap w' b l := by
  obtain ⟨es, c, a, e⟩ := h
  exact ⟨es, c, hk.trans a, e⟩
theorem SMap.lt (h : SMap w b l) : b < w.heap.size := by
  obtain ⟨es, c, a, _⟩ := h
  exact lt_of_block a
theorem SMap.below (h : SMap w b l) (hb : Below B w w') (hB : b < B) : SMap w' b l := h.keep (hb.block b hB)
theorem SMap.len (h : SMap w b l) (T : TypeId) : (Builtin.len_ #[TSet] T #[.map (some b)]).run Tryz.prog w = .ok (.int .i64 l.length) w := by
  obtain ⟨es, c, a, e⟩ := h
  have hl := congrArg List.length e
  rw [List.length_map, List.length_map, Array.length_toList] at hl
  have := run_len_map (P := Tryz.prog) w TSet T b es c (by kernel_rfl) a
  rw [hl] at this
  exact this
end
theorem zeroUnit (w : World) : (zeroValue 181).run Tryz.prog w = .ok unit w := by kernel_rfl
theorem isKey_str (s : ByteArray) : MapKept.IsKey .string (.string s) := by simp [MapKept.IsKey]
theorem str_beq (a b : Str) : (str a == str b) = decide (a = b) := by
  rw [Bool.eq_iff_iff, MapKept.bytes_beq, decide_eq_true_eq]
  constructor
  · intro h; rw [← bl_str a, h, bl_str]
  · intro h; rw [h]
theorem find_names (s : Str) : ∀ (es : List MapEntry) (l : List Str) (i : Nat), es.map (fun e => (e.key, e.val)) = l.map (fun x => (Value.string (str x), unit)) → ∃ j, Instr.findNow .string (.string (str s)) es i = some (if s ∈ l then some (j, unit) else none)
  | [], [], i, _ => ⟨i, rfl⟩
  | [], _ :: _, _, h => by simp at h
  | _ :: _, [], _, h => by simp at h
  | e :: es, x :: l, i, h => by
    simp only [List.map_cons, List.cons.injEq, Prod.mk.injEq] at h
    obtain ⟨⟨hk, hv⟩, hr⟩ := h
    have hs : Instr.sameNow .string (.string (str s)) e.key = some (decide (s = x)) := by
      rw [hk]
      show some (str s == str x) = _
      rw [str_beq]
    unfold Instr.findNow
    rw [hs]
    by_cases hx : s = x
    · refine ⟨i, ?_⟩
      rw [decide_eq_true hx, if_pos (by simp [hx]), hv]
    · obtain ⟨j, hj⟩ := find_names s es l (i + 1) hr
      refine ⟨j, ?_⟩
      rw [decide_eq_false hx]
      have : (s ∈ x :: l) ↔ s ∈ l := by simp [hx]
      simp only [this]
      exact hj
theorem run_look (w : World) (b : Nat) (l : List Str) (s : Str) (h : SMap w b l) : (Instr.lookup TSet (.map (some b)) (.string (str s)) true).run Tryz.prog w = .ok (.tuple #[unit, .bool (decide (s ∈ l))]) w := by
  obtain ⟨es, clock, hb, he⟩ := h
  obtain ⟨j, hj⟩ := find_names s es.toList l 0 he
  have hf := MapKept.run_findKey (w := w) Tryz.underlying9 hj
  have hc := fun e => MapKept.run_checkKey (P := Tryz.prog) (w := w) Tryz.underlying9 (isKey_str (str s)) e 9999
  have hz := zeroUnit w
  by_cases hl : s ∈ l
  · rw [if_pos hl] at hf
    rw [decide_eq_true hl]
    simp [Instr.lookup, run_underlying Tryz.underlying159, MapKept.run_getObj_map hb, hc, hf, Result.andThen]
  · rw [if_neg hl] at hf
    rw [decide_eq_false hl]
    simp [Instr.lookup, run_underlying Tryz.underlying159, MapKept.run_getObj_map hb, hc, hf, hz, Result.andThen]
theorem run_put (w : World) (b : Nat) (l : List Str) (s : Str) (h : SMap w b l) (hl : s ∉ l) : ∃ w', (Instr.mapUpdate TSet (.map (some b)) (.string (str s)) unit).run Tryz.prog w = .ok () w' ∧ SMap w' b (l ++ [s]) ∧ w.grownBy w' (some b) := by
  obtain ⟨es, clock, hb, he⟩ := h
  obtain ⟨j, hj⟩ := find_names s es.toList l 0 he
  rw [if_neg hl] at hj
  have hf := MapKept.run_findKey (w := w) Tryz.underlying9 hj
  have hc := fun e => MapKept.run_checkKey (P := Tryz.prog) (w := w) Tryz.underlying9 (isKey_str (str s)) e 9999
  have hrun : (Instr.mapUpdate TSet (.map (some b)) (.string (str s)) unit).run Tryz.prog w = .ok () (ChangeMaps.setBlock w b (.map (es.push ⟨.string (str s), unit, clock⟩) (clock + 1))) := by
    simp [Instr.mapUpdate, run_underlying Tryz.underlying159, MapKept.run_getObj_map hb, hc, hf, MapKept.run_setObj_map _ hb, Result.andThen, ChangeMaps.setBlock]
  refine ⟨_, hrun, ⟨_, _, ChangeMaps.heap_setBlock_same hb _, ?_⟩, ⟨rfl, rfl, rfl, by simp [ChangeMaps.setBlock], fun i _ hi => ChangeMaps.heap_setBlock_other hb _ (fun e => hi (by rw [e]))⟩⟩
  rw [Array.toList_push, List.map_append, he, List.map_append]
  rfl
/-- A world in which but one block that was there may have changed. -/
abbrev Aft (b : Nat) (w w' : World) : Prop := w.grownBy w' (some b)
theorem Aft.of {b : Nat} {w w' : World} (h : Below w.heap.size w w') : Aft b w w' := ⟨h.os, h.tape, h.output, h.size, fun i hi _ => h.block i hi⟩
theorem Aft.below {b B : Nat} {w w' : World} (h : Aft b w w') (hB : B ≤ b) (hs : B ≤ w.heap.size) : Below B w w' :=
  ⟨h.os, h.tape, h.output, h.size, fun k hk => h.block k (by omega) (by intro e; injection e with e; omega)⟩
theorem Aft.trans {b : Nat} {w w1 w2 : World} (h : Aft b w w1) (k : Aft b w1 w2) : Aft b w w2 :=
  ⟨k.os.trans h.os, k.tape.trans h.tape, k.output.trans h.output, Nat.le_trans h.size k.size, fun i hi hb => (k.block i (Nat.lt_of_lt_of_le hi h.size) hb).trans (h.block i hi hb)⟩
/-- What a call that puts a name to a set comes to. -/
def AddP (b : Nat) (l : List Str) (s : Str) (w : World) (e : Ending) (w' : World) : Prop := e = .returned (.bool (decide (s ∉ l))) ∧ SMap w' b (if s ∈ l then l else l ++ [s]) ∧ Aft b w w'
set_option maxRecDepth 100000 in
set_option maxHeartbeats 1000000 in
theorem add_any (b : Nat) (l : List Str) (s : Str) (w : World) (h : SMap w b l) : Calls Tryz.prog 108 #[.map (some b), .string (str s)] w (AddP b l s w) := by
  have hbl := h.lt
  have hb1 : Below w.heap.size w (w.alloc (.cells #[] 181)) := (Below.refl _ _).alloc (Nat.le_refl _) _
  have hk := run_look w b l s h
  unfold AddP
  by_cases hl : s ∈ l
  · rw [decide_eq_true hl] at hk
    rw [if_pos hl, decide_eq_false (by simp [hl])]
    have hq := h.below hb1 hbl
    replace hq := fhid hq
    replace h := fhid h
    replace hb1 := fhid hb1
    clear hl
    go_enter Tryz.func108, Tryz.ntmps108
    go_wp2_with fail
    go_ret
    exact ⟨rfl, hq.out, Aft.of hb1.out⟩
  · rw [decide_eq_false hl] at hk
    rw [if_neg hl, decide_eq_true hl]
    obtain ⟨w2, hr, hm, ha⟩ := run_put _ b l s (h.below hb1 hbl) hl
    have ha2 := (Aft.of (b := b) hb1).trans ha
    replace hm := fhid hm
    replace ha := fhid ha
    replace ha2 := fhid ha2
    replace h := fhid h
    replace hb1 := fhid hb1
    clear hl
    go_enter Tryz.func108, Tryz.ntmps108
    go_wp2_with fail
    go_ret
    exact ⟨rfl, hm.out, ha2.out⟩
end Go.Proofs.YtmnmcikbbfcjcaaGreatDoor
/-
  Rows of numbers that point into a block: how they are made.
-/
namespace Go.Proofs.YtmnmcikbbfcjcaaGreatDoor
open Go.RowKit Go.Shelf Vs

abbrev TNum : TypeId := 132
def numV5 (b : Nat) (s : Spec) (o : Nat) : List Value := [.string (str s.key), .pointer (some ⟨b, o, none⟩), .int .i64 s.least, .int .i64 s.most, .int .i64 s.untold]
/-- The cells of numbers that point to places one behind the other. -/
def numsV (b : Nat) : List Spec → Nat → List Value
  | [], _ => []
  | s :: ss, o => numV5 b s o ++ numsV b ss (o + 1)
/-- A row of such numbers, in a block of its own. -/
def NRow (w : World) (g b : Nat) (ss : List Spec) (o : Nat) : Prop := w.heap[g]? = some (.cells (numsV b ss o).toArray TNum)
theorem NRow.below {w w' : World} {g b : Nat} {ss : List Spec} {o B : Nat} (h : NRow w g b ss o) (hb : Below B w w') (hB : g < B) : NRow w' g b ss o := (hb.block g hB).trans h
/-- What a call that makes such a row comes to. -/
def MadeN (b : Nat) (ss : List Spec) (o : Nat) (w : World) (e : Ending) (w' : World) : Prop :=
  ∃ g, e = .returned (.slice (some ⟨g, 0, none⟩) ss.length ss.length) ∧ w.heap.size ≤ g ∧ NRow w' g b ss o ∧ Below w.heap.size w w'
set_option maxRecDepth 100000 in
set_option maxHeartbeats 2000000 in
theorem qosOptions_any (b : Nat) (w : World) : Calls Tryz.prog 112 #[.pointer (some ⟨b, 0, none⟩)] w (MadeN b qosS 1 w) := by
  go_enter Tryz.func112, Tryz.ntmps112
  go_wp2_with fail
  go_region
  go_wp2
  go_ret
  exact ⟨w.heap.size, rfl, Nat.le_refl _, heap_alloc_new w _, ((Below.refl _ _).alloc (Nat.le_refl _) _).drew⟩
set_option maxRecDepth 100000 in
set_option maxHeartbeats 2000000 in
theorem partOptions_any (b : Nat) (w : World) : Calls Tryz.prog 110 #[.pointer (some ⟨b, 0, none⟩)] w (MadeN b partS 5 w) := by
  go_enter Tryz.func110, Tryz.ntmps110
  go_wp2_with fail
  go_region
  go_wp2
  go_ret
  exact ⟨w.heap.size, rfl, Nat.le_refl _, heap_alloc_new w _, ((Below.refl _ _).alloc (Nat.le_refl _) _).drew⟩
set_option maxRecDepth 100000 in
set_option maxHeartbeats 8000000 in
theorem values_any (b : Nat) (w : World) : Calls Tryz.prog 41 #[.pointer (some ⟨b, 0, none⟩)] w (MadeN b valS 4 w) := by
  go_enter Tryz.func41, Tryz.ntmps41
  go_wp2_with fail
  go_region
  go_wp2
  go_ret
  exact ⟨w.heap.size, rfl, Nat.le_refl _, heap_alloc_new w _, ((Below.refl _ _).alloc (Nat.le_refl _) _).drew⟩
theorem numsV_at (b : Nat) : ∀ (ss : List Spec) (o i j : Nat) (h : i < ss.length), j < 5 → (numsV b ss o)[i * 5 + j]? = (numV5 b ss[i] (o + i))[j]?
  | [], _, i, _, h, _ => absurd h (Nat.not_lt_zero i)
  | s :: ss, o, 0, j, _, hj => by
    show (numV5 b s o ++ numsV b ss (o + 1))[0 * 5 + j]? = _
    rw [Nat.zero_mul, Nat.zero_add, List.getElem?_append_left (by show j < 5; exact hj)]
    rfl
  | s :: ss, o, i + 1, j, h, hj => by
    show (numV5 b s o ++ numsV b ss (o + 1))[(i + 1) * 5 + j]? = _
    rw [List.getElem?_append_right (by show 5 ≤ _; omega)]
    have := numsV_at b ss (o + 1) i j (by simpa using h) hj
    rw [show (i + 1) * 5 + j - (numV5 b s o).length = i * 5 + j by show (i + 1) * 5 + j - 5 = _; omega, this]
    simp only [List.getElem_cons_succ]
    rw [show o + 1 + i = o + (i + 1) by omega]
theorem NRow.facts {w : World} {g b : Nat} {ss : List Spec} {o : Nat} (h : NRow w g b ss o) {i : Nat} (hi : i < ss.length) :
    w.cell? ⟨g, i * 5, none⟩ = some (.string (str ss[i].key)) ∧ w.cell? ⟨g, i * 5 + 1, none⟩ = some (.pointer (some ⟨b, o + i, none⟩)) ∧ w.cell? ⟨g, i * 5 + 2, none⟩ = some (.int .i64 ss[i].least) ∧ w.cell? ⟨g, i * 5 + 3, none⟩ = some (.int .i64 ss[i].most) ∧ w.cell? ⟨g, i * 5 + 4, none⟩ = some (.int .i64 ss[i].untold) ∧ g < w.heap.size := by
  have hc : ∀ j v, (numV5 b ss[i] (o + i))[j]? = some v → w.cell? ⟨g, i * 5 + j, none⟩ = some v := fun j v hv => by
    have hj : j < 5 := (List.getElem?_eq_some_iff.1 hv).1
    have := numsV_at b ss o i j hi hj
    rw [hv] at this
    unfold NRow at h
    simp only [World.cell?, h]
    simpa using this
  exact ⟨hc 0 _ rfl, hc 1 _ rfl, hc 2 _ rfl, hc 3 _ rfl, hc 4 _ rfl, lt_of_block h⟩
end Go.Proofs.YtmnmcikbbfcjcaaGreatDoor
/-
  Numbers made what they are if no text tells them.
-/
namespace Go.Proofs.YtmnmcikbbfcjcaaGreatDoor
open Go.RowKit Go.Shelf Vs

/-- Block b holds these cells. -/
def Box (w : World) (b : Nat) (T : TypeId) (cs : List Value) : Prop := w.heap[b]? = some (.cells cs.toArray T)
theorem Box.lt {w : World} {b : Nat} {T : TypeId} {cs : List Value} (h : Box w b T cs) : b < w.heap.size := lt_of_block h
theorem Box.below {w w' : World} {b B : Nat} {T : TypeId} {cs : List Value} (h : Box w b T cs) (hb : Below B w w') (hB : b < B) : Box w' b T cs := (hb.block b hB).trans h
theorem Box.cell {w : World} {b : Nat} {T : TypeId} {cs : List Value} (h : Box w b T cs) (i : Nat) : w.cell? ⟨b, i, none⟩ = cs[i]? := by
  unfold Box at h
  simp [World.cell?, h]
theorem Box.free {w : World} {b : Nat} {T : TypeId} {cs : List Value} (h : Box w b T cs) (i : Nat) : w.frozen? ⟨b, i, none⟩ = false := by
  unfold Box at h
  simp [World.frozen?, h]
theorem Box.set {w : World} {b : Nat} {T : TypeId} {cs : List Value} (h : Box w b T cs) (i : Nat) (v : Value) : Box (w.setCell ⟨b, i, none⟩ v) b T (cs.set i v) := by
  unfold Box at *
  unfold World.setCell
  simp only [Array.getElem?_modify, if_true, h, Option.map_some]
  simp
theorem Box.other {w : World} {b : Nat} {T : TypeId} {cs : List Value} (h : Box w b T cs) {a : Addr} (ha : b ≠ a.block) (v : Value) : Box (w.setCell a v) b T cs := by
  unfold Box at *
  rw [Below.heap_setCell _ _ _ _ ha]; exact h
theorem Box.new (w : World) (T : TypeId) (cs : List Value) : Box (w.alloc (.cells cs.toArray T)) w.heap.size T cs := heap_alloc_new w _
/-- Numbers, as cells. -/
def iv (l : List Int) : List Value := l.map (.int .i64 ·)
/-- A block whose cells from o on are these numbers. -/
def VBox (w : World) (b : Nat) (T : TypeId) (pre : List Value) (vs : List Int) (post : List Value) : Prop := Box w b T (pre ++ iv vs ++ post)
theorem set_mid (pre : List Value) (vs : List Int) (post : List Value) (i : Nat) (n : Int) : (pre ++ iv vs ++ post).set (pre.length + i) (.int .i64 n) = if i < vs.length then pre ++ iv (vs.set i n) ++ post else pre ++ iv vs ++ post.set (i - vs.length) (.int .i64 n) := by
  have hl : (iv vs).length = vs.length := by simp [iv]
  rw [List.append_assoc, List.set_append_right _ _ (by omega), Nat.add_sub_cancel_left]
  by_cases h : i < vs.length
  · rw [if_pos h, List.set_append_left _ _ (by omega), ← List.append_assoc]
    congr 2
    simp [iv]
  · rw [if_neg h, List.set_append_right _ _ (by omega), hl, List.append_assoc]
theorem VBox.below {w w' : World} {b B : Nat} {T : TypeId} {pre : List Value} {vs : List Int} {post : List Value} (h : VBox w b T pre vs post) (hb : Below B w w') (hB : b < B) : VBox w' b T pre vs post := Box.below h hb hB
theorem NRow.keep {w w' : World} {g b : Nat} {ss : List Spec} {o : Nat} (h : NRow w g b ss o) (hk : w'.heap[g]? = w.heap[g]?) : NRow w' g b ss o := hk.trans h
theorem Aft.set {b : Nat} {w w' : World} (h : Aft b w w') (i : Nat) (v : Value) : Aft b w (w'.setCell ⟨b, i, none⟩ v) :=
  ⟨h.os, h.tape, h.output, by have := h.size; rw [World.size_setCell]; exact this, fun j hj hb => (Below.heap_setCell _ _ _ _ (fun e => hb (by rw [e]))).trans (h.block j hj hb)⟩
theorem VBox.set {w : World} {b : Nat} {T : TypeId} {pre : List Value} {vs : List Int} {post : List Value} (h : VBox w b T pre vs post) {i k : Nat} (hi : i < vs.length) (hk : k = pre.length + i) (n : Int) : VBox (w.setCell ⟨b, k, none⟩ (.int .i64 n)) b T pre (vs.set i n) post := by
  have := Box.set h k (.int .i64 n)
  rw [hk, set_mid, if_pos hi] at this
  rw [hk]
  exact this
theorem VBox.cell {w : World} {b : Nat} {T : TypeId} {pre : List Value} {vs : List Int} {post : List Value} (h : VBox w b T pre vs post) {i k : Nat} (hi : i < vs.length) (hk : k = pre.length + i) : w.cell? ⟨b, k, none⟩ = some (.int .i64 vs[i]) := by
  have hl : (iv vs).length = vs.length := by simp [iv]
  rw [Box.cell h, hk, List.append_assoc, List.getElem?_append_right (by omega), Nat.add_sub_cancel_left, List.getElem?_append_left (by omega)]
  simp [iv, hi]
end Go.Proofs.YtmnmcikbbfcjcaaGreatDoor
/-
  A number put where its key says; whether all numbers are as they may be.
-/
namespace Go.Proofs.YtmnmcikbbfcjcaaGreatDoor
open Go.RowKit Go.Shelf Vs

/-- The first place at which something holds, or -1. -/
def IdxP (q : Nat → Bool) (n : Nat) (w : World) (e : Ending) (w' : World) : Prop :=
  ((∃ i, i < n ∧ q i = true ∧ (∀ j, j < i → q j = false) ∧ e = .returned (.int .i64 (i : Int))) ∨ ((∀ j, j < n → q j = false) ∧ e = .returned (.int .i64 (-1)))) ∧ Below w.heap.size w w'
abbrev num5 (b : Nat) (s : Spec) (o : Nat) : Value := .agg #[.string (str s.key), .pointer (some ⟨b, o, none⟩), .int .i64 s.least, .int .i64 s.most, .int .i64 s.untold]
set_option maxRecDepth 100000 in
set_option maxHeartbeats 2000000 in
theorem idxNum_any (fn : Nat) (lb : Array Value) (eg : ∀ args w, (callFunc fn args).run Tryz.prog w = .ok (.enter fn args) w) (g b : Nat) (ss : List Spec) (o : Nat) (q : Nat → Bool) (w : World) (hN : NRow w g b ss o) (hn : ss.length ≤ 100)
    (hcall : ∀ (i : Nat) (_ : i < ss.length) (W : World), Below w.heap.size w W → Calls Tryz.prog fn (#[num5 b ss[i] (o + i)] ++ lb) W fun e w' => e = .returned (.bool (q i)) ∧ Below W.heap.size W w') :
    Calls Tryz.prog 113 #[.slice (some ⟨g, 0, none⟩) ss.length ss.length, .func (.func fn) #[] lb] w (IdxP q ss.length w) := by
  have hgl := lt_of_block hN
  replace hN := fhid hN
  replace hcall := fhid hcall
  go_enter Tryz.func113, Tryz.ntmps113
  go_wp2
  go_loopw [8] (fun i wr => ∃ k : Nat, k ≤ ss.length ∧ i = .int .i64 k ∧ Hid (∀ j, j < k → q j = false) ∧ Below w.heap.size w wr) (fun i _ => ss.length - (intOf i).toNat)
  case atStart => exact ⟨0, Nat.zero_le _, rfl, fhid (fun j hj => absurd hj (Nat.not_lt_zero _)), Below.refl _ _⟩
  case round =>
    obtain ⟨k, hk, rfl, hno, hB⟩ := hrel
    by_cases hlt : k < ss.length
    · obtain ⟨f0, f1, f2, f3, f4, _⟩ := (hN.out.below hB hgl).facts hlt
      have hc := hcall.out k hlt wr hB
      simp only [num5] at hc
      have hqk : Hid (q k = q k) := fhid rfl
      have i1 : (k : Int) < ss.length := by omega
      have i0 : (0 : Int) ≤ k := by omega
      have i2 : (ss.length : Int) ≤ 100 := by omega
      replace hB := fhid hB
      generalize ss[k].untold = U at *
      generalize ss[k].least = U2 at *
      generalize ss[k].most = U3 at *
      generalize str ss[k].key = U4 at *
      cases hq : q k with
      | true =>
        rw [hq] at hc
        replace hq := fhid hq
        go_wp2_with (go_at_fn fn; (with_reducible refine hc.mono ?_); rintro e w1 ⟨rfl, b1⟩)
        go_ret
        exact ⟨.inl ⟨k, hlt, hq.out, hno.out, rfl⟩, hB.out.trans (b1.mono hB.out.size)⟩
      | false =>
        rw [hq] at hc
        replace hq := fhid hq
        go_wp2_with (go_at_fn fn; (with_reducible refine hc.mono ?_); rintro e w1 ⟨rfl, b1⟩)
        go_roundw
        case rel => exact ⟨k + 1, by omega, by go_num, fhid (fun j hj => by
          by_cases e : j = k
          · rw [e]; exact hq.out
          · exact hno.out j (by omega)), hB.out.trans (b1.mono hB.out.size)⟩
        case measure => simp [intOf]; omega
    · obtain rfl : k = ss.length := by omega
      go_wp2
      go_ret
      exact ⟨.inr ⟨hno.out, rfl⟩, hB⟩
end Go.Proofs.YtmnmcikbbfcjcaaGreatDoor
/-
  Whether all numbers are as they may be.
-/
namespace Go.Proofs.YtmnmcikbbfcjcaaGreatDoor
open Go.RowKit Go.Shelf Vs

def wrongN (s : Spec) (x : Int) : Bool := decide (x < s.least) || decide (x > s.most)
set_option maxRecDepth 100000 in
set_option maxHeartbeats 1000000 in
theorem wrongN_any (b o : Nat) (s : Spec) (x : Int) (w : World) (hc : w.cell? ⟨b, o, none⟩ = some (.int .i64 x)) (hb : b < w.heap.size) :
    Calls Tryz.prog 75 #[num5 b s o] w fun e w' => e = .returned (.bool (wrongN s x)) ∧ Below w.heap.size w w' := by
  unfold wrongN
  simp only [num5]
  generalize str s.key = K at *
  generalize s.least = L at *
  generalize s.most = M at *
  generalize s.untold = U at *
  have hne : b ≠ w.heap.size := by omega
  have hc2 := hc
  have hcx : (w.alloc (.cells #[.string K, .pointer (some ⟨b, o, none⟩), .int .i64 L, .int .i64 M, .int .i64 U] TNum)).cell? ⟨b, o, none⟩ = some (.int .i64 x) := (((Below.refl w.heap.size w).alloc (Nat.le_refl _) _).cell (p := ⟨b, o, none⟩) hb).trans hc
  have b1 := fhid ((Below.refl w.heap.size w).alloc (Nat.le_refl _) (.cells #[.string K, .pointer (some ⟨b, o, none⟩), .int .i64 L, .int .i64 M, .int .i64 U] TNum))
  by_cases h1 : x < L
  · rw [decide_eq_true h1, Bool.true_or]
    go_enter Tryz.func75, Tryz.ntmps75
    go_wp2_with fail
    go_quiet (fail)
    go_wp2
    go_ret
    exact ⟨rfl, Vs.below_drewN b1.out _⟩
  · rw [decide_eq_false h1, Bool.false_or]
    by_cases h2 : x > M
    · rw [decide_eq_true h2]
      go_enter Tryz.func75, Tryz.ntmps75
      go_wp2_with fail
      go_quiet (fail)
      go_wp2
      go_ret
      exact ⟨rfl, Vs.below_drewN b1.out _⟩
    · rw [decide_eq_false h2]
      go_enter Tryz.func75, Tryz.ntmps75
      go_wp2_with fail
      go_quiet (fail)
      go_wp2
      go_ret
      exact ⟨fretb (by simp; omega), Vs.below_drewN b1.out _⟩
theorem rightV_iff (ss : List Spec) (vs : List Int) (hl : vs.length = ss.length) : rightV ss vs = true ↔ ∀ i (hi : i < ss.length), wrongN ss[i] (vs[i]'(by omega)) = false := by
  unfold rightV wrongN
  rw [List.all_eq_true]
  constructor
  · intro h i hi
    have := h (ss[i], vs[i]'(by omega)) (by
      rw [List.mem_iff_getElem]
      exact ⟨i, by simp; omega, by simp⟩)
    simp only [Bool.and_eq_true, decide_eq_true_eq] at this
    simp; omega
  · intro h x hx
    obtain ⟨i, hi, rfl⟩ := List.getElem_of_mem hx
    have := h i (by simp at hi; omega)
    simp at this
    simp; omega
set_option maxRecDepth 100000 in
set_option maxHeartbeats 2000000 in
theorem rightNumbers_any (g b : Nat) (ss : List Spec) (o : Nat) (T : TypeId) (pre : List Value) (vs : List Int) (post : List Value) (w : World) (hg : NRow w g b ss o) (hb : VBox w b T pre vs post) (ho : o = pre.length) (hl : vs.length = ss.length) (hn : ss.length ≤ 100) :
    Calls Tryz.prog 40 #[.slice (some ⟨g, 0, none⟩) ss.length ss.length] w (BoolP w (rightV ss vs)) := by
  have hgl := lt_of_block hg
  have hbl := Box.lt hb
  have hri := fhid (rightV_iff ss vs hl)
  obtain ⟨q, hq⟩ : ∃ q : Nat → Bool, ∀ i (hi : i < ss.length), q i = wrongN ss[i] (vs[i]'(by omega)) := ⟨fun i => wrongN (ss.getD i ⟨[], 0, 0, 0⟩) (vs.getD i 0), fun i hi => by simp [hi, hl]⟩
  have hix := fun (W : World) (hN : NRow W g b ss o) (hV : VBox W b T pre vs post) =>
    idxNum_any 75 #[] (enters_of Tryz.func75 (by kernel_rfl) rfl) g b ss o q W hN hn (fun i hi W2 hb2 => by
      rw [hq i hi]
      have hV2 := VBox.below hV hb2 (Box.lt hV)
      exact wrongN_any b (o + i) ss[i] _ W2 (VBox.cell hV2 (i := i) (by omega) (by omega)) (Box.lt hV2))
  have hco : ∀ (W : World), NRow W g b ss o → VBox W b T pre vs post → Calls Tryz.prog 74 #[.slice (some ⟨g, 0, none⟩) ss.length ss.length, .func (.func 75) #[] #[]] W (BoolP W (!rightV ss vs)) := by
    intro W hN hV
    have hi := hix W hN hV
    unfold IdxP at hi
    unfold BoolP
    have hz := fhid hq
    clear hq hix hg hb
    generalize hR : rightV ss vs = R at *
    replace hR := fhid hR
    go_enter Tryz.func74, Tryz.ntmps74
    go_wp2_with fail
    refine hi.mono ?_
    rintro e w1 ⟨⟨i, hi, hqi, hno, rfl⟩ | ⟨hno, rfl⟩, b1⟩
    · have i1 : (i : Int) ≥ 0 := by omega
      go_wp2
      go_ret
      refine ⟨fretb ?_, b1⟩
      cases R with
      | false => rfl
      | true =>
        have := hri.out.1 rfl i hi
        rw [← hz.out i hi, hqi] at this
        cases this
    · go_wp2
      go_ret
      refine ⟨fretb ?_, b1⟩
      cases R with
      | true => rfl
      | false =>
        have : false = true := hri.out.2 fun i hi => by rw [← hz.out i hi]; exact hno i hi
        cases this
  have hc := hco w hg hb
  unfold BoolP at hc ⊢
  generalize rightV ss vs = R at *
  clear hco hix hq hri
  go_enter Tryz.func40, Tryz.ntmps40
  go_wp2_with (go_at_call 74; (with_reducible refine hc.mono ?_); rintro e w1 ⟨rfl, b1⟩)
  go_ret
  exact ⟨fretb (by simp), b1⟩
end Go.Proofs.YtmnmcikbbfcjcaaGreatDoor
/-
  A partition and a quality without options.
-/
namespace Go.Proofs.YtmnmcikbbfcjcaaGreatDoor
open Go.RowKit Go.Shelf Vs

def partV (p : PartC) : List Value := [.string (str p.name), .int .u64 (Bs.word p.nodes 0), .int .u64 (Bs.word p.nodes 1), .int .u64 (Bs.word p.nodes 2), .int .u64 (Bs.word p.nodes 3), .int .i64 p.max, .int .i64 p.time, .int .i64 p.prio]
def qosV (q : QosC) : List Value := [.string (str q.name), .int .i64 q.prio, .int .i64 q.max]
abbrev TPart : TypeId := 69
abbrev TQos : TypeId := 72
theorem Box.eight {w : World} {b : Nat} {T : TypeId} {c0 c1 c2 c3 c4 c5 c6 c7 : Value} (h : Box w b T [c0, c1, c2, c3, c4, c5, c6, c7]) : (w.cell? ⟨b, 0, none⟩ = some c0 ∧ w.frozen? ⟨b, 0, none⟩ = false) ∧ (w.cell? ⟨b, 1, none⟩ = some c1 ∧ w.frozen? ⟨b, 1, none⟩ = false) ∧ (w.cell? ⟨b, 2, none⟩ = some c2 ∧ w.frozen? ⟨b, 2, none⟩ = false) ∧
    (w.cell? ⟨b, 3, none⟩ = some c3 ∧ w.frozen? ⟨b, 3, none⟩ = false) ∧ (w.cell? ⟨b, 4, none⟩ = some c4 ∧ w.frozen? ⟨b, 4, none⟩ = false) ∧ (w.cell? ⟨b, 5, none⟩ = some c5 ∧ w.frozen? ⟨b, 5, none⟩ = false) ∧ (w.cell? ⟨b, 6, none⟩ = some c6 ∧ w.frozen? ⟨b, 6, none⟩ = false) ∧ (w.cell? ⟨b, 7, none⟩ = some c7 ∧ w.frozen? ⟨b, 7, none⟩ = false) ∧ b < w.heap.size :=
  ⟨⟨Box.cell h 0, Box.free h 0⟩, ⟨Box.cell h 1, Box.free h 1⟩, ⟨Box.cell h 2, Box.free h 2⟩, ⟨Box.cell h 3, Box.free h 3⟩, ⟨Box.cell h 4, Box.free h 4⟩, ⟨Box.cell h 5, Box.free h 5⟩, ⟨Box.cell h 6, Box.free h 6⟩, ⟨Box.cell h 7, Box.free h 7⟩, Box.lt h⟩
theorem below8 {B b : Nat} {w w' : World} {v0 v1 v2 v3 v4 v5 v6 v7 : Value} (h : Below B w w') (hb : B ≤ b) :
    Below B w ((((((((w'.setCell ⟨b, 0, none⟩ v0).setCell ⟨b, 1, none⟩ v1).setCell ⟨b, 2, none⟩ v2).setCell ⟨b, 3, none⟩ v3).setCell ⟨b, 4, none⟩ v4).setCell ⟨b, 5, none⟩ v5).setCell ⟨b, 6, none⟩ v6).setCell ⟨b, 7, none⟩ v7) :=
  (((((((h.setCell (p := ⟨b, 0, none⟩) hb v0).setCell (p := ⟨b, 1, none⟩) hb v1).setCell (p := ⟨b, 2, none⟩) hb v2).setCell (p := ⟨b, 3, none⟩) hb v3).setCell (p := ⟨b, 4, none⟩) hb v4).setCell (p := ⟨b, 5, none⟩) hb v5).setCell (p := ⟨b, 6, none⟩) hb v6).setCell (p := ⟨b, 7, none⟩) hb v7
end Go.Proofs.YtmnmcikbbfcjcaaGreatDoor
/-
  Where the library's variables lie; worlds of which one block alone has turned.
-/
namespace Go.Proofs.YtmnmcikbbfcjcaaGreatDoor
open Go.RowKit Go.Shelf Vs

/-- The library's variables lie in blocks below B. -/
def EnvAt (B : Nat) (w : World) : Prop := ∃ w0, Env w0 ∧ w0.heap.size ≤ B ∧ Below w0.heap.size w0 w
theorem EnvAt.env {B : Nat} {w : World} (h : EnvAt B w) : Env w := by
  obtain ⟨w0, a, _, c⟩ := h
  exact a.below c
theorem EnvAt.below {B : Nat} {w w' : World} (h : EnvAt B w) (hb : Below B w w') : EnvAt B w' := by
  obtain ⟨w0, a, b, c⟩ := h
  exact ⟨w0, a, b, c.trans (hb.mono b)⟩
theorem EnvAt.mono {B B' : Nat} {w : World} (h : EnvAt B w) (hB : B ≤ B') : EnvAt B' w := by
  obtain ⟨w0, a, b, c⟩ := h
  exact ⟨w0, a, Nat.le_trans b hB, c⟩
theorem EnvAt.of {w : World} (h : Env w) : EnvAt w.heap.size w := ⟨w, h, Nat.le_refl _, Below.refl _ _⟩
theorem Aft.cell {b : Nat} {w w' : World} (h : Aft b w w') {p : Addr} (hp : p.block < w.heap.size) (hb : p.block ≠ b) : w'.cell? p = w.cell? p := by
  exact World.cell?_of_block (h.block p.block hp (fun e => hb (Option.some.inj e)))
theorem Aft.on {b : Nat} {w w1 w2 : World} (h : Aft b w w1) (hx : Below w.heap.size w1 w2) : Aft b w w2 :=
  ⟨hx.os.trans h.os, hx.tape.trans h.tape, hx.output.trans h.output, Nat.le_trans h.size hx.size, fun i hi hb => (hx.block i hi).trans (h.block i hi hb)⟩
theorem Aft.then {b : Nat} {w w1 w2 : World} (h : Aft b w w1) (k : Aft b w1 w2) : Aft b w w2 := h.trans k
end Go.Proofs.YtmnmcikbbfcjcaaGreatDoor
/-
  Options read into the numbers that they tell.
-/
namespace Go.Proofs.YtmnmcikbbfcjcaaGreatDoor
open Go.RowKit Go.Shelf Vs

theorem putP_len {ss : List Spec} {vs r : List Int} {k v : Str} (h : putP ss vs k v = some r) : r.length = vs.length := by
  unfold putP at h
  split at h
  · injection h with h; rw [← h]; simp
  · cases h
theorem opts_nil (ss : List Spec) (came : List Str) (vs : List Int) : optsP ss [] came vs = some vs := by unfold optsP; rfl
theorem opts_there {ss : List Spec} {x : Str} {ws came : List Str} {vs : List Int} (h : Vs.upTo 61 x ∈ came) : optsP ss (x :: ws) came vs = none := by unfold optsP; rw [if_pos h]
theorem opts_none {ss : List Spec} {x : Str} {ws came : List Str} {vs : List Int} (h : Vs.upTo 61 x ∉ came) (hp : putP ss vs (Vs.upTo 61 x) (Vs.behind 61 x) = none) : optsP ss (x :: ws) came vs = none := by unfold optsP; rw [if_neg h, hp]
theorem opts_some {ss : List Spec} {x : Str} {ws came : List Str} {vs r : List Int} (h : Vs.upTo 61 x ∉ came) (hp : putP ss vs (Vs.upTo 61 x) (Vs.behind 61 x) = some r) : optsP ss (x :: ws) came vs = optsP ss ws (came ++ [Vs.upTo 61 x]) r := by rw [optsP, if_neg h, hp]
end Go.Proofs.YtmnmcikbbfcjcaaGreatDoor
/-
  Whether a partition, or a quality, may not be.
-/
namespace Go.Proofs.YtmnmcikbbfcjcaaGreatDoor
open Go.RowKit Go.Shelf Vs

theorem cnt_none (p : Nat → Bool) : ∀ n, Bs.cnt p n = 0 ↔ ∀ j, j < n → p j = false
  | 0 => by simp [Bs.cnt]
  | n + 1 => by
    have ih := cnt_none p n
    unfold Bs.cnt
    constructor
    · intro h j hj
      cases hp : p n with
      | true => rw [hp] at h; simp at h
      | false =>
        rw [hp] at h
        by_cases e : j = n
        · rw [e]; exact hp
        · exact ih.1 (by simpa using h) j (by omega)
    · intro h
      rw [h n (by omega), ih.2 (fun j hj => h j (by omega))]
      rfl
theorem hasOne_cnt (p : Nat → Bool) : (((Bs.cnt p 256 : Nat) : Int) == 0) = !hasOne p := by
  have h := cnt_none p 256
  rw [Bool.eq_iff_iff]
  simp only [beq_iff_eq, Bool.not_eq_true', hasOne, List.any_eq_false, List.mem_range]
  constructor
  · intro e j hj
    rw [h.1 (by omega) j hj]; simp
  · intro e
    have := h.2 (fun j hj => by have := e j hj; simpa using this)
    omega
theorem wsz (n : Str) (h : n.length ≤ 65536) : (str n).size ≤ 140737488355328 := by rw [str_size]; omega
set_option maxRecDepth 100000 in
set_option maxHeartbeats 4000000 in
theorem qosWrong0 (q : QosC) (w : World) : Calls Tryz.prog 71 #[.agg (qosV q).toArray] w (BoolP w (qosWrong q)) := by
  obtain ⟨n, x, y⟩ := q
  have hna := fun W => isName0 (str n) W
  simp only [bl_str] at hna
  have hop := fun b W => qosOptions_any b W
  have hrn := fun g b W hN (hV : VBox W b TQos [.string (str n)] [x, y] []) => rightNumbers_any g b qosS 1 TQos [.string (str n)] [x, y] [] W hN hV rfl rfl (by decide)
  unfold MadeN at hop
  show Calls Tryz.prog 71 #[.agg #[.string (str n), .int .i64 x, .int .i64 y]] w (BoolP w (!isNameP n || !rightV qosS [x, y]))
  have hV := fhid (show VBox (w.alloc (.cells #[.string (str n), .int .i64 x, .int .i64 y] TQos)) w.heap.size TQos [.string (str n)] [x, y] [] from Box.new w TQos [.string (str n), .int .i64 x, .int .i64 y])
  have hB := fhid ((Below.refl w.heap.size w).alloc (Nat.le_refl _) (.cells #[.string (str n), .int .i64 x, .int .i64 y] TQos))
  have hz := fhid (show w.heap.size < (w.alloc (.cells #[.string (str n), .int .i64 x, .int .i64 y] TQos)).heap.size from by simp)
  have hc0 : (w.alloc (.cells #[.string (str n), .int .i64 x, .int .i64 y] TQos)).cell? ⟨w.heap.size, 0, none⟩ = some (.string (str n)) := Box.cell (Box.new w TQos [.string (str n), .int .i64 x, .int .i64 y]) 0
  unfold BoolP at hna hrn ⊢
  generalize isNameP n = N1 at *
  generalize rightV qosS [x, y] = N2 at *
  generalize str n = S at *
  rw [show qosS.length = 2 from rfl] at hop hrn
  cases N1 with
  | false =>
    rw [Bool.not_false, Bool.true_or]
    go_enter Tryz.func71, Tryz.ntmps71
    go_wp2_with (go_at_call 109; (with_reducible refine (hna _).mono ?_); rintro e w1 ⟨rfl, b1⟩)
    go_ret
    exact ⟨rfl, hB.out.trans (b1.mono hB.out.size)⟩
  | true =>
    rw [Bool.not_true, Bool.false_or]
    go_enter Tryz.func71, Tryz.ntmps71
    go_wp2_with (first
      | (go_at_call 109; (with_reducible refine (hna _).mono ?_); rintro e w1 ⟨rfl, b1⟩; have B1 := hB.out.trans (b1.mono hB.out.size))
      | (go_at_call 112; (with_reducible refine (hop _ _).mono ?_); rintro e w2 ⟨g, rfl, hg, hN, b2⟩; have B2 := B1.trans (b2.mono B1.size))
      | (go_at_call 40; (with_reducible refine (hrn _ _ _ hN (VBox.below hV.out (b1.trans (b2.mono b1.size)) hz.out)).mono ?_); rintro e w3 ⟨rfl, b3⟩; have B3 := B2.trans (b3.mono B2.size)))
    go_ret
    exact ⟨fretb (by simp), B3⟩
set_option maxRecDepth 100000 in
set_option maxHeartbeats 8000000 in
theorem partWrong0 (p : PartC) (w : World) : Calls Tryz.prog 67 #[.agg (partV p).toArray] w (BoolP w (partWrong p)) := by
  obtain ⟨n, s, x, y, z⟩ := p
  have hna := fun W => isName0 (str n) W
  simp only [bl_str] at hna
  have hop := fun b W => partOptions_any b W
  have hct := fun W => Bs.count_any s W
  have hh := hasOne_cnt s
  have hrn := fun g b W hN (hV : VBox W b TPart [.string (str n), .int .u64 (Bs.word s 0), .int .u64 (Bs.word s 1), .int .u64 (Bs.word s 2), .int .u64 (Bs.word s 3)] [x, y, z] []) => rightNumbers_any g b partS 5 TPart _ [x, y, z] [] W hN hV rfl rfl (by decide)
  unfold MadeN at hop
  show Calls Tryz.prog 67 #[.agg #[.string (str n), .int .u64 (Bs.word s 0), .int .u64 (Bs.word s 1), .int .u64 (Bs.word s 2), .int .u64 (Bs.word s 3), .int .i64 x, .int .i64 y, .int .i64 z]] w (BoolP w (!isNameP n || !hasOne s || !rightV partS [x, y, z]))
  simp only [Bs.nodes] at hct
  generalize ((Bs.cnt s 256 : Nat) : Int) = C at *
  generalize (Bs.word s 0 : Int) = x0 at *
  generalize (Bs.word s 1 : Int) = x1 at *
  generalize (Bs.word s 2 : Int) = x2 at *
  generalize (Bs.word s 3 : Int) = x3 at *
  have hbx := Box.new w TPart [.string (str n), .int .u64 x0, .int .u64 x1, .int .u64 x2, .int .u64 x3, .int .i64 x, .int .i64 y, .int .i64 z]
  have hV := fhid (show VBox (w.alloc (.cells #[.string (str n), .int .u64 x0, .int .u64 x1, .int .u64 x2, .int .u64 x3, .int .i64 x, .int .i64 y, .int .i64 z] TPart)) w.heap.size TPart [.string (str n), .int .u64 x0, .int .u64 x1, .int .u64 x2, .int .u64 x3] [x, y, z] [] from hbx)
  have hB := fhid ((Below.refl w.heap.size w).alloc (Nat.le_refl _) (.cells #[.string (str n), .int .u64 x0, .int .u64 x1, .int .u64 x2, .int .u64 x3, .int .i64 x, .int .i64 y, .int .i64 z] TPart))
  have hz := fhid (show w.heap.size < (w.alloc (.cells #[.string (str n), .int .u64 x0, .int .u64 x1, .int .u64 x2, .int .u64 x3, .int .i64 x, .int .i64 y, .int .i64 z] TPart)).heap.size from by simp)
  have hc0 : (w.alloc (.cells #[.string (str n), .int .u64 x0, .int .u64 x1, .int .u64 x2, .int .u64 x3, .int .i64 x, .int .i64 y, .int .i64 z] TPart)).cell? ⟨w.heap.size, 0, none⟩ = some (.string (str n)) := Box.cell hbx 0
  clear hbx
  unfold BoolP at hna hrn ⊢
  generalize isNameP n = N1 at *
  generalize rightV partS [x, y, z] = N2 at *
  generalize hasOne s = N3 at *
  generalize str n = S at *
  rw [show partS.length = 3 from rfl] at hop hrn
  cases N1 with
  | false =>
    rw [Bool.not_false, Bool.true_or, Bool.true_or]
    go_enter Tryz.func67, Tryz.ntmps67
    go_wp2_with (go_at_call 109; (with_reducible refine (hna _).mono ?_); rintro e w1 ⟨rfl, b1⟩)
    go_ret
    exact ⟨rfl, hB.out.trans (b1.mono hB.out.size)⟩
  | true =>
    rw [Bool.not_true, Bool.false_or]
    cases N3 with
    | false =>
      rw [Bool.not_false, Bool.true_or]
      go_enter Tryz.func67, Tryz.ntmps67
      go_wp2_with (first
        | (go_at_call 109; (with_reducible refine (hna _).mono ?_); rintro e w1 ⟨rfl, b1⟩; have B1 := hB.out.trans (b1.mono hB.out.size)
           have k := fun i => (Box.cell (VBox.below hV.out b1 hz.out) i)
           have k1 := k 1
           have k2 := k 2
           have k3 := k 3
           have k4 := k 4
           simp [iv] at k1 k2 k3 k4
           have k5 := Nat.lt_of_lt_of_le hz.out b1.size
           clear k)
        | (go_at_call 29; (with_reducible refine (hct _).mono ?_); rintro e w2 ⟨rfl, b2⟩; have B2 := B1.trans (b2.mono B1.size)))
      go_ret
      exact ⟨rfl, B2⟩
    | true =>
      rw [Bool.not_true, Bool.false_or]
      go_enter Tryz.func67, Tryz.ntmps67
      go_wp2_with (first
        | (go_at_call 109; (with_reducible refine (hna _).mono ?_); rintro e w1 ⟨rfl, b1⟩; have B1 := hB.out.trans (b1.mono hB.out.size)
           have k := fun i => (Box.cell (VBox.below hV.out b1 hz.out) i)
           have k1 := k 1
           have k2 := k 2
           have k3 := k 3
           have k4 := k 4
           simp [iv] at k1 k2 k3 k4
           have k5 := Nat.lt_of_lt_of_le hz.out b1.size
           clear k)
        | (go_at_call 29; (with_reducible refine (hct _).mono ?_); rintro e w2 ⟨rfl, b2⟩; have B2 := B1.trans (b2.mono B1.size))
        | (go_at_call 110; (with_reducible refine (hop _ _).mono ?_); rintro e w3 ⟨g, rfl, hg, hN, b3⟩; have B3 := B2.trans (b3.mono B2.size))
        | (go_at_call 40; (with_reducible refine (hrn _ _ _ hN (VBox.below hV.out ((b1.trans (b2.mono b1.size)).trans (b3.mono (Nat.le_trans b1.size b2.size))) hz.out)).mono ?_); rintro e w4 ⟨rfl, b4⟩; have B4 := B3.trans (b4.mono B3.size)))
      go_ret
      exact ⟨fretb (by simp), B4⟩
end Go.Proofs.YtmnmcikbbfcjcaaGreatDoor
/-
  A config that is read: a node's number.
-/
namespace Go.Proofs.YtmnmcikbbfcjcaaGreatDoor
open Go.RowKit Go.Shelf Vs

/-- Vectors, partitions, qualities, as cells. -/
def VVs (l : List V3) : List Value := l.flatMap fun v => [.int .i64 v.1, .int .i64 v.2.1, .int .i64 v.2.2]
def PVs (l : List PartC) : List Value := l.flatMap partV
def QVs (l : List QosC) : List Value := l.flatMap qosV
theorem flat_len {α : Type} (f : α → List Value) (k : Nat) (hf : ∀ x, (f x).length = k) : ∀ l : List α, (l.flatMap f).length = l.length * k
  | [] => by simp
  | x :: l => by rw [List.flatMap_cons, List.length_append, hf, flat_len f k hf l, List.length_cons, Nat.succ_mul, Nat.add_comm]
theorem flat_get {α : Type} (f : α → List Value) (k : Nat) (hf : ∀ x, (f x).length = k) : ∀ (l : List α) (i j : Nat) (h : i < l.length), j < k → (l.flatMap f)[i * k + j]? = (f l[i])[j]?
  | [], _, _, h, _ => absurd h (Nat.not_lt_zero _)
  | x :: l, 0, j, _, hj => by
    rw [List.flatMap_cons, Nat.zero_mul, Nat.zero_add, List.getElem?_append_left (by rw [hf]; exact hj)]
    rfl
  | x :: l, i + 1, j, h, hj => by
    rw [List.flatMap_cons, List.getElem?_append_right (by rw [hf, Nat.succ_mul]; omega), hf, show (i + 1) * k + j - k = i * k + j by rw [Nat.succ_mul]; omega, flat_get f k hf l i j (by simpa using h) hj]
    rfl
theorem VVs_len (l : List V3) : (VVs l).length = l.length * 3 := flat_len _ 3 (fun _ => rfl) l
theorem PVs_len (l : List PartC) : (PVs l).length = l.length * 8 := flat_len _ 8 (fun _ => rfl) l
theorem QVs_len (l : List QosC) : (QVs l).length = l.length * 3 := flat_len _ 3 (fun _ => rfl) l
/-- A slice that reads as these cells. -/
def RdS (w : World) (A : Option Addr) (n cap : Nat) (xs : List Value) : Prop := n ≤ cap ∧ cap ≤ maxLen ∧ SegC w w.heap.size A xs
theorem RdS.below {w w' : World} {A : Option Addr} {n cap : Nat} {xs : List Value} (h : RdS w A n cap xs) (hb : Below w.heap.size w w') : RdS w' A n cap xs := ⟨h.1, h.2.1, (h.2.2.below hb).more hb.size⟩
/-- The value is a config that reads so. -/
def CR (w : World) (v : Value) (c : Cfg) : Prop := ∃ AN cN AV cV AP cP AQ cQ a0 a1 a2 a3 a4 a5 a6 a7,
  v = .agg #[.slice AN c.names.length cN, .slice AV c.vecs.length cV, .slice AP c.parts.length cP, .slice AQ c.qos.length cQ, .int .i64 a0, .int .i64 a1, .int .i64 a2, .int .i64 a3, .int .i64 a4, .int .i64 a5, .int .i64 a6, .int .i64 a7] ∧
  c.vals = [a0, a1, a2, a3, a4, a5, a6, a7] ∧ RdS w AN c.names.length cN (SV c.names) ∧ RdS w AV c.vecs.length cV (VVs c.vecs) ∧ RdS w AP c.parts.length cP (PVs c.parts) ∧ RdS w AQ c.qos.length cQ (QVs c.qos)
theorem CR.below {w w' : World} {v : Value} {c : Cfg} (h : CR w v c) (hb : Below w.heap.size w w') : CR w' v c := by
  obtain ⟨AN, cN, AV, cV, AP, cP, AQ, cQ, a0, a1, a2, a3, a4, a5, a6, a7, e, ev, r1, r2, r3, r4⟩ := h
  exact ⟨AN, cN, AV, cV, AP, cP, AQ, cQ, a0, a1, a2, a3, a4, a5, a6, a7, e, ev, r1.below hb, r2.below hb, r3.below hb, r4.below hb⟩
def placeI : Option Nat → Int
  | some i => i
  | none => -1
def nodeV : Option Nat → Value
  | some i => .tuple #[.int .i64 (i : Int), .bool true]
  | none => .tuple #[.int .i64 0, .bool false]
end Go.Proofs.YtmnmcikbbfcjcaaGreatDoor
