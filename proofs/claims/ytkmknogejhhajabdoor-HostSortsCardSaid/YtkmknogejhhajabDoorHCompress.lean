/-
  Compress, walked.
-/
import Derived.Test.YtkmknogejhhajabDoorHJoin
namespace Go.Proofs.YtkmknogejhhajabDoor
open Go.RowKit

def lenOf : Value → Nat | .slice _ n _ => n | _ => 0
theorem join_len (B : Nat) (l : List (List UInt8)) (h : ∀ d ∈ l, d.length ≤ B) : (Go.Lib.join l [44]).length ≤ l.length * (B + 1) := by
  have ht : ∀ (r : List (List UInt8)), (∀ d ∈ r, d.length ≤ B) → (Go.Lib.joinTail [44] r).length ≤ r.length * (B + 1) := by
    intro r
    induction r with
    | nil => intro _; simp [Go.Lib.joinTail]
    | cons x r ih =>
      intro h
      have h1 := h x (by simp)
      have h2 := ih (fun d hd => h d (by simp [hd]))
      have e : Go.Lib.joinTail [44] (x :: r) = 44 :: x ++ Go.Lib.joinTail [44] r := by simp [Go.Lib.joinTail]
      rw [e, List.length_append, List.length_cons, List.length_cons, Nat.add_mul, Nat.one_mul]
      omega
  cases l with
  | nil => simp [Go.Lib.join_nil]
  | cons x r =>
    rw [Go.Lib.join_cons, List.length_append, List.length_cons, Nat.add_mul, Nat.one_mul]
    have h1 := h x (by simp)
    have h2 := ht r (fun d hd => h d (by simp [hd]))
    omega
theorem Join_any (A : Option Addr) (cap : Nat) (l : List (List UInt8)) (w : World) (hs : Strs w w.heap.size A l) (hc : l.length ≤ cap) (hl : l.length ≤ 1000) (hb : ∀ d ∈ l, d.length ≤ 4294967296) :
    Calls Tryd.prog 31 #[.slice A l.length cap, .string ⟨#[44]⟩] w (StrPost w (Go.Lib.join l [44])) := by
  by_cases h0 : l = []
  · subst h0
    refine (Tryd.strings_Join_none A cap ⟨#[44]⟩ w).mono ?_
    rintro e w' ⟨rfl, rfl⟩
    exact ⟨rfl, Below.refl _ _⟩
  · have hpos : 0 < l.length := List.length_pos_iff.2 h0
    obtain ⟨b, o, rfl, hbb, hcell⟩ := hs (by rw [SV_len]; exact hpos)
    have hmap : (l.map str).map (·.data.toList) = l := by
      rw [List.map_map]
      conv => rhs; rw [← List.map_id l]
      exact List.map_congr_left fun x _ => bl_str x
    have hj := Tryd.strings_Join b o cap (l.map str) ⟨#[44]⟩ w (fun j x hx => by
      rw [List.getElem?_map] at hx
      cases hg : l[j]? with
      | none => rw [hg] at hx; simp at hx
      | some y =>
        rw [hg] at hx
        have hx : str y = x := by simpa using hx
        obtain ⟨hjl, hy⟩ := List.getElem?_eq_some_iff.1 hg
        have := hcell j (by rw [SV_len]; exact hjl)
        rw [this, SV_get l j hjl, hy, hx]) hbb (by rw [List.length_map]; omega) (by rw [List.length_map]; exact hc) (by
        rw [hmap]
        have h1 := join_len 4294967296 l hb
        have h2 : l.length * (4294967296 + 1) ≤ 1000 * (4294967296 + 1) := Nat.mul_le_mul_right _ hl
        have e : (⟨#[44]⟩ : ByteArray).data.toList = [44] := rfl
        rw [e]
        omega)
    rw [hmap, List.length_map] at hj
    exact hj
/-- What the loop knows at its head. -/
def CInv (w : World) (L : List (List UInt8)) (s0 s3 : Value) (wr : World) : Prop := ∃ (M done : List (List UInt8)) (A' : Option Addr) (cap' f : Nat), s0 = .slice A' M.length cap' ∧ M.length ≤ cap' ∧ Strs wr w.heap.size A' M ∧ (∀ y ∈ M, y.length ≤ 1073741824) ∧ OwnS wr w.heap.size s3 done ∧ pieces L.length L = done ++ pieces f M ∧ M.length ≤ f ∧
  done.length + M.length ≤ L.length ∧ (∀ d ∈ done, d.length ≤ 4294967296) ∧ Below w.heap.size w wr
set_option maxRecDepth 100000 in
set_option maxHeartbeats 4000000 in
theorem Compress_any (A : Option Addr) (cap : Nat) (L : List (List UInt8)) (w : World) (hT : Tab w) (hs : Strs w w.heap.size A L) (hc : L.length ≤ cap) (hb : ∀ y ∈ L, y.length ≤ 1073741824) (hl : L.length ≤ 1000) :
    Calls Tryd.prog 21 #[.slice A L.length cap] w (StrPost w (compress L)) := by
  replace hT := fhid hT
  replace hs := fhid hs
  replace hb := fhid hb
  replace hl := fhid hl
  replace hc := fhid hc
  go_enter Tryd.func21, Tryd.ntmps21
  go_wp2
  go_loopw [0, 3] (fun s0 s3 wr => CInv w L s0 s3 wr) (fun s0 _ _ => lenOf s0)
  case atStart => exact ⟨L, [], A, cap, L.length, rfl, hc.out, hs.out, hb.out, OwnS.nil _ _, rfl, Nat.le_refl _, by simp, fun d hd => by simp at hd, Below.refl _ _⟩
  case round =>
    obtain ⟨M, done, A', cap', f, rfl, hMc, hM, hMb, hown, hpc, hMf, hdl, hdb, hB⟩ := hrel
    have hsz := hB.size
    replace hM := fhid hM
    replace hMb := fhid hMb
    replace hpc := fhid hpc
    replace hdb := fhid hdb
    have hlo := hl.out
    cases M with
    | nil =>
      obtain ⟨A3, c3, rfl, h3, _, s3⟩ := hown.shape
      have hj := Join_any A3 c3 done wr s3 h3 (by simp at hdl; omega) hdb.out
      have E := fhid (show Go.Lib.join done [44] = compress L by
        have h : pieces f [] = [] := by cases f <;> rfl
        have := hpc.out
        rw [h, List.append_nil] at this
        unfold compress
        rw [this])
      clear hown s3 hlo
      simp only [List.length_nil]
      go_wp2_with (go_at_call 31; (with_reducible refine hj.mono ?_); rintro e w2 ⟨rfl, b2⟩)
      go_ret
      exact ⟨by rw [← E.out]; rfl, hB.trans (b2.mono hsz)⟩
    | cons x xs =>
      cases f with
      | zero => simp at hMf
      | succ f =>
      obtain ⟨r1, r2⟩ := runLen_le x xs
      have hMc1 : xs.length + 1 ≤ cap' := by simpa using hMc
      have hMf1 : xs.length ≤ f := by simpa using hMf
      have hdl1 : done.length + (xs.length + 1) ≤ L.length := by simpa using hdl
      have hrun := run_any A' cap' (x :: xs) (by simp) wr (tab_below hT.out hB) (hM.out.more hsz) (fun y hy => by have := hMb.out y hy; omega) (by omega)
      rw [List.getElem_cons_zero, List.drop_succ_cons, List.drop_zero] at hrun
      have hjn := fun W (b : Below wr.heap.size wr W) => join_run A' cap' x xs W (((hM.out.below (b.mono hsz)).more (Nat.le_trans hsz b.size))) hMb.out (by omega)
      have hjl := (hjn wr (Below.refl _ _)).2
      replace hjn := fun W (b : Below wr.heap.size wr W) => (hjn W b).1
      have hpc2 := fhid (show pieces L.length L = (done ++ [joinRun ((x :: xs).take (runLen x xs))]) ++ pieces f ((x :: xs).drop (runLen x xs)) by rw [hpc.out, pieces_some, List.append_assoc]; rfl)
      have hMd := fun (W : World) (b : Below w.heap.size wr W) => (hM.out.below b).drop (k := runLen x xs) (cap := cap') (by rw [List.length_cons]; omega) hMc
      have hMdb : ∀ y ∈ (x :: xs).drop (runLen x xs), y.length ≤ 1073741824 := fun y hy => hMb.out y (List.mem_of_mem_drop hy)
      have hdlen : ((x :: xs).drop (runLen x xs)).length = xs.length + 1 - runLen x xs := by rw [List.length_drop, List.length_cons]
      generalize hjr : joinRun ((x :: xs).take (runLen x xs)) = J at *
      generalize hMM : (x :: xs).drop (runLen x xs) = M2 at *
      rw [List.length_cons] at hrun
      generalize runLen x xs = r at *
      obtain ⟨SJ, hSJ⟩ : ∃ S, str J = S := ⟨_, rfl⟩
      unfold StrPost at hjn
      rw [hSJ] at hjn
      have i0 : (0 : Int) < ((xs.length : Int) + 1) := by omega
      have i1 : (0 : Int) ≤ r := by omega
      have i2 : (r : Int) ≤ cap' := by omega
      have i3 : (r : Int) ≤ ((xs.length : Int) + 1) := by omega
      have i4 : ((xs.length : Int) + 1) ≤ cap' := by omega
      replace hSJ := fhid hSJ
      replace hjr := fhid hjr
      replace hMM := fhid hMM
      replace hMd := fhid hMd
      replace hMdb := fhid hMdb
      replace hdlen := fhid hdlen
      replace hown := fhid hown
      replace hjl := fhid hjl
      replace hjn := fhid hjn
      have hdll := fhid (show done.length ≤ 1048576 by omega)
      clear hlo
      go_wp2_with (first
        | (go_at_call 29
           (with_reducible refine hrun.mono ?_)
           rintro e w2 ⟨rfl, b2⟩)
        | (go_at_call 30
           (with_reducible refine (hjn.out _ b2).mono ?_)
           rintro e w3 ⟨rfl, b3⟩
           have b4 := b2.trans (b3.mono b2.size))
        | (at_builtin
           refine app_name rfl _ _ rfl w.heap.size _ done J _ hSJ.out.symm _ rfl (hown.out.below b4) rfl _ (by first | rfl | simp) rfl hdll.out (Nat.le_trans hsz b4.size) ?_
           intro v5 w5 o5 g5 b5))
      all_goals
        have hdn : ∀ d ∈ done ++ [J], d.length ≤ 4294967296 := fun d hd => by
          rcases List.mem_append.1 hd with h | h
          · exact hdb.out d h
          · rw [List.mem_singleton] at h; subst h; exact hjl.out
        have b6 : Below w.heap.size wr w5 := (b4.mono hsz).trans b5
        have hMl := hdlen.out
        go_roundw
        case rel => exact ⟨M2, done ++ [J], _, _, f, by rw [hMl], by rw [hMl]; omega, hMd.out w5 b6, hMdb.out, o5, hpc2.out, by rw [hMl]; omega, by rw [hMl, List.length_append, List.length_singleton]; omega, hdn, hB.trans b6⟩
        case measure => show xs.length + 1 - r < xs.length + 1; omega
end Go.Proofs.YtkmknogejhhajabDoor
