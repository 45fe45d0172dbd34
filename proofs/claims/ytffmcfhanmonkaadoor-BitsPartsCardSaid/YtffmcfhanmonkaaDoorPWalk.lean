/-
  BitsParts, walked.
-/
import Derived.Test.YtffmcfhanmonkaaDoorPReg
import Derived.Test.YtffmcfhanmonkaaDoorAlive
import Derived.BigRegion
import Derived.Deep.DeepCutAuto
namespace Go.Proofs.YtffmcfhanmonkaaDoor
open Go.RowKit

set_option maxRecDepth 100000 in
set_option maxHeartbeats 4000000 in
theorem parts_walk' (p q s t u : Nat → Bool) (cs ct cp cq cu : Int) (w : World) (hT : Tab w) (hs : nodes (fun j => p j && q j) = nodes s) (ht : nodes (fun j => p j && !q j) = nodes t)
    (ho : nodes (fun j => s j || t j) = nodes p) (ha : nodes (fun j => s j && t j) = .agg #[.int .u64 0, .int .u64 0, .int .u64 0, .int .u64 0]) (hu : nodes (fun j => p j || q j) = nodes u)
    (ns : ∀ w, Calls Tryd.prog 27 #[nodes s] w fun e w' => e = .returned (.int .i64 cs) ∧ Below w.heap.size w w')
    (nt : ∀ w, Calls Tryd.prog 27 #[nodes t] w fun e w' => e = .returned (.int .i64 ct) ∧ Below w.heap.size w w')
    (np : ∀ w, Calls Tryd.prog 27 #[nodes p] w fun e w' => e = .returned (.int .i64 cp) ∧ Below w.heap.size w w')
    (nq : ∀ w, Calls Tryd.prog 27 #[nodes q] w fun e w' => e = .returned (.int .i64 cq) ∧ Below w.heap.size w w')
    (nu : ∀ w, Calls Tryd.prog 27 #[nodes u] w fun e w' => e = .returned (.int .i64 cu) ∧ Below w.heap.size w w')
    (s1 : IntKind.i64.wrap (cs + ct) = cp) (s2 : IntKind.i64.wrap (cu + cs) = IntKind.i64.wrap (cp + cq)) :
    Calls Tryd.prog 8 #[nodes p, nodes q] w fun e w' => e = .returned (.bool true) ∧ Below w.heap.size w w' := by
  have hT1 := hid hT
  have ho1 := hid ho
  have ha1 := hid ha
  have hu1 := hid hu
  have hs1 := hid hs
  have ht1 := hid ht
  have ns1 := hid ns
  have nt1 := hid nt
  have np1 := hid np
  have nq1 := hid nq
  have nu1 := hid nu
  clear hT ho ha hu hs ht ns nt np nq nu
  have d1 := (Blk.new w p).old (objOf q)
  have d2 := Blk.new (w.alloc (objOf p)) q
  rw [World.size_alloc] at d2
  have hB : Below w.heap.size w ((w.alloc (objOf p)).alloc (objOf q)) := (((Below.refl _ _).alloc (Nat.le_refl _) _).alloc (by simp) _)
  have zz : Held w [(w.heap.size, p), (w.heap.size + 1, q)] ((w.alloc (objOf p)).alloc (objOf q)) := Held.cons d1 (Held.one d2 hB)
  have heq := eq_same
  clear d1 d2 hB
  go_enter Tryd.func8, Tryd.ntmps8
  go_upto_region 1 with fail
  generalize (w.alloc (objOf p)).alloc (objOf q) = w0 at *
  refine parts_region p q s t w w0 _ hs1.out ht1.out zz (fun b c y7 y8 y9 y10 y11 y12 w1 z => ?_)
  clear zz
  replace z := z.drew
  go_wp2_with fail
  go_region_held3 (fun w' => w'.cell? ⟨b, 0, none⟩ = some (.int .u64 (word s 0)) ∧ w'.cell? ⟨b, 1, none⟩ = some (.int .u64 (word s 1)) ∧ w'.cell? ⟨b, 2, none⟩ = some (.int .u64 (word s 2)) ∧ w'.cell? ⟨b, 3, none⟩ = some (.int .u64 (word s 3)) ∧ w'.cell? ⟨c, 0, none⟩ = some (.int .u64 (word t 0)) ∧ w'.cell? ⟨c, 1, none⟩ = some (.int .u64 (word t 1)) ∧ w'.cell? ⟨c, 2, none⟩ = some (.int .u64 (word t 2)) ∧ w'.cell? ⟨c, 3, none⟩ = some (.int .u64 (word t 3)) ∧ w'.cell? ⟨w.heap.size, 0, none⟩ = some (.int .u64 (word p 0)) ∧ w'.cell? ⟨w.heap.size, 1, none⟩ = some (.int .u64 (word p 1)) ∧ w'.cell? ⟨w.heap.size, 2, none⟩ = some (.int .u64 (word p 2)) ∧ w'.cell? ⟨w.heap.size, 3, none⟩ = some (.int .u64 (word p 3)) ∧ w'.cell? ⟨w.heap.size + 1, 0, none⟩ = some (.int .u64 (word q 0)) ∧ w'.cell? ⟨w.heap.size + 1, 1, none⟩ = some (.int .u64 (word q 1)) ∧ w'.cell? ⟨w.heap.size + 1, 2, none⟩ = some (.int .u64 (word q 2)) ∧ w'.cell? ⟨w.heap.size + 1, 3, none⟩ = some (.int .u64 (word q 3))) (first | (with_reducible exact held4 z) | fail)
    (first
      | (go_at_call 19; (with_reducible refine (op_or s t _).mono ?_); rintro e w' ⟨rfl, hx⟩; rw [ho1.out]; have z := Held.on z hx)
      | (go_at_call 17; (with_reducible refine (op_and s t _).mono ?_); rintro e w' ⟨rfl, hx⟩; rw [ha1.out]; have z := Held.on z hx)
      | (go_at_call 19; (with_reducible refine (op_or p q _).mono ?_); rintro e w' ⟨rfl, hx⟩; rw [hu1.out]; have z := Held.on z hx)
      | (go_at_call 27; (with_reducible refine (ns1.out _).mono ?_); rintro e w' ⟨rfl, hx⟩; have z := Held.on z hx) | (go_at_call 27; (with_reducible refine (nt1.out _).mono ?_); rintro e w' ⟨rfl, hx⟩; have z := Held.on z hx) | (go_at_call 27; (with_reducible refine (np1.out _).mono ?_); rintro e w' ⟨rfl, hx⟩; have z := Held.on z hx) | (go_at_call 27; (with_reducible refine (nq1.out _).mono ?_); rintro e w' ⟨rfl, hx⟩; have z := Held.on z hx) | (go_at_call 27; (with_reducible refine (nu1.out _).mono ?_); rintro e w' ⟨rfl, hx⟩; have z := Held.on z hx)
      | (go_at_call 10; (with_reducible refine (alive_any _ (Held.tab z hT1.out)).mono ?_); rintro e w' ⟨rfl, hx⟩; have z := Held.on z hx))
  go_wp2
  go_ret
  exact ⟨rfl, z.2⟩
end Go.Proofs.YtffmcfhanmonkaaDoor
