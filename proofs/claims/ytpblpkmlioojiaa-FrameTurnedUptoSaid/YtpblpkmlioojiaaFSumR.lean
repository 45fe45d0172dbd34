/-
  The reference's sum of bytes.
-/
import Derived.Test.YtpblpkmlioojiaaFNum
namespace Go.Proofs.Ytpblpkmlioojiaa
open Go.RowKit

/-- One byte more of a word, as the reference adds it. -/
theorem add_byte (l : List UInt8) (k : Nat) (h : k < l.length) (h8 : l.length ≤ 4) :
    IntKind.u64.wrap ((256 ^ k * l[k].toNat : Nat) : Int) = ((256 ^ k * l[k].toNat : Nat) : Int) ∧
    IntKind.u64.wrap (((num (l.take k) : Nat) : Int) + ((256 ^ k * l[k].toNat : Nat) : Int)) = ((num (l.take (k + 1)) : Nat) : Int) ∧
    IntKind.u64.wrap (((256 ^ k : Nat) : Int) * 256) = ((256 ^ (k + 1) : Nat) : Int) := by
  have h2 := num_take l k h
  have h3 : num (l.take (k + 1)) < 4294967296 := num_word _ (by rw [List.length_take]; omega)
  have h4 : 256 ^ (k + 1) ≤ 256 ^ 4 := Nat.pow_le_pow_right (by omega) (by omega)
  refine ⟨?_, ?_, ?_⟩
  · generalize 256 ^ k * l[k].toNat = x at *
    rw [IntKind.wrap_u64]; omega
  · rw [h2] at h3 ⊢
    generalize 256 ^ k * l[k].toNat = x at *
    generalize num (l.take k) = y at *
    rw [IntKind.wrap_u64]; omega
  · rw [Nat.pow_succ] at h4 ⊢
    generalize 256 ^ k = x at *
    rw [IntKind.wrap_u64]; omega
set_option maxRecDepth 100000 in
set_option maxHeartbeats 1600000 in
theorem rSum_any (A : Option Addr) (l : List UInt8) (cap B : Nat) (w : World) (h : Seg w B A l) (hl : l.length ≤ 140737488355328) :
    Calls Try.prog 11 #[.slice A l.length cap] w fun e w' => e = .returned (.int .u64 ((sumOf l : Nat) : Int)) ∧ w = w' := by
  have hsg := fhid h
  clear h
  have hlw : IntKind.u64.wrap ((l.length : Nat) : Int) = ((l.length : Nat) : Int) := by rw [IntKind.wrap_u64]; omega
  go_enter Try.func11, Try.ntmps11
  go_wp2
  clear hlw
  go_loop [3, 4, 5] (fun a b i => ∃ (k m x y : Nat), m = 4 * k ∧ k ≤ rounds4 l ∧ i = .int .i64 m ∧ a = .int .u64 x ∧ b = .int .u64 y ∧ x = fa l k % 4294967295 ∧ y = fb l k) (fun _ _ i => l.length + 4 - (intOf i).toNat)
  case atStart => exact ⟨0, 0, l.length % 4294967295, 0, rfl, by omega, rfl, rfl, rfl, rfl, rfl⟩
  case round =>
    obtain ⟨k, m, x, y, hm, hk, rfl, rfl, rfl, hx, hy⟩ := hrel
    have hxl : x < 4294967295 := by rw [hx]; exact Nat.mod_lt _ (by decide)
    have hyl : y < 4294967295 := by rw [hy]; exact fb_lt l k
    have hkr : k < rounds4 l ↔ m < l.length := by unfold rounds4; omega
    replace hkr := fhid hkr
    have hwl := word_len l k
    rw [← hm] at hwl
    replace hwl := fhid hwl
    have hwd := fhid (fun j => word_get l k m j hm)
    have hw4 := fhid (word_le l k)
    have hnl := fhid (num_word (word l k) (word_le l k))
    have hst := fhid (fa_mod l k)
    replace hm := fhid hm
    replace hx := fhid hx
    replace hy := fhid hy
    generalize word l k = wd at *
    by_cases hlt : m < l.length
    · have h2 : (m : Int) < l.length := by omega
      go_wp2
      go_loop [6, 7, 8] (fun n p i => ∃ (j q r s : Nat), j ≤ wd.length ∧ q = m + j ∧ i = .int .i64 q ∧ n = .int .u64 r ∧ p = .int .u64 s ∧ r = num (wd.take j) ∧ s = 256 ^ j) (fun _ _ i => l.length - (intOf i).toNat)
      case atStart => exact ⟨0, m, 0, 1, by omega, rfl, rfl, rfl, rfl, rfl, rfl⟩
      case round =>
        obtain ⟨j, q, r, s, hj, hq, rfl, rfl, rfl, hr, hs⟩ := hrel
        have hW := hwl.out
        have hW4 := hw4.out
        by_cases hjl : j < wd.length
        · obtain ⟨hql, hbyte⟩ := hwd.out j hjl
          obtain ⟨b, o, rfl, hb, hc⟩ := hsg.out.at_ hql
          rw [hbyte] at hc
          obtain ⟨f1, f2, f3⟩ := add_byte wd j hjl hW4
          rw [← hr] at f2
          rw [← hs] at f3
          have hqlt : (q : Int) < m + 4 := by omega
          have hqln : (q : Int) < l.length := by omega
          have e0 : IntKind.u64.wrap (wd[j].toNat : Int) = (wd[j].toNat : Int) := by have := wd[j].toNat_lt; rw [IntKind.wrap_u64]; omega
          rw [← hq] at hc
          replace hq := fhid hq
          replace hr := fhid hr
          replace hs := fhid hs
          clear hW hW4 hbyte hql
          generalize hr2 : num (wd.take (j + 1)) = r2 at *
          generalize hs2 : 256 ^ (j + 1) = s2 at *
          replace hr2 := fhid hr2
          replace hs2 := fhid hs2
          have g1 : ((wd[j].toNat : Nat) : Int) * (s : Int) = ((256 ^ j * wd[j].toNat : Nat) : Int) := by rw [hs.out, Nat.mul_comm, Int.natCast_mul]
          have g2 : (s : Int) * ((wd[j].toNat : Nat) : Int) = ((256 ^ j * wd[j].toNat : Nat) : Int) := by rw [hs.out, Int.natCast_mul]
          generalize 256 ^ j * wd[j].toNat = x1 at *
          generalize wd[j].toNat = x0 at *
          go_wp2
          go_round
          case rel => exact ⟨j + 1, q + 1, r2, s2, by omega, by have := hq.out; omega, by go_num, rfl, rfl, hr2.out.symm, hs2.out.symm⟩
          case measure => simp [intOf]; omega
        · obtain rfl : j = wd.length := by omega
          have hqn : ¬ ((q : Int) < m + 4 ∧ (q : Int) < l.length) := by omega
          have hlast : num (wd.take wd.length) = num wd := by rw [List.take_length]
          rw [hlast] at hr
          have hrl := hnl.out
          rw [← hr] at hrl
          have E := fhid (show (x + r) % 4294967295 = fa l (k + 1) % 4294967295 ∧ (y + (x + r) % 4294967295) % 4294967295 = fb l (k + 1) by
            have h1 := hst.out
            rw [← hx.out, ← hr] at h1
            have h3 : fb l (k + 1) = (y + fa l (k + 1)) % 4294967295 := by rw [hy.out]; rfl
            rw [h3, h1]
            exact ⟨(Nat.mod_mod _ _).symm, rfl⟩)
          have hk1 := fhid (show k + 1 ≤ rounds4 l from hkr.out.2 hlt)
          have hm2 := fhid (show m + 4 = 4 * (k + 1) by have := hm.out; omega)
          have hml : (m : Int) < l.length := h2
          clear hlast hr hs hW hW4 hqn
          by_cases hq4 : (q : Int) < m + 4
          · have hqn : ¬ (q : Int) < l.length := by have := hwl.out; omega
            clear hq
            go_wp2
            go_round
            case rel => exact ⟨k + 1, m + 4, (x + r) % 4294967295, (y + (x + r) % 4294967295) % 4294967295, hm2.out, hk1.out, by go_num, by congr 1, by congr 1, E.out.1, E.out.2⟩
            case measure => simp [intOf]; omega
          · clear hq
            go_wp2
            go_round
            case rel => exact ⟨k + 1, m + 4, (x + r) % 4294967295, (y + (x + r) % 4294967295) % 4294967295, hm2.out, hk1.out, by go_num, by congr 1, by congr 1, E.out.1, E.out.2⟩
            case measure => simp [intOf]; omega
    · have h2 : ¬ (m : Int) < l.length := by omega
      have E := fhid (show sumOf l = y * 4294967296 + x by
        have hke : k = rounds4 l := by
          rcases Nat.lt_or_ge k (rounds4 l) with h | h
          · exact absurd (hkr.out.1 h) hlt
          · omega
        have := fa_end l
        unfold sumOf
        rw [hx.out, hy.out, hke, Nat.mod_eq_of_lt this])
      go_wp2
      go_ret
      exact ⟨fret1 (by rw [E.out]; omega), rfl⟩
end Go.Proofs.Ytpblpkmlioojiaa
