/- Plain facts: how many bits a number has, byte by byte. -/
namespace Go.Proofs.YtffmcfhanmonkaaDoor
/-- How many of the first n places of p are true. -/
def cnt (p : Nat → Bool) : Nat → Nat
  | 0 => 0
  | n + 1 => cnt p n + (if p n then 1 else 0)
theorem cnt_le (p : Nat → Bool) (n : Nat) : cnt p n ≤ n := by
  induction n with
  | zero => simp [cnt]
  | succ n ih => unfold cnt; split <;> omega
theorem cnt_congr {p q : Nat → Bool} {n : Nat} (h : ∀ j, j < n → p j = q j) : cnt p n = cnt q n := by
  induction n with
  | zero => rfl
  | succ n ih => unfold cnt; rw [ih (fun j hj => h j (by omega)), h n (by omega)]
theorem cnt_add (p : Nat → Bool) (a b : Nat) : cnt p (a + b) = cnt p a + cnt (fun j => p (a + j)) b := by
  induction b with
  | zero => simp [cnt]
  | succ b ih => show cnt p (a + b + 1) = _; simp only [cnt]; rw [ih]; omega

theorem and_split (a b c d : Nat) (hb : b < 256) (hd : d < 256) : (256 * a + b) &&& (256 * c + d) = 256 * (a &&& c) + (b &&& d) := by
  have h1 : ((256 * a + b) &&& (256 * c + d)) / 2 ^ 8 = a &&& c := by
    rw [Nat.and_div_two_pow]; congr 1 <;> omega
  have h2 : ((256 * a + b) &&& (256 * c + d)) % 2 ^ 8 = b &&& d := by
    rw [Nat.and_mod_two_pow]; congr 1 <;> omega
  omega
theorem and_low (k x m : Nat) (h : m < 2 ^ k) : x &&& m = x % 2 ^ k &&& m := by
  have h1 : x &&& m < 2 ^ k := Nat.and_lt_two_pow _ h
  have h2 := Nat.and_mod_two_pow (a := x) (b := m) (n := k)
  rw [Nat.mod_eq_of_lt h1, Nat.mod_eq_of_lt h] at h2
  exact h2

def s1 (m x : Nat) : Nat := (x / 2 &&& m) + (x &&& m)
def s2 (m x : Nat) : Nat := (x / 4 &&& m) + (x &&& m)
def s3 (m x : Nat) : Nat := (x / 16 + x) &&& m
/-- n bytes, all of them c. -/
def rep (c : Nat) : Nat → Nat
  | 0 => 0
  | n + 1 => 256 * rep c n + c

theorem s1_split (h l M : Nat) (hl : l < 256) : s1 (256 * M + 85) (256 * h + l) = 256 * s1 M h + s1 85 l := by
  have e : (256 * h + l) / 2 = 256 * (h / 2) + (128 * (h % 2) + l / 2) := by omega
  unfold s1
  rw [e, and_split _ _ _ _ (by omega) (by omega), and_split _ _ _ _ hl (by omega), and_low 7 (128 * (h % 2) + l / 2) 85 (by omega), show (128 * (h % 2) + l / 2) % 2 ^ 7 = l / 2 by omega]
  omega
theorem s2_split (h l M : Nat) (hl : l < 256) : s2 (256 * M + 51) (256 * h + l) = 256 * s2 M h + s2 51 l := by
  have e : (256 * h + l) / 4 = 256 * (h / 4) + (64 * (h % 4) + l / 4) := by omega
  unfold s2
  rw [e, and_split _ _ _ _ (by omega) (by omega), and_split _ _ _ _ hl (by omega), and_low 6 (64 * (h % 4) + l / 4) 51 (by omega), show (64 * (h % 4) + l / 4) % 2 ^ 6 = l / 4 by omega]
  omega
theorem s3_split (h l M : Nat) (hh : h % 16 ≤ 4) (hl : l / 16 ≤ 4) (hl' : l % 16 ≤ 4) : s3 (256 * M + 15) (256 * h + l) = 256 * s3 M h + s3 15 l := by
  have e : (256 * h + l) / 16 + (256 * h + l) = 256 * (h / 16 + h) + (16 * (h % 16) + l / 16 + l) := by omega
  unfold s3
  rw [e, and_split _ _ _ _ (by omega) (by omega), and_low 4 (16 * (h % 16) + l / 16 + l) 15 (by omega), and_low 4 (l / 16 + l) 15 (by omega)]
  congr 2; omega

theorem byte_facts : ∀ l : Fin 256, s1 85 l.val < 256 ∧ s2 51 (s1 85 l.val) < 256 ∧ s2 51 (s1 85 l.val) / 16 ≤ 4 ∧ s2 51 (s1 85 l.val) % 16 ≤ 4 ∧ s3 15 (s2 51 (s1 85 l.val)) = cnt l.val.testBit 8 := by
  decide +kernel

/-- The counts of n bytes, each in its byte. -/
def bytes : Nat → Nat → Nat
  | 0, _ => 0
  | n + 1, x => 256 * bytes n (x / 256) + cnt (x % 256).testBit 8

theorem s_bytes (n : Nat) : ∀ x, x < 256 ^ n → s2 (rep 51 n) (s1 (rep 85 n) x) % 16 ≤ 4 ∧ s3 (rep 15 n) (s2 (rep 51 n) (s1 (rep 85 n) x)) = bytes n x := by
  induction n with
  | zero => intro x hx; have : x = 0 := by omega
            subst this; decide
  | succ n ih =>
    intro x hx
    have hx' : x / 256 < 256 ^ n := by rw [Nat.pow_succ] at hx; omega
    obtain ⟨i1, i2⟩ := ih (x / 256) hx'
    obtain ⟨f1, f2, f3, f4, f5⟩ := byte_facts ⟨x % 256, Nat.mod_lt _ (by omega)⟩
    simp only at f1 f2 f3 f4 f5
    have e : x = 256 * (x / 256) + x % 256 := by omega
    have e1 : s1 (rep 85 (n + 1)) x = 256 * s1 (rep 85 n) (x / 256) + s1 85 (x % 256) := by
      rw [show s1 (rep 85 (n + 1)) x = s1 (256 * rep 85 n + 85) (256 * (x / 256) + x % 256) by rw [← e]; rfl]
      exact s1_split _ _ _ (by omega)
    have e2 : s2 (rep 51 (n + 1)) (s1 (rep 85 (n + 1)) x) = 256 * s2 (rep 51 n) (s1 (rep 85 n) (x / 256)) + s2 51 (s1 85 (x % 256)) := by
      rw [e1]; exact s2_split _ _ _ f1
    refine ⟨by rw [e2]; omega, ?_⟩
    rw [e2]
    show s3 (256 * rep 15 n + 15) _ = _
    rw [s3_split _ _ _ i1 f3 f4, i2, f5]
    rfl

theorem cnt_bytes (x n : Nat) : cnt x.testBit (8 * (n + 1)) = cnt (x % 256).testBit 8 + cnt (x / 256).testBit (8 * n) := by
  rw [show 8 * (n + 1) = 8 + 8 * n by omega, cnt_add]
  congr 1
  · exact cnt_congr fun j hj => by rw [show (256 : Nat) = 2 ^ 8 by rfl, Nat.testBit_mod_two_pow]; simp [hj]
  · exact cnt_congr fun j hj => by rw [show (256 : Nat) = 2 ^ 8 by rfl, Nat.testBit_div_two_pow, Nat.add_comm]

theorem sum8_y (c0 c1 c2 c3 c4 c5 c6 c7 c : Nat) (hc : c = c0 + 256 * (c1 + 256 * (c2 + 256 * (c3 + 256 * (c4 + 256 * (c5 + 256 * (c6 + 256 * c7)))))))
    (g0 : c0 ≤ 8) : c + c / 256 = (c0 + c1) + 256 * ((c1 + c2) + 256 * ((c2 + c3) + 256 * ((c3 + c4) + 256 * ((c4 + c5) + 256 * ((c5 + c6) + 256 * ((c6 + c7) + 256 * c7)))))) := by
  have d : c / 256 = c1 + 256 * (c2 + 256 * (c3 + 256 * (c4 + 256 * (c5 + 256 * (c6 + 256 * c7))))) := by omega
  omega
theorem sum8_z (a0 a1 a2 a3 a4 a5 a6 a7 c : Nat) (hc : c = a0 + 256 * (a1 + 256 * (a2 + 256 * (a3 + 256 * (a4 + 256 * (a5 + 256 * (a6 + 256 * a7)))))))
    (g0 : a0 ≤ 16) (g1 : a1 ≤ 16) : c + c / 65536 = (a0 + a2) + 256 * ((a1 + a3) + 256 * ((a2 + a4) + 256 * ((a3 + a5) + 256 * ((a4 + a6) + 256 * ((a5 + a7) + 256 * (a6 + 256 * a7)))))) := by
  have d : c / 65536 = a2 + 256 * (a3 + 256 * (a4 + 256 * (a5 + 256 * (a6 + 256 * a7)))) := by omega
  omega
theorem sum8_u (a0 a1 a2 a3 a4 a5 a6 a7 c : Nat) (hc : c = a0 + 256 * (a1 + 256 * (a2 + 256 * (a3 + 256 * (a4 + 256 * (a5 + 256 * (a6 + 256 * a7)))))))
    (g0 : a0 ≤ 32) (g1 : a1 ≤ 32) (g2 : a2 ≤ 32) (g3 : a3 ≤ 32) (g4 : a0 + a4 ≤ 64) : (c + c / 4294967296) % 128 = a0 + a4 := by
  have d : c / 4294967296 = a4 + 256 * (a5 + 256 * (a6 + 256 * a7)) := by omega
  omega
theorem sum8_small (a0 a1 a2 a3 a4 a5 a6 a7 c : Nat) (hc : c = a0 + 256 * (a1 + 256 * (a2 + 256 * (a3 + 256 * (a4 + 256 * (a5 + 256 * (a6 + 256 * a7)))))))
    (g0 : a0 ≤ 32) (g1 : a1 ≤ 32) (g2 : a2 ≤ 32) (g3 : a3 ≤ 32) (g4 : a4 ≤ 32) (g5 : a5 ≤ 32) (g6 : a6 ≤ 32) (g7 : a7 ≤ 32) : c < 4611686018427387904 := by omega

theorem cnt64 (x : Nat) : ∃ c0 c1 c2 c3 c4 c5 c6 c7 : Nat, c0 ≤ 8 ∧ c1 ≤ 8 ∧ c2 ≤ 8 ∧ c3 ≤ 8 ∧ c4 ≤ 8 ∧ c5 ≤ 8 ∧ c6 ≤ 8 ∧ c7 ≤ 8 ∧
    cnt x.testBit 64 = c0 + (c1 + (c2 + (c3 + (c4 + (c5 + (c6 + (c7 + 0))))))) ∧
    bytes 8 x = c0 + 256 * (c1 + 256 * (c2 + 256 * (c3 + 256 * (c4 + 256 * (c5 + 256 * (c6 + 256 * c7)))))) := by
  refine ⟨_, _, _, _, _, _, _, _, cnt_le (x % 256).testBit 8, cnt_le (x / 256 % 256).testBit 8, cnt_le (x / 256 / 256 % 256).testBit 8, cnt_le (x / 256 / 256 / 256 % 256).testBit 8, cnt_le (x / 256 / 256 / 256 / 256 % 256).testBit 8, cnt_le (x / 256 / 256 / 256 / 256 / 256 % 256).testBit 8, cnt_le (x / 256 / 256 / 256 / 256 / 256 / 256 % 256).testBit 8, cnt_le (x / 256 / 256 / 256 / 256 / 256 / 256 / 256 % 256).testBit 8, ?_, ?_⟩
  · have a7 := cnt_bytes x 7
    have a6 := cnt_bytes (x / 256) 6
    have a5 := cnt_bytes (x / 256 / 256) 5
    have a4 := cnt_bytes (x / 256 / 256 / 256) 4
    have a3 := cnt_bytes (x / 256 / 256 / 256 / 256) 3
    have a2 := cnt_bytes (x / 256 / 256 / 256 / 256 / 256) 2
    have a1 := cnt_bytes (x / 256 / 256 / 256 / 256 / 256 / 256) 1
    have a0 := cnt_bytes (x / 256 / 256 / 256 / 256 / 256 / 256 / 256) 0
    exact a7.trans (congrArg _ (a6.trans (congrArg _ (a5.trans (congrArg _ (a4.trans (congrArg _ (a3.trans (congrArg _ (a2.trans (congrArg _ (a1.trans (congrArg _ a0)))))))))))))
  · simp only [bytes]; omega

/-- The sums of the bytes, as the program adds them. -/
theorem sum_bytes (x : Nat) : ∃ c y z : Nat, bytes 8 x = c ∧ c + c / 256 = y ∧ y + y / 65536 = z ∧ z < 4611686018427387904 ∧ (z + z / 4294967296) % 128 = cnt x.testBit 64 := by
  obtain ⟨c0, c1, c2, c3, c4, c5, c6, c7, g0, g1, g2, g3, g4, g5, g6, g7, t, b⟩ := cnt64 x
  have e1 := sum8_y _ _ _ _ _ _ _ _ _ b g0
  have e2 := sum8_z _ _ _ _ _ _ _ _ _ e1 (by omega) (by omega)
  refine ⟨_, _, _, rfl, rfl, rfl, sum8_small _ _ _ _ _ _ _ _ _ e2 (by omega) (by omega) (by omega) (by omega) (by omega) (by omega) (by omega) (by omega), ?_⟩
  rw [t, sum8_u _ _ _ _ _ _ _ _ _ e2 (by omega) (by omega) (by omega) (by omega) (by omega)]
  omega
end Go.Proofs.YtffmcfhanmonkaaDoor
