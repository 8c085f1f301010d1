/-
  How many places a mask has: the library's count of one bits, byte by byte.
-/
import Derived.Test.YtkcclhnligajeaaDoorPm1
namespace Go.Proofs.YtkcclhnligajeaaDoor

/-- The number of bits below n. -/
def popN : Nat → Nat → Nat
  | 0, _ => 0
  | n + 1, x => popN n x + (x.testBit n).toNat
theorem popN_add (n x : Nat) : ∀ k, popN (n + k) x = popN n x + popN k (x / 2 ^ n)
  | 0 => rfl
  | k + 1 => by
    show popN (n + k) x + (x.testBit (n + k)).toNat = _
    rw [popN_add n x k]
    show _ = popN n x + (popN k (x / 2 ^ n) + ((x / 2 ^ n).testBit k).toNat)
    rw [Nat.testBit_div_two_pow, Nat.add_comm n k]
    omega
theorem popN_same {x y : Nat} : ∀ n, (∀ i, i < n → x.testBit i = y.testBit i) → popN n x = popN n y
  | 0, _ => rfl
  | n + 1, h => by
    show popN n x + _ = popN n y + _
    rw [popN_same n (fun i hi => h i (by omega)), h n (by omega)]
theorem popN_low (n x : Nat) : popN n x = popN n (x % 2 ^ n) :=
  popN_same n fun i hi => by rw [Nat.testBit_mod_two_pow]; simp [hi]
theorem popN_le (x : Nat) : ∀ n, popN n x ≤ n
  | 0 => Nat.le_refl _
  | n + 1 => by
    have := popN_le x n
    have : (x.testBit n).toNat ≤ 1 := Bool.toNat_le _
    show popN n x + _ ≤ _
    omega
theorem popN_more {n x : Nat} (h : x < 2 ^ n) : ∀ k, popN (n + k) x = popN n x
  | 0 => rfl
  | k + 1 => by
    show popN (n + k) x + (x.testBit (n + k)).toNat = _
    rw [popN_more h k, Nat.testBit_lt_two_pow (Nat.lt_of_lt_of_le h (Nat.pow_le_pow_right (by decide) (by omega)))]
    rfl
theorem popN_pos {x i : Nat} (h : x.testBit i = true) : ∀ n, i < n → 0 < popN n x
  | 0, hi => by omega
  | n + 1, hi => by
    show 0 < popN n x + _
    rcases Nat.lt_or_ge i n with h1 | h1
    · have := popN_pos h n h1
      omega
    · have : i = n := by omega
      subst this
      rw [h]
      simp
/-- The number of places of a mask. -/
def pop (x : Nat) : Nat := popN 40 x
theorem pop_le (x : Nat) : pop x ≤ 40 := popN_le x 40
theorem pop_le36 {x : Nat} (h : x < 68719476736) : pop x ≤ 36 := by
  have : pop x = popN 36 x := popN_more (n := 36) (by simpa using h) 4
  rw [this]
  exact popN_le x 36

theorem land_byte {a b : Nat} (q s : Nat) (ha : a < 256) (hb : b < 256) : (256 * q + a) &&& (256 * s + b) = 256 * (q &&& s) + (a &&& b) := by
  have hab : a &&& b < 2 ^ 8 := Nat.lt_of_le_of_lt Nat.and_le_left ha
  apply Nat.eq_of_testBit_eq
  intro i
  rw [Nat.testBit_and]
  rw [show (256 : Nat) = 2 ^ 8 from rfl] at ha hb ⊢
  rw [Nat.testBit_two_pow_mul_add q ha, Nat.testBit_two_pow_mul_add s hb, Nat.testBit_two_pow_mul_add (q &&& s) hab]
  split <;> rw [Nat.testBit_and]
theorem by1 : ∀ e, e < 2 → ∀ a, a < 256 → ((128 * e + a / 2) &&& 85) = (a / 2 &&& 85) := by decide +kernel
theorem by2 : ∀ e, e < 4 → ∀ a, a < 256 → ((64 * e + a / 4) &&& 51) = (a / 4 &&& 51) := by decide +kernel
def t1 (a : Nat) : Nat := (a / 2 &&& 85) + (a &&& 85)
def t2 (a : Nat) : Nat := (a / 4 &&& 51) + (a &&& 51)
def t3 (a : Nat) : Nat := (a / 16 + a) &&& 15
theorem byt : ∀ a, a < 256 → t1 a < 256 ∧ t2 (t1 a) ≤ 68 ∧ t2 (t1 a) % 16 ≤ 4 ∧ t3 (t2 (t1 a)) = popN 8 a := by decide +kernel
theorem by3 : ∀ e, e < 5 → ∀ a, a < 69 → ((16 * e + a / 16 + a) &&& 15) = ((a / 16 + a) &&& 15) := by decide +kernel
theorem st1 {a : Nat} (X M : Nat) (ha : a < 256) : (((256 * X + a) / 2) &&& (256 * M + 85)) + ((256 * X + a) &&& (256 * M + 85)) = 256 * ((X / 2 &&& M) + (X &&& M)) + t1 a := by
  have e1 : (256 * X + a) / 2 = 256 * (X / 2) + (128 * (X % 2) + a / 2) := by omega
  rw [e1, land_byte _ _ (by omega) (by decide), land_byte _ _ ha (by decide), by1 _ (by omega) a ha]
  unfold t1
  omega
theorem st2 {a : Nat} (X M : Nat) (ha : a < 256) : (((256 * X + a) / 4) &&& (256 * M + 51)) + ((256 * X + a) &&& (256 * M + 51)) = 256 * ((X / 4 &&& M) + (X &&& M)) + t2 a := by
  have e1 : (256 * X + a) / 4 = 256 * (X / 4) + (64 * (X % 4) + a / 4) := by omega
  rw [e1, land_byte _ _ (by omega) (by decide), land_byte _ _ ha (by decide), by2 _ (by omega) a ha]
  unfold t2
  omega
theorem st3 {a : Nat} (X M : Nat) (ha : a < 69) (hX : X % 16 < 5) : ((256 * X + a) / 16 + (256 * X + a)) &&& (256 * M + 15) = 256 * ((X / 16 + X) &&& M) + t3 a := by
  have e1 : (256 * X + a) / 16 + (256 * X + a) = 256 * (X / 16 + X) + (16 * (X % 16) + a / 16 + a) := by omega
  rw [e1, land_byte _ _ (by omega) (by decide), by3 _ hX a ha]
  rfl
def sw1 (x : Nat) : Nat := (x / 2 &&& 6148914691236517205) + (x &&& 6148914691236517205)
def sw2 (x : Nat) : Nat := (x / 4 &&& 3689348814741910323) + (x &&& 3689348814741910323)
def sw3 (x : Nat) : Nat := (x / 16 + x) &&& 1085102592571150095
/-- A number of five bytes. -/
def b5 (a b c d e : Nat) : Nat := 256 * (256 * (256 * (256 * (256 * 0 + e) + d) + c) + b) + a
theorem sw1_b5 {a b c d e : Nat} (ha : a < 256) (hb : b < 256) (hc : c < 256) (hd : d < 256) (he : e < 256) : sw1 (b5 a b c d e) = b5 (t1 a) (t1 b) (t1 c) (t1 d) (t1 e) := by
  unfold sw1 b5
  rw [show (6148914691236517205 : Nat) = 256 * (256 * (256 * (256 * (256 * 5592405 + 85) + 85) + 85) + 85) + 85 from rfl, st1 _ _ ha, st1 _ _ hb, st1 _ _ hc, st1 _ _ hd, st1 _ _ he]
  simp
theorem sw2_b5 {a b c d e : Nat} (ha : a < 256) (hb : b < 256) (hc : c < 256) (hd : d < 256) (he : e < 256) : sw2 (b5 a b c d e) = b5 (t2 a) (t2 b) (t2 c) (t2 d) (t2 e) := by
  unfold sw2 b5
  rw [show (3689348814741910323 : Nat) = 256 * (256 * (256 * (256 * (256 * 3355443 + 51) + 51) + 51) + 51) + 51 from rfl, st2 _ _ ha, st2 _ _ hb, st2 _ _ hc, st2 _ _ hd, st2 _ _ he]
  simp
theorem sw3_b5 {a b c d e : Nat} (ha : a < 69) (hb : b < 69) (hc : c < 69) (hd : d < 69) (he : e < 69) (hb4 : b % 16 < 5) (hc4 : c % 16 < 5) (hd4 : d % 16 < 5) (he4 : e % 16 < 5) : sw3 (b5 a b c d e) = b5 (t3 a) (t3 b) (t3 c) (t3 d) (t3 e) := by
  unfold sw3 b5
  rw [show (1085102592571150095 : Nat) = 256 * (256 * (256 * (256 * (256 * 986895 + 15) + 15) + 15) + 15) + 15 from rfl, st3 _ _ ha (by omega), st3 _ _ hb (by omega), st3 _ _ hc (by omega), st3 _ _ hd (by omega), st3 _ _ he (by omega)]
  simp
theorem b5_of {x : Nat} (h : x < 1099511627776) : x = b5 (x % 256) (x / 256 % 256) (x / 65536 % 256) (x / 16777216 % 256) (x / 4294967296 % 256) := by
  unfold b5
  omega
theorem pop_b5 {a b c d e : Nat} (ha : a < 256) (hb : b < 256) (hc : c < 256) (hd : d < 256) (he : e < 256) : pop (b5 a b c d e) = popN 8 a + popN 8 b + popN 8 c + popN 8 d + popN 8 e := by
  have key : ∀ (n X r : Nat), r < 256 → popN (8 + n) (256 * X + r) = popN 8 r + popN n X := fun n X r hr => by
    rw [popN_add, popN_low 8 (256 * X + r)]
    rw [show (2 : Nat) ^ 8 = 256 from rfl]
    rw [show (256 * X + r) % 256 = r by omega, show (256 * X + r) / 256 = X by omega]
  unfold pop b5
  rw [show (40 : Nat) = 8 + 32 from rfl, key 32 _ a ha, show (32 : Nat) = 8 + 24 from rfl, key 24 _ b hb, show (24 : Nat) = 8 + 16 from rfl, key 16 _ c hc, show (16 : Nat) = 8 + 8 from rfl, key 8 _ d hd, show (8 : Nat) = 8 + 0 from rfl, key 0 _ e he]
  simp only [popN]
  omega
/-- The library's count, before its last sums: a byte for each byte. -/
theorem swar {x : Nat} (h : x < 1099511627776) : ∃ a b c d e, sw1 x ≤ 18446744073709551615 ∧ sw3 (sw2 (sw1 x)) = b5 a b c d e ∧ a ≤ 8 ∧ b ≤ 8 ∧ c ≤ 8 ∧ d ≤ 8 ∧ e ≤ 8 ∧ a + b + c + d + e = pop x := by
  have h0 : x % 256 < 256 := by omega
  have h1 : x / 256 % 256 < 256 := by omega
  have h2 : x / 65536 % 256 < 256 := by omega
  have h3 : x / 16777216 % 256 < 256 := by omega
  have h4 : x / 4294967296 % 256 < 256 := by omega
  have hx := b5_of h
  generalize x % 256 = a at *
  generalize x / 256 % 256 = b at *
  generalize x / 65536 % 256 = c at *
  generalize x / 16777216 % 256 = d at *
  generalize x / 4294967296 % 256 = e at *
  subst hx
  obtain ⟨a1, a2, a3, a4⟩ := byt a h0
  obtain ⟨b1, b2, b3, b4⟩ := byt b h1
  obtain ⟨c1, c2, c3, c4⟩ := byt c h2
  obtain ⟨d1, d2, d3, d4⟩ := byt d h3
  obtain ⟨e1, e2, e3, e4⟩ := byt e h4
  refine ⟨popN 8 a, popN 8 b, popN 8 c, popN 8 d, popN 8 e, ?_, ?_, popN_le _ _, popN_le _ _, popN_le _ _, popN_le _ _, popN_le _ _, (pop_b5 h0 h1 h2 h3 h4).symm⟩
  · rw [sw1_b5 h0 h1 h2 h3 h4]
    unfold b5
    omega
  · rw [sw1_b5 h0 h1 h2 h3 h4, sw2_b5 a1 b1 c1 d1 e1, sw3_b5 (by omega) (by omega) (by omega) (by omega) (by omega) (by omega) (by omega) (by omega) (by omega), a4, b4, c4, d4, e4]
end Go.Proofs.YtkcclhnligajeaaDoor
