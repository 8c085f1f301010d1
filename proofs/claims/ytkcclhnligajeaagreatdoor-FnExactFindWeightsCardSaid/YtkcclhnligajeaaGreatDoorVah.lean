/-
  Masks: places of a grid as the bits of a number: plain facts, nothing of the program.
  The mask of a region: in the model and in the program: what each call gives.
-/
import Derived.Test.YtkcclhnligajeaaGreatDoorVag
import Derived.Lib.TrailingZeros
namespace Go.Proofs.YtkcclhnligajeaaGreatDoor

section
/-! ### The bit of a place -/
def bN (W : Nat) (c : Cl) : Nat := c.2.toNat * W + c.1.toNat
theorem bN_nat (W x y : Nat) : bN W ((x : Int), (y : Int)) = y * W + x := by simp [bN]
theorem bN_div {W H : Nat} {c : Cl} (h : inG W H c) : bN W c / W = c.2.toNat ∧ bN W c % W = c.1.toNat := by
  obtain ⟨⟨h1, h2⟩, h3, h4⟩ := h
  have hx : c.1.toNat < W := by omega
  unfold bN
  refine ⟨?_, ?_⟩
  · rw [Nat.mul_comm, Nat.mul_add_div (by omega), Nat.div_eq_of_lt hx]; rfl
  · rw [Nat.mul_comm, Nat.mul_add_mod, Nat.mod_eq_of_lt hx]
theorem bN_lt {W H : Nat} {c : Cl} (h : inG W H c) : bN W c < W * H := by
  obtain ⟨⟨h1, h2⟩, h3, h4⟩ := h
  have hx : c.1.toNat < W := by omega
  have hy : c.2.toNat + 1 ≤ H := by omega
  have := Nat.mul_le_mul_left W hy
  rw [Nat.mul_succ] at this
  unfold bN
  rw [Nat.mul_comm]
  omega
theorem bN_inj {W H : Nat} {c d : Cl} (hc : inG W H c) (hd : inG W H d) (h : bN W c = bN W d) : c = d := by
  have h1 := bN_div hc
  have h2 := bN_div hd
  rw [h] at h1
  exact (cl_eq ⟨hc.1.1, hc.2.1⟩ ⟨hd.1.1, hd.2.1⟩).2 ⟨by omega, by omega⟩
def cAt (W i : Nat) : Cl := (((i % W : Nat) : Int), ((i / W : Nat) : Int))
theorem cAt_in {W H i : Nat} (hW : 1 ≤ W) (hi : i < W * H) : inG W H (cAt W i) := by
  have h1 := Nat.mod_lt i (show W > 0 by omega)
  have h2 : i / W < H := Nat.div_lt_of_lt_mul hi
  unfold inG cAt
  dsimp only
  generalize i % W = a at h1
  generalize i / W = b at h2
  omega
theorem bN_cAt (W i : Nat) : bN W (cAt W i) = i := by
  unfold bN cAt
  simp only [Int.toNat_natCast]
  rw [Nat.mul_comm]
  exact Nat.div_add_mod i W
theorem cAt_bN {W H : Nat} {c : Cl} (h : inG W H c) : cAt W (bN W c) = c := by
  have h1 := bN_div h
  unfold cAt
  rw [h1.1, h1.2]
  obtain ⟨⟨h1, h2⟩, h3, h4⟩ := h
  obtain ⟨x, y⟩ := c
  dsimp only at *
  congr 1 <;> omega

/-! ### The mask of a region -/
def mkTo (W : Nat) (l : List Int) : Nat → Nat
  | 0 => 0
  | y + 1 => mkTo W l y + rN l y * 2 ^ (y * W)
theorem Rg.mk_lt {W H : Nat} {l : List Int} (h : Rg W H l) : ∀ y, y ≤ H → mkTo W l y < 2 ^ (y * W)
  | 0, _ => by simp [mkTo]
  | y + 1, hy => by
    have h1 := h.mk_lt y (by omega)
    have h2 := (h.nat (show y < H by omega)).2.1
    have h3 : rN l y + 1 ≤ 2 ^ W := h2
    have h4 := Nat.mul_le_mul_right (2 ^ (y * W)) h3
    rw [Nat.add_mul, Nat.one_mul] at h4
    rw [mkTo, Nat.succ_mul, Nat.add_comm (y * W) W, Nat.pow_add]
    omega
theorem Rg.mk_bit {W H : Nat} {l : List Int} (h : Rg W H l) (i : Nat) : ∀ y, y ≤ H → (mkTo W l y).testBit i = (decide (i < y * W) && (rN l (i / W)).testBit (i % W))
  | 0, _ => by simp [mkTo]
  | y + 1, hy => by
    have hW := h.w0
    have h1 := h.mk_bit i y (by omega)
    have h2 := h.mk_lt y (by omega)
    have h3 := (h.nat (show y < H by omega)).2.1
    rw [mkTo, Nat.add_comm, Nat.mul_comm, Nat.testBit_two_pow_mul_add _ h2]
    by_cases hi : i < y * W
    · rw [if_pos hi, h1]
      have : i < (y + 1) * W := by rw [Nat.succ_mul]; omega
      simp [hi, this]
    · rw [if_neg hi]
      by_cases hi2 : i < (y + 1) * W
      · have e1 : i / W = y := by
          have a1 : y ≤ i / W := (Nat.le_div_iff_mul_le (by omega)).2 (by omega)
          have a2 : i / W < y + 1 := Nat.div_lt_of_lt_mul (by rw [Nat.mul_comm]; exact hi2)
          omega
        have e2 : i % W = i - y * W := by
          have := Nat.div_add_mod i W
          rw [e1, Nat.mul_comm] at this
          omega
        rw [e1, e2]
        simp [hi2]
      · have e3 : (rN l y).testBit (i - y * W) = false := by
          apply Nat.testBit_lt_two_pow
          refine Nat.lt_of_lt_of_le h3 (Nat.pow_le_pow_right (by omega) ?_)
          rw [Nat.succ_mul] at hi2
          omega
        rw [e3]
        simp [hi2]
def maskR (W : Int) (l : List Int) : Nat := if isReg W l = true then mkTo W.toNat l l.length else 0
theorem maskR_yes {W H : Nat} {l : List Int} (h : Rg W H l) : maskR W l = mkTo W l H := by
  unfold maskR
  rw [if_pos (isReg_of h), h.len]
  rfl
theorem maskR_no {W : Int} {l : List Int} (h : isReg W l = false) : maskR W l = 0 := if_neg (by rw [h]; simp)
theorem Rg.mask_bit {W H : Nat} {l : List Int} (h : Rg W H l) {q : Cl} (hq : inG W H q) : (maskR W l).testBit (bN W q) = bt l q := by
  have h1 := bN_div hq
  have h2 := bN_lt hq
  rw [maskR_yes h, h.mk_bit _ H (Nat.le_refl _), h1.1, h1.2]
  have : bN W q < H * W := by rw [Nat.mul_comm]; exact h2
  obtain ⟨⟨a1, a2⟩, a3, a4⟩ := hq
  unfold bt
  simp [this, a1, a3]
theorem pow36 {W H y : Nat} (hW : W ≤ 6) (hH : H ≤ 6) (hy : y ≤ H) : 2 ^ (y * W) ≤ 68719476736 := by
  have h1 : y * W ≤ 36 := Nat.le_trans (Nat.mul_le_mul (show y ≤ 6 by omega) hW) (by decide)
  have := Nat.pow_le_pow_right (show 0 < 2 by omega) h1
  simpa using this
theorem maskR_lt (W : Int) (l : List Int) : maskR W l < 68719476736 := by
  cases h : isReg W l with
  | false => rw [maskR_no h]; decide
  | true =>
    obtain ⟨n, rfl, hr⟩ := isReg_out h
    rw [maskR_yes hr]
    exact Nat.lt_of_lt_of_le (hr.mk_lt _ (Nat.le_refl _)) (pow36 hr.w6 hr.h6 (Nat.le_refl _))
theorem Rg.mask_out {W H : Nat} {l : List Int} (h : Rg W H l) {i : Nat} (hi : (maskR W l).testBit i = true) : i < W * H ∧ bt l (cAt W i) = true := by
  have h1 := hi
  rw [maskR_yes h, h.mk_bit _ H (Nat.le_refl _), Bool.and_eq_true, decide_eq_true_eq, Nat.mul_comm] at h1
  have h2 := h.mask_bit (cAt_in h.w0 h1.1)
  rw [bN_cAt, hi] at h2
  exact ⟨h1.1, h2.symm⟩

/-! ### A list of cells as a mask -/
def orB (W : Nat) (cs : List Cl) : Nat := cs.foldl (fun m c => m ||| 2 ^ bN W c) 0
theorem orB_snoc (W : Nat) (cs : List Cl) (c : Cl) : orB W (cs ++ [c]) = orB W cs ||| 2 ^ bN W c := by unfold orB; rw [List.foldl_append]; rfl
theorem orB_fold (W : Nat) (i : Nat) : ∀ (cs : List Cl) (m : Nat), (cs.foldl (fun m c => m ||| 2 ^ bN W c) m).testBit i = (m.testBit i || cs.any fun c => decide (bN W c = i))
  | [], m => by simp
  | c :: r, m => by
    rw [List.foldl_cons, orB_fold W i r, Nat.testBit_or, Nat.testBit_two_pow, List.any_cons, Bool.or_assoc]
theorem orB_bit (W : Nat) (cs : List Cl) (i : Nat) : (orB W cs).testBit i = true ↔ ∃ c ∈ cs, bN W c = i := by
  unfold orB
  rw [orB_fold]
  simp
theorem orB_lt {W n : Nat} : ∀ (cs : List Cl) (m : Nat), m < 2 ^ n → (∀ c ∈ cs, bN W c < n) → cs.foldl (fun m c => m ||| 2 ^ bN W c) m < 2 ^ n
  | [], _, h, _ => h
  | c :: r, m, h, hc => orB_lt r _ (Nat.or_lt_two_pow h (Nat.pow_lt_pow_right (by omega) (hc c List.mem_cons_self))) fun d hd => hc d (List.mem_cons_of_mem _ hd)
theorem nat_or_add {m b : Nat} (h : m.testBit b = false) : m + 2 ^ b = m ||| 2 ^ b := by
  have e := Nat.div_add_mod m (2 ^ b)
  have hr := Nat.mod_lt m (show 2 ^ b > 0 from Nat.pos_of_ne_zero (by simp))
  have hb : (m / 2 ^ b) % 2 = 0 := by
    rw [Nat.testBit_eq_decide_div_mod_eq] at h
    have : ¬ m / 2 ^ b % 2 = 1 := by simpa using h
    omega
  obtain ⟨k, hk⟩ : ∃ k, m / 2 ^ b = 2 * k := ⟨m / 2 ^ b / 2, by omega⟩
  rw [hk] at e
  generalize m % 2 ^ b = r at e hr
  have e2 : m + 2 ^ b = 2 ^ b * (2 * k + 1) + r := by rw [Nat.mul_add, Nat.mul_one]; omega
  apply Nat.eq_of_testBit_eq
  intro i
  rw [e2, Nat.testBit_two_pow_mul_add _ hr, ← e, Nat.testBit_or, Nat.testBit_two_pow_mul_add _ hr, Nat.testBit_two_pow]
  by_cases hi : i < b
  · have : ¬ b = i := by omega
    simp [hi, this]
  · rw [if_neg hi, if_neg hi]
    by_cases he : b = i
    · subst he
      simp [Nat.testBit_zero]
    · obtain ⟨j, rfl⟩ : ∃ j, i = b + (j + 1) := ⟨i - b - 1, by omega⟩
      have e3 : b + (j + 1) - b = j + 1 := by omega
      rw [e3, Nat.testBit_succ, Nat.testBit_succ]
      have e4 : (2 * k + 1) / 2 = k := by omega
      have e5 : 2 * k / 2 = k := by omega
      rw [e4, e5]
      simp

/-! ### Cells of a region that do not meet -/
def okC (W : Nat) (l : List Int) (cs : List Cl) (k : Nat) : Bool := (List.range k).all fun j => bt l (cs.getD j (0, 0)) && !(orB W (cs.take j)).testBit (bN W (cs.getD j (0, 0)))
theorem okC_step (W : Nat) (l : List Int) (cs : List Cl) (k : Nat) : okC W l cs (k + 1) = (okC W l cs k && (bt l (cs.getD k (0, 0)) && !(orB W (cs.take k)).testBit (bN W (cs.getD k (0, 0))))) := by
  unfold okC; rw [List.range_succ, List.all_append]; simp
theorem okC_iff (W : Nat) (l : List Int) (cs : List Cl) (k : Nat) : okC W l cs k = true ↔ ∀ j, j < k → bt l (cs.getD j (0, 0)) = true ∧ (orB W (cs.take j)).testBit (bN W (cs.getD j (0, 0))) = false := by
  unfold okC; rw [List.all_eq_true]; simp
theorem okC_false {W : Nat} {l : List Int} {cs : List Cl} {k n : Nat} (h : okC W l cs (k + 1) = false) (hk : k < n) : okC W l cs n = false := by
  cases h2 : okC W l cs n with
  | false => rfl
  | true =>
    have := (okC_iff W l cs n).1 h2
    have h3 := (okC_iff W l cs (k + 1)).2 fun j hj => this j (by omega)
    rw [h] at h3
    cases h3
theorem orB_take {W : Nat} (cs : List Cl) {k : Nat} (hk : k < cs.length) : orB W (cs.take (k + 1)) = orB W (cs.take k) ||| 2 ^ bN W (cs.getD k (0, 0)) := by
  have : cs.take (k + 1) = cs.take k ++ [cs.getD k (0, 0)] := by
    rw [List.take_succ_eq_append_getElem hk]
    simp [List.getD, hk]
  rw [this, orB_snoc]
theorem okC_lt {W H : Nat} {l : List Int} (h : Rg W H l) {cs : List Cl} {k : Nat} (hk : k ≤ cs.length) (ho : okC W l cs k = true) : orB W (cs.take k) < 2 ^ (W * H) := by
  refine orB_lt _ 0 (Nat.pos_of_ne_zero (by simp)) fun c hc => ?_
  obtain ⟨j, hj, rfl⟩ := List.getElem_of_mem hc
  have hj2 : j < k ∧ j < cs.length := by rw [List.length_take] at hj; omega
  have := ((okC_iff W l cs k).1 ho j hj2.1).1
  have e : cs.getD j (0, 0) = (cs.take k)[j] := by simp [List.getD, hj2.2]
  rw [e] at this
  exact bN_lt (h.bt_in this)
/-- Distinct cells of the region: that is all that is asked. -/
theorem okC_all {W H : Nat} {l : List Int} (h : Rg W H l) {cs : List Cl} (hd : cs.Pairwise (· ≠ ·)) : okC W l cs cs.length = true ↔ ∀ c ∈ cs, bt l c = true := by
  rw [okC_iff]
  constructor
  · intro h1 c hc
    obtain ⟨j, hj, rfl⟩ := List.getElem_of_mem hc
    have := (h1 j hj).1
    simpa [List.getD, hj] using this
  · intro h1 j hj
    have e : cs.getD j (0, 0) = cs[j] := by simp [List.getD, hj]
    rw [e]
    refine ⟨h1 _ (List.getElem_mem hj), ?_⟩
    cases hb : (orB W (cs.take j)).testBit (bN W cs[j]) with
    | false => rfl
    | true =>
      obtain ⟨d, hd1, hd2⟩ := (orB_bit _ _ _).1 hb
      obtain ⟨i, hi, rfl⟩ := List.getElem_of_mem hd1
      have hi2 : i < j := by rw [List.length_take] at hi; omega
      have e2 : (cs.take j)[i] = cs[i]'(by omega) := by simp
      rw [e2] at hd2
      have := bN_inj (h.bt_in (h1 _ (List.getElem_mem (by omega)))) (h.bt_in (h1 _ (List.getElem_mem hj))) hd2
      exact absurd this (List.pairwise_iff_getElem.1 hd i j (by omega) hj hi2)
def mcOk (W : Int) (l : List Int) (cs : List Cl) : Bool := isReg W l && okC W.toNat l cs cs.length
def mcV (W : Int) (l : List Int) (cs : List Cl) : Nat := if mcOk W l cs = true then orB W.toNat cs else 0
theorem mcOk_no {W : Int} {l : List Int} (h : isReg W l = false) (cs : List Cl) : mcOk W l cs = false := by unfold mcOk; rw [h]; rfl
theorem mcOk_yes {W H : Nat} {l : List Int} (h : Rg W H l) (cs : List Cl) : mcOk W l cs = okC W l cs cs.length := by unfold mcOk; rw [isReg_of h]; rfl
theorem mcV_no {W : Int} {l : List Int} {cs : List Cl} (h : mcOk W l cs = false) : mcV W l cs = 0 := if_neg (by rw [h]; simp)
theorem mcV_yes {W : Nat} {l : List Int} {cs : List Cl} (h : mcOk W l cs = true) : mcV (W : Int) l cs = orB W cs := by
  unfold mcV
  rw [if_pos h]
  rfl

/-! ### The cells of a mask -/
def mcells (W n m : Nat) : List Cl := ((List.range n).filter m.testBit).map (cAt W)
theorem mcells_yes {W n m : Nat} (h : m.testBit n = true) : mcells W (n + 1) m = mcells W n m ++ [cAt W n] := by
  unfold mcells
  rw [List.range_succ, List.filter_append, List.map_append]
  simp [h]
theorem mcells_no {W n m : Nat} (h : m.testBit n = false) : mcells W (n + 1) m = mcells W n m := by
  unfold mcells
  rw [List.range_succ, List.filter_append, List.map_append]
  simp [h]
theorem mcells_len (W n m : Nat) : (mcells W n m).length ≤ n := by
  unfold mcells
  rw [List.length_map]
  have := List.length_filter_le m.testBit (List.range n)
  simpa using this
def okM (W : Int) (l : List Int) (m : Int) : Bool := isReg W l && (decide (0 ≤ m) && decide (m.toNat &&& maskR W l = m.toNat))
def cellsM (W : Int) (l : List Int) (m : Int) : List Cl := if okM W l m = true then mcells W.toNat (W.toNat * l.length) m.toNat else []
theorem okM_no {W : Int} {l : List Int} (h : isReg W l = false) (m : Int) : okM W l m = false := by unfold okM; rw [h]; rfl
theorem okM_neg {W : Int} {l : List Int} {m : Int} (h : ¬ 0 ≤ m) : okM W l m = false := by unfold okM; simp [h]
theorem okM_nat {W : Int} {l : List Int} (h : isReg W l = true) (m : Nat) : okM W l m = decide (m &&& maskR W l = m) := by unfold okM; rw [h]; simp
theorem cellsM_no {W : Int} {l : List Int} {m : Int} (h : okM W l m = false) : cellsM W l m = [] := if_neg (by rw [h]; simp)
theorem cellsM_yes {W H : Nat} {l : List Int} (hr : Rg W H l) {m : Nat} (h : okM W l m = true) : cellsM W l m = mcells W (W * H) m := by
  unfold cellsM
  rw [if_pos h, hr.len]
  rfl
theorem okM_bits {W : Int} {l : List Int} {m : Nat} (h : okM W l m = true) {i : Nat} (hi : m.testBit i = true) : (maskR W l).testBit i = true := by
  unfold okM at h
  simp only [Bool.and_eq_true, decide_eq_true_eq, Int.toNat_natCast] at h
  have e := h.2.2
  rw [← e, Nat.testBit_and, Bool.and_eq_true] at hi
  exact hi.2
theorem okM_of {W H : Nat} {l : List Int} (hr : Rg W H l) {m : Nat} (h : ∀ i, m.testBit i = true → (maskR W l).testBit i = true) : okM W l m = true := by
  rw [okM_nat (isReg_of hr), decide_eq_true_eq]
  apply Nat.eq_of_testBit_eq
  intro i
  rw [Nat.testBit_and]
  cases hb : m.testBit i with
  | false => rfl
  | true => rw [h i hb]; rfl
theorem okM_lt {W : Int} {l : List Int} {m : Nat} (h : okM W l m = true) : m < 68719476736 := by
  unfold okM at h
  simp only [Bool.and_eq_true, decide_eq_true_eq, Int.toNat_natCast] at h
  rw [← h.2.2]
  exact Nat.lt_of_le_of_lt Nat.and_le_right (maskR_lt W l)

/-! ### The bits one by one, the least first -/
def bitL (m : Nat) : List Nat := (List.range 64).filter m.testBit
theorem low_bit {m : Nat} (h0 : m ≠ 0) (h : m < 2 ^ 64) : m.testBit (Lib.ctz 64 m) = true ∧ Lib.ctz 64 m < 64 ∧ (∀ j, m.testBit j = true → Lib.ctz 64 m ≤ j) ∧ ∀ j, (m &&& (m - 1)).testBit j = (m.testBit j && !decide (j = Lib.ctz 64 m)) := by
  have e0 : Lib.ctz 64 m = Lib.ctzFrom 64 m := if_neg h0
  obtain ⟨q, hq, hk⟩ := Lib.ctzFrom_spec 64 m (by omega) h
  rw [e0]
  generalize Lib.ctzFrom 64 m = t at hq hk
  have hb : ∀ j, m.testBit j = (decide (t ≤ j) && (2 * q + 1).testBit (j - t)) := fun j => by rw [hq, Nat.mul_comm, Nat.testBit_mul_two_pow]
  have hp : 2 ^ t > 0 := Nat.pos_of_ne_zero (by simp)
  have e1 : m - 1 = 2 ^ t * (2 * q) + (2 ^ t - 1) := by rw [hq, Nat.mul_add, Nat.mul_one]; omega
  have hb1 : ∀ j, (m - 1).testBit j = if j < t then (2 ^ t - 1).testBit j else (2 * q).testBit (j - t) := fun j => by rw [e1, Nat.testBit_two_pow_mul_add _ (by omega)]
  refine ⟨by rw [hb]; simp [Nat.testBit_zero], hk, fun j hj => ?_, fun j => ?_⟩
  · rw [hb, Bool.and_eq_true, decide_eq_true_eq] at hj
    exact hj.1
  · rw [Nat.testBit_and, hb, hb1]
    by_cases hj : j < t
    · have : ¬ t ≤ j := by omega
      simp [this]
    · rw [if_neg hj]
      by_cases he : j = t
      · subst he
        simp [Nat.testBit_zero]
      · obtain ⟨i, rfl⟩ : ∃ i, j = t + (i + 1) := ⟨j - t - 1, by omega⟩
        have e3 : t + (i + 1) - t = i + 1 := by omega
        rw [e3, Nat.testBit_succ, Nat.testBit_succ]
        have e4 : (2 * q + 1) / 2 = q := by omega
        have e5 : 2 * q / 2 = q := by omega
        rw [e4, e5]
        simp
theorem bitL_zero : bitL 0 = [] := by unfold bitL; simp
theorem filter_first {p : Nat → Bool} : ∀ (n s t : Nat), s ≤ t → t < s + n → p t = true → (∀ j, s ≤ j → p j = true → t ≤ j) → (List.range' s n).filter p = t :: (List.range' s n).filter (fun j => p j && !decide (j = t))
  | 0, s, t, h1, h2, _, _ => by omega
  | n + 1, s, t, h1, h2, hp, hm => by
    rw [List.range'_succ, List.filter_cons, List.filter_cons]
    by_cases he : s = t
    · subst he
      have hs : (List.range' (s + 1) n).filter p = (List.range' (s + 1) n).filter (fun j => p j && !decide (j = s)) := by
        apply List.filter_congr
        intro j hj
        have := (List.mem_range'_1.1 hj).1
        have hne : ¬ j = s := by omega
        simp [hne]
      simp [hp, hs]
    · have hps : p s = false := by
        cases hps : p s with
        | false => rfl
        | true => exact absurd (hm s (Nat.le_refl _) hps) (by omega)
      have ih := filter_first n (s + 1) t (by omega) (by omega) hp fun j hj hpj => hm j (by omega) hpj
      simp [hps, ih]
theorem bitL_cons {m : Nat} (h0 : m ≠ 0) (h : m < 2 ^ 64) : bitL m = Lib.ctz 64 m :: bitL (m &&& (m - 1)) := by
  obtain ⟨h1, h2, h3, h4⟩ := low_bit h0 h
  unfold bitL
  rw [List.range_eq_range', filter_first 64 0 (Lib.ctz 64 m) (by omega) (by omega) h1 fun j _ hj => h3 j hj]
  congr 1
  apply List.filter_congr
  intro j _
  exact (h4 j).symm
theorem bitL_upto {m n : Nat} (h : m < 2 ^ n) (hn : n ≤ 64) : bitL m = (List.range n).filter m.testBit := by
  unfold bitL
  obtain ⟨d, hd⟩ : ∃ d, 64 = n + d := ⟨64 - n, by omega⟩
  rw [hd, List.range_add, List.filter_append]
  have : ((List.range d).map fun x => n + x).filter m.testBit = [] := by
    rw [List.filter_eq_nil_iff]
    intro j hj
    obtain ⟨i, _, rfl⟩ := List.mem_map.1 hj
    rw [Nat.testBit_lt_two_pow (Nat.lt_of_lt_of_le h (Nat.pow_le_pow_right (by omega) (by omega)))]
    simp
  rw [this, List.append_nil]
theorem mcells_bits {W H : Nat} {l : List Int} (hr : Rg W H l) {m : Nat} (h : okM W l m = true) : mcells W (W * H) m = (bitL m).map (cAt W) := by
  have hlt : m < 2 ^ (W * H) := by
    apply Nat.lt_pow_two_of_testBit
    intro i hi
    cases hb : m.testBit i with
    | false => rfl
    | true =>
      have := (hr.mask_out (okM_bits h hb)).1
      omega
  have h36 : W * H ≤ 64 := Nat.le_trans (Nat.mul_le_mul hr.w6 hr.h6) (by decide)
  rw [bitL_upto hlt h36]
  rfl
end

section
open Go.RowKit

theorem i64_or_top (k a b : Nat) (ha : a < 2 ^ k) (ha2 : a < 9223372036854775808) (hb : b * 2 ^ k < 9223372036854775808) : bits .or .i64 (a : Int) ((b * 2 ^ k : Nat) : Int) = ((a + b * 2 ^ k : Nat) : Int) := by
  rw [i64_or_nat _ _ ha2 hb]
  congr 1
  rw [Nat.or_comm, Nat.add_comm, Nat.mul_comm]
  exact (Nat.two_pow_add_eq_or_of_lt ha b).symm
/-- A row of a region at its place of the mask. -/
theorem Rg.row_lt {W H : Nat} {l : List Int} (h : Rg W H l) {y : Nat} (hy : y < H) : rN l y * 2 ^ (y * W) < 68719476736 ∧ y * W ≤ 36 := by
  have h1 := h.mk_lt (y + 1) (by omega)
  have h2 := pow36 h.w6 h.h6 (show y + 1 ≤ H by omega)
  rw [mkTo] at h1
  have h3 : y * W ≤ 6 * 6 := Nat.mul_le_mul (by have := h.h6; omega) h.w6
  omega

set_option maxHeartbeats 4000000 in
set_option maxRecDepth 100000 in
theorem sMask (B n cap : Nat) (a : Option Addr) (W : Int) (l : List Int) (w : World) (hn : n ≤ 4194304) (hc : IntsAt B w a n l) (hB : B ≤ w.heap.size) :
    Calls Tryz.prog 57 #[.agg #[.int .i64 W, .slice a n cap]] w fun e w' => e = .returned (.int .i64 (maskR W l : Nat)) ∧ Below w.heap.size w w' := by
  have H := Lib.hid hc
  have HLN := Lib.hid hc.1
  clear hc
  have hb0 := (Below.refl w.heap.size w).alloc (Nat.le_refl _) (.cells #[.int .i64 W, .slice a n cap] 26)
  have hbox0 := RgAt.new (w := w) W (.slice a n cap) rfl
  have hsz0 : (w.alloc (.cells #[.int .i64 W, .slice a n cap] 26)).heap.size = w.heap.size + 1 := by simp
  cases h : isReg W l with
  | false =>
    have HI := Lib.hid h
    have HO := Lib.hid (maskR_no h)
    clear h
    by_cases h0 : 0 < (n : Int)
    · go_enter Tryz.func57, Tryz.ntmps57
      go_wp2
      refine wp_loop_rounds 1 ?_
      rw [rounds_succ]
      generalize (w.alloc (.cells #[.int .i64 W, .slice a n cap] 26)) = W1 at *
      have c0 := hbox0.c0
      have c1 := hbox0.c1
      have HB := Lib.hid hb0
      clear hb0 hbox0 hsz0
      go_wp2_with fail
      refine (sIsReg B n cap a W l _ hn (H.out.on (HB.out.mono hB)) (Nat.le_trans hB HB.out.size)).mono ?_
      rintro e w' ⟨rfl, hb⟩
      rw [HI.out]
      have HB2 := Lib.hid (HB.out.trans (hb.mono HB.out.size))
      clear hb
      go_wp2
      go_ret
      exact ⟨by rw [HO.out]; rfl, HB2.out⟩
    · go_enter Tryz.func57, Tryz.ntmps57
      go_wp2
      refine wp_loop_rounds 1 ?_
      rw [rounds_succ]
      generalize (w.alloc (.cells #[.int .i64 W, .slice a n cap] 26)) = W1 at *
      have c0 := hbox0.c0
      have c1 := hbox0.c1
      have HB := Lib.hid hb0
      clear hb0 hbox0 hsz0
      go_wp2
      go_ret
      exact ⟨by rw [HO.out]; rfl, HB.out⟩
  | true =>
    obtain ⟨N, rfl, hr⟩ := isReg_out h
    have hln := HLN.out
    rw [hln] at hr
    have HR := Lib.hid hr
    have HI := Lib.hid h
    have HO := Lib.hid (maskR_yes hr)
    have hN6 := hr.w6
    have hn6 := hr.h6
    clear h hr hln
    go_enter Tryz.func57, Tryz.ntmps57
    go_wp2
    generalize (w.alloc (.cells #[.int .i64 N, .slice a n cap] 26)) = W1 at *
    have HB := Lib.hid hb0
    clear hb0
    go_loopw [3, 4] (fun v i wr => ∃ y m : Nat, y ≤ n ∧ i = .int .i64 y ∧ v = .int .i64 m ∧ Hid (m = mkTo N l y) ∧ Below (w.heap.size + 1) W1 wr) (fun _ i _ => n - (intOf i).toNat)
    case atStart => exact ⟨0, 0, by omega, rfl, rfl, rfl, Below.refl _ _⟩
    case round =>
      obtain ⟨y, m, hy, rfl, rfl, hmm, hb⟩ := hrel
      have hsz := hb.size
      have hbx := hbox0.on hb (by omega)
      have c0 := hbx.c0
      have c1 := hbx.c1
      have hbw := HB.out.trans (hb.mono (by omega))
      by_cases hlt : y < n
      · have hy1 : (y : Int) < (n : Int) := by omega
        have hy0 : (0 : Int) ≤ (y : Int) := by omega
        go_wp2_with fail
        refine (sIsReg B n cap a N l wr hn (H.out.on (hbw.mono hB)) (Nat.le_trans hB hbw.size)).mono ?_
        rintro e w2 ⟨rfl, hb2⟩
        rw [HI.out]
        have hb2' := hb.trans (hb2.mono (by omega))
        have hsz2 := hb2'.size
        have hbw2 := HB.out.trans (hb2'.mono (by omega))
        obtain ⟨b, off, rfl, hbB, hcell⟩ := H.out.2.2 (by omega)
        have p1 := (hbw2.cell (p := ⟨b, off + y, none⟩) (Nat.lt_of_lt_of_le hbB hB)).trans (hcell y hlt)
        rw [(HR.out.nat hlt).1] at p1
        clear hb hb2 hbx c0 c1 hbw hsz hcell
        have hbx := hbox0.on hb2' (by omega)
        have c0 := hbx.c0
        have c1 := hbx.c1
        have hm1 := HR.out.mk_lt y (by omega)
        have hm2 := pow36 HR.out.w6 HR.out.h6 (show y ≤ n by omega)
        rw [← hmm.out] at hm1
        have hrow := HR.out.row_lt hlt
        have HST := Lib.hid (show mkTo N l (y + 1) = mkTo N l y + rN l y * 2 ^ (y * N) from rfl)
        obtain ⟨s, hs⟩ : ∃ s : Nat, y * N = s := ⟨_, rfl⟩
        obtain ⟨t, ht⟩ : ∃ t : Nat, rN l y * 2 ^ s = t := ⟨_, rfl⟩
        obtain ⟨z, hz⟩ : ∃ z : Nat, rN l y = z := ⟨_, rfl⟩
        rw [hs, ht] at hrow
        rw [hs, ht] at HST
        rw [hz] at p1 ht
        rw [hs] at hm1 hm2
        have hmul : (y : Int) * (N : Int) = (s : Int) := by rw [← hs]; simp
        have hshl : (z : Int) * (2 : Int) ^ s = (t : Int) := by rw [← ht]; simp
        have hmb : m < 68719476736 := by omega
        have HN := Lib.hid (show m + t = mkTo N l (y + 1) by rw [HST.out, ← hmm.out])
        clear hm1 hm2 hs ht hz HST
        go_wp2_with fail
        go_quiet (fail)
        go_wp2
        go_roundw
        case rel => exact ⟨y + 1, m + t, by omega, by go_num, by go_num, HN.out, below_drewn hb2' _⟩
        case measure => simp [intOf]; omega
      · obtain rfl : y = n := by omega
        go_wp2
        go_ret
        exact ⟨by rw [HO.out, ← hmm.out]; rfl, hbw⟩

set_option maxHeartbeats 4000000 in
set_option maxRecDepth 100000 in
theorem iMask (B n cap : Nat) (a : Option Addr) (W : Int) (l : List Int) (w : World) (hn : n ≤ 4194304) (hc : IntsAt B w a n l) (hB : B ≤ w.heap.size) :
    Calls Tryz.prog 60 #[.agg #[.int .i64 W, .slice a n cap]] w fun e w' => e = .returned (.int .i64 (maskR W l : Nat)) ∧ Below w.heap.size w w' := by
  have H := Lib.hid hc
  have HLN := Lib.hid hc.1
  clear hc
  have hb0 := (Below.refl w.heap.size w).alloc (Nat.le_refl _) (.cells #[.int .i64 W, .slice a n cap] 26)
  have hbox0 := RgAt.new (w := w) W (.slice a n cap) rfl
  have hsz0 : (w.alloc (.cells #[.int .i64 W, .slice a n cap] 26)).heap.size = w.heap.size + 1 := by simp
  cases h : isReg W l with
  | false =>
    have HI := Lib.hid h
    have HO := Lib.hid (maskR_no h)
    clear h
    go_enter Tryz.func60, Tryz.ntmps60
    go_wp2_with fail
    refine (iIsReg B n cap a W l _ hn (H.out.on (hb0.mono hB)) (Nat.le_trans hB hb0.size)).mono ?_
    rintro e w' ⟨rfl, hb⟩
    rw [HI.out]
    go_wp2
    go_ret
    exact ⟨by rw [HO.out]; rfl, hb0.trans (hb.mono hb0.size)⟩
  | true =>
    obtain ⟨N, rfl, hr⟩ := isReg_out h
    have hln := HLN.out
    rw [hln] at hr
    have HR := Lib.hid hr
    have HI := Lib.hid h
    have HO := Lib.hid (maskR_yes hr)
    have hN6 := hr.w6
    have hn6 := hr.h6
    clear h hr hln
    go_enter Tryz.func60, Tryz.ntmps60
    go_wp2_with fail
    refine (iIsReg B n cap a N l _ hn (H.out.on (hb0.mono hB)) (Nat.le_trans hB hb0.size)).mono ?_
    rintro e W1 ⟨rfl, hb⟩
    rw [HI.out]
    have HB := Lib.hid (hb0.trans (hb.mono hb0.size))
    have hbox := hbox0.on hb hbox0.lt
    have hsz1 := hb.size
    rw [hsz0] at hsz1
    have c1 := hbox.c1
    clear hb hb0 hbox0 hsz0
    go_wp2
    clear c1
    go_loopw [3, 12] (fun v i wr => ∃ y m : Nat, y ≤ n ∧ i = .int .i64 y ∧ v = .int .i64 m ∧ Hid (m = mkTo N l y) ∧ Below (w.heap.size + 1) W1 wr) (fun _ i _ => n - (intOf i).toNat)
    case atStart => exact ⟨0, 0, by omega, rfl, rfl, rfl, Below.refl _ _⟩
    case round =>
      obtain ⟨y, m, hy, rfl, rfl, hmm, hb⟩ := hrel
      have hsz := hb.size
      have hbx := hbox.on hb (by omega)
      have c0 := hbx.c0
      have c1 := hbx.c1
      have hbw := HB.out.trans (hb.mono (by omega))
      by_cases hlt : y < n
      · have hy1 : (y : Int) < (n : Int) := by omega
        have hy0 : (0 : Int) ≤ (y : Int) := by omega
        obtain ⟨b, off, rfl, hbB, hcell⟩ := H.out.2.2 (by omega)
        have p1 := (hbw.cell (p := ⟨b, off + y, none⟩) (Nat.lt_of_lt_of_le hbB hB)).trans (hcell y hlt)
        rw [(HR.out.nat hlt).1] at p1
        have hm1 := HR.out.mk_lt y (by omega)
        have hm2 := pow36 HR.out.w6 HR.out.h6 (show y ≤ n by omega)
        rw [← hmm.out] at hm1
        have hrow := HR.out.row_lt hlt
        have HST := Lib.hid (show mkTo N l (y + 1) = mkTo N l y + rN l y * 2 ^ (y * N) from rfl)
        obtain ⟨s, hs⟩ : ∃ s : Nat, y * N = s := ⟨_, rfl⟩
        obtain ⟨t, ht⟩ : ∃ t : Nat, rN l y * 2 ^ s = t := ⟨_, rfl⟩
        obtain ⟨z, hz⟩ : ∃ z : Nat, rN l y = z := ⟨_, rfl⟩
        rw [hs, ht] at hrow
        rw [hs, ht] at HST
        rw [hz] at p1 ht
        rw [hs] at hm1 hm2
        have hmul : (y : Int) * (N : Int) = (s : Int) := by rw [← hs]; simp
        have hshl : (z : Int) * (2 : Int) ^ s = (t : Int) := by rw [← ht]; simp
        have hor : bits .or .i64 (m : Int) (t : Int) = ((m + t : Nat) : Int) := by
          have := i64_or_top s m z hm1 (by omega) (by rw [ht]; omega)
          rw [ht] at this
          exact this
        have HN := Lib.hid (show m + t = mkTo N l (y + 1) by rw [HST.out, ← hmm.out])
        have hmb : m < 68719476736 := by omega
        have hmt : m + t < 137438953472 := by omega
        clear hm1 hm2 hs ht hz HST hcell
        generalize m + t = u at *
        go_wp2
        go_roundw
        case rel => exact ⟨y + 1, u, by omega, by go_num, rfl, HN.out, hb⟩
        case measure => simp [intOf]; omega
      · obtain rfl : y = n := by omega
        go_wp2
        go_ret
        exact ⟨by rw [HO.out, ← hmm.out]; rfl, hbw⟩

set_option maxHeartbeats 1000000 in
theorem iBitOf (x y N b : Nat) (w : World) (h : y * N + x = b) (hb : b ≤ 50) (hx : x ≤ 8) (_hy : y ≤ 8) (_hN : N ≤ 6) :
    Calls Tryz.prog 170 #[.agg #[.int .i64 x, .int .i64 y], .int .i64 N] w fun e w' => e = .returned (.int .i64 (2 ^ b : Nat)) ∧ Below w.heap.size w w' := by
  have h1 : (2 : Nat) ^ b ≤ 2 ^ 50 := Nat.pow_le_pow_right (by omega) hb
  obtain ⟨m, hm, e⟩ := pw_nat b
  rw [hm] at h1
  obtain ⟨s, hs⟩ : ∃ s : Nat, y * N = s := ⟨_, rfl⟩
  have hmul : (y : Int) * (N : Int) = (s : Int) := by rw [← hs]; simp
  rw [hs] at h
  have hadd : (s : Int) + (x : Int) = (b : Int) := by omega
  rw [hm]
  clear hm hs
  go_enter Tryz.func170, Tryz.ntmps170
  go_wp2
  go_ret
  exact ⟨rfl, (Below.refl _ _).alloc (Nat.le_refl _) _⟩
end

end Go.Proofs.YtkcclhnligajeaaGreatDoor
