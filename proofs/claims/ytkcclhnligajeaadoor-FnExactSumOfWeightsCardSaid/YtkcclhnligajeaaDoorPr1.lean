/-
  Regions as a width and a list of rows, each row a number whose bits are cells: plain facts, nothing of the program.
-/
import Derived.Test.YtkcclhnligajeaaDoorPo2
namespace Go.Proofs.YtkcclhnligajeaaDoor

def okRow (W : Int) (r : Int) : Bool := decide (0 ≤ r) && decide (r < 2 ^ W.toNat)
def rowsTo (W : Int) (l : List Int) (k : Nat) : Bool := (List.range k).all fun j => okRow W (l.getD j 0)
def isReg (W : Int) (l : List Int) : Bool := inb W 1 6 && inb l.length 1 6 && rowsTo W l l.length
theorem rowsTo_step (W : Int) (l : List Int) (k : Nat) : rowsTo W l (k + 1) = (rowsTo W l k && okRow W (l.getD k 0)) := by
  unfold rowsTo; rw [List.range_succ, List.all_append]; simp
theorem rowsTo_iff (W : Int) (l : List Int) (k : Nat) : rowsTo W l k = true ↔ ∀ j, j < k → okRow W (l.getD j 0) = true := by
  unfold rowsTo; rw [List.all_eq_true]; simp
theorem rowsTo_false {W : Int} {l : List Int} {k n : Nat} (h : okRow W (l.getD k 0) = false) (hk : k < n) : rowsTo W l n = false := by
  cases h2 : rowsTo W l n with
  | false => rfl
  | true => have := (rowsTo_iff W l n).1 h2 k hk; rw [h] at this; cases this
/-- Rows of a grid that is right. -/
structure Rg (W H : Nat) (l : List Int) : Prop where
  w0 : 1 ≤ W
  w6 : W ≤ 6
  h0 : 1 ≤ H
  h6 : H ≤ 6
  len : l.length = H
  row : ∀ j, j < H → 0 ≤ l.getD j 0 ∧ l.getD j 0 < 2 ^ W
theorem isReg_out {W : Int} {l : List Int} (h : isReg W l = true) : ∃ n : Nat, W = n ∧ Rg n l.length l := by
  unfold isReg at h
  rw [Bool.and_eq_true, Bool.and_eq_true, rowsTo_iff] at h
  obtain ⟨⟨h1, h2⟩, h3⟩ := h
  simp [inb] at h1 h2
  refine ⟨W.toNat, by omega, by omega, by omega, by omega, by omega, rfl, fun j hj => ?_⟩
  have := h3 j hj
  simp [okRow] at this
  exact this
theorem isReg_of {W H : Nat} {l : List Int} (h : Rg W H l) : isReg W l = true := by
  unfold isReg
  rw [Bool.and_eq_true, Bool.and_eq_true, rowsTo_iff]
  have := h.w0
  have := h.w6
  have := h.h0
  have := h.h6
  have hl := h.len
  refine ⟨⟨by simp [inb]; omega, by simp [inb]; omega⟩, fun j hj => ?_⟩
  have := h.row j (by omega)
  simp [okRow]
  exact this
def rN (l : List Int) (y : Nat) : Nat := (l.getD y 0).toNat
theorem pow6 {W : Nat} (h : W ≤ 6) : 2 ^ W ≤ 64 := by
  have := Nat.pow_le_pow_right (show 0 < 2 by omega) h
  omega
theorem Rg.nat {W H : Nat} {l : List Int} (h : Rg W H l) {y : Nat} (hy : y < H) : l.getD y 0 = (rN l y : Int) ∧ rN l y < 2 ^ W ∧ rN l y < 64 := by
  have h1 := h.row y hy
  have h2 := pow6 h.w6
  unfold rN
  have e : ((2 ^ W : Nat) : Int) = (2 : Int) ^ W := by simp
  rw [← e] at h1
  omega
/-- Is a place a cell. -/
def bt (l : List Int) (q : Cl) : Bool := decide (0 ≤ q.1) && (decide (0 ≤ q.2) && (rN l q.2.toNat).testBit q.1.toNat)
theorem bt_iff (l : List Int) (q : Cl) : bt l q = true ↔ 0 ≤ q.1 ∧ 0 ≤ q.2 ∧ (rN l q.2.toNat).testBit q.1.toNat = true := by unfold bt; simp
theorem bt_nat (l : List Int) (x y : Nat) : bt l ((x : Int), (y : Int)) = (rN l y).testBit x := by unfold bt; simp
theorem rN_out {l : List Int} {y : Nat} (h : l.length ≤ y) : rN l y = 0 := by unfold rN; simp [List.getD, List.getElem?_eq_none h]
theorem tb_lt {n W x : Nat} (h : n < 2 ^ W) (hx : n.testBit x = true) : x < W := by
  by_cases h1 : x < W
  · exact h1
  · have h2 : n < 2 ^ x := Nat.lt_of_lt_of_le h (Nat.pow_le_pow_right (by omega) (by omega))
    rw [Nat.testBit_lt_two_pow h2] at hx
    cases hx
theorem Rg.bt_in {W H : Nat} {l : List Int} (h : Rg W H l) {q : Cl} (hq : bt l q = true) : (0 ≤ q.1 ∧ q.1 < W) ∧ 0 ≤ q.2 ∧ q.2 < H := by
  obtain ⟨h1, h2, h3⟩ := (bt_iff l q).1 hq
  have hy : q.2.toNat < H := by
    by_cases hy : q.2.toNat < H
    · exact hy
    · rw [rN_out (by have := h.len; omega)] at h3
      simp at h3
  have := tb_lt (h.nat hy).2.1 h3
  omega
theorem Rg.ext {W H : Nat} {a b : List Int} (ha : Rg W H a) (hb : Rg W H b) (h : ∀ q, bt a q = true ↔ bt b q = true) : a = b := by
  apply List.ext_getElem?
  intro y
  by_cases hy : y < H
  · have e : rN a y = rN b y := by
      apply Nat.eq_of_testBit_eq
      intro x
      have := h ((x : Int), (y : Int))
      rw [bt_nat, bt_nat] at this
      rw [Bool.eq_iff_iff]
      exact this
    have h1 := (ha.nat hy).1
    have h2 := (hb.nat hy).1
    rw [e, ← h2] at h1
    have ya : y < a.length := by rw [ha.len]; exact hy
    have yb : y < b.length := by rw [hb.len]; exact hy
    rw [List.getElem?_eq_getElem ya, List.getElem?_eq_getElem yb]
    simpa [List.getD, ya, yb] using h1
  · rw [List.getElem?_eq_none (by have := ha.len; omega), List.getElem?_eq_none (by have := hb.len; omega)]
def zerosR (H : Nat) : List Int := List.replicate H 0
theorem rN_zeros (H y : Nat) : rN (zerosR H) y = 0 := by unfold rN zerosR; by_cases h : y < H <;> simp [List.getD, h]
theorem bt_zeros (H : Nat) (q : Cl) : bt (zerosR H) q = false := by unfold bt; rw [rN_zeros]; simp
theorem zeros_get (H y : Nat) : (zerosR H).getD y 0 = 0 := by unfold zerosR; by_cases h : y < H <;> simp [List.getD, h]
theorem Rg.zeros {W H : Nat} (h1 : 1 ≤ W) (h2 : W ≤ 6) (h3 : 1 ≤ H) (h4 : H ≤ 6) : Rg W H (zerosR H) :=
  ⟨h1, h2, h3, h4, by simp [zerosR], fun j _ => by rw [zeros_get]; exact ⟨Int.le_refl _, Int.pow_pos (by omega)⟩⟩
/-- One cell more, one cell less. -/
def setB (l : List Int) (q : Cl) : List Int := l.set q.2.toNat ((rN l q.2.toNat ||| 2 ^ q.1.toNat : Nat) : Int)
def clrN (n x : Nat) : Nat := if n.testBit x = true then n - 2 ^ x else n
def clrB (l : List Int) (q : Cl) : List Int := l.set q.2.toNat ((clrN (rN l q.2.toNat) q.1.toNat : Nat) : Int)
theorem rN_set (l : List Int) {y : Nat} (hy : y < l.length) (n j : Nat) : rN (l.set y (n : Int)) j = if j = y then n else rN l j := by
  unfold rN
  by_cases e : j = y
  · subst e; simp [List.getD, hy]
  · have e2 : ¬ y = j := fun h => e h.symm
    simp [List.getD, e, e2]
theorem clr_bits : ∀ n, n < 64 → ∀ x, x < 6 → ∀ y, y < 6 → (clrN n x).testBit y = (n.testBit y && !decide (y = x)) := by decide +kernel
theorem clrN_le (n x : Nat) : clrN n x ≤ n := by
  unfold clrN
  split
  · exact Nat.sub_le _ _
  · exact Nat.le_refl _
theorem clr_bit {n x : Nat} (hn : n < 64) (hx : x < 6) (y : Nat) : (clrN n x).testBit y = (n.testBit y && !decide (y = x)) := by
  by_cases hy : y < 6
  · exact clr_bits n hn x hx y hy
  · have h1 : 64 ≤ 2 ^ y := Nat.pow_le_pow_right (show 0 < 2 by omega) (show 6 ≤ y by omega)
    have := clrN_le n x
    rw [Nat.testBit_lt_two_pow (show clrN n x < 2 ^ y by omega), Nat.testBit_lt_two_pow (show n < 2 ^ y by omega)]
    rfl
theorem set_bit (n x y : Nat) : (n ||| 2 ^ x).testBit y = (n.testBit y || decide (y = x)) := by
  rw [Nat.testBit_or, Nat.testBit_two_pow]
  congr 1
  rw [Bool.eq_iff_iff]
  simp [eq_comm]
def inG (W H : Nat) (q : Cl) : Prop := (0 ≤ q.1 ∧ q.1 < W) ∧ 0 ≤ q.2 ∧ q.2 < H
theorem Rg.rows {W H : Nat} {l : List Int} (h : Rg W H l) {y n : Nat} (hy : y < H) (hn : n < 2 ^ W) : Rg W H (l.set y (n : Int)) :=
  ⟨h.w0, h.w6, h.h0, h.h6, by rw [List.length_set]; exact h.len, fun j hj => by
    by_cases e : j = y
    · subst e
      have : (l.set j (n : Int)).getD j 0 = (n : Int) := by simp [List.getD, h.len, hj]
      rw [this]
      have e : ((2 ^ W : Nat) : Int) = (2 : Int) ^ W := by simp
      rw [← e]
      omega
    · have e2 : ¬ y = j := fun h => e h.symm
      have : (l.set y (n : Int)).getD j 0 = l.getD j 0 := by simp [List.getD, e2]
      rw [this]
      exact h.row j hj⟩
theorem Rg.set {W H : Nat} {l : List Int} (h : Rg W H l) {q : Cl} (hq : inG W H q) : Rg W H (setB l q) := by
  have hy : q.2.toNat < H := by have := hq.2; omega
  have hx : q.1.toNat < W := by have := hq.1; omega
  exact h.rows hy (Nat.or_lt_two_pow (h.nat hy).2.1 (Nat.pow_lt_pow_right (by omega) hx))
theorem Rg.clr {W H : Nat} {l : List Int} (h : Rg W H l) {q : Cl} (hq : inG W H q) : Rg W H (clrB l q) := by
  have hy : q.2.toNat < H := by have := hq.2; omega
  exact h.rows hy (Nat.lt_of_le_of_lt (clrN_le _ _) (h.nat hy).2.1)
theorem cl_eq {p q : Cl} (hp : 0 ≤ p.1 ∧ 0 ≤ p.2) (hq : 0 ≤ q.1 ∧ 0 ≤ q.2) : p = q ↔ p.2.toNat = q.2.toNat ∧ p.1.toNat = q.1.toNat := by
  constructor
  · rintro rfl; exact ⟨rfl, rfl⟩
  · rintro ⟨h1, h2⟩
    obtain ⟨a, b⟩ := p
    obtain ⟨c, d⟩ := q
    dsimp only at *
    congr 1 <;> omega
theorem Rg.bt_set {W H : Nat} {l : List Int} (h : Rg W H l) {q : Cl} (hq : inG W H q) (p : Cl) : bt (setB l q) p = true ↔ bt l p = true ∨ p = q := by
  have hy : q.2.toNat < l.length := by have := hq.2; have := h.len; omega
  rw [bt_iff, bt_iff]
  unfold setB
  rw [rN_set l hy]
  have hq0 : 0 ≤ q.1 ∧ 0 ≤ q.2 := ⟨hq.1.1, hq.2.1⟩
  by_cases e : p.2.toNat = q.2.toNat
  · rw [if_pos e, set_bit, Bool.or_eq_true, decide_eq_true_eq, ← e]
    constructor
    · rintro ⟨h1, h2, h3 | h3⟩
      · exact .inl ⟨h1, h2, h3⟩
      · exact .inr ((cl_eq ⟨h1, h2⟩ hq0).2 ⟨e, h3⟩)
    · rintro (⟨h1, h2, h3⟩ | rfl)
      · exact ⟨h1, h2, .inl h3⟩
      · exact ⟨hq0.1, hq0.2, .inr rfl⟩
  · rw [if_neg e]
    constructor
    · exact fun h => .inl h
    · rintro (h | rfl)
      · exact h
      · exact absurd rfl e
theorem Rg.bt_clr {W H : Nat} {l : List Int} (h : Rg W H l) {q : Cl} (hq : inG W H q) (p : Cl) : bt (clrB l q) p = true ↔ bt l p = true ∧ p ≠ q := by
  have hyH : q.2.toNat < H := by have := hq.2; omega
  have hy : q.2.toNat < l.length := by have := h.len; omega
  have hx6 : q.1.toNat < 6 := by have := hq.1; have := h.w6; omega
  rw [bt_iff, bt_iff]
  unfold clrB
  rw [rN_set l hy]
  have hq0 : 0 ≤ q.1 ∧ 0 ≤ q.2 := ⟨hq.1.1, hq.2.1⟩
  by_cases e : p.2.toNat = q.2.toNat
  · rw [if_pos e, clr_bit (h.nat hyH).2.2 hx6, Bool.and_eq_true, ← e]
    constructor
    · rintro ⟨h1, h2, h3, h4⟩
      refine ⟨⟨h1, h2, h3⟩, ?_⟩
      rintro rfl
      simp at h4
    · rintro ⟨⟨h1, h2, h3⟩, h4⟩
      refine ⟨h1, h2, h3, ?_⟩
      simp only [Bool.not_eq_true', decide_eq_false_iff_not]
      exact fun h5 => h4 ((cl_eq ⟨h1, h2⟩ hq0).2 ⟨e, h5⟩)
  · rw [if_neg e]
    constructor
    · intro h5
      refine ⟨h5, ?_⟩
      rintro rfl
      exact e rfl
    · exact fun h => h.1
theorem add_bit : ∀ n, n < 64 → ∀ x, x < 6 → n.testBit x = false → n + 2 ^ x = n ||| 2 ^ x := by decide +kernel
theorem shr_bit : ∀ n, n < 64 → ∀ x, x < 6 → n / 2 ^ x &&& 1 = (n.testBit x).toNat := by decide +kernel

/-! ### The cells in order -/
def cellsB (W H : Nat) (l : List Int) : List Cl := (gTo W H).filter (bt l)
theorem mem_cellsB {W H : Nat} {l : List Int} (h : Rg W H l) (q : Cl) : q ∈ cellsB W H l ↔ bt l q = true := by
  unfold cellsB
  rw [List.mem_filter, mem_gTo]
  constructor
  · exact fun h => h.2
  · intro hq
    have := h.bt_in hq
    exact ⟨⟨this.2, this.1⟩, hq⟩
theorem cellsB_srt (W H : Nat) (l : List Int) : Srt (cellsB W H l) := List.Pairwise.sublist List.filter_sublist (gTo_srt W H)
theorem cellsB_len (W H : Nat) (l : List Int) (hW : W ≤ 6) (hH : H ≤ 6) : (cellsB W H l).length ≤ 36 := by
  have h1 := List.length_filter_le (bt l) (gTo W H)
  rw [gTo_len] at h1
  have := Nat.mul_le_mul hW hH
  unfold cellsB
  omega
theorem cellsB_in {W H : Nat} {l : List Int} (hW : W ≤ 6) (hH : H ≤ 6) : ∀ c ∈ cellsB W H l, (0 ≤ c.1 ∧ c.1 < 6) ∧ 0 ≤ c.2 ∧ c.2 < 6 := fun c hc => by
  have := (mem_gTo W c H).1 (List.mem_filter.1 hc).1
  omega
def cellsR (W : Int) (l : List Int) : List Cl := if isReg W l = true then cellsB W.toNat l.length l else []
theorem cellsR_yes {W H : Nat} {l : List Int} (h : Rg W H l) : cellsR W l = cellsB W H l := by
  unfold cellsR
  rw [if_pos (isReg_of h), h.len]
  rfl
theorem cellsR_no {W : Int} {l : List Int} (h : isReg W l = false) : cellsR W l = [] := if_neg (by rw [h]; simp)
theorem cellsR_in (W : Int) (l : List Int) : ∀ c ∈ cellsR W l, (0 ≤ c.1 ∧ c.1 < 6) ∧ 0 ≤ c.2 ∧ c.2 < 6 := by
  cases h : isReg W l with
  | false => rw [cellsR_no h]; intro c hc; cases hc
  | true =>
    obtain ⟨n, rfl, hr⟩ := isReg_out h
    rw [cellsR_yes hr]
    exact cellsB_in hr.w6 hr.h6
theorem cellsR_len (W : Int) (l : List Int) : (cellsR W l).length ≤ 36 := by
  cases h : isReg W l with
  | false => rw [cellsR_no h]; simp
  | true =>
    obtain ⟨n, rfl, hr⟩ := isReg_out h
    rw [cellsR_yes hr]
    exact cellsB_len _ _ _ hr.w6 hr.h6
theorem cellsR_inC (W : Int) (l : List Int) : ∀ c ∈ cellsR W l, InC c := fun c hc => by
  have := cellsR_in W l c hc
  unfold InC
  omega
/-! ### How many -/
def areaR (W : Int) (l : List Int) : Int := if isReg W l = true then ((cellsR W l).length : Int) else -1
def popc (n : Nat) : Nat := ((List.range 6).filter n.testBit).length
theorem pop_row : ∀ n, n < 64 → ∀ W, W ≤ 6 → n < 2 ^ W → ((List.range W).filter n.testBit).length = popc n := by decide +kernel
theorem gRow_bits (l : List Int) (y : Nat) : ∀ x, ((gRow (y : Int) x).filter (bt l)).length = ((List.range x).filter (rN l y).testBit).length
  | 0 => rfl
  | x + 1 => by
    rw [gRow, List.filter_append, List.length_append, gRow_bits l y x, List.range_succ, List.filter_append, List.length_append]
    congr 1
    have := bt_nat l x y
    cases h : (rN l y).testBit x <;> rw [h] at this <;> simp [this, h]
theorem area_step {W H : Nat} {l : List Int} (h : Rg W H l) {y : Nat} (hy : y < H) : (cellsB W (y + 1) l).length = (cellsB W y l).length + popc (rN l y) := by
  unfold cellsB
  rw [gTo, List.filter_append, List.length_append, gRow_bits, pop_row _ (h.nat hy).2.2 _ h.w6 (h.nat hy).2.1]
theorem popc_le (n : Nat) : popc n ≤ 6 := by
  have := List.length_filter_le n.testBit (List.range 6)
  rw [List.length_range] at this
  exact this
theorem areaR_yes {W H : Nat} {l : List Int} (h : Rg W H l) : areaR W l = ((cellsB W H l).length : Int) := by
  unfold areaR
  rw [if_pos (isReg_of h), cellsR_yes h]
theorem areaR_no {W : Int} {l : List Int} (h : isReg W l = false) : areaR W l = -1 := if_neg (by rw [h]; simp)
/-! ### Colours -/
def colTo (k : Nat) (cs : List Cl) : Nat → List Int
  | 0 => List.replicate k 0
  | j + 1 => (colTo k cs j).set (((cs.getD j (0, 0)).1 + (cs.getD j (0, 0)).2).toNat % k) ((colTo k cs j).getD (((cs.getD j (0, 0)).1 + (cs.getD j (0, 0)).2).toNat % k) 0 + 1)
theorem colTo_len (k : Nat) (cs : List Cl) : ∀ j, (colTo k cs j).length = k
  | 0 => by simp [colTo]
  | j + 1 => by rw [colTo, List.length_set, colTo_len k cs j]
theorem colTo_bd (k : Nat) (cs : List Cl) : ∀ j i, 0 ≤ (colTo k cs j).getD i 0 ∧ (colTo k cs j).getD i 0 ≤ j
  | 0, i => by by_cases h : i < k <;> simp [colTo, List.getD, h]
  | j + 1, i => by
    rw [colTo]
    have h1 := colTo_bd k cs j i
    generalize ((cs.getD j (0, 0)).1 + (cs.getD j (0, 0)).2).toNat % k = m
    have h2 := colTo_bd k cs j m
    by_cases e : m = i
    · subst e
      by_cases hm : m < (colTo k cs j).length
      · have e2 : ((colTo k cs j).set m ((colTo k cs j).getD m 0 + 1)).getD m 0 = (colTo k cs j).getD m 0 + 1 := by
          generalize (colTo k cs j).getD m 0 + 1 = v
          simp [List.getD, hm]
        rw [e2]
        omega
      · have e2 : ((colTo k cs j).set m ((colTo k cs j).getD m 0 + 1)).getD m 0 = 0 := by
          rw [List.getD, List.getElem?_eq_none (by rw [List.length_set]; omega)]
          rfl
        rw [e2]
        omega
    · have e2 : ((colTo k cs j).set m ((colTo k cs j).getD m 0 + 1)).getD i 0 = (colTo k cs j).getD i 0 := by
        generalize (colTo k cs j).getD m 0 + 1 = v
        simp [List.getD, e]
      rw [e2]
      omega
def colR (W : Int) (l : List Int) (k : Int) : List Int := if (isReg W l && inb k 1 6) = true then colTo k.toNat (cellsR W l) (cellsR W l).length else []
/-! ### As text -/
def rowB (l : List Int) (y x : Nat) : List UInt8 := (List.range x).map fun (j : Nat) => if bt l ((j : Int), (y : Int)) = true then 35 else 46
def fmtT (W : Nat) (l : List Int) : Nat → List UInt8
  | 0 => []
  | y + 1 => fmtT W l y ++ ((if y = 0 then [] else [47]) ++ rowB l y W)
def fmtR (W : Int) (l : List Int) : List UInt8 := if isReg W l = true then fmtT W.toNat l l.length else []
theorem rowB_step (l : List Int) (y x : Nat) : rowB l y (x + 1) = rowB l y x ++ [if bt l ((x : Int), (y : Int)) = true then 35 else 46] := by
  unfold rowB
  rw [List.range_succ, List.map_append]
  rfl
theorem rowB_ln (l : List Int) (y x : Nat) : (rowB l y x).length = x := by simp [rowB]
theorem fmtT_le (W : Nat) (l : List Int) : ∀ y, (fmtT W l y).length ≤ (W + 1) * y
  | 0 => by simp [fmtT]
  | y + 1 => by
    have := fmtT_le W l y
    rw [fmtT, List.length_append, List.length_append, rowB_ln, Nat.mul_succ]
    split
    · simp; omega
    · simp; omega
theorem fmtR_yes {W H : Nat} {l : List Int} (h : Rg W H l) : fmtR W l = fmtT W l H := by
  unfold fmtR
  rw [if_pos (isReg_of h), h.len]
  rfl
theorem fmtR_no {W : Int} {l : List Int} (h : isReg W l = false) : fmtR W l = [] := if_neg (by rw [h]; simp)

end Go.Proofs.YtkcclhnligajeaaDoor
