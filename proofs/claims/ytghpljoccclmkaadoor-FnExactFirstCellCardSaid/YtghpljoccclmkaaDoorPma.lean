/-
  Regions as a width and a list of rows, each row a number whose bits are cells: plain facts, nothing of the program.
  Masks: places of a grid as the bits of a number: plain facts, nothing of the program.
  Ascending lists of numbers; where a shape can lie in a region, as masks: plain facts, nothing of the program.
-/
import Derived.Test.YtghpljoccclmkaaDoorPen
import Derived.Lib.TrailingZeros
import Derived.Test.YtghpljoccclmkaaDoorPall
import Derived.Lib.SlicesCompact
namespace Go.Proofs.YtghpljoccclmkaaDoor

section
def okRow (W : Int) (r : Int) : Bool := decide (0 ≤ r) && decide (r < 2 ^ W.toNat)
def rowsTo (W : Int) (l : List Int) (k : Nat) : Bool := (List.range k).all fun j => okRow W (l.getD j 0)
def isReg (W : Int) (l : List Int) : Bool := inb W 1 6 && inb l.length 1 6 && rowsTo W l l.length
theorem rowsTo_step (W : Int) (l : List Int) (k : Nat) : rowsTo W l (k + 1) = (rowsTo W l k && okRow W (l.getD k 0)) := by
  unfold rowsTo; rw [List.range_succ, List.all_append]; simp
theorem rowsTo_iff (W : Int) (l : List Int) (k : Nat) : rowsTo W l k = true ↔ ∀ j, j < k → okRow W (l.getD j 0) = true := by
  unfold rowsTo; rw [List.all_eq_true]; simp
theorem rowsTo_false {W : Int} {l : List Int} {k n : Nat} (h : okRow W (l.getD k 0) = false) (hk : k < n) : rowsTo W l n = false := by
  cases h2 : rowsTo W l n with
  | false => rfl
  | true => have := (rowsTo_iff W l n).1 h2 k hk; rw [h] at this; cases this
/-- Rows of a grid that is right. -/
structure Rg (W H : Nat) (l : List Int) : Prop where
  w0 : 1 ≤ W
  w6 : W ≤ 6
  h0 : 1 ≤ H
  h6 : H ≤ 6
  len : l.length = H
  row : ∀ j, j < H → 0 ≤ l.getD j 0 ∧ l.getD j 0 < 2 ^ W
theorem isReg_out {W : Int} {l : List Int} (h : isReg W l = true) : ∃ n : Nat, W = n ∧ Rg n l.length l := by
  unfold isReg at h
  rw [Bool.and_eq_true, Bool.and_eq_true, rowsTo_iff] at h
  obtain ⟨⟨h1, h2⟩, h3⟩ := h
  simp [inb] at h1 h2
  refine ⟨W.toNat, by omega, by omega, by omega, by omega, by omega, rfl, fun j hj => ?_⟩
  have := h3 j hj
  simp [okRow] at this
  exact this
theorem isReg_of {W H : Nat} {l : List Int} (h : Rg W H l) : isReg W l = true := by
  unfold isReg
  rw [Bool.and_eq_true, Bool.and_eq_true, rowsTo_iff]
  have := h.w0
  have := h.w6
  have := h.h0
  have := h.h6
  have hl := h.len
  refine ⟨⟨by simp [inb]; omega, by simp [inb]; omega⟩, fun j hj => ?_⟩
  have := h.row j (by omega)
  simp [okRow]
  exact this
def rN (l : List Int) (y : Nat) : Nat := (l.getD y 0).toNat
theorem pow6 {W : Nat} (h : W ≤ 6) : 2 ^ W ≤ 64 := by
  have := Nat.pow_le_pow_right (show 0 < 2 by omega) h
  omega
theorem Rg.nat {W H : Nat} {l : List Int} (h : Rg W H l) {y : Nat} (hy : y < H) : l.getD y 0 = (rN l y : Int) ∧ rN l y < 2 ^ W ∧ rN l y < 64 := by
  have h1 := h.row y hy
  have h2 := pow6 h.w6
  unfold rN
  have e : ((2 ^ W : Nat) : Int) = (2 : Int) ^ W := by simp
  rw [← e] at h1
  omega
/-- Is a place a cell. -/
def bt (l : List Int) (q : Cl) : Bool := decide (0 ≤ q.1) && (decide (0 ≤ q.2) && (rN l q.2.toNat).testBit q.1.toNat)
theorem bt_iff (l : List Int) (q : Cl) : bt l q = true ↔ 0 ≤ q.1 ∧ 0 ≤ q.2 ∧ (rN l q.2.toNat).testBit q.1.toNat = true := by unfold bt; simp
theorem bt_nat (l : List Int) (x y : Nat) : bt l ((x : Int), (y : Int)) = (rN l y).testBit x := by unfold bt; simp
theorem rN_out {l : List Int} {y : Nat} (h : l.length ≤ y) : rN l y = 0 := by unfold rN; simp [List.getD, List.getElem?_eq_none h]
theorem tb_lt {n W x : Nat} (h : n < 2 ^ W) (hx : n.testBit x = true) : x < W := by
  by_cases h1 : x < W
  · exact h1
  · have h2 : n < 2 ^ x := Nat.lt_of_lt_of_le h (Nat.pow_le_pow_right (by omega) (by omega))
    rw [Nat.testBit_lt_two_pow h2] at hx
    cases hx
theorem Rg.bt_in {W H : Nat} {l : List Int} (h : Rg W H l) {q : Cl} (hq : bt l q = true) : (0 ≤ q.1 ∧ q.1 < W) ∧ 0 ≤ q.2 ∧ q.2 < H := by
  obtain ⟨h1, h2, h3⟩ := (bt_iff l q).1 hq
  have hy : q.2.toNat < H := by
    by_cases hy : q.2.toNat < H
    · exact hy
    · rw [rN_out (by have := h.len; omega)] at h3
      simp at h3
  have := tb_lt (h.nat hy).2.1 h3
  omega
theorem Rg.ext {W H : Nat} {a b : List Int} (ha : Rg W H a) (hb : Rg W H b) (h : ∀ q, bt a q = true ↔ bt b q = true) : a = b := by
  apply List.ext_getElem?
  intro y
  by_cases hy : y < H
  · have e : rN a y = rN b y := by
      apply Nat.eq_of_testBit_eq
      intro x
      have := h ((x : Int), (y : Int))
      rw [bt_nat, bt_nat] at this
      rw [Bool.eq_iff_iff]
      exact this
    have h1 := (ha.nat hy).1
    have h2 := (hb.nat hy).1
    rw [e, ← h2] at h1
    have ya : y < a.length := by rw [ha.len]; exact hy
    have yb : y < b.length := by rw [hb.len]; exact hy
    rw [List.getElem?_eq_getElem ya, List.getElem?_eq_getElem yb]
    simpa [List.getD, ya, yb] using h1
  · rw [List.getElem?_eq_none (by have := ha.len; omega), List.getElem?_eq_none (by have := hb.len; omega)]
def zerosR (H : Nat) : List Int := List.replicate H 0
theorem rN_zeros (H y : Nat) : rN (zerosR H) y = 0 := by unfold rN zerosR; by_cases h : y < H <;> simp [List.getD, h]
theorem bt_zeros (H : Nat) (q : Cl) : bt (zerosR H) q = false := by unfold bt; rw [rN_zeros]; simp
theorem zeros_get (H y : Nat) : (zerosR H).getD y 0 = 0 := by unfold zerosR; by_cases h : y < H <;> simp [List.getD, h]
theorem Rg.zeros {W H : Nat} (h1 : 1 ≤ W) (h2 : W ≤ 6) (h3 : 1 ≤ H) (h4 : H ≤ 6) : Rg W H (zerosR H) :=
  ⟨h1, h2, h3, h4, by simp [zerosR], fun j _ => by rw [zeros_get]; exact ⟨Int.le_refl _, Int.pow_pos (by omega)⟩⟩
/-- One cell more, one cell less. -/
def setB (l : List Int) (q : Cl) : List Int := l.set q.2.toNat ((rN l q.2.toNat ||| 2 ^ q.1.toNat : Nat) : Int)
def clrN (n x : Nat) : Nat := if n.testBit x = true then n - 2 ^ x else n
def clrB (l : List Int) (q : Cl) : List Int := l.set q.2.toNat ((clrN (rN l q.2.toNat) q.1.toNat : Nat) : Int)
theorem rN_set (l : List Int) {y : Nat} (hy : y < l.length) (n j : Nat) : rN (l.set y (n : Int)) j = if j = y then n else rN l j := by
  unfold rN
  by_cases e : j = y
  · subst e; simp [List.getD, hy]
  · have e2 : ¬ y = j := fun h => e h.symm
    simp [List.getD, e, e2]
theorem clr_bits : ∀ n, n < 64 → ∀ x, x < 6 → ∀ y, y < 6 → (clrN n x).testBit y = (n.testBit y && !decide (y = x)) := by decide +kernel
theorem clrN_le (n x : Nat) : clrN n x ≤ n := by
  unfold clrN
  split
  · exact Nat.sub_le _ _
  · exact Nat.le_refl _
theorem clr_bit {n x : Nat} (hn : n < 64) (hx : x < 6) (y : Nat) : (clrN n x).testBit y = (n.testBit y && !decide (y = x)) := by
  by_cases hy : y < 6
  · exact clr_bits n hn x hx y hy
  · have h1 : 64 ≤ 2 ^ y := Nat.pow_le_pow_right (show 0 < 2 by omega) (show 6 ≤ y by omega)
    have := clrN_le n x
    rw [Nat.testBit_lt_two_pow (show clrN n x < 2 ^ y by omega), Nat.testBit_lt_two_pow (show n < 2 ^ y by omega)]
    rfl
theorem set_bit (n x y : Nat) : (n ||| 2 ^ x).testBit y = (n.testBit y || decide (y = x)) := by
  rw [Nat.testBit_or, Nat.testBit_two_pow]
  congr 1
  rw [Bool.eq_iff_iff]
  simp [eq_comm]
def inG (W H : Nat) (q : Cl) : Prop := (0 ≤ q.1 ∧ q.1 < W) ∧ 0 ≤ q.2 ∧ q.2 < H
theorem Rg.rows {W H : Nat} {l : List Int} (h : Rg W H l) {y n : Nat} (hy : y < H) (hn : n < 2 ^ W) : Rg W H (l.set y (n : Int)) :=
  ⟨h.w0, h.w6, h.h0, h.h6, by rw [List.length_set]; exact h.len, fun j hj => by
    by_cases e : j = y
    · subst e
      have : (l.set j (n : Int)).getD j 0 = (n : Int) := by simp [List.getD, h.len, hj]
      rw [this]
      have e : ((2 ^ W : Nat) : Int) = (2 : Int) ^ W := by simp
      rw [← e]
      omega
    · have e2 : ¬ y = j := fun h => e h.symm
      have : (l.set y (n : Int)).getD j 0 = l.getD j 0 := by simp [List.getD, e2]
      rw [this]
      exact h.row j hj⟩
theorem Rg.set {W H : Nat} {l : List Int} (h : Rg W H l) {q : Cl} (hq : inG W H q) : Rg W H (setB l q) := by
  have hy : q.2.toNat < H := by have := hq.2; omega
  have hx : q.1.toNat < W := by have := hq.1; omega
  exact h.rows hy (Nat.or_lt_two_pow (h.nat hy).2.1 (Nat.pow_lt_pow_right (by omega) hx))
theorem Rg.clr {W H : Nat} {l : List Int} (h : Rg W H l) {q : Cl} (hq : inG W H q) : Rg W H (clrB l q) := by
  have hy : q.2.toNat < H := by have := hq.2; omega
  exact h.rows hy (Nat.lt_of_le_of_lt (clrN_le _ _) (h.nat hy).2.1)
theorem cl_eq {p q : Cl} (hp : 0 ≤ p.1 ∧ 0 ≤ p.2) (hq : 0 ≤ q.1 ∧ 0 ≤ q.2) : p = q ↔ p.2.toNat = q.2.toNat ∧ p.1.toNat = q.1.toNat := by
  constructor
  · rintro rfl; exact ⟨rfl, rfl⟩
  · rintro ⟨h1, h2⟩
    obtain ⟨a, b⟩ := p
    obtain ⟨c, d⟩ := q
    dsimp only at *
    congr 1 <;> omega
theorem Rg.bt_set {W H : Nat} {l : List Int} (h : Rg W H l) {q : Cl} (hq : inG W H q) (p : Cl) : bt (setB l q) p = true ↔ bt l p = true ∨ p = q := by
  have hy : q.2.toNat < l.length := by have := hq.2; have := h.len; omega
  rw [bt_iff, bt_iff]
  unfold setB
  rw [rN_set l hy]
  have hq0 : 0 ≤ q.1 ∧ 0 ≤ q.2 := ⟨hq.1.1, hq.2.1⟩
  by_cases e : p.2.toNat = q.2.toNat
  · rw [if_pos e, set_bit, Bool.or_eq_true, decide_eq_true_eq, ← e]
    constructor
    · rintro ⟨h1, h2, h3 | h3⟩
      · exact .inl ⟨h1, h2, h3⟩
      · exact .inr ((cl_eq ⟨h1, h2⟩ hq0).2 ⟨e, h3⟩)
    · rintro (⟨h1, h2, h3⟩ | rfl)
      · exact ⟨h1, h2, .inl h3⟩
      · exact ⟨hq0.1, hq0.2, .inr rfl⟩
  · rw [if_neg e]
    constructor
    · exact fun h => .inl h
    · rintro (h | rfl)
      · exact h
      · exact absurd rfl e
theorem Rg.bt_clr {W H : Nat} {l : List Int} (h : Rg W H l) {q : Cl} (hq : inG W H q) (p : Cl) : bt (clrB l q) p = true ↔ bt l p = true ∧ p ≠ q := by
  have hyH : q.2.toNat < H := by have := hq.2; omega
  have hy : q.2.toNat < l.length := by have := h.len; omega
  have hx6 : q.1.toNat < 6 := by have := hq.1; have := h.w6; omega
  rw [bt_iff, bt_iff]
  unfold clrB
  rw [rN_set l hy]
  have hq0 : 0 ≤ q.1 ∧ 0 ≤ q.2 := ⟨hq.1.1, hq.2.1⟩
  by_cases e : p.2.toNat = q.2.toNat
  · rw [if_pos e, clr_bit (h.nat hyH).2.2 hx6, Bool.and_eq_true, ← e]
    constructor
    · rintro ⟨h1, h2, h3, h4⟩
      refine ⟨⟨h1, h2, h3⟩, ?_⟩
      rintro rfl
      simp at h4
    · rintro ⟨⟨h1, h2, h3⟩, h4⟩
      refine ⟨h1, h2, h3, ?_⟩
      simp only [Bool.not_eq_true', decide_eq_false_iff_not]
      exact fun h5 => h4 ((cl_eq ⟨h1, h2⟩ hq0).2 ⟨e, h5⟩)
  · rw [if_neg e]
    constructor
    · intro h5
      refine ⟨h5, ?_⟩
      rintro rfl
      exact e rfl
    · exact fun h => h.1
theorem add_bit : ∀ n, n < 64 → ∀ x, x < 6 → n.testBit x = false → n + 2 ^ x = n ||| 2 ^ x := by decide +kernel
theorem shr_bit : ∀ n, n < 64 → ∀ x, x < 6 → n / 2 ^ x &&& 1 = (n.testBit x).toNat := by decide +kernel

/-! ### The cells in order -/
def cellsB (W H : Nat) (l : List Int) : List Cl := (gTo W H).filter (bt l)
theorem mem_cellsB {W H : Nat} {l : List Int} (h : Rg W H l) (q : Cl) : q ∈ cellsB W H l ↔ bt l q = true := by
  unfold cellsB
  rw [List.mem_filter, mem_gTo]
  constructor
  · exact fun h => h.2
  · intro hq
    have := h.bt_in hq
    exact ⟨⟨this.2, this.1⟩, hq⟩
theorem cellsB_srt (W H : Nat) (l : List Int) : Srt (cellsB W H l) := List.Pairwise.sublist List.filter_sublist (gTo_srt W H)
theorem cellsB_len (W H : Nat) (l : List Int) (hW : W ≤ 6) (hH : H ≤ 6) : (cellsB W H l).length ≤ 36 := by
  have h1 := List.length_filter_le (bt l) (gTo W H)
  rw [gTo_len] at h1
  have := Nat.mul_le_mul hW hH
  unfold cellsB
  omega
theorem cellsB_in {W H : Nat} {l : List Int} (hW : W ≤ 6) (hH : H ≤ 6) : ∀ c ∈ cellsB W H l, (0 ≤ c.1 ∧ c.1 < 6) ∧ 0 ≤ c.2 ∧ c.2 < 6 := fun c hc => by
  have := (mem_gTo W c H).1 (List.mem_filter.1 hc).1
  omega
def cellsR (W : Int) (l : List Int) : List Cl := if isReg W l = true then cellsB W.toNat l.length l else []
theorem cellsR_yes {W H : Nat} {l : List Int} (h : Rg W H l) : cellsR W l = cellsB W H l := by
  unfold cellsR
  rw [if_pos (isReg_of h), h.len]
  rfl
theorem cellsR_no {W : Int} {l : List Int} (h : isReg W l = false) : cellsR W l = [] := if_neg (by rw [h]; simp)
theorem cellsR_in (W : Int) (l : List Int) : ∀ c ∈ cellsR W l, (0 ≤ c.1 ∧ c.1 < 6) ∧ 0 ≤ c.2 ∧ c.2 < 6 := by
  cases h : isReg W l with
  | false => rw [cellsR_no h]; intro c hc; cases hc
  | true =>
    obtain ⟨n, rfl, hr⟩ := isReg_out h
    rw [cellsR_yes hr]
    exact cellsB_in hr.w6 hr.h6
theorem cellsR_len (W : Int) (l : List Int) : (cellsR W l).length ≤ 36 := by
  cases h : isReg W l with
  | false => rw [cellsR_no h]; simp
  | true =>
    obtain ⟨n, rfl, hr⟩ := isReg_out h
    rw [cellsR_yes hr]
    exact cellsB_len _ _ _ hr.w6 hr.h6
theorem cellsR_inC (W : Int) (l : List Int) : ∀ c ∈ cellsR W l, InC c := fun c hc => by
  have := cellsR_in W l c hc
  unfold InC
  omega
/-! ### How many -/
def areaR (W : Int) (l : List Int) : Int := if isReg W l = true then ((cellsR W l).length : Int) else -1
def popc (n : Nat) : Nat := ((List.range 6).filter n.testBit).length
theorem pop_row : ∀ n, n < 64 → ∀ W, W ≤ 6 → n < 2 ^ W → ((List.range W).filter n.testBit).length = popc n := by decide +kernel
theorem gRow_bits (l : List Int) (y : Nat) : ∀ x, ((gRow (y : Int) x).filter (bt l)).length = ((List.range x).filter (rN l y).testBit).length
  | 0 => rfl
  | x + 1 => by
    rw [gRow, List.filter_append, List.length_append, gRow_bits l y x, List.range_succ, List.filter_append, List.length_append]
    congr 1
    have := bt_nat l x y
    cases h : (rN l y).testBit x <;> rw [h] at this <;> simp [this, h]
theorem area_step {W H : Nat} {l : List Int} (h : Rg W H l) {y : Nat} (hy : y < H) : (cellsB W (y + 1) l).length = (cellsB W y l).length + popc (rN l y) := by
  unfold cellsB
  rw [gTo, List.filter_append, List.length_append, gRow_bits, pop_row _ (h.nat hy).2.2 _ h.w6 (h.nat hy).2.1]
theorem popc_le (n : Nat) : popc n ≤ 6 := by
  have := List.length_filter_le n.testBit (List.range 6)
  rw [List.length_range] at this
  exact this
theorem areaR_yes {W H : Nat} {l : List Int} (h : Rg W H l) : areaR W l = ((cellsB W H l).length : Int) := by
  unfold areaR
  rw [if_pos (isReg_of h), cellsR_yes h]
theorem areaR_no {W : Int} {l : List Int} (h : isReg W l = false) : areaR W l = -1 := if_neg (by rw [h]; simp)
/-! ### Colours -/
def colTo (k : Nat) (cs : List Cl) : Nat → List Int
  | 0 => List.replicate k 0
  | j + 1 => (colTo k cs j).set (((cs.getD j (0, 0)).1 + (cs.getD j (0, 0)).2).toNat % k) ((colTo k cs j).getD (((cs.getD j (0, 0)).1 + (cs.getD j (0, 0)).2).toNat % k) 0 + 1)
theorem colTo_len (k : Nat) (cs : List Cl) : ∀ j, (colTo k cs j).length = k
  | 0 => by simp [colTo]
  | j + 1 => by rw [colTo, List.length_set, colTo_len k cs j]
theorem colTo_bd (k : Nat) (cs : List Cl) : ∀ j i, 0 ≤ (colTo k cs j).getD i 0 ∧ (colTo k cs j).getD i 0 ≤ j
  | 0, i => by by_cases h : i < k <;> simp [colTo, List.getD, h]
  | j + 1, i => by
    rw [colTo]
    have h1 := colTo_bd k cs j i
    generalize ((cs.getD j (0, 0)).1 + (cs.getD j (0, 0)).2).toNat % k = m
    have h2 := colTo_bd k cs j m
    by_cases e : m = i
    · subst e
      by_cases hm : m < (colTo k cs j).length
      · have e2 : ((colTo k cs j).set m ((colTo k cs j).getD m 0 + 1)).getD m 0 = (colTo k cs j).getD m 0 + 1 := by
          generalize (colTo k cs j).getD m 0 + 1 = v
          simp [List.getD, hm]
        rw [e2]
        omega
      · have e2 : ((colTo k cs j).set m ((colTo k cs j).getD m 0 + 1)).getD m 0 = 0 := by
          rw [List.getD, List.getElem?_eq_none (by rw [List.length_set]; omega)]
          rfl
        rw [e2]
        omega
    · have e2 : ((colTo k cs j).set m ((colTo k cs j).getD m 0 + 1)).getD i 0 = (colTo k cs j).getD i 0 := by
        generalize (colTo k cs j).getD m 0 + 1 = v
        simp [List.getD, e]
      rw [e2]
      omega
def colR (W : Int) (l : List Int) (k : Int) : List Int := if (isReg W l && inb k 1 6) = true then colTo k.toNat (cellsR W l) (cellsR W l).length else []
/-! ### As text -/
def rowB (l : List Int) (y x : Nat) : List UInt8 := (List.range x).map fun (j : Nat) => if bt l ((j : Int), (y : Int)) = true then 35 else 46
def fmtT (W : Nat) (l : List Int) : Nat → List UInt8
  | 0 => []
  | y + 1 => fmtT W l y ++ ((if y = 0 then [] else [47]) ++ rowB l y W)
def fmtR (W : Int) (l : List Int) : List UInt8 := if isReg W l = true then fmtT W.toNat l l.length else []
theorem rowB_step (l : List Int) (y x : Nat) : rowB l y (x + 1) = rowB l y x ++ [if bt l ((x : Int), (y : Int)) = true then 35 else 46] := by
  unfold rowB
  rw [List.range_succ, List.map_append]
  rfl
theorem rowB_ln (l : List Int) (y x : Nat) : (rowB l y x).length = x := by simp [rowB]
theorem fmtT_le (W : Nat) (l : List Int) : ∀ y, (fmtT W l y).length ≤ (W + 1) * y
  | 0 => by simp [fmtT]
  | y + 1 => by
    have := fmtT_le W l y
    rw [fmtT, List.length_append, List.length_append, rowB_ln, Nat.mul_succ]
    split
    · simp; omega
    · simp; omega
theorem fmtR_yes {W H : Nat} {l : List Int} (h : Rg W H l) : fmtR W l = fmtT W l H := by
  unfold fmtR
  rw [if_pos (isReg_of h), h.len]
  rfl
theorem fmtR_no {W : Int} {l : List Int} (h : isReg W l = false) : fmtR W l = [] := if_neg (by rw [h]; simp)
end

section
/-! ### The bit of a place -/
def bN (W : Nat) (c : Cl) : Nat := c.2.toNat * W + c.1.toNat
theorem bN_nat (W x y : Nat) : bN W ((x : Int), (y : Int)) = y * W + x := by simp [bN]
theorem bN_div {W H : Nat} {c : Cl} (h : inG W H c) : bN W c / W = c.2.toNat ∧ bN W c % W = c.1.toNat := by
  obtain ⟨⟨h1, h2⟩, h3, h4⟩ := h
  have hx : c.1.toNat < W := by omega
  unfold bN
  refine ⟨?_, ?_⟩
  · rw [Nat.mul_comm, Nat.mul_add_div (by omega), Nat.div_eq_of_lt hx]; rfl
  · rw [Nat.mul_comm, Nat.mul_add_mod, Nat.mod_eq_of_lt hx]
theorem bN_lt {W H : Nat} {c : Cl} (h : inG W H c) : bN W c < W * H := by
  obtain ⟨⟨h1, h2⟩, h3, h4⟩ := h
  have hx : c.1.toNat < W := by omega
  have hy : c.2.toNat + 1 ≤ H := by omega
  have := Nat.mul_le_mul_left W hy
  rw [Nat.mul_succ] at this
  unfold bN
  rw [Nat.mul_comm]
  omega
theorem bN_inj {W H : Nat} {c d : Cl} (hc : inG W H c) (hd : inG W H d) (h : bN W c = bN W d) : c = d := by
  have h1 := bN_div hc
  have h2 := bN_div hd
  rw [h] at h1
  exact (cl_eq ⟨hc.1.1, hc.2.1⟩ ⟨hd.1.1, hd.2.1⟩).2 ⟨by omega, by omega⟩
def cAt (W i : Nat) : Cl := (((i % W : Nat) : Int), ((i / W : Nat) : Int))
theorem cAt_in {W H i : Nat} (hW : 1 ≤ W) (hi : i < W * H) : inG W H (cAt W i) := by
  have h1 := Nat.mod_lt i (show W > 0 by omega)
  have h2 : i / W < H := Nat.div_lt_of_lt_mul hi
  unfold inG cAt
  dsimp only
  generalize i % W = a at h1
  generalize i / W = b at h2
  omega
theorem bN_cAt (W i : Nat) : bN W (cAt W i) = i := by
  unfold bN cAt
  simp only [Int.toNat_natCast]
  rw [Nat.mul_comm]
  exact Nat.div_add_mod i W
theorem cAt_bN {W H : Nat} {c : Cl} (h : inG W H c) : cAt W (bN W c) = c := by
  have h1 := bN_div h
  unfold cAt
  rw [h1.1, h1.2]
  obtain ⟨⟨h1, h2⟩, h3, h4⟩ := h
  obtain ⟨x, y⟩ := c
  dsimp only at *
  congr 1 <;> omega

/-! ### The mask of a region -/
def mkTo (W : Nat) (l : List Int) : Nat → Nat
  | 0 => 0
  | y + 1 => mkTo W l y + rN l y * 2 ^ (y * W)
theorem Rg.mk_lt {W H : Nat} {l : List Int} (h : Rg W H l) : ∀ y, y ≤ H → mkTo W l y < 2 ^ (y * W)
  | 0, _ => by simp [mkTo]
  | y + 1, hy => by
    have h1 := h.mk_lt y (by omega)
    have h2 := (h.nat (show y < H by omega)).2.1
    have h3 : rN l y + 1 ≤ 2 ^ W := h2
    have h4 := Nat.mul_le_mul_right (2 ^ (y * W)) h3
    rw [Nat.add_mul, Nat.one_mul] at h4
    rw [mkTo, Nat.succ_mul, Nat.add_comm (y * W) W, Nat.pow_add]
    omega
theorem Rg.mk_bit {W H : Nat} {l : List Int} (h : Rg W H l) (i : Nat) : ∀ y, y ≤ H → (mkTo W l y).testBit i = (decide (i < y * W) && (rN l (i / W)).testBit (i % W))
  | 0, _ => by simp [mkTo]
  | y + 1, hy => by
    have hW := h.w0
    have h1 := h.mk_bit i y (by omega)
    have h2 := h.mk_lt y (by omega)
    have h3 := (h.nat (show y < H by omega)).2.1
    rw [mkTo, Nat.add_comm, Nat.mul_comm, Nat.testBit_two_pow_mul_add _ h2]
    by_cases hi : i < y * W
    · rw [if_pos hi, h1]
      have : i < (y + 1) * W := by rw [Nat.succ_mul]; omega
      simp [hi, this]
    · rw [if_neg hi]
      by_cases hi2 : i < (y + 1) * W
      · have e1 : i / W = y := by
          have a1 : y ≤ i / W := (Nat.le_div_iff_mul_le (by omega)).2 (by omega)
          have a2 : i / W < y + 1 := Nat.div_lt_of_lt_mul (by rw [Nat.mul_comm]; exact hi2)
          omega
        have e2 : i % W = i - y * W := by
          have := Nat.div_add_mod i W
          rw [e1, Nat.mul_comm] at this
          omega
        rw [e1, e2]
        simp [hi2]
      · have e3 : (rN l y).testBit (i - y * W) = false := by
          apply Nat.testBit_lt_two_pow
          refine Nat.lt_of_lt_of_le h3 (Nat.pow_le_pow_right (by omega) ?_)
          rw [Nat.succ_mul] at hi2
          omega
        rw [e3]
        simp [hi2]
def maskR (W : Int) (l : List Int) : Nat := if isReg W l = true then mkTo W.toNat l l.length else 0
theorem maskR_yes {W H : Nat} {l : List Int} (h : Rg W H l) : maskR W l = mkTo W l H := by
  unfold maskR
  rw [if_pos (isReg_of h), h.len]
  rfl
theorem maskR_no {W : Int} {l : List Int} (h : isReg W l = false) : maskR W l = 0 := if_neg (by rw [h]; simp)
theorem Rg.mask_bit {W H : Nat} {l : List Int} (h : Rg W H l) {q : Cl} (hq : inG W H q) : (maskR W l).testBit (bN W q) = bt l q := by
  have h1 := bN_div hq
  have h2 := bN_lt hq
  rw [maskR_yes h, h.mk_bit _ H (Nat.le_refl _), h1.1, h1.2]
  have : bN W q < H * W := by rw [Nat.mul_comm]; exact h2
  obtain ⟨⟨a1, a2⟩, a3, a4⟩ := hq
  unfold bt
  simp [this, a1, a3]
theorem pow36 {W H y : Nat} (hW : W ≤ 6) (hH : H ≤ 6) (hy : y ≤ H) : 2 ^ (y * W) ≤ 68719476736 := by
  have h1 : y * W ≤ 36 := Nat.le_trans (Nat.mul_le_mul (show y ≤ 6 by omega) hW) (by decide)
  have := Nat.pow_le_pow_right (show 0 < 2 by omega) h1
  simpa using this
theorem maskR_lt (W : Int) (l : List Int) : maskR W l < 68719476736 := by
  cases h : isReg W l with
  | false => rw [maskR_no h]; decide
  | true =>
    obtain ⟨n, rfl, hr⟩ := isReg_out h
    rw [maskR_yes hr]
    exact Nat.lt_of_lt_of_le (hr.mk_lt _ (Nat.le_refl _)) (pow36 hr.w6 hr.h6 (Nat.le_refl _))
theorem Rg.mask_out {W H : Nat} {l : List Int} (h : Rg W H l) {i : Nat} (hi : (maskR W l).testBit i = true) : i < W * H ∧ bt l (cAt W i) = true := by
  have h1 := hi
  rw [maskR_yes h, h.mk_bit _ H (Nat.le_refl _), Bool.and_eq_true, decide_eq_true_eq, Nat.mul_comm] at h1
  have h2 := h.mask_bit (cAt_in h.w0 h1.1)
  rw [bN_cAt, hi] at h2
  exact ⟨h1.1, h2.symm⟩

/-! ### A list of cells as a mask -/
def orB (W : Nat) (cs : List Cl) : Nat := cs.foldl (fun m c => m ||| 2 ^ bN W c) 0
theorem orB_snoc (W : Nat) (cs : List Cl) (c : Cl) : orB W (cs ++ [c]) = orB W cs ||| 2 ^ bN W c := by unfold orB; rw [List.foldl_append]; rfl
theorem orB_fold (W : Nat) (i : Nat) : ∀ (cs : List Cl) (m : Nat), (cs.foldl (fun m c => m ||| 2 ^ bN W c) m).testBit i = (m.testBit i || cs.any fun c => decide (bN W c = i))
  | [], m => by simp
  | c :: r, m => by
    rw [List.foldl_cons, orB_fold W i r, Nat.testBit_or, Nat.testBit_two_pow, List.any_cons, Bool.or_assoc]
theorem orB_bit (W : Nat) (cs : List Cl) (i : Nat) : (orB W cs).testBit i = true ↔ ∃ c ∈ cs, bN W c = i := by
  unfold orB
  rw [orB_fold]
  simp
theorem orB_lt {W n : Nat} : ∀ (cs : List Cl) (m : Nat), m < 2 ^ n → (∀ c ∈ cs, bN W c < n) → cs.foldl (fun m c => m ||| 2 ^ bN W c) m < 2 ^ n
  | [], _, h, _ => h
  | c :: r, m, h, hc => orB_lt r _ (Nat.or_lt_two_pow h (Nat.pow_lt_pow_right (by omega) (hc c List.mem_cons_self))) fun d hd => hc d (List.mem_cons_of_mem _ hd)
theorem nat_or_add {m b : Nat} (h : m.testBit b = false) : m + 2 ^ b = m ||| 2 ^ b := by
  have e := Nat.div_add_mod m (2 ^ b)
  have hr := Nat.mod_lt m (show 2 ^ b > 0 from Nat.pos_of_ne_zero (by simp))
  have hb : (m / 2 ^ b) % 2 = 0 := by
    rw [Nat.testBit_eq_decide_div_mod_eq] at h
    have : ¬ m / 2 ^ b % 2 = 1 := by simpa using h
    omega
  obtain ⟨k, hk⟩ : ∃ k, m / 2 ^ b = 2 * k := ⟨m / 2 ^ b / 2, by omega⟩
  rw [hk] at e
  generalize m % 2 ^ b = r at e hr
  have e2 : m + 2 ^ b = 2 ^ b * (2 * k + 1) + r := by rw [Nat.mul_add, Nat.mul_one]; omega
  apply Nat.eq_of_testBit_eq
  intro i
  rw [e2, Nat.testBit_two_pow_mul_add _ hr, ← e, Nat.testBit_or, Nat.testBit_two_pow_mul_add _ hr, Nat.testBit_two_pow]
  by_cases hi : i < b
  · have : ¬ b = i := by omega
    simp [hi, this]
  · rw [if_neg hi, if_neg hi]
    by_cases he : b = i
    · subst he
      simp [Nat.testBit_zero]
    · obtain ⟨j, rfl⟩ : ∃ j, i = b + (j + 1) := ⟨i - b - 1, by omega⟩
      have e3 : b + (j + 1) - b = j + 1 := by omega
      rw [e3, Nat.testBit_succ, Nat.testBit_succ]
      have e4 : (2 * k + 1) / 2 = k := by omega
      have e5 : 2 * k / 2 = k := by omega
      rw [e4, e5]
      simp

/-! ### Cells of a region that do not meet -/
def okC (W : Nat) (l : List Int) (cs : List Cl) (k : Nat) : Bool := (List.range k).all fun j => bt l (cs.getD j (0, 0)) && !(orB W (cs.take j)).testBit (bN W (cs.getD j (0, 0)))
theorem okC_step (W : Nat) (l : List Int) (cs : List Cl) (k : Nat) : okC W l cs (k + 1) = (okC W l cs k && (bt l (cs.getD k (0, 0)) && !(orB W (cs.take k)).testBit (bN W (cs.getD k (0, 0))))) := by
  unfold okC; rw [List.range_succ, List.all_append]; simp
theorem okC_iff (W : Nat) (l : List Int) (cs : List Cl) (k : Nat) : okC W l cs k = true ↔ ∀ j, j < k → bt l (cs.getD j (0, 0)) = true ∧ (orB W (cs.take j)).testBit (bN W (cs.getD j (0, 0))) = false := by
  unfold okC; rw [List.all_eq_true]; simp
theorem okC_false {W : Nat} {l : List Int} {cs : List Cl} {k n : Nat} (h : okC W l cs (k + 1) = false) (hk : k < n) : okC W l cs n = false := by
  cases h2 : okC W l cs n with
  | false => rfl
  | true =>
    have := (okC_iff W l cs n).1 h2
    have h3 := (okC_iff W l cs (k + 1)).2 fun j hj => this j (by omega)
    rw [h] at h3
    cases h3
theorem orB_take {W : Nat} (cs : List Cl) {k : Nat} (hk : k < cs.length) : orB W (cs.take (k + 1)) = orB W (cs.take k) ||| 2 ^ bN W (cs.getD k (0, 0)) := by
  have : cs.take (k + 1) = cs.take k ++ [cs.getD k (0, 0)] := by
    rw [List.take_succ_eq_append_getElem hk]
    simp [List.getD, hk]
  rw [this, orB_snoc]
theorem okC_lt {W H : Nat} {l : List Int} (h : Rg W H l) {cs : List Cl} {k : Nat} (hk : k ≤ cs.length) (ho : okC W l cs k = true) : orB W (cs.take k) < 2 ^ (W * H) := by
  refine orB_lt _ 0 (Nat.pos_of_ne_zero (by simp)) fun c hc => ?_
  obtain ⟨j, hj, rfl⟩ := List.getElem_of_mem hc
  have hj2 : j < k ∧ j < cs.length := by rw [List.length_take] at hj; omega
  have := ((okC_iff W l cs k).1 ho j hj2.1).1
  have e : cs.getD j (0, 0) = (cs.take k)[j] := by simp [List.getD, hj2.2]
  rw [e] at this
  exact bN_lt (h.bt_in this)
/-- Distinct cells of the region: that is all that is asked. -/
theorem okC_all {W H : Nat} {l : List Int} (h : Rg W H l) {cs : List Cl} (hd : cs.Pairwise (· ≠ ·)) : okC W l cs cs.length = true ↔ ∀ c ∈ cs, bt l c = true := by
  rw [okC_iff]
  constructor
  · intro h1 c hc
    obtain ⟨j, hj, rfl⟩ := List.getElem_of_mem hc
    have := (h1 j hj).1
    simpa [List.getD, hj] using this
  · intro h1 j hj
    have e : cs.getD j (0, 0) = cs[j] := by simp [List.getD, hj]
    rw [e]
    refine ⟨h1 _ (List.getElem_mem hj), ?_⟩
    cases hb : (orB W (cs.take j)).testBit (bN W cs[j]) with
    | false => rfl
    | true =>
      obtain ⟨d, hd1, hd2⟩ := (orB_bit _ _ _).1 hb
      obtain ⟨i, hi, rfl⟩ := List.getElem_of_mem hd1
      have hi2 : i < j := by rw [List.length_take] at hi; omega
      have e2 : (cs.take j)[i] = cs[i]'(by omega) := by simp
      rw [e2] at hd2
      have := bN_inj (h.bt_in (h1 _ (List.getElem_mem (by omega)))) (h.bt_in (h1 _ (List.getElem_mem hj))) hd2
      exact absurd this (List.pairwise_iff_getElem.1 hd i j (by omega) hj hi2)
def mcOk (W : Int) (l : List Int) (cs : List Cl) : Bool := isReg W l && okC W.toNat l cs cs.length
def mcV (W : Int) (l : List Int) (cs : List Cl) : Nat := if mcOk W l cs = true then orB W.toNat cs else 0
theorem mcOk_no {W : Int} {l : List Int} (h : isReg W l = false) (cs : List Cl) : mcOk W l cs = false := by unfold mcOk; rw [h]; rfl
theorem mcOk_yes {W H : Nat} {l : List Int} (h : Rg W H l) (cs : List Cl) : mcOk W l cs = okC W l cs cs.length := by unfold mcOk; rw [isReg_of h]; rfl
theorem mcV_no {W : Int} {l : List Int} {cs : List Cl} (h : mcOk W l cs = false) : mcV W l cs = 0 := if_neg (by rw [h]; simp)
theorem mcV_yes {W : Nat} {l : List Int} {cs : List Cl} (h : mcOk W l cs = true) : mcV (W : Int) l cs = orB W cs := by
  unfold mcV
  rw [if_pos h]
  rfl

/-! ### The cells of a mask -/
def mcells (W n m : Nat) : List Cl := ((List.range n).filter m.testBit).map (cAt W)
theorem mcells_yes {W n m : Nat} (h : m.testBit n = true) : mcells W (n + 1) m = mcells W n m ++ [cAt W n] := by
  unfold mcells
  rw [List.range_succ, List.filter_append, List.map_append]
  simp [h]
theorem mcells_no {W n m : Nat} (h : m.testBit n = false) : mcells W (n + 1) m = mcells W n m := by
  unfold mcells
  rw [List.range_succ, List.filter_append, List.map_append]
  simp [h]
theorem mcells_len (W n m : Nat) : (mcells W n m).length ≤ n := by
  unfold mcells
  rw [List.length_map]
  have := List.length_filter_le m.testBit (List.range n)
  simpa using this
def okM (W : Int) (l : List Int) (m : Int) : Bool := isReg W l && (decide (0 ≤ m) && decide (m.toNat &&& maskR W l = m.toNat))
def cellsM (W : Int) (l : List Int) (m : Int) : List Cl := if okM W l m = true then mcells W.toNat (W.toNat * l.length) m.toNat else []
theorem okM_no {W : Int} {l : List Int} (h : isReg W l = false) (m : Int) : okM W l m = false := by unfold okM; rw [h]; rfl
theorem okM_neg {W : Int} {l : List Int} {m : Int} (h : ¬ 0 ≤ m) : okM W l m = false := by unfold okM; simp [h]
theorem okM_nat {W : Int} {l : List Int} (h : isReg W l = true) (m : Nat) : okM W l m = decide (m &&& maskR W l = m) := by unfold okM; rw [h]; simp
theorem cellsM_no {W : Int} {l : List Int} {m : Int} (h : okM W l m = false) : cellsM W l m = [] := if_neg (by rw [h]; simp)
theorem cellsM_yes {W H : Nat} {l : List Int} (hr : Rg W H l) {m : Nat} (h : okM W l m = true) : cellsM W l m = mcells W (W * H) m := by
  unfold cellsM
  rw [if_pos h, hr.len]
  rfl
theorem okM_bits {W : Int} {l : List Int} {m : Nat} (h : okM W l m = true) {i : Nat} (hi : m.testBit i = true) : (maskR W l).testBit i = true := by
  unfold okM at h
  simp only [Bool.and_eq_true, decide_eq_true_eq, Int.toNat_natCast] at h
  have e := h.2.2
  rw [← e, Nat.testBit_and, Bool.and_eq_true] at hi
  exact hi.2
theorem okM_of {W H : Nat} {l : List Int} (hr : Rg W H l) {m : Nat} (h : ∀ i, m.testBit i = true → (maskR W l).testBit i = true) : okM W l m = true := by
  rw [okM_nat (isReg_of hr), decide_eq_true_eq]
  apply Nat.eq_of_testBit_eq
  intro i
  rw [Nat.testBit_and]
  cases hb : m.testBit i with
  | false => rfl
  | true => rw [h i hb]; rfl
theorem okM_lt {W : Int} {l : List Int} {m : Nat} (h : okM W l m = true) : m < 68719476736 := by
  unfold okM at h
  simp only [Bool.and_eq_true, decide_eq_true_eq, Int.toNat_natCast] at h
  rw [← h.2.2]
  exact Nat.lt_of_le_of_lt Nat.and_le_right (maskR_lt W l)

/-! ### The bits one by one, the least first -/
def bitL (m : Nat) : List Nat := (List.range 64).filter m.testBit
theorem low_bit {m : Nat} (h0 : m ≠ 0) (h : m < 2 ^ 64) : m.testBit (Lib.ctz 64 m) = true ∧ Lib.ctz 64 m < 64 ∧ (∀ j, m.testBit j = true → Lib.ctz 64 m ≤ j) ∧ ∀ j, (m &&& (m - 1)).testBit j = (m.testBit j && !decide (j = Lib.ctz 64 m)) := by
  have e0 : Lib.ctz 64 m = Lib.ctzFrom 64 m := if_neg h0
  obtain ⟨q, hq, hk⟩ := Lib.ctzFrom_spec 64 m (by omega) h
  rw [e0]
  generalize Lib.ctzFrom 64 m = t at hq hk
  have hb : ∀ j, m.testBit j = (decide (t ≤ j) && (2 * q + 1).testBit (j - t)) := fun j => by rw [hq, Nat.mul_comm, Nat.testBit_mul_two_pow]
  have hp : 2 ^ t > 0 := Nat.pos_of_ne_zero (by simp)
  have e1 : m - 1 = 2 ^ t * (2 * q) + (2 ^ t - 1) := by rw [hq, Nat.mul_add, Nat.mul_one]; omega
  have hb1 : ∀ j, (m - 1).testBit j = if j < t then (2 ^ t - 1).testBit j else (2 * q).testBit (j - t) := fun j => by rw [e1, Nat.testBit_two_pow_mul_add _ (by omega)]
  refine ⟨by rw [hb]; simp [Nat.testBit_zero], hk, fun j hj => ?_, fun j => ?_⟩
  · rw [hb, Bool.and_eq_true, decide_eq_true_eq] at hj
    exact hj.1
  · rw [Nat.testBit_and, hb, hb1]
    by_cases hj : j < t
    · have : ¬ t ≤ j := by omega
      simp [this]
    · rw [if_neg hj]
      by_cases he : j = t
      · subst he
        simp [Nat.testBit_zero]
      · obtain ⟨i, rfl⟩ : ∃ i, j = t + (i + 1) := ⟨j - t - 1, by omega⟩
        have e3 : t + (i + 1) - t = i + 1 := by omega
        rw [e3, Nat.testBit_succ, Nat.testBit_succ]
        have e4 : (2 * q + 1) / 2 = q := by omega
        have e5 : 2 * q / 2 = q := by omega
        rw [e4, e5]
        simp
theorem bitL_zero : bitL 0 = [] := by unfold bitL; simp
theorem filter_first {p : Nat → Bool} : ∀ (n s t : Nat), s ≤ t → t < s + n → p t = true → (∀ j, s ≤ j → p j = true → t ≤ j) → (List.range' s n).filter p = t :: (List.range' s n).filter (fun j => p j && !decide (j = t))
  | 0, s, t, h1, h2, _, _ => by omega
  | n + 1, s, t, h1, h2, hp, hm => by
    rw [List.range'_succ, List.filter_cons, List.filter_cons]
    by_cases he : s = t
    · subst he
      have hs : (List.range' (s + 1) n).filter p = (List.range' (s + 1) n).filter (fun j => p j && !decide (j = s)) := by
        apply List.filter_congr
        intro j hj
        have := (List.mem_range'_1.1 hj).1
        have hne : ¬ j = s := by omega
        simp [hne]
      simp [hp, hs]
    · have hps : p s = false := by
        cases hps : p s with
        | false => rfl
        | true => exact absurd (hm s (Nat.le_refl _) hps) (by omega)
      have ih := filter_first n (s + 1) t (by omega) (by omega) hp fun j hj hpj => hm j (by omega) hpj
      simp [hps, ih]
theorem bitL_cons {m : Nat} (h0 : m ≠ 0) (h : m < 2 ^ 64) : bitL m = Lib.ctz 64 m :: bitL (m &&& (m - 1)) := by
  obtain ⟨h1, h2, h3, h4⟩ := low_bit h0 h
  unfold bitL
  rw [List.range_eq_range', filter_first 64 0 (Lib.ctz 64 m) (by omega) (by omega) h1 fun j _ hj => h3 j hj]
  congr 1
  apply List.filter_congr
  intro j _
  exact (h4 j).symm
theorem bitL_upto {m n : Nat} (h : m < 2 ^ n) (hn : n ≤ 64) : bitL m = (List.range n).filter m.testBit := by
  unfold bitL
  obtain ⟨d, hd⟩ : ∃ d, 64 = n + d := ⟨64 - n, by omega⟩
  rw [hd, List.range_add, List.filter_append]
  have : ((List.range d).map fun x => n + x).filter m.testBit = [] := by
    rw [List.filter_eq_nil_iff]
    intro j hj
    obtain ⟨i, _, rfl⟩ := List.mem_map.1 hj
    rw [Nat.testBit_lt_two_pow (Nat.lt_of_lt_of_le h (Nat.pow_le_pow_right (by omega) (by omega)))]
    simp
  rw [this, List.append_nil]
theorem mcells_bits {W H : Nat} {l : List Int} (hr : Rg W H l) {m : Nat} (h : okM W l m = true) : mcells W (W * H) m = (bitL m).map (cAt W) := by
  have hlt : m < 2 ^ (W * H) := by
    apply Nat.lt_pow_two_of_testBit
    intro i hi
    cases hb : m.testBit i with
    | false => rfl
    | true =>
      have := (hr.mask_out (okM_bits h hb)).1
      omega
  have h36 : W * H ≤ 64 := Nat.le_trans (Nat.mul_le_mul hr.w6 hr.h6) (by decide)
  rw [bitL_upto hlt h36]
  rfl
end

section
/-! ### Ascending, each once -/
def ltI (a b : Int) : Bool := decide (a < b)
theorem ordI : OrdG ltI where
  irr a := by simp [ltI]
  trans := by intro a b c h1 h2; simp only [ltI, decide_eq_true_eq] at *; omega
  asym := by intro a b h; simp only [ltI, decide_eq_true_eq, decide_eq_false_iff_not] at *; omega
  total := by intro a b h1 h2; simp only [ltI, decide_eq_false_iff_not] at *; omega
def putM (l : List Int) (n : Int) : List Int := insG ltI 0 l n
def ascI (l : List Int) : List Int := sortG ltI 0 l
theorem putM_len (l : List Int) (n : Int) : (putM l n).length ≤ l.length + 1 := by
  unfold putM insG
  split
  · omega
  · have := posG_le (lt := ltI) (d := 0) n l l.length
    simp
    omega
theorem comp_keeps {d : Array Int} (h : ∀ i j, i < j → j < d.size → d[i]! ≤ d[j]!) : ∀ m, m ≤ d.size → SrtG ltI (Lib.compactUpTo d m) ∧ (∀ x, x ∈ Lib.compactUpTo d m ↔ ∃ j, j < m ∧ d[j]! = x)
  | 0, _ => by
    refine ⟨?_, fun x => ?_⟩
    · unfold Lib.compactUpTo; exact List.Pairwise.nil
    · unfold Lib.compactUpTo; simp
  | m + 1, hm => by
    obtain ⟨h1, h2⟩ := comp_keeps h m (by omega)
    rw [Lib.compactUpTo_succ]
    cases hk : Lib.keeps d m with
    | true =>
      rw [if_pos rfl]
      refine ⟨?_, fun x => ?_⟩
      · unfold SrtG
        rw [List.pairwise_append]
        refine ⟨h1, List.pairwise_singleton _ _, fun a ha b hb => ?_⟩
        rw [List.mem_singleton] at hb
        subst hb
        obtain ⟨j, hj, rfl⟩ := (h2 a).1 ha
        have hne : d[m]! ≠ d[m - 1]! := by
          intro e
          rw [Lib.keeps_neg (by omega) e] at hk
          cases hk
        have k1 := h (m - 1) m (by omega) (by omega)
        have k2 : d[j]! ≤ d[m - 1]! := by
          by_cases e : j = m - 1
          · rw [e]; omega
          · exact h j (m - 1) (by omega) (by omega)
        simp only [ltI, decide_eq_true_eq]
        omega
      · rw [List.mem_append, h2, List.mem_singleton]
        constructor
        · rintro (⟨j, hj, e⟩ | rfl)
          · exact ⟨j, by omega, e⟩
          · exact ⟨m, by omega, rfl⟩
        · rintro ⟨j, hj, e⟩
          by_cases hjm : j = m
          · exact .inr (by rw [← e, hjm])
          · exact .inl ⟨j, by omega, e⟩
    | false =>
      rw [if_neg (by simp), List.append_nil]
      refine ⟨h1, fun x => ?_⟩
      rw [h2]
      constructor
      · rintro ⟨j, hj, e⟩; exact ⟨j, by omega, e⟩
      · rintro ⟨j, hj, e⟩
        by_cases hjm : j = m
        · subst hjm
          have h0 : 0 < j := by
            cases j with
            | zero => rw [Lib.keeps_lt_one d 0 (by omega)] at hk; cases hk
            | succ k => omega
          have heq : d[j]! = d[j - 1]! := by
            by_cases hq : d[j]! = d[j - 1]!
            · exact hq
            · rw [Lib.keeps_pos hq] at hk; cases hk
          exact ⟨j - 1, by omega, by rw [← heq]; exact e⟩
        · exact ⟨j, by omega, e⟩
/-- Sorted, then each once: the same as put one by one. -/
theorem ascI_lib (l : List Int) : Lib.compact (l.mergeSort fun x y => decide (x ≤ y)) = ascI l := by
  have hs : (l.mergeSort fun x y => decide (x ≤ y)).Pairwise fun x y => decide (x ≤ y) = true :=
    List.pairwise_mergeSort (fun a b c h1 h2 => by simp only [decide_eq_true_eq] at *; omega) (fun a b => by simp only [Bool.or_eq_true, decide_eq_true_eq]; omega) l
  obtain ⟨zs, hz⟩ : ∃ zs, (l.mergeSort fun x y => decide (x ≤ y)) = zs := ⟨_, rfl⟩
  have hm : ∀ x, x ∈ zs ↔ x ∈ l := fun x => by rw [← hz]; exact List.mem_mergeSort
  rw [hz] at hs ⊢
  have hg : ∀ i j, i < j → j < zs.toArray.size → zs.toArray[i]! ≤ zs.toArray[j]! := fun i j hij hj => by
    have hj2 : j < zs.length := by simpa using hj
    have := List.pairwise_iff_getElem.1 hs i j (by omega) hj2 hij
    rw [getElem!_pos zs.toArray i (by simp; omega), getElem!_pos zs.toArray j hj]
    simpa using this
  have hc := comp_keeps hg zs.length (by simp)
  refine sortG_unique ordI 0 hc.1 fun x => ?_
  rw [← hm]
  refine (hc.2 x).trans ?_
  constructor
  · rintro ⟨j, hj, rfl⟩
    rw [getElem!_pos zs.toArray j (by simpa using hj)]
    simp
  · intro hx
    obtain ⟨j, hj, rfl⟩ := List.getElem_of_mem hx
    exact ⟨j, hj, by rw [getElem!_pos zs.toArray j (by simpa using hj)]; simp⟩
theorem mem_ascI (l : List Int) (x : Int) : x ∈ ascI l ↔ x ∈ l := sortG_mem ordI 0 l x
theorem ascI_srt (l : List Int) : SrtG ltI (ascI l) := sortG_srt ordI 0 l
theorem ascI_len (l : List Int) : (ascI l).length ≤ l.length := by
  have key : ∀ (r o : List Int), (r.foldl (insG ltI 0) o).length ≤ o.length + r.length := by
    intro r
    induction r with
    | nil => intro o; simp
    | cons c r ih =>
      intro o
      rw [List.foldl_cons]
      have h1 := ih (insG ltI 0 o c)
      have h2 : (insG ltI 0 o c).length ≤ o.length + 1 := putM_len o c
      simp only [List.length_cons]
      omega
  have := key l []
  simpa [ascI, sortG] using this
theorem ascI_put (l : List Int) (n : Int) : putM (ascI l) n = ascI (l ++ [n]) := by
  unfold putM ascI sortG
  rw [List.foldl_append]
  rfl
theorem ascI_nil : ascI [] = [] := rfl

/-! ### An orientation of a shape -/
structure Orn (o : List Cl) : Prop where
  shape : isShape o = true
  corner : cornerC o = o
theorem orient_mem {l o : List Cl} (h : o ∈ orientS l) : isShape l = true ∧ Orn o ∧ congS l o = true := by
  cases hs : isShape l with
  | false =>
    have : orientS l = [] := if_neg (by rw [hs]; simp)
    rw [this] at h
    cases h
  | true =>
    have hl := ((isShape_iff l).1 hs).1.1
    unfold orientS at h
    rw [if_pos hs, sortG_mem ordS] at h
    obtain ⟨m, hm, rfl⟩ := List.mem_map.1 h
    have hm8 := List.mem_range.1 hm
    refine ⟨rfl, ⟨isShape_turn hm8 hs, ?_⟩, congS_turn hm8 hs⟩
    unfold turnC
    have : 0 < (sortU (l.map (apM m))).length := sortU_pos (by rw [List.length_map]; omega)
    rw [cornerC_move (sortU (l.map (apM m))), cornerC_of_move _ _ _ this, ← cornerC_move]
theorem orient_no {l : List Cl} (h : isShape l = false) : orientS l = [] := if_neg (by rw [h]; simp)
theorem orient_le (l : List Cl) : (orientS l).length ≤ 8 := by
  cases hs : isShape l with
  | false => rw [orient_no hs]; simp
  | true =>
    have h1 := orient_sym hs
    have h2 : 0 < (symS l).length := List.length_pos_iff.2 (symS_ne hs)
    obtain ⟨k, hk⟩ : ∃ k, (symS l).length = k + 1 := ⟨(symS l).length - 1, by omega⟩
    rw [hk, Nat.mul_succ] at h1
    omega
theorem maxTo_ge (f : Cl → Int) (l : List Cl) : ∀ k j, j < k → f (l.getD j (0, 0)) + 1 ≤ maxTo f l k
  | 0, j, h => by omega
  | k + 1, j, h => by
    unfold maxTo
    by_cases hj : j = k
    · subst hj; split <;> omega
    · have := maxTo_ge f l k j (by omega)
      split <;> omega
theorem maxTo_mem (f : Cl → Int) (l : List Cl) (h : ∀ j, j < l.length → 0 ≤ f (l.getD j (0, 0))) : ∀ k, 0 < k → k ≤ l.length → ∃ j, j < k ∧ f (l.getD j (0, 0)) + 1 = maxTo f l k
  | 0, h0, _ => by omega
  | k + 1, _, hk => by
    unfold maxTo
    split
    · exact ⟨k, by omega, rfl⟩
    · rename_i hno
      by_cases h0 : k = 0
      · subst h0
        have := h 0 (by omega)
        simp only [maxTo] at hno
        omega
      · obtain ⟨j, hj, e⟩ := maxTo_mem f l h k (by omega) (by omega)
        exact ⟨j, by omega, e⟩
/-- An orientation's width and height. -/
structure OrnB (o : List Cl) (p q : Nat) : Prop where
  wide : wideC o = p
  high : highC o = q
  w1 : 1 ≤ p
  w8 : p ≤ 8
  h1 : 1 ≤ q
  h8 : q ≤ 8
  all : ∀ c ∈ o, (0 ≤ c.1 ∧ c.1 < p) ∧ 0 ≤ c.2 ∧ c.2 < q
  left : ∃ c ∈ o, c.1 = 0
  top : ∃ c ∈ o, c.2 = 0
  right : ∃ c ∈ o, c.1 + 1 = p
  bottom : ∃ c ∈ o, c.2 + 1 = q
theorem Orn.box {o : List Cl} (h : Orn o) : ∃ p q : Nat, OrnB o p q := by
  obtain ⟨h1, h2, _⟩ := (isShape_iff o).1 h.shape
  have ec : cornS o = o := by unfold cornS; rw [if_pos h.shape, h.corner]
  have hin : ∀ c ∈ o, 0 ≤ c.1 ∧ c.1 ≤ 7 ∧ 0 ≤ c.2 ∧ c.2 ≤ 7 := fun c hc => inP_out (h2 c hc)
  have hj : ∀ j, j < o.length → 0 ≤ (o.getD j (0, 0)).1 ∧ (o.getD j (0, 0)).1 ≤ 7 ∧ 0 ≤ (o.getD j (0, 0)).2 ∧ (o.getD j (0, 0)).2 ≤ 7 := fun j hj => hin _ (getD_mem hj)
  have hmin : minX o = 0 ∧ minY o = 0 := by
    have e := h.corner
    have e2 := congrArg (fun r => r.getD 0 ((0 : Int), (0 : Int))) e
    unfold cornerC at e2
    simp only [List.getD, List.getElem?_map, List.getElem?_eq_getElem (show 0 < o.length by omega), Option.map_some, Option.getD_some] at e2
    have e3 := congrArg Prod.fst e2
    have e4 := congrArg Prod.snd e2
    dsimp only at e3 e4
    omega
  obtain ⟨jx, hjx, ex⟩ := minTo_mem Prod.fst o o.length (by omega)
  obtain ⟨jy, hjy, ey⟩ := minTo_mem Prod.snd o o.length (by omega)
  obtain ⟨kx, hkx, fx⟩ := maxTo_mem Prod.fst o (fun j h => (hj j h).1) o.length (by omega) (Nat.le_refl _)
  obtain ⟨ky, hky, fy⟩ := maxTo_mem Prod.snd o (fun j h => (hj j h).2.2.1) o.length (by omega) (Nat.le_refl _)
  have gx := fun j (hh : j < o.length) => maxTo_ge Prod.fst o o.length j hh
  have gy := fun j (hh : j < o.length) => maxTo_ge Prod.snd o o.length j hh
  have ew : wideC o = maxTo Prod.fst o o.length := by unfold wideC; rw [ec]
  have eh : highC o = maxTo Prod.snd o o.length := by unfold highC; rw [ec]
  have bx := hj kx hkx
  have bY := hj ky hky
  refine ⟨(wideC o).toNat, (highC o).toNat, by omega, by omega, by omega, by omega, by omega, by omega, fun c hc => ?_, ⟨_, getD_mem hjx, ?_⟩, ⟨_, getD_mem hjy, ?_⟩, ⟨_, getD_mem hkx, ?_⟩, ⟨_, getD_mem hky, ?_⟩⟩
  · obtain ⟨j, hjl, rfl⟩ := List.getElem_of_mem hc
    have e : o.getD j (0, 0) = o[j] := by simp [List.getD, hjl]
    have a := gx j hjl
    have b := gy j hjl
    have c := hin _ (List.getElem_mem hjl)
    rw [e] at a b
    omega
  · have : minX o = _ := ex.symm
    omega
  · have : minY o = _ := ey.symm
    omega
  · omega
  · omega
theorem Orn.ne {o : List Cl} (h : Orn o) : o.Pairwise (· ≠ ·) := by
  have hs := ((isShape_iff o).1 h.shape).2.2
  refine List.Pairwise.imp ?_ hs
  rintro a b hab rfl
  rw [bef_irr] at hab
  cases hab

/-! ### A shape moved, as a mask -/
theorem bN_move {W : Nat} {c : Cl} (x y : Nat) (h : 0 ≤ c.1 ∧ 0 ≤ c.2) : bN W (c.1 + x, c.2 + y) = bN W c + (y * W + x) := by
  unfold bN
  have e1 : (c.1 + (x : Int)).toNat = c.1.toNat + x := by omega
  have e2 : (c.2 + (y : Int)).toNat = c.2.toNat + y := by omega
  rw [e1, e2, Nat.add_mul]
  omega
theorem orB_move {W : Nat} {o : List Cl} (x y : Nat) (h : ∀ c ∈ o, 0 ≤ c.1 ∧ 0 ≤ c.2) : orB W (moveC x y o) = orB W o * 2 ^ (y * W + x) := by
  apply Nat.eq_of_testBit_eq
  intro i
  rw [Nat.testBit_mul_two_pow, Bool.eq_iff_iff, Bool.and_eq_true, decide_eq_true_eq, orB_bit, orB_bit]
  unfold moveC
  constructor
  · rintro ⟨d, hd, rfl⟩
    obtain ⟨c, hc, rfl⟩ := List.mem_map.1 hd
    rw [bN_move x y (h c hc)]
    exact ⟨by omega, c, hc, by omega⟩
  · rintro ⟨h1, c, hc, e⟩
    exact ⟨_, List.mem_map.2 ⟨c, hc, rfl⟩, by rw [bN_move x y (h c hc)]; omega⟩
theorem move_ne {o : List Cl} (x y : Int) (h : o.Pairwise (· ≠ ·)) : (moveC x y o).Pairwise (· ≠ ·) := by
  unfold moveC
  rw [List.pairwise_map]
  refine List.Pairwise.imp ?_ h
  intro a b hab e
  apply hab
  injection e with e1 e2
  obtain ⟨a1, a2⟩ := a
  obtain ⟨b1, b2⟩ := b
  dsimp only at e1 e2
  congr 1 <;> omega
/-- The program's test: the corner's mask, shifted, within the region's. -/
def fitN (W H p q : Nat) (l : List Int) (o : List Cl) (x y : Nat) : Bool := decide (x + p ≤ W) && (decide (y + q ≤ H) && decide (orB W o * 2 ^ (y * W + x) &&& maskR W l = orB W o * 2 ^ (y * W + x)))
theorem fit_iff {W H p q : Nat} {l : List Int} (hr : Rg W H l) {o : List Cl} (ho : Orn o) (hb : OrnB o p q) (x y : Nat) : fitN W H p q l o x y = true ↔ okC W l (moveC x y o) (moveC x y o).length = true := by
  have hpos : ∀ c ∈ o, 0 ≤ c.1 ∧ 0 ≤ c.2 := fun c hc => by have := hb.all c hc; omega
  rw [okC_all hr (move_ne _ _ ho.ne)]
  unfold fitN
  rw [Bool.and_eq_true, Bool.and_eq_true, decide_eq_true_eq, decide_eq_true_eq, decide_eq_true_eq, ← orB_move x y hpos]
  constructor
  · rintro ⟨h1, h2, h3⟩ d hd
    have hd2 := hd
    unfold moveC at hd2
    obtain ⟨c, hc, rfl⟩ := List.mem_map.1 hd2
    have hg : inG W H (c.1 + (x : Int), c.2 + (y : Int)) := by
      have := hb.all c hc
      unfold inG
      dsimp only
      omega
    have hbit := (orB_bit W (moveC x y o) _).2 ⟨_, hd, rfl⟩
    rw [← h3, Nat.testBit_and, Bool.and_eq_true, hr.mask_bit hg] at hbit
    exact hbit.2
  · intro h
    have hin : ∀ c ∈ o, inG W H (c.1 + (x : Int), c.2 + (y : Int)) := fun c hc => hr.bt_in (h _ (List.mem_map.2 ⟨c, hc, rfl⟩))
    obtain ⟨c1, hc1, e1⟩ := hb.right
    obtain ⟨c2, hc2, e2⟩ := hb.bottom
    have g1 := (hin c1 hc1).1
    have g2 := (hin c2 hc2).2
    dsimp only at g1 g2
    refine ⟨by omega, by omega, ?_⟩
    apply Nat.eq_of_testBit_eq
    intro i
    rw [Nat.testBit_and]
    cases hbi : (orB W (moveC x y o)).testBit i with
    | false => rfl
    | true =>
      obtain ⟨d, hd, rfl⟩ := (orB_bit _ _ _).1 hbi
      have hd2 := hd
      unfold moveC at hd2
      obtain ⟨c, hc, rfl⟩ := List.mem_map.1 hd2
      rw [hr.mask_bit (hin c hc), h _ hd]
      rfl
theorem fit_lt {W H p q : Nat} {l : List Int} {o : List Cl} (hb : OrnB o p q) {x y : Nat} (h : fitN W H p q l o x y = true) : x < W ∧ y < H ∧ orB W o * 2 ^ (y * W + x) < 68719476736 := by
  unfold fitN at h
  rw [Bool.and_eq_true, Bool.and_eq_true, decide_eq_true_eq, decide_eq_true_eq, decide_eq_true_eq] at h
  have := hb.w1
  have := hb.h1
  refine ⟨by omega, by omega, ?_⟩
  rw [← h.2.2]
  exact Nat.lt_of_le_of_lt Nat.and_le_right (maskR_lt _ _)

/-! ### Where a shape can lie: in the model's order -/
def stX (W : Nat) (l : List Int) (o : List Cl) (y : Nat) (out : List Int) : Nat → List Int
  | 0 => out
  | x + 1 => if okC W l (moveC x y o) (moveC x y o).length = true then putM (stX W l o y out x) (orB W (moveC x y o) : Nat) else stX W l o y out x
def stY (W : Nat) (l : List Int) (o : List Cl) (out : List Int) : Nat → List Int
  | 0 => out
  | y + 1 => stX W l o y (stY W l o out y) W
def stO (W H : Nat) (l : List Int) (os : List (List Cl)) : Nat → List Int
  | 0 => []
  | i + 1 => stY W l (os.getD i []) (stO W H l os i) H
def plR (W : Int) (l : List Int) (s : List Cl) : List Int := if isReg W l = true then stO W.toNat l.length l (orientS s) (orientS s).length else []
theorem stX_yes {W : Nat} {l : List Int} {o : List Cl} {y : Nat} {out : List Int} {x : Nat} (h : okC W l (moveC x y o) (moveC x y o).length = true) : stX W l o y out (x + 1) = putM (stX W l o y out x) (orB W (moveC x y o) : Nat) := if_pos h
theorem stX_no {W : Nat} {l : List Int} {o : List Cl} {y : Nat} {out : List Int} {x : Nat} (h : okC W l (moveC x y o) (moveC x y o).length = false) : stX W l o y out (x + 1) = stX W l o y out x := if_neg (by rw [h]; simp)
theorem stX_len (W : Nat) (l : List Int) (o : List Cl) (y : Nat) (out : List Int) : ∀ x, (stX W l o y out x).length ≤ out.length + x
  | 0 => by simp [stX]
  | x + 1 => by
    have := stX_len W l o y out x
    have h2 := putM_len (stX W l o y out x) (orB W (moveC x y o) : Nat)
    unfold stX
    split <;> omega
theorem stY_len (W : Nat) (l : List Int) (o : List Cl) (out : List Int) : ∀ y, (stY W l o out y).length ≤ out.length + W * y
  | 0 => by simp [stY]
  | y + 1 => by
    have := stY_len W l o out y
    have h2 := stX_len W l o y (stY W l o out y) W
    rw [stY, Nat.mul_succ]
    omega
theorem stO_len (W H : Nat) (l : List Int) (os : List (List Cl)) : ∀ i, (stO W H l os i).length ≤ W * H * i
  | 0 => by simp [stO]
  | i + 1 => by
    have := stO_len W H l os i
    have h2 := stY_len W l (os.getD i []) (stO W H l os i) H
    rw [stO, Nat.mul_succ]
    omega
theorem stX_srt (W : Nat) (l : List Int) (o : List Cl) (y : Nat) {out : List Int} (h : SrtG ltI out) : ∀ x, SrtG ltI (stX W l o y out x)
  | 0 => h
  | x + 1 => by
    unfold stX
    split
    · exact insG_srt ordI 0 (stX_srt W l o y h x) _
    · exact stX_srt W l o y h x
theorem stY_srt (W : Nat) (l : List Int) (o : List Cl) {out : List Int} (h : SrtG ltI out) : ∀ y, SrtG ltI (stY W l o out y)
  | 0 => h
  | y + 1 => stX_srt W l o y (stY_srt W l o h y) W
theorem stO_srt (W H : Nat) (l : List Int) (os : List (List Cl)) : ∀ i, SrtG ltI (stO W H l os i)
  | 0 => List.Pairwise.nil
  | i + 1 => stY_srt W l _ (stO_srt W H l os i) H
theorem mem_stX (W : Nat) (l : List Int) (o : List Cl) (y : Nat) (out : List Int) (m : Int) : ∀ x, m ∈ stX W l o y out x ↔ m ∈ out ∨ ∃ u, u < x ∧ okC W l (moveC u y o) (moveC u y o).length = true ∧ m = (orB W (moveC u y o) : Nat)
  | 0 => by simp [stX]
  | x + 1 => by
    unfold stX
    split
    · rename_i h
      unfold putM
      rw [insG_mem, mem_stX W l o y out m x]
      constructor
      · rintro ((h1 | ⟨u, hu, h2⟩) | h1)
        · exact .inl h1
        · exact .inr ⟨u, by omega, h2⟩
        · exact .inr ⟨x, by omega, h, h1⟩
      · rintro (h1 | ⟨u, hu, h2⟩)
        · exact .inl (.inl h1)
        · by_cases e : u = x
          · subst e; exact .inr h2.2
          · exact .inl (.inr ⟨u, by omega, h2⟩)
    · rename_i h
      rw [mem_stX W l o y out m x]
      constructor
      · rintro (h1 | ⟨u, hu, h2⟩)
        · exact .inl h1
        · exact .inr ⟨u, by omega, h2⟩
      · rintro (h1 | ⟨u, hu, h2⟩)
        · exact .inl h1
        · by_cases e : u = x
          · subst e; exact absurd h2.1 h
          · exact .inr ⟨u, by omega, h2⟩
theorem mem_stY (W : Nat) (l : List Int) (o : List Cl) (out : List Int) (m : Int) : ∀ y, m ∈ stY W l o out y ↔ m ∈ out ∨ ∃ v, v < y ∧ ∃ u, u < W ∧ okC W l (moveC u v o) (moveC u v o).length = true ∧ m = (orB W (moveC u v o) : Nat)
  | 0 => by simp [stY]
  | y + 1 => by
    rw [stY, mem_stX, mem_stY W l o out m y]
    constructor
    · rintro ((h1 | ⟨v, hv, h2⟩) | h2)
      · exact .inl h1
      · exact .inr ⟨v, by omega, h2⟩
      · exact .inr ⟨y, by omega, h2⟩
    · rintro (h1 | ⟨v, hv, h2⟩)
      · exact .inl (.inl h1)
      · by_cases e : v = y
        · subst e; exact .inr h2
        · exact .inl (.inr ⟨v, by omega, h2⟩)
theorem mem_stO (W H : Nat) (l : List Int) (os : List (List Cl)) (m : Int) : ∀ i, m ∈ stO W H l os i ↔ ∃ k, k < i ∧ ∃ v, v < H ∧ ∃ u, u < W ∧ okC W l (moveC u v (os.getD k [])) (moveC u v (os.getD k [])).length = true ∧ m = (orB W (moveC u v (os.getD k [])) : Nat)
  | 0 => by simp [stO]
  | i + 1 => by
    rw [stO, mem_stY, mem_stO W H l os m i]
    constructor
    · rintro (⟨k, hk, h2⟩ | h2)
      · exact ⟨k, by omega, h2⟩
      · exact ⟨i, by omega, h2⟩
    · rintro ⟨k, hk, h2⟩
      by_cases e : k = i
      · subst e; exact .inr h2
      · exact .inl ⟨k, by omega, h2⟩
theorem plR_no {W : Int} {l : List Int} (h : isReg W l = false) (s : List Cl) : plR W l s = [] := if_neg (by rw [h]; simp)
theorem plR_yes {W H : Nat} {l : List Int} (h : Rg W H l) (s : List Cl) : plR W l s = stO W H l (orientS s) (orientS s).length := by
  unfold plR
  rw [if_pos (isReg_of h), h.len]
  rfl
theorem plR_srt (W : Int) (l : List Int) (s : List Cl) : SrtG ltI (plR W l s) := by
  unfold plR
  split
  · exact stO_srt _ _ _ _ _
  · exact List.Pairwise.nil
theorem plR_len (W : Int) (l : List Int) (s : List Cl) : (plR W l s).length ≤ 288 := by
  cases h : isReg W l with
  | false => rw [plR_no h]; simp
  | true =>
    obtain ⟨n, rfl, hr⟩ := isReg_out h
    rw [plR_yes hr]
    have h1 := stO_len n l.length l (orientS s) (orientS s).length
    have h2 : n * l.length ≤ 36 := Nat.mul_le_mul hr.w6 hr.h6
    have h3 := Nat.mul_le_mul h2 (orient_le s)
    omega
theorem ent_memL {os : List (List Cl)} {k : Nat} (h : k < os.length) : os.getD k [] ∈ os := by simp [List.getD, h]
theorem mem_plR {W H : Nat} {l : List Int} (hr : Rg W H l) {s : List Cl} {m : Int} : m ∈ plR W l s ↔ ∃ o ∈ orientS s, ∃ y x : Nat, okC W l (moveC x y o) (moveC x y o).length = true ∧ m = (orB W (moveC x y o) : Nat) := by
  rw [plR_yes hr, mem_stO]
  constructor
  · rintro ⟨k, hk, v, hv, u, hu, h1, h2⟩
    exact ⟨_, ent_memL hk, v, u, h1, h2⟩
  · rintro ⟨o, ho, y, x, h1, h2⟩
    obtain ⟨k, hk, rfl⟩ := memG_getD ([] : List Cl) ho
    obtain ⟨p, q, hb⟩ := (orient_mem ho).2.1.box
    have := fit_lt hb ((fit_iff hr (orient_mem ho).2.1 hb x y).2 h1)
    exact ⟨k, hk, y, this.2.1, x, this.1, h1, h2⟩

/-! ### The program's order -/
def mvX (W H p q : Nat) (l : List Int) (o : List Cl) (y x : Nat) : List Int := ((List.range x).filter fun u => fitN W H p q l o u y).map fun u => ((orB W o * 2 ^ (y * W + u) : Nat) : Int)
def mvY (W H p q : Nat) (l : List Int) (o : List Cl) : Nat → List Int
  | 0 => []
  | y + 1 => mvY W H p q l o y ++ mvX W H p q l o y (W + 1 - p)
def mvR (W H p q : Nat) (l : List Int) (o : List Cl) : List Int := mvY W H p q l o (H + 1 - q)
theorem mvX_yes {W H p q : Nat} {l : List Int} {o : List Cl} {y x : Nat} (h : fitN W H p q l o x y = true) : mvX W H p q l o y (x + 1) = mvX W H p q l o y x ++ [((orB W o * 2 ^ (y * W + x) : Nat) : Int)] := by
  unfold mvX
  rw [List.range_succ, List.filter_append, List.map_append]
  simp [h]
theorem mvX_no {W H p q : Nat} {l : List Int} {o : List Cl} {y x : Nat} (h : fitN W H p q l o x y = false) : mvX W H p q l o y (x + 1) = mvX W H p q l o y x := by
  unfold mvX
  rw [List.range_succ, List.filter_append, List.map_append]
  simp [h]
theorem mvX_len (W H p q : Nat) (l : List Int) (o : List Cl) (y x : Nat) : (mvX W H p q l o y x).length ≤ x := by
  unfold mvX
  rw [List.length_map]
  have := List.length_filter_le (fun u => fitN W H p q l o u y) (List.range x)
  simpa using this
theorem mvY_len (W H p q : Nat) (l : List Int) (o : List Cl) : ∀ y, (mvY W H p q l o y).length ≤ (W + 1 - p) * y
  | 0 => by simp [mvY]
  | y + 1 => by
    have h1 := mvY_len W H p q l o y
    have h2 := mvX_len W H p q l o y (W + 1 - p)
    rw [mvY, List.length_append, Nat.mul_succ]
    omega
theorem mem_mvY {W H p q : Nat} {l : List Int} {o : List Cl} (m : Int) : ∀ y, m ∈ mvY W H p q l o y ↔ ∃ v, v < y ∧ ∃ u, u < W + 1 - p ∧ fitN W H p q l o u v = true ∧ m = ((orB W o * 2 ^ (v * W + u) : Nat) : Int)
  | 0 => by simp [mvY]
  | y + 1 => by
    rw [mvY, List.mem_append, mem_mvY m y]
    have e : m ∈ mvX W H p q l o y (W + 1 - p) ↔ ∃ u, u < W + 1 - p ∧ fitN W H p q l o u y = true ∧ m = ((orB W o * 2 ^ (y * W + u) : Nat) : Int) := by
      unfold mvX
      rw [List.mem_map]
      constructor
      · rintro ⟨u, hu, rfl⟩
        rw [List.mem_filter, List.mem_range] at hu
        exact ⟨u, hu.1, hu.2, rfl⟩
      · rintro ⟨u, h1, h2, rfl⟩
        exact ⟨u, by rw [List.mem_filter, List.mem_range]; exact ⟨h1, h2⟩, rfl⟩
    rw [e]
    constructor
    · rintro (⟨v, hv, h2⟩ | h2)
      · exact ⟨v, by omega, h2⟩
      · exact ⟨y, by omega, h2⟩
    · rintro ⟨v, hv, h2⟩
      by_cases e : v = y
      · subst e; exact .inr h2
      · exact .inl ⟨v, by omega, h2⟩
theorem mem_mvR {W H p q : Nat} {l : List Int} (hr : Rg W H l) {o : List Cl} (ho : Orn o) (hb : OrnB o p q) (m : Int) : m ∈ mvR W H p q l o ↔ ∃ y x : Nat, okC W l (moveC x y o) (moveC x y o).length = true ∧ m = (orB W (moveC x y o) : Nat) := by
  have hpos : ∀ c ∈ o, 0 ≤ c.1 ∧ 0 ≤ c.2 := fun c hc => by have := hb.all c hc; omega
  unfold mvR
  rw [mem_mvY]
  constructor
  · rintro ⟨v, hv, u, hu, h1, h2⟩
    exact ⟨v, u, (fit_iff hr ho hb u v).1 h1, by rw [orB_move u v hpos]; exact h2⟩
  · rintro ⟨y, x, h1, h2⟩
    have h3 := (fit_iff hr ho hb x y).2 h1
    have h4 := h3
    unfold fitN at h4
    rw [Bool.and_eq_true, Bool.and_eq_true, decide_eq_true_eq, decide_eq_true_eq] at h4
    exact ⟨y, by omega, x, by omega, h3, by rw [← orB_move x y hpos]; exact h2⟩
/-- All orientations' masks, one after the other; each orientation's own width and height. -/
def mvO (W H : Nat) (l : List Int) (o : List Cl) : List Int := mvR W H (wideC o).toNat (highC o).toNat l o
def mvTo (W H : Nat) (l : List Int) (os : List (List Cl)) (i : Nat) : List Int := (os.take i).flatMap (mvO W H l)
theorem mvTo_succ {W H : Nat} {l : List Int} {os : List (List Cl)} {i : Nat} (h : i < os.length) : mvTo W H l os (i + 1) = mvTo W H l os i ++ mvO W H l (os.getD i []) := by
  unfold mvTo
  rw [List.take_succ_eq_append_getElem h, List.flatMap_append]
  simp [List.getD, h]
theorem mvO_box {W H p q : Nat} {l : List Int} {o : List Cl} (hb : OrnB o p q) : mvO W H l o = mvR W H p q l o := by
  unfold mvO
  rw [hb.wide, hb.high]
  rfl
theorem mvO_len {W H : Nat} (hW : W ≤ 6) (hH : H ≤ 6) (l : List Int) {o : List Cl} (ho : Orn o) : (mvO W H l o).length ≤ 36 := by
  obtain ⟨p, q, hb⟩ := ho.box
  rw [mvO_box hb]
  have h1 := mvY_len W H p q l o (H + 1 - q)
  have := hb.w1
  have := hb.h1
  have h2 : (W + 1 - p) * (H + 1 - q) ≤ 6 * 6 := Nat.mul_le_mul (by omega) (by omega)
  unfold mvR
  omega
theorem mvTo_len {W H : Nat} (hW : W ≤ 6) (hH : H ≤ 6) (l : List Int) (s : List Cl) : ∀ i, i ≤ (orientS s).length → (mvTo W H l (orientS s) i).length ≤ 36 * i
  | 0, _ => by simp [mvTo]
  | i + 1, h => by
    have h1 := mvTo_len hW hH l s i (by omega)
    have h2 := mvO_len hW hH l (orient_mem (l := s) (o := (orientS s).getD i []) (by simp [List.getD, show i < (orientS s).length by omega])).2.1
    rw [mvTo_succ (by omega), List.length_append]
    omega
theorem plR_prog {W H : Nat} {l : List Int} (hr : Rg W H l) (s : List Cl) : plR W l s = ascI (mvTo W H l (orientS s) (orientS s).length) := by
  refine sortG_unique ordI 0 (plR_srt _ _ _) fun m => ?_
  rw [mem_plR hr]
  unfold mvTo
  rw [List.take_length, List.mem_flatMap]
  constructor
  · rintro ⟨o, ho, h⟩
    obtain ⟨p, q, hb⟩ := (orient_mem ho).2.1.box
    exact ⟨o, ho, by rw [mvO_box hb]; exact (mem_mvR hr (orient_mem ho).2.1 hb m).2 h⟩
  · rintro ⟨o, ho, h⟩
    obtain ⟨p, q, hb⟩ := (orient_mem ho).2.1.box
    rw [mvO_box hb] at h
    exact ⟨o, ho, (mem_mvR hr (orient_mem ho).2.1 hb m).1 h⟩
theorem mv_bd {W H : Nat} {l : List Int} (hr : Rg W H l) (s : List Cl) (i : Nat) : ∀ m ∈ mvTo W H l (orientS s) i, 0 ≤ m ∧ m < 68719476736 := by
  intro m hm
  unfold mvTo at hm
  obtain ⟨o, ho, h⟩ := List.mem_flatMap.1 hm
  have ho2 := List.mem_of_mem_take ho
  obtain ⟨p, q, hb⟩ := (orient_mem ho2).2.1.box
  rw [mvO_box hb] at h
  unfold mvR at h
  obtain ⟨v, _, u, _, h1, rfl⟩ := (mem_mvY m _).1 h
  have := (fit_lt hb h1).2.2
  omega
theorem plR_bd (W : Int) (l : List Int) (s : List Cl) : ∀ m ∈ plR W l s, 0 ≤ m ∧ m < 68719476736 := by
  cases h : isReg W l with
  | false => rw [plR_no h]; intro m hm; cases hm
  | true =>
    obtain ⟨n, rfl, hr⟩ := isReg_out h
    rw [plR_prog hr]
    intro m hm
    exact mv_bd hr s _ m ((mem_ascI _ _).1 hm)

/-! ### Pieces -/
def allPc (ps : List (List Cl)) (k : Nat) : Bool := (List.range k).all fun j => isShape (ps.getD j [])
def arePc (ps : List (List Cl)) : Bool := allPc ps ps.length && inb ps.length 1 5
theorem allPc_step (ps : List (List Cl)) (k : Nat) : allPc ps (k + 1) = (allPc ps k && isShape (ps.getD k [])) := by
  unfold allPc; rw [List.range_succ, List.all_append]; simp
theorem allPc_false {ps : List (List Cl)} {k n : Nat} (h : isShape (ps.getD k []) = false) (hk : k < n) : allPc ps n = false := by
  cases h2 : allPc ps n with
  | false => rfl
  | true =>
    unfold allPc at h2
    rw [List.all_eq_true] at h2
    have := h2 k (List.mem_range.2 hk)
    rw [h] at this
    cases this
def apTo (W : Int) (l : List Int) (ps : List (List Cl)) (i : Nat) : List Int := (ps.take i).flatMap (plR W l)
def apR (W : Int) (l : List Int) (ps : List (List Cl)) : List Int := if arePc ps = true then ascI (apTo W l ps ps.length) else []
theorem apTo_succ {W : Int} {l : List Int} {ps : List (List Cl)} {i : Nat} (h : i < ps.length) : apTo W l ps (i + 1) = apTo W l ps i ++ plR W l (ps.getD i []) := by
  unfold apTo
  rw [List.take_succ_eq_append_getElem h, List.flatMap_append]
  simp [List.getD, h]
theorem apTo_len (W : Int) (l : List Int) (ps : List (List Cl)) : ∀ i, i ≤ ps.length → (apTo W l ps i).length ≤ 288 * i
  | 0, _ => by simp [apTo]
  | i + 1, h => by
    have h1 := apTo_len W l ps i (by omega)
    have h2 := plR_len W l (ps.getD i [])
    rw [apTo_succ (by omega), List.length_append]
    omega
theorem apTo_bd (W : Int) (l : List Int) (ps : List (List Cl)) (i : Nat) : ∀ m ∈ apTo W l ps i, 0 ≤ m ∧ m < 68719476736 := by
  intro m hm
  unfold apTo at hm
  obtain ⟨o, _, h⟩ := List.mem_flatMap.1 hm
  exact plR_bd W l o m h
theorem arePc_len {ps : List (List Cl)} (h : arePc ps = true) : 1 ≤ ps.length ∧ ps.length ≤ 5 := by
  unfold arePc at h
  rw [Bool.and_eq_true] at h
  have := h.2
  simp [inb] at this
  omega
theorem apR_no {ps : List (List Cl)} (h : arePc ps = false) (W : Int) (l : List Int) : apR W l ps = [] := if_neg (by rw [h]; simp)
theorem apR_yes {ps : List (List Cl)} (h : arePc ps = true) (W : Int) (l : List Int) : apR W l ps = ascI (apTo W l ps ps.length) := if_pos h
/-! ### Those that have a cell -/
def hasB (W : Int) (x y : Int) (m : Int) : Bool := m.toNat.testBit (bN W.toNat (x, y))
def atR (W : Int) (l : List Int) (s : List Cl) (x y : Int) : List Int := if (isReg W l && bt l (x, y)) = true then (plR W l s).filter (hasB W x y) else []
def fcX (W : Int) (l : List Int) (m : Int) : Cl := (cellsM W l m).getD 0 (0, 0)
def fcB (W : Int) (l : List Int) (m : Int) : Bool := decide (0 < (cellsM W l m).length)
end

end Go.Proofs.YtghpljoccclmkaaDoor
