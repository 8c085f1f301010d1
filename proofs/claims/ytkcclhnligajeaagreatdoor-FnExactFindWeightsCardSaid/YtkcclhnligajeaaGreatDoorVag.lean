/-
  Regions as a width and a list of rows, each row a number whose bits are cells: plain facts, nothing of the program.
  Is it a region, is a place a cell of it: in the model and in the program: what each call gives.
-/
import Derived.Test.YtkcclhnligajeaaGreatDoorPo2
import Derived.Test.YtkcclhnligajeaaGreatDoorVac
import Derived.Test.YtkcclhnligajeaaGreatDoorVaa
namespace Go.Proofs.YtkcclhnligajeaaGreatDoor

section
def okRow (W : Int) (r : Int) : Bool := decide (0 ≤ r) && decide (r < 2 ^ W.toNat)
def rowsTo (W : Int) (l : List Int) (k : Nat) : Bool := (List.range k).all fun j => okRow W (l.getD j 0)
def isReg (W : Int) (l : List Int) : Bool := inb W 1 6 && inb l.length 1 6 && rowsTo W l l.length
theorem rowsTo_step (W : Int) (l : List Int) (k : Nat) : rowsTo W l (k + 1) = (rowsTo W l k && okRow W (l.getD k 0)) := by
  unfold rowsTo; rw [List.range_succ, List.all_append]; simp
theorem rowsTo_iff (W : Int) (l : List Int) (k : Nat) : rowsTo W l k = true ↔ ∀ j, j < k → okRow W (l.getD j 0) = true := by
  unfold rowsTo; rw [List.all_eq_true]; simp
theorem rowsTo_false {W : Int} {l : List Int} {k n : Nat} (h : okRow W (l.getD k 0) = false) (hk : k < n) : rowsTo W l n = false := by
  cases h2 : rowsTo W l n with
  | false => rfl
  | true => have := (rowsTo_iff W l n).1 h2 k hk; rw [h] at this; cases this
/-- Rows of a grid that is right. -/
structure Rg (W H : Nat) (l : List Int) : Prop where
  w0 : 1 ≤ W
  w6 : W ≤ 6
  h0 : 1 ≤ H
  h6 : H ≤ 6
  len : l.length = H
  row : ∀ j, j < H → 0 ≤ l.getD j 0 ∧ l.getD j 0 < 2 ^ W
theorem isReg_out {W : Int} {l : List Int} (h : isReg W l = true) : ∃ n : Nat, W = n ∧ Rg n l.length l := by
  unfold isReg at h
  rw [Bool.and_eq_true, Bool.and_eq_true, rowsTo_iff] at h
  obtain ⟨⟨h1, h2⟩, h3⟩ := h
  simp [inb] at h1 h2
  refine ⟨W.toNat, by omega, by omega, by omega, by omega, by omega, rfl, fun j hj => ?_⟩
  have := h3 j hj
  simp [okRow] at this
  exact this
theorem isReg_of {W H : Nat} {l : List Int} (h : Rg W H l) : isReg W l = true := by
  unfold isReg
  rw [Bool.and_eq_true, Bool.and_eq_true, rowsTo_iff]
  have := h.w0
  have := h.w6
  have := h.h0
  have := h.h6
  have hl := h.len
  refine ⟨⟨by simp [inb]; omega, by simp [inb]; omega⟩, fun j hj => ?_⟩
  have := h.row j (by omega)
  simp [okRow]
  exact this
def rN (l : List Int) (y : Nat) : Nat := (l.getD y 0).toNat
theorem pow6 {W : Nat} (h : W ≤ 6) : 2 ^ W ≤ 64 := by
  have := Nat.pow_le_pow_right (show 0 < 2 by omega) h
  omega
theorem Rg.nat {W H : Nat} {l : List Int} (h : Rg W H l) {y : Nat} (hy : y < H) : l.getD y 0 = (rN l y : Int) ∧ rN l y < 2 ^ W ∧ rN l y < 64 := by
  have h1 := h.row y hy
  have h2 := pow6 h.w6
  unfold rN
  have e : ((2 ^ W : Nat) : Int) = (2 : Int) ^ W := by simp
  rw [← e] at h1
  omega
/-- Is a place a cell. -/
def bt (l : List Int) (q : Cl) : Bool := decide (0 ≤ q.1) && (decide (0 ≤ q.2) && (rN l q.2.toNat).testBit q.1.toNat)
theorem bt_iff (l : List Int) (q : Cl) : bt l q = true ↔ 0 ≤ q.1 ∧ 0 ≤ q.2 ∧ (rN l q.2.toNat).testBit q.1.toNat = true := by unfold bt; simp
theorem bt_nat (l : List Int) (x y : Nat) : bt l ((x : Int), (y : Int)) = (rN l y).testBit x := by unfold bt; simp
theorem rN_out {l : List Int} {y : Nat} (h : l.length ≤ y) : rN l y = 0 := by unfold rN; simp [List.getD, List.getElem?_eq_none h]
theorem tb_lt {n W x : Nat} (h : n < 2 ^ W) (hx : n.testBit x = true) : x < W := by
  by_cases h1 : x < W
  · exact h1
  · have h2 : n < 2 ^ x := Nat.lt_of_lt_of_le h (Nat.pow_le_pow_right (by omega) (by omega))
    rw [Nat.testBit_lt_two_pow h2] at hx
    cases hx
theorem Rg.bt_in {W H : Nat} {l : List Int} (h : Rg W H l) {q : Cl} (hq : bt l q = true) : (0 ≤ q.1 ∧ q.1 < W) ∧ 0 ≤ q.2 ∧ q.2 < H := by
  obtain ⟨h1, h2, h3⟩ := (bt_iff l q).1 hq
  have hy : q.2.toNat < H := by
    by_cases hy : q.2.toNat < H
    · exact hy
    · rw [rN_out (by have := h.len; omega)] at h3
      simp at h3
  have := tb_lt (h.nat hy).2.1 h3
  omega
theorem Rg.ext {W H : Nat} {a b : List Int} (ha : Rg W H a) (hb : Rg W H b) (h : ∀ q, bt a q = true ↔ bt b q = true) : a = b := by
  apply List.ext_getElem?
  intro y
  by_cases hy : y < H
  · have e : rN a y = rN b y := by
      apply Nat.eq_of_testBit_eq
      intro x
      have := h ((x : Int), (y : Int))
      rw [bt_nat, bt_nat] at this
      rw [Bool.eq_iff_iff]
      exact this
    have h1 := (ha.nat hy).1
    have h2 := (hb.nat hy).1
    rw [e, ← h2] at h1
    have ya : y < a.length := by rw [ha.len]; exact hy
    have yb : y < b.length := by rw [hb.len]; exact hy
    rw [List.getElem?_eq_getElem ya, List.getElem?_eq_getElem yb]
    simpa [List.getD, ya, yb] using h1
  · rw [List.getElem?_eq_none (by have := ha.len; omega), List.getElem?_eq_none (by have := hb.len; omega)]
def zerosR (H : Nat) : List Int := List.replicate H 0
theorem rN_zeros (H y : Nat) : rN (zerosR H) y = 0 := by unfold rN zerosR; by_cases h : y < H <;> simp [List.getD, h]
theorem bt_zeros (H : Nat) (q : Cl) : bt (zerosR H) q = false := by unfold bt; rw [rN_zeros]; simp
theorem zeros_get (H y : Nat) : (zerosR H).getD y 0 = 0 := by unfold zerosR; by_cases h : y < H <;> simp [List.getD, h]
theorem Rg.zeros {W H : Nat} (h1 : 1 ≤ W) (h2 : W ≤ 6) (h3 : 1 ≤ H) (h4 : H ≤ 6) : Rg W H (zerosR H) :=
  ⟨h1, h2, h3, h4, by simp [zerosR], fun j _ => by rw [zeros_get]; exact ⟨Int.le_refl _, Int.pow_pos (by omega)⟩⟩
/-- One cell more, one cell less. -/
def setB (l : List Int) (q : Cl) : List Int := l.set q.2.toNat ((rN l q.2.toNat ||| 2 ^ q.1.toNat : Nat) : Int)
def clrN (n x : Nat) : Nat := if n.testBit x = true then n - 2 ^ x else n
def clrB (l : List Int) (q : Cl) : List Int := l.set q.2.toNat ((clrN (rN l q.2.toNat) q.1.toNat : Nat) : Int)
theorem rN_set (l : List Int) {y : Nat} (hy : y < l.length) (n j : Nat) : rN (l.set y (n : Int)) j = if j = y then n else rN l j := by
  unfold rN
  by_cases e : j = y
  · subst e; simp [List.getD, hy]
  · have e2 : ¬ y = j := fun h => e h.symm
    simp [List.getD, e, e2]
theorem clr_bits : ∀ n, n < 64 → ∀ x, x < 6 → ∀ y, y < 6 → (clrN n x).testBit y = (n.testBit y && !decide (y = x)) := by decide +kernel
theorem clrN_le (n x : Nat) : clrN n x ≤ n := by
  unfold clrN
  split
  · exact Nat.sub_le _ _
  · exact Nat.le_refl _
theorem clr_bit {n x : Nat} (hn : n < 64) (hx : x < 6) (y : Nat) : (clrN n x).testBit y = (n.testBit y && !decide (y = x)) := by
  by_cases hy : y < 6
  · exact clr_bits n hn x hx y hy
  · have h1 : 64 ≤ 2 ^ y := Nat.pow_le_pow_right (show 0 < 2 by omega) (show 6 ≤ y by omega)
    have := clrN_le n x
    rw [Nat.testBit_lt_two_pow (show clrN n x < 2 ^ y by omega), Nat.testBit_lt_two_pow (show n < 2 ^ y by omega)]
    rfl
theorem set_bit (n x y : Nat) : (n ||| 2 ^ x).testBit y = (n.testBit y || decide (y = x)) := by
  rw [Nat.testBit_or, Nat.testBit_two_pow]
  congr 1
  rw [Bool.eq_iff_iff]
  simp [eq_comm]
def inG (W H : Nat) (q : Cl) : Prop := (0 ≤ q.1 ∧ q.1 < W) ∧ 0 ≤ q.2 ∧ q.2 < H
theorem Rg.rows {W H : Nat} {l : List Int} (h : Rg W H l) {y n : Nat} (hy : y < H) (hn : n < 2 ^ W) : Rg W H (l.set y (n : Int)) :=
  ⟨h.w0, h.w6, h.h0, h.h6, by rw [List.length_set]; exact h.len, fun j hj => by
    by_cases e : j = y
    · subst e
      have : (l.set j (n : Int)).getD j 0 = (n : Int) := by simp [List.getD, h.len, hj]
      rw [this]
      have e : ((2 ^ W : Nat) : Int) = (2 : Int) ^ W := by simp
      rw [← e]
      omega
    · have e2 : ¬ y = j := fun h => e h.symm
      have : (l.set y (n : Int)).getD j 0 = l.getD j 0 := by simp [List.getD, e2]
      rw [this]
      exact h.row j hj⟩
theorem Rg.set {W H : Nat} {l : List Int} (h : Rg W H l) {q : Cl} (hq : inG W H q) : Rg W H (setB l q) := by
  have hy : q.2.toNat < H := by have := hq.2; omega
  have hx : q.1.toNat < W := by have := hq.1; omega
  exact h.rows hy (Nat.or_lt_two_pow (h.nat hy).2.1 (Nat.pow_lt_pow_right (by omega) hx))
theorem Rg.clr {W H : Nat} {l : List Int} (h : Rg W H l) {q : Cl} (hq : inG W H q) : Rg W H (clrB l q) := by
  have hy : q.2.toNat < H := by have := hq.2; omega
  exact h.rows hy (Nat.lt_of_le_of_lt (clrN_le _ _) (h.nat hy).2.1)
theorem cl_eq {p q : Cl} (hp : 0 ≤ p.1 ∧ 0 ≤ p.2) (hq : 0 ≤ q.1 ∧ 0 ≤ q.2) : p = q ↔ p.2.toNat = q.2.toNat ∧ p.1.toNat = q.1.toNat := by
  constructor
  · rintro rfl; exact ⟨rfl, rfl⟩
  · rintro ⟨h1, h2⟩
    obtain ⟨a, b⟩ := p
    obtain ⟨c, d⟩ := q
    dsimp only at *
    congr 1 <;> omega
theorem Rg.bt_set {W H : Nat} {l : List Int} (h : Rg W H l) {q : Cl} (hq : inG W H q) (p : Cl) : bt (setB l q) p = true ↔ bt l p = true ∨ p = q := by
  have hy : q.2.toNat < l.length := by have := hq.2; have := h.len; omega
  rw [bt_iff, bt_iff]
  unfold setB
  rw [rN_set l hy]
  have hq0 : 0 ≤ q.1 ∧ 0 ≤ q.2 := ⟨hq.1.1, hq.2.1⟩
  by_cases e : p.2.toNat = q.2.toNat
  · rw [if_pos e, set_bit, Bool.or_eq_true, decide_eq_true_eq, ← e]
    constructor
    · rintro ⟨h1, h2, h3 | h3⟩
      · exact .inl ⟨h1, h2, h3⟩
      · exact .inr ((cl_eq ⟨h1, h2⟩ hq0).2 ⟨e, h3⟩)
    · rintro (⟨h1, h2, h3⟩ | rfl)
      · exact ⟨h1, h2, .inl h3⟩
      · exact ⟨hq0.1, hq0.2, .inr rfl⟩
  · rw [if_neg e]
    constructor
    · exact fun h => .inl h
    · rintro (h | rfl)
      · exact h
      · exact absurd rfl e
theorem Rg.bt_clr {W H : Nat} {l : List Int} (h : Rg W H l) {q : Cl} (hq : inG W H q) (p : Cl) : bt (clrB l q) p = true ↔ bt l p = true ∧ p ≠ q := by
  have hyH : q.2.toNat < H := by have := hq.2; omega
  have hy : q.2.toNat < l.length := by have := h.len; omega
  have hx6 : q.1.toNat < 6 := by have := hq.1; have := h.w6; omega
  rw [bt_iff, bt_iff]
  unfold clrB
  rw [rN_set l hy]
  have hq0 : 0 ≤ q.1 ∧ 0 ≤ q.2 := ⟨hq.1.1, hq.2.1⟩
  by_cases e : p.2.toNat = q.2.toNat
  · rw [if_pos e, clr_bit (h.nat hyH).2.2 hx6, Bool.and_eq_true, ← e]
    constructor
    · rintro ⟨h1, h2, h3, h4⟩
      refine ⟨⟨h1, h2, h3⟩, ?_⟩
      rintro rfl
      simp at h4
    · rintro ⟨⟨h1, h2, h3⟩, h4⟩
      refine ⟨h1, h2, h3, ?_⟩
      simp only [Bool.not_eq_true', decide_eq_false_iff_not]
      exact fun h5 => h4 ((cl_eq ⟨h1, h2⟩ hq0).2 ⟨e, h5⟩)
  · rw [if_neg e]
    constructor
    · intro h5
      refine ⟨h5, ?_⟩
      rintro rfl
      exact e rfl
    · exact fun h => h.1
theorem add_bit : ∀ n, n < 64 → ∀ x, x < 6 → n.testBit x = false → n + 2 ^ x = n ||| 2 ^ x := by decide +kernel
theorem shr_bit : ∀ n, n < 64 → ∀ x, x < 6 → n / 2 ^ x &&& 1 = (n.testBit x).toNat := by decide +kernel

/-! ### The cells in order -/
def cellsB (W H : Nat) (l : List Int) : List Cl := (gTo W H).filter (bt l)
theorem mem_cellsB {W H : Nat} {l : List Int} (h : Rg W H l) (q : Cl) : q ∈ cellsB W H l ↔ bt l q = true := by
  unfold cellsB
  rw [List.mem_filter, mem_gTo]
  constructor
  · exact fun h => h.2
  · intro hq
    have := h.bt_in hq
    exact ⟨⟨this.2, this.1⟩, hq⟩
theorem cellsB_srt (W H : Nat) (l : List Int) : Srt (cellsB W H l) := List.Pairwise.sublist List.filter_sublist (gTo_srt W H)
theorem cellsB_len (W H : Nat) (l : List Int) (hW : W ≤ 6) (hH : H ≤ 6) : (cellsB W H l).length ≤ 36 := by
  have h1 := List.length_filter_le (bt l) (gTo W H)
  rw [gTo_len] at h1
  have := Nat.mul_le_mul hW hH
  unfold cellsB
  omega
theorem cellsB_in {W H : Nat} {l : List Int} (hW : W ≤ 6) (hH : H ≤ 6) : ∀ c ∈ cellsB W H l, (0 ≤ c.1 ∧ c.1 < 6) ∧ 0 ≤ c.2 ∧ c.2 < 6 := fun c hc => by
  have := (mem_gTo W c H).1 (List.mem_filter.1 hc).1
  omega
def cellsR (W : Int) (l : List Int) : List Cl := if isReg W l = true then cellsB W.toNat l.length l else []
theorem cellsR_yes {W H : Nat} {l : List Int} (h : Rg W H l) : cellsR W l = cellsB W H l := by
  unfold cellsR
  rw [if_pos (isReg_of h), h.len]
  rfl
theorem cellsR_no {W : Int} {l : List Int} (h : isReg W l = false) : cellsR W l = [] := if_neg (by rw [h]; simp)
theorem cellsR_in (W : Int) (l : List Int) : ∀ c ∈ cellsR W l, (0 ≤ c.1 ∧ c.1 < 6) ∧ 0 ≤ c.2 ∧ c.2 < 6 := by
  cases h : isReg W l with
  | false => rw [cellsR_no h]; intro c hc; cases hc
  | true =>
    obtain ⟨n, rfl, hr⟩ := isReg_out h
    rw [cellsR_yes hr]
    exact cellsB_in hr.w6 hr.h6
theorem cellsR_len (W : Int) (l : List Int) : (cellsR W l).length ≤ 36 := by
  cases h : isReg W l with
  | false => rw [cellsR_no h]; simp
  | true =>
    obtain ⟨n, rfl, hr⟩ := isReg_out h
    rw [cellsR_yes hr]
    exact cellsB_len _ _ _ hr.w6 hr.h6
theorem cellsR_inC (W : Int) (l : List Int) : ∀ c ∈ cellsR W l, InC c := fun c hc => by
  have := cellsR_in W l c hc
  unfold InC
  omega
/-! ### How many -/
def areaR (W : Int) (l : List Int) : Int := if isReg W l = true then ((cellsR W l).length : Int) else -1
def popc (n : Nat) : Nat := ((List.range 6).filter n.testBit).length
theorem pop_row : ∀ n, n < 64 → ∀ W, W ≤ 6 → n < 2 ^ W → ((List.range W).filter n.testBit).length = popc n := by decide +kernel
theorem gRow_bits (l : List Int) (y : Nat) : ∀ x, ((gRow (y : Int) x).filter (bt l)).length = ((List.range x).filter (rN l y).testBit).length
  | 0 => rfl
  | x + 1 => by
    rw [gRow, List.filter_append, List.length_append, gRow_bits l y x, List.range_succ, List.filter_append, List.length_append]
    congr 1
    have := bt_nat l x y
    cases h : (rN l y).testBit x <;> rw [h] at this <;> simp [this, h]
theorem area_step {W H : Nat} {l : List Int} (h : Rg W H l) {y : Nat} (hy : y < H) : (cellsB W (y + 1) l).length = (cellsB W y l).length + popc (rN l y) := by
  unfold cellsB
  rw [gTo, List.filter_append, List.length_append, gRow_bits, pop_row _ (h.nat hy).2.2 _ h.w6 (h.nat hy).2.1]
theorem popc_le (n : Nat) : popc n ≤ 6 := by
  have := List.length_filter_le n.testBit (List.range 6)
  rw [List.length_range] at this
  exact this
theorem areaR_yes {W H : Nat} {l : List Int} (h : Rg W H l) : areaR W l = ((cellsB W H l).length : Int) := by
  unfold areaR
  rw [if_pos (isReg_of h), cellsR_yes h]
theorem areaR_no {W : Int} {l : List Int} (h : isReg W l = false) : areaR W l = -1 := if_neg (by rw [h]; simp)
/-! ### Colours -/
def colTo (k : Nat) (cs : List Cl) : Nat → List Int
  | 0 => List.replicate k 0
  | j + 1 => (colTo k cs j).set (((cs.getD j (0, 0)).1 + (cs.getD j (0, 0)).2).toNat % k) ((colTo k cs j).getD (((cs.getD j (0, 0)).1 + (cs.getD j (0, 0)).2).toNat % k) 0 + 1)
theorem colTo_len (k : Nat) (cs : List Cl) : ∀ j, (colTo k cs j).length = k
  | 0 => by simp [colTo]
  | j + 1 => by rw [colTo, List.length_set, colTo_len k cs j]
theorem colTo_bd (k : Nat) (cs : List Cl) : ∀ j i, 0 ≤ (colTo k cs j).getD i 0 ∧ (colTo k cs j).getD i 0 ≤ j
  | 0, i => by by_cases h : i < k <;> simp [colTo, List.getD, h]
  | j + 1, i => by
    rw [colTo]
    have h1 := colTo_bd k cs j i
    generalize ((cs.getD j (0, 0)).1 + (cs.getD j (0, 0)).2).toNat % k = m
    have h2 := colTo_bd k cs j m
    by_cases e : m = i
    · subst e
      by_cases hm : m < (colTo k cs j).length
      · have e2 : ((colTo k cs j).set m ((colTo k cs j).getD m 0 + 1)).getD m 0 = (colTo k cs j).getD m 0 + 1 := by
          generalize (colTo k cs j).getD m 0 + 1 = v
          simp [List.getD, hm]
        rw [e2]
        omega
      · have e2 : ((colTo k cs j).set m ((colTo k cs j).getD m 0 + 1)).getD m 0 = 0 := by
          rw [List.getD, List.getElem?_eq_none (by rw [List.length_set]; omega)]
          rfl
        rw [e2]
        omega
    · have e2 : ((colTo k cs j).set m ((colTo k cs j).getD m 0 + 1)).getD i 0 = (colTo k cs j).getD i 0 := by
        generalize (colTo k cs j).getD m 0 + 1 = v
        simp [List.getD, e]
      rw [e2]
      omega
def colR (W : Int) (l : List Int) (k : Int) : List Int := if (isReg W l && inb k 1 6) = true then colTo k.toNat (cellsR W l) (cellsR W l).length else []
/-! ### As text -/
def rowB (l : List Int) (y x : Nat) : List UInt8 := (List.range x).map fun (j : Nat) => if bt l ((j : Int), (y : Int)) = true then 35 else 46
def fmtT (W : Nat) (l : List Int) : Nat → List UInt8
  | 0 => []
  | y + 1 => fmtT W l y ++ ((if y = 0 then [] else [47]) ++ rowB l y W)
def fmtR (W : Int) (l : List Int) : List UInt8 := if isReg W l = true then fmtT W.toNat l l.length else []
theorem rowB_step (l : List Int) (y x : Nat) : rowB l y (x + 1) = rowB l y x ++ [if bt l ((x : Int), (y : Int)) = true then 35 else 46] := by
  unfold rowB
  rw [List.range_succ, List.map_append]
  rfl
theorem rowB_ln (l : List Int) (y x : Nat) : (rowB l y x).length = x := by simp [rowB]
theorem fmtT_le (W : Nat) (l : List Int) : ∀ y, (fmtT W l y).length ≤ (W + 1) * y
  | 0 => by simp [fmtT]
  | y + 1 => by
    have := fmtT_le W l y
    rw [fmtT, List.length_append, List.length_append, rowB_ln, Nat.mul_succ]
    split
    · simp; omega
    · simp; omega
theorem fmtR_yes {W H : Nat} {l : List Int} (h : Rg W H l) : fmtR W l = fmtT W l H := by
  unfold fmtR
  rw [if_pos (isReg_of h), h.len]
  rfl
theorem fmtR_no {W : Int} {l : List Int} (h : isReg W l = false) : fmtR W l = [] := if_neg (by rw [h]; simp)
end

section
open Go.RowKit

theorem isReg_w {W : Int} {l : List Int} (h : inb W 1 6 = false) : isReg W l = false := by unfold isReg; rw [h]; rfl
theorem isReg_h {W : Int} {l : List Int} (h : inb l.length 1 6 = false) : isReg W l = false := by unfold isReg; rw [h]; simp
theorem isReg_r {W : Int} {l : List Int} (h1 : inb W 1 6 = true) (h2 : inb l.length 1 6 = true) : isReg W l = rowsTo W l l.length := by unfold isReg; rw [h1, h2]; simp
theorem pw_nat (N : Nat) : ∃ m : Nat, 2 ^ N = m ∧ (2 : Int) ^ N = (m : Int) := ⟨2 ^ N, rfl, by simp⟩
theorem pw64 (N : Nat) (h : N ≤ 41) : wrap64 ((2 : Int) ^ N) = (2 : Int) ^ N := by
  have h1 : (2 : Nat) ^ N ≤ 2 ^ 41 := Nat.pow_le_pow_right (by omega) h
  obtain ⟨m, hm, e⟩ := pw_nat N
  rw [hm] at h1
  rw [e]
  exact IntWalk.wrap64_in _ (by omega)
theorem inb_outS {x a b : Int} (h : inb x a b = true) : a ≤ x ∧ x ≤ b := by simpa [inb] using h

set_option maxHeartbeats 1000000 in
set_option maxRecDepth 100000 in
theorem sIsReg (B n cap : Nat) (a : Option Addr) (W : Int) (l : List Int) (w : World) (hn : n ≤ 4194304) (hc : IntsAt B w a n l) (hB : B ≤ w.heap.size) :
    Calls Tryz.prog 19 #[.agg #[.int .i64 W, .slice a n cap]] w fun e w' => e = .returned (.bool (isReg W l)) ∧ Below w.heap.size w w' := by
  have H := Lib.hid hc
  have hln := hc.1
  clear hc
  cases h1 : inb W 1 6 with
  | false =>
    have HO := Lib.hid (isReg_w (l := l) h1)
    rw [HO.out]
    go_enter Tryz.func19, Tryz.ntmps19
    go_wp2_with fail
    refine (sIn W 1 6 _).mono ?_
    rintro e w' ⟨rfl, rfl⟩
    rw [h1]
    go_wp2
    go_ret
    exact ⟨rfl, (Below.refl _ _).alloc (Nat.le_refl _) _⟩
  | true =>
    cases h2 : inb (n : Int) 1 6 with
    | false =>
      have HO := Lib.hid (isReg_h (W := W) (l := l) (by rw [hln]; exact h2))
      rw [HO.out]
      go_enter Tryz.func19, Tryz.ntmps19
      go_wp2_with fail
      refine (sIn W 1 6 _).mono ?_
      rintro e w' ⟨rfl, rfl⟩
      rw [h1]
      go_wp2_with fail
      refine (sIn (n : Int) 1 6 _).mono ?_
      rintro e w' ⟨rfl, rfl⟩
      rw [h2]
      go_wp2
      go_ret
      exact ⟨rfl, (Below.refl _ _).alloc (Nat.le_refl _) _⟩
    | true =>
      have hW := inb_outS h1
      have hH := inb_outS h2
      have HO := Lib.hid (show isReg W l = rowsTo W l n from by rw [isReg_r h1 (by rw [hln]; exact h2), hln])
      rw [HO.out]
      obtain ⟨N, rfl⟩ : ∃ N : Nat, W = N := ⟨W.toNat, by omega⟩
      go_enter Tryz.func19, Tryz.ntmps19
      go_wp2_with fail
      refine (sIn N 1 6 _).mono ?_
      rintro e w' ⟨rfl, rfl⟩
      rw [h1]
      go_wp2_with fail
      refine (sIn (n : Int) 1 6 _).mono ?_
      rintro e w' ⟨rfl, rfl⟩
      rw [h2]
      have hbox := RgAt.new (w := w) N (.slice a n cap) rfl
      have hb0 := (Below.refl w.heap.size w).alloc (Nat.le_refl _) (.cells #[.int .i64 N, .slice a n cap] 26)
      have hsz0 : (w.alloc (.cells #[.int .i64 N, .slice a n cap] 26)).heap.size = w.heap.size + 1 := by simp
      generalize w.alloc (.cells #[.int .i64 N, .slice a n cap] 26) = W1 at *
      have HB0 := Lib.hid hb0
      clear hb0
      go_wp2
      go_loopw [3] (fun i wr => ∃ k : Nat, k ≤ n ∧ i = .int .i64 k ∧ Hid (rowsTo N l k = true) ∧ Below (w.heap.size + 1) W1 wr) (fun i _ => n - (intOf i).toNat)
      case atStart => exact ⟨0, by omega, rfl, by simp [Hid, rowsTo], Below.refl _ _⟩
      case round =>
        obtain ⟨k, hk, rfl, hr, hb⟩ := hrel
        have hsz := hb.size
        have hbw := HB0.out.trans (hb.mono (by omega))
        have hbx := hbox.on hb (by omega)
        have c0 := hbx.c0
        have c1 := hbx.c1
        by_cases hlt : k < n
        · obtain ⟨b, off, rfl, hbB, hcell⟩ := H.out.2.2 (by omega)
          have p1 := (hbw.cell (p := ⟨b, off + k, none⟩) (Nat.lt_of_lt_of_le hbB hB)).trans (hcell k hlt)
          have hk0 : (0 : Int) ≤ (k : Int) := by omega
          have hk1 : (k : Int) < (n : Int) := by omega
          obtain ⟨z, hz⟩ : ∃ z, l.getD k 0 = z := ⟨_, rfl⟩
          rw [hz] at p1
          have HS := Lib.hid (rowsTo_step N l k)
          have HZ := Lib.hid hz
          clear hz hcell
          by_cases hz0 : z < 0
          · have hd : decide (z < 0) = true := by simp [hz0]
            have HR := Lib.hid (show rowsTo N l n = false from rowsTo_false (k := k) (by rw [HZ.out]; unfold okRow; simp; omega) hlt)
            go_wp2_with fail
            go_quiet (fail)
            go_wp2
            go_ret
            exact ⟨by rw [HR.out]; rfl, below_drewn hbw _⟩
          · have hd : decide (z < 0) = false := by simp [hz0]
            have hp := pw64 N (by omega)
            by_cases hz1 : (2 : Int) ^ N ≤ z
            · have hd2 : decide (wrap64 ((2 : Int) ^ N) ≤ z) = true := by rw [hp]; simp [hz1]
              have HR := Lib.hid (show rowsTo N l n = false from rowsTo_false (k := k) (by rw [HZ.out]; unfold okRow; simp; omega) hlt)
              clear hp
              go_wp2_with fail
              go_quiet (fail)
              go_wp2
              go_ret
              exact ⟨by rw [HR.out]; rfl, below_drewn hbw _⟩
            · have hd2 : decide (wrap64 ((2 : Int) ^ N) ≤ z) = false := by rw [hp]; simp; omega
              have HR := Lib.hid (show rowsTo N l (k + 1) = true from by rw [HS.out, hr.out, HZ.out]; unfold okRow; simp; omega)
              clear hp
              go_wp2_with fail
              go_quiet (fail)
              go_wp2
              go_roundw
              case rel => exact ⟨k + 1, by omega, by go_num, HR.out, below_drewn hb _⟩
              case measure => simp [intOf]; omega
        · obtain rfl : k = n := by omega
          go_wp2
          go_ret
          exact ⟨by rw [hr.out]; rfl, hbw⟩

set_option maxHeartbeats 1000000 in
theorem iSide (x : Int) (w : World) : Calls Tryz.prog 128 #[.int .i64 x] w fun e w' => e = .returned (.bool (inb x 1 6)) ∧ w = w' := by
  unfold inb
  by_cases h1 : 1 ≤ x
  · by_cases h2 : x ≤ 6
    · rw [decide_eq_true h1, decide_eq_true h2]
      go_enter Tryz.func128, Tryz.ntmps128
      go_wp2
      go_ret
      exact ⟨rfl, rfl⟩
    · rw [decide_eq_true h1, decide_eq_false h2]
      go_enter Tryz.func128, Tryz.ntmps128
      go_wp2
      go_ret
      exact ⟨rfl, rfl⟩
  · rw [decide_eq_false h1]
    go_enter Tryz.func128, Tryz.ntmps128
    go_wp2
    go_ret
    exact ⟨rfl, rfl⟩
theorem iFull (N : Nat) (h : N ≤ 6) (w : World) : Calls Tryz.prog 129 #[.int .i64 N] w fun e w' => e = .returned (.int .i64 ((2 : Int) ^ N - 1)) ∧ w = w' := by
  have hp := pw64 N (by omega)
  have h1 : (2 : Nat) ^ N ≤ 2 ^ 6 := Nat.pow_le_pow_right (by omega) h
  obtain ⟨m, hm, e⟩ := pw_nat N
  rw [hm] at h1
  have h3 : wrap64 ((2 : Int) ^ N - 1) = (2 : Int) ^ N - 1 := by rw [e]; exact IntWalk.wrap64_in _ (by omega)
  go_enter Tryz.func129, Tryz.ntmps129
  go_wp2
  go_ret
  exact ⟨by rw [e]; simp, rfl⟩

set_option maxHeartbeats 1000000 in
set_option maxRecDepth 100000 in
theorem iIsReg (B n cap : Nat) (a : Option Addr) (W : Int) (l : List Int) (w : World) (hn : n ≤ 4194304) (hc : IntsAt B w a n l) (hB : B ≤ w.heap.size) :
    Calls Tryz.prog 89 #[.agg #[.int .i64 W, .slice a n cap]] w fun e w' => e = .returned (.bool (isReg W l)) ∧ Below w.heap.size w w' := by
  have H := Lib.hid hc
  have hln := hc.1
  clear hc
  cases h1 : inb W 1 6 with
  | false =>
    have HO := Lib.hid (isReg_w (l := l) h1)
    rw [HO.out]
    go_enter Tryz.func89, Tryz.ntmps89
    go_wp2_with fail
    refine (iSide W _).mono ?_
    rintro e w' ⟨rfl, rfl⟩
    rw [h1]
    go_wp2
    go_ret
    exact ⟨rfl, (Below.refl _ _).alloc (Nat.le_refl _) _⟩
  | true =>
    cases h2 : inb (n : Int) 1 6 with
    | false =>
      have HO := Lib.hid (isReg_h (W := W) (l := l) (by rw [hln]; exact h2))
      rw [HO.out]
      go_enter Tryz.func89, Tryz.ntmps89
      go_wp2_with fail
      refine (iSide W _).mono ?_
      rintro e w' ⟨rfl, rfl⟩
      rw [h1]
      go_wp2_with fail
      refine (iSide (n : Int) _).mono ?_
      rintro e w' ⟨rfl, rfl⟩
      rw [h2]
      go_wp2
      go_ret
      exact ⟨rfl, (Below.refl _ _).alloc (Nat.le_refl _) _⟩
    | true =>
      have hW := inb_outS h1
      have hH := inb_outS h2
      have HO := Lib.hid (show isReg W l = rowsTo W l n from by rw [isReg_r h1 (by rw [hln]; exact h2), hln])
      rw [HO.out]
      obtain ⟨N, rfl⟩ : ∃ N : Nat, W = N := ⟨W.toNat, by omega⟩
      go_enter Tryz.func89, Tryz.ntmps89
      go_wp2_with fail
      refine (iSide N _).mono ?_
      rintro e w' ⟨rfl, rfl⟩
      rw [h1]
      go_wp2_with fail
      refine (iSide (n : Int) _).mono ?_
      rintro e w' ⟨rfl, rfl⟩
      rw [h2]
      have hbox := RgAt.new (w := w) N (.slice a n cap) rfl
      have hb0 := (Below.refl w.heap.size w).alloc (Nat.le_refl _) (.cells #[.int .i64 N, .slice a n cap] 26)
      have hsz0 : (w.alloc (.cells #[.int .i64 N, .slice a n cap] 26)).heap.size = w.heap.size + 1 := by simp
      generalize w.alloc (.cells #[.int .i64 N, .slice a n cap] 26) = W1 at *
      have HB0 := Lib.hid hb0
      have c1 := hbox.c1
      clear hb0
      go_wp2
      clear c1
      go_loopw [19] (fun i wr => ∃ k : Nat, k ≤ n ∧ i = .int .i64 k ∧ Hid (rowsTo N l k = true) ∧ Below (w.heap.size + 1) W1 wr) (fun i _ => n - (intOf i).toNat)
      case atStart => exact ⟨0, by omega, rfl, by simp [Hid, rowsTo], Below.refl _ _⟩
      case round =>
        obtain ⟨k, hk, rfl, hr, hb⟩ := hrel
        have hsz := hb.size
        have hbw := HB0.out.trans (hb.mono (by omega))
        have hbx := hbox.on hb (by omega)
        have c0 := hbx.c0
        have c1 := hbx.c1
        by_cases hlt : k < n
        · obtain ⟨b, off, rfl, hbB, hcell⟩ := H.out.2.2 (by omega)
          have p1 := (hbw.cell (p := ⟨b, off + k, none⟩) (Nat.lt_of_lt_of_le hbB hB)).trans (hcell k hlt)
          have hk0 : (0 : Int) ≤ (k : Int) := by omega
          have hk1 : (k : Int) < (n : Int) := by omega
          obtain ⟨z, hz⟩ : ∃ z, l.getD k 0 = z := ⟨_, rfl⟩
          rw [hz] at p1
          have HS := Lib.hid (rowsTo_step N l k)
          have HZ := Lib.hid hz
          clear hz hcell
          by_cases hz0 : z < 0
          · have HR := Lib.hid (show rowsTo N l n = false from rowsTo_false (k := k) (by rw [HZ.out]; unfold okRow; simp; omega) hlt)
            go_wp2
            go_ret
            exact ⟨by rw [HR.out]; rfl, hbw⟩
          · go_wp2_with fail
            refine (iFull N (by omega) wr).mono ?_
            rintro e w' ⟨rfl, rfl⟩
            by_cases hz1 : (2 : Int) ^ N - 1 < z
            · have HR := Lib.hid (show rowsTo N l n = false from rowsTo_false (k := k) (by rw [HZ.out]; unfold okRow; simp; omega) hlt)
              go_wp2
              go_ret
              exact ⟨by rw [HR.out]; rfl, hbw⟩
            · have HR := Lib.hid (show rowsTo N l (k + 1) = true from by rw [HS.out, hr.out, HZ.out]; unfold okRow; simp; omega)
              go_wp2
              go_roundw
              case rel => exact ⟨k + 1, by omega, by go_num, HR.out, hb⟩
              case measure => simp [intOf]; omega
        · obtain rfl : k = n := by omega
          go_wp2
          go_ret
          exact ⟨by rw [hr.out]; rfl, hbw⟩

/-! ### Is a place a cell -/
theorem bt_no {W H : Nat} {l : List Int} (h : Rg W H l) {x y : Int} (hn : ¬ ((0 ≤ x ∧ x < W) ∧ 0 ≤ y ∧ y < H)) : bt l (x, y) = false := by
  cases hb : bt l (x, y) with
  | false => rfl
  | true => exact absurd (h.bt_in hb) hn
theorem shr_val {n x : Nat} (hn : n < 64) (hx : x < 6) : bits .and .i64 ((n : Int) / (2 : Int) ^ x) 1 = ((n.testBit x).toNat : Int) := by
  obtain ⟨m, hm, e⟩ := pw_nat x
  have h0 := shr_bit n hn x hx
  rw [hm] at h0
  rw [e, show ((n : Int) / (m : Int)) = ((n / m : Nat) : Int) by simp]
  have h1 : n / m ≤ n := Nat.div_le_self _ _
  rw [show (1 : Int) = ((1 : Nat) : Int) from rfl, i64_and_nat _ _ (by omega) (by omega), h0]
theorem shr_is {n x : Nat} (hn : n < 64) (hx : x < 6) : (bits .and .i64 ((n : Int) / (2 : Int) ^ x) 1 == 1) = n.testBit x := by
  rw [shr_val hn hx]
  cases n.testBit x <;> rfl

set_option maxHeartbeats 2000000 in
set_option maxRecDepth 100000 in
theorem sL6In (B n cap N : Nat) (a : Option Addr) (l : List Int) (x y : Int) (w : World) (hr : Rg N n l) (hc : IntsAt B w a n l) (hB : B ≤ w.heap.size) :
    Calls Tryz.prog 183 #[.agg #[.int .i64 N, .slice a n cap], .int .i64 x, .int .i64 y] w fun e w' => e = .returned (.bool (bt l (x, y))) ∧ Below w.heap.size w w' := by
  have H := Lib.hid hc
  clear hc
  by_cases h1 : 0 ≤ x
  · by_cases h2 : 0 ≤ y
    · by_cases h3 : x < N
      · by_cases h4 : y < n
        · obtain ⟨b, off, rfl, hbB, hcell⟩ := H.out.2.2 (by omega)
          obtain ⟨u, rfl⟩ : ∃ u : Nat, x = u := ⟨x.toNat, by omega⟩
          obtain ⟨v, rfl⟩ : ∃ v : Nat, y = v := ⟨y.toNat, by omega⟩
          have p1 := hcell v (by omega)
          have hv := hr.nat (show v < n by omega)
          have hw6 := hr.w6
          rw [hv.1] at p1
          have HS := Lib.hid (shr_is (x := u) hv.2.2 (by omega))
          have HO := Lib.hid (bt_nat l u v)
          rw [HO.out]
          obtain ⟨z, hz⟩ : ∃ z, rN l v = z := ⟨_, rfl⟩
          rw [hz] at p1 HS ⊢
          clear hcell hv hr
          have p1' := ((((Below.refl w.heap.size w).alloc (Nat.le_refl _) (.cells #[.int .i64 N, .slice (some ⟨b, off, none⟩) n cap] 26))).cell (p := ⟨b, off + v, none⟩) (by show b < w.heap.size; omega)).trans p1
          go_enter Tryz.func183, Tryz.ntmps183
          go_wp2
          go_ret
          exact ⟨by rw [← HS.out]; rfl, (Below.refl _ _).alloc (Nat.le_refl _) _⟩
        · have HN := Lib.hid (bt_no hr (x := x) (y := y) (by omega))
          rw [HN.out]
          go_enter Tryz.func183, Tryz.ntmps183
          go_wp2
          go_ret
          exact ⟨rfl, (Below.refl _ _).alloc (Nat.le_refl _) _⟩
      · have HN := Lib.hid (bt_no hr (x := x) (y := y) (by omega))
        rw [HN.out]
        go_enter Tryz.func183, Tryz.ntmps183
        go_wp2
        go_ret
        exact ⟨rfl, (Below.refl _ _).alloc (Nat.le_refl _) _⟩
    · have HN := Lib.hid (bt_no hr (x := x) (y := y) (by omega))
      rw [HN.out]
      go_enter Tryz.func183, Tryz.ntmps183
      go_wp2
      go_ret
      exact ⟨rfl, (Below.refl _ _).alloc (Nat.le_refl _) _⟩
  · have HN := Lib.hid (bt_no hr (x := x) (y := y) (by omega))
    rw [HN.out]
    go_enter Tryz.func183, Tryz.ntmps183
    go_wp2
    go_ret
    exact ⟨rfl, (Below.refl _ _).alloc (Nat.le_refl _) _⟩

def cellB (W : Int) (l : List Int) (x y : Int) : Bool := isReg W l && bt l (x, y)
theorem cellB_no {W : Int} {l : List Int} (h : isReg W l = false) (x y : Int) : cellB W l x y = false := by unfold cellB; rw [h]; rfl
theorem cellB_yes {W : Int} {l : List Int} (h : isReg W l = true) (x y : Int) : cellB W l x y = bt l (x, y) := by unfold cellB; rw [h]; rfl

set_option maxHeartbeats 1000000 in
theorem sInReg (B n cap : Nat) (a : Option Addr) (W : Int) (l : List Int) (x y : Int) (w : World) (hn : n ≤ 4194304) (hc : IntsAt B w a n l) (hB : B ≤ w.heap.size) :
    Calls Tryz.prog 160 #[.agg #[.int .i64 W, .slice a n cap], .int .i64 x, .int .i64 y] w fun e w' => e = .returned (.bool (cellB W l x y)) ∧ Below w.heap.size w w' := by
  have H := Lib.hid hc
  have HLN := Lib.hid hc.1
  clear hc
  have hb0 := (Below.refl w.heap.size w).alloc (Nat.le_refl _) (.cells #[.int .i64 W, .slice a n cap] 26)
  have hbox := RgAt.new (w := w) W (.slice a n cap) rfl
  cases h : isReg W l with
  | false =>
    have HO := Lib.hid (cellB_no h x y)
    have HI := Lib.hid h
    clear h
    rw [HO.out]
    go_enter Tryz.func160, Tryz.ntmps160
    go_wp2_with fail
    refine (sIsReg B n cap a W l _ hn (H.out.on (hb0.mono hB)) (Nat.le_trans hB hb0.size)).mono ?_
    rintro e w' ⟨rfl, hb⟩
    rw [HI.out]
    go_wp2
    go_ret
    exact ⟨rfl, hb0.trans (hb.mono hb0.size)⟩
  | true =>
    obtain ⟨N, rfl, hr⟩ := isReg_out h
    have hln := HLN.out
    rw [hln] at hr
    have HR := Lib.hid hr
    have HI := Lib.hid h
    have HO := Lib.hid (cellB_yes h x y)
    rw [HO.out]
    clear h hr hln
    go_enter Tryz.func160, Tryz.ntmps160
    go_wp2_with fail
    refine (sIsReg B n cap a N l _ hn (H.out.on (hb0.mono hB)) (Nat.le_trans hB hb0.size)).mono ?_
    rintro e w2 ⟨rfl, hb⟩
    rw [HI.out]
    have hx := hbox.on hb hbox.lt
    have c0 := hx.c0
    have c1 := hx.c1
    have HB := Lib.hid (hb0.trans (hb.mono hb0.size))
    clear hb hb0
    go_wp2_with fail
    refine (sL6In B n cap N a l x y w2 HR.out (H.out.on (HB.out.mono hB)) (Nat.le_trans hB HB.out.size)).mono ?_
    rintro e w3 ⟨rfl, hb3⟩
    go_wp2
    go_ret
    exact ⟨rfl, HB.out.trans (hb3.mono HB.out.size)⟩
end

end Go.Proofs.YtkcclhnligajeaaGreatDoor
