/-
  Regions as text, read back: plain facts, nothing of the program.
-/
import Derived.Test.YtcfioncnpfoccaaGreatDoorPr1
namespace Go.Proofs.YtcfioncnpfoccaaGreatDoor

/-- Rows that are done, the row at hand, its width so far, the greatest width. -/
abbrev PS := List Int × Nat × Nat × Nat
def psStep (st : PS) (b : UInt8) : PS := if b = 47 then (st.1 ++ [(st.2.1 : Int)], 0, 0, st.2.2.2) else (st.1, if b = 35 then st.2.1 ||| 2 ^ st.2.2.1 else st.2.1, st.2.2.1 + 1, max st.2.2.2 (st.2.2.1 + 1))
def ps0 : PS := ([], 0, 0, 0)
def psTo (s : List UInt8) (k : Nat) : PS := (s.take k).foldl psStep ps0
theorem psTo_zero (s : List UInt8) : psTo s 0 = ps0 := by simp [psTo]
theorem psTo_step (s : List UInt8) (k : Nat) (h : k < s.length) : psTo s (k + 1) = psStep (psTo s k) (s.getD k 0) := by
  unfold psTo
  rw [List.take_succ_eq_append_getElem h, List.foldl_append]
  simp [List.getD, h]
theorem mod_bits : ∀ n, n < 64 → ∀ x, x < 6 → n % 2 ^ (x + 1) = if n.testBit x = true then n % 2 ^ x ||| 2 ^ x else n % 2 ^ x := by decide +kernel
theorem ps_row {W H : Nat} {l : List Int} (h : Rg W H l) {y : Nat} (hy : y < H) (D : List Int) (w : Nat) : ∀ x, x ≤ W → (rowB l y x).foldl psStep (D, 0, 0, w) = (D, rN l y % 2 ^ x, x, max w x)
  | 0, _ => by simp [rowB, Nat.mod_one]
  | x + 1, hx => by
    rw [rowB_step, List.foldl_append, ps_row h hy D w x (by omega)]
    have h1 := mod_bits (rN l y) (h.nat hy).2.2 x (by have := h.w6; omega)
    have h2 := bt_nat l x y
    rw [List.foldl_cons, List.foldl_nil]
    cases hb : (rN l y).testBit x with
    | true =>
      rw [hb] at h1 h2
      rw [h2, h1]
      simp [psStep]
    | false =>
      rw [hb] at h1 h2
      rw [h2, h1]
      simp [psStep]
theorem ps_fmt {W H : Nat} {l : List Int} (h : Rg W H l) : ∀ y, y < H → (fmtT W l (y + 1)).foldl psStep ps0 = (l.take y, rN l y, W, W)
  | 0, hy => by
    have h1 := ps_row h hy [] 0 W (Nat.le_refl _)
    rw [Nat.mod_eq_of_lt (h.nat hy).2.1] at h1
    simp only [fmtT, List.nil_append, if_true, List.take_zero]
    rw [show ps0 = (([] : List Int), 0, 0, 0) from rfl, h1]
    simp
  | y + 1, hy => by
    have h1 := ps_row h hy (l.take y ++ [(rN l y : Int)]) W W (Nat.le_refl _)
    rw [Nat.mod_eq_of_lt (h.nat hy).2.1] at h1
    have h2 := ps_fmt h y (by omega)
    rw [fmtT, List.foldl_append, h2, if_neg (by omega), List.foldl_append]
    rw [show ([47] : List UInt8).foldl psStep (l.take y, rN l y, W, W) = (l.take y ++ [(rN l y : Int)], 0, 0, W) from rfl, h1]
    have e : l.take y ++ [(rN l y : Int)] = l.take (y + 1) := by
      rw [List.take_succ_eq_append_getElem (by have := h.len; omega), ← (h.nat (show y < H by omega)).1]
      simp [List.getD, show y < l.length by have := h.len; omega]
    rw [e, Nat.max_self]
def psW (st : PS) : Int := (st.2.2.2 : Int)
def psL (st : PS) : List Int := st.1 ++ [(st.2.1 : Int)]
theorem ps_back {W H : Nat} {l : List Int} (h : Rg W H l) : psW (psTo (fmtR W l) (fmtR W l).length) = W ∧ psL (psTo (fmtR W l) (fmtR W l).length) = l := by
  obtain ⟨y, rfl⟩ : ∃ y, H = y + 1 := ⟨H - 1, by have := h.h0; omega⟩
  have h1 := ps_fmt h y (by omega)
  unfold psTo
  rw [List.take_length, fmtR_yes h, h1]
  refine ⟨rfl, ?_⟩
  show l.take y ++ [(rN l y : Int)] = l
  have e : l.take y ++ [(rN l y : Int)] = l.take (y + 1) := by
    rw [List.take_succ_eq_append_getElem (by have := h.len; omega), ← (h.nat (show y < y + 1 by omega)).1]
    simp [List.getD, show y < l.length by have := h.len; omega]
  rw [e, List.take_of_length_le (by have := h.len; omega)]
/-- A text that is a region's. -/
def okQ (s : List UInt8) : Prop := ∃ W l, isReg W l = true ∧ fmtR W l = s
def okBy (b : UInt8) : Prop := b = 47 ∨ b = 35 ∨ b = 46
theorem rowB_by (l : List Int) (y x : Nat) : ∀ b ∈ rowB l y x, b = 35 ∨ b = 46 := by
  intro b hb
  obtain ⟨j, _, rfl⟩ := List.mem_map.1 hb
  split
  · exact .inl rfl
  · exact .inr rfl
theorem rowB_len (l : List Int) (y x : Nat) : (rowB l y x).length = x := by simp [rowB]
theorem fmtT_by (W : Nat) (l : List Int) : ∀ y, ∀ b ∈ fmtT W l y, okBy b
  | 0, b, hb => by cases hb
  | y + 1, b, hb => by
    rw [fmtT, List.mem_append, List.mem_append] at hb
    rcases hb with hb | hb | hb
    · exact fmtT_by W l y b hb
    · split at hb
      · cases hb
      · rw [List.mem_singleton] at hb; exact .inl hb
    · exact .inr (rowB_by l y W b hb)
theorem fmtT_len (W : Nat) (l : List Int) : ∀ y, (fmtT W l y).length ≤ (W + 1) * y ∧ (0 < y → (fmtT W l y).length + 1 = (W + 1) * y)
  | 0 => by simp [fmtT]
  | y + 1 => by
    have := fmtT_len W l y
    rw [fmtT, List.length_append, List.length_append, rowB_len, Nat.mul_succ]
    by_cases hy : y = 0
    · subst hy; simp [fmtT]
    · have h2 := this.2 (by omega)
      rw [if_neg hy, List.length_singleton]
      omega
theorem fmtR_len {W H : Nat} {l : List Int} (h : Rg W H l) : 1 ≤ (fmtR W l).length ∧ (fmtR W l).length ≤ 41 := by
  rw [fmtR_yes h]
  have h1 := (fmtT_len W l H).2 (by have := h.h0; omega)
  have h2 := Nat.mul_le_mul (show W + 1 ≤ 7 by have := h.w6; omega) h.h6
  have h3 := Nat.mul_le_mul (show 2 ≤ W + 1 by have := h.w0; omega) h.h0
  omega
theorem okQ_out {s : List UInt8} (h : okQ s) : ∃ W H l, Rg W H l ∧ s = fmtR W l ∧ psW (psTo s s.length) = W ∧ psL (psTo s s.length) = l ∧ 1 ≤ s.length ∧ s.length ≤ 41 ∧ ∀ b ∈ s, okBy b := by
  obtain ⟨W, l, h1, h2⟩ := h
  obtain ⟨n, rfl, hr⟩ := isReg_out h1
  have h3 := ps_back hr
  have h4 := fmtR_len hr
  rw [h2] at h3 h4
  refine ⟨n, _, l, hr, h2.symm, h3.1, h3.2, h4.1, h4.2, fun b hb => ?_⟩
  rw [← h2, fmtR_yes hr] at hb
  exact fmtT_by _ _ _ b hb
/-- It is one just if what was read is written so again. -/
theorem okQ_iff {s : List UInt8} (h0 : s ≠ []) : okQ s ↔ fmtR (psW (psTo s s.length)) (psL (psTo s s.length)) = s := by
  constructor
  · intro h
    obtain ⟨W, H, l, hr, e, h1, h2, _⟩ := okQ_out h
    rw [h1, h2, ← e]
  · intro h
    refine ⟨_, _, ?_, h⟩
    cases h9 : isReg (psW (psTo s s.length)) (psL (psTo s s.length)) with
    | true => rfl
    | false => rw [fmtR_no h9] at h; exact absurd h.symm h0
open Classical in
noncomputable def resW (s : List UInt8) : Int := if okQ s then psW (psTo s s.length) else 0
open Classical in
noncomputable def resL (s : List UInt8) : List Int := if okQ s then psL (psTo s s.length) else []
theorem res_yes {s : List UInt8} (h : okQ s) : resW s = psW (psTo s s.length) ∧ resL s = psL (psTo s s.length) := ⟨if_pos h, if_pos h⟩
theorem res_no {s : List UInt8} (h : ¬ okQ s) : resW s = 0 ∧ resL s = [] := ⟨if_neg h, if_neg h⟩
/-- Bounds while reading. -/
theorem psTo_bd (s : List UInt8) : ∀ k, k ≤ s.length → (psTo s k).1.length + (psTo s k).2.2.1 ≤ k ∧ (psTo s k).2.2.2 ≤ k ∧ (psTo s k).2.1 < 2 ^ (psTo s k).2.2.1 ∧ ∀ z ∈ (psTo s k).1, 0 ≤ z ∧ z < 2 ^ k
  | 0, _ => by rw [psTo_zero]; simp [ps0]
  | k + 1, hk => by
    obtain ⟨h1, h2, h3, h4⟩ := psTo_bd s k (by omega)
    rw [psTo_step s k (by omega)]
    generalize psTo s k = st at h1 h2 h3 h4
    generalize s.getD k 0 = b
    have hp : (2 : Int) ^ k ≤ 2 ^ (k + 1) := by
      have h9 : (2 : Nat) ^ k ≤ 2 ^ (k + 1) := Nat.pow_le_pow_right (by omega) (by omega)
      have e1 : ((2 ^ k : Nat) : Int) = (2 : Int) ^ k := by simp
      have e2 : ((2 ^ (k + 1) : Nat) : Int) = (2 : Int) ^ (k + 1) := by simp
      rw [← e1, ← e2]
      omega
    unfold psStep
    split
    · have e : ((2 ^ (k + 1) : Nat) : Int) = (2 : Int) ^ (k + 1) := by simp
      have h5 : (2 : Nat) ^ st.2.2.1 ≤ 2 ^ (k + 1) := Nat.pow_le_pow_right (by omega) (by omega)
      refine ⟨by rw [List.length_append, List.length_singleton]; dsimp only; omega, by dsimp only; omega, by dsimp only; simp, fun z hz => ?_⟩
      dsimp only at hz
      rw [List.mem_append, List.mem_singleton] at hz
      rcases hz with hz | hz
      · have := h4 z hz; omega
      · subst hz
        rw [← e]
        omega
    · refine ⟨by dsimp only; omega, by dsimp only; omega, ?_, fun z hz => ?_⟩
      · dsimp only
        have h5 : (2 : Nat) ^ st.2.2.1 < 2 ^ (st.2.2.1 + 1) := Nat.pow_lt_pow_right (by omega) (by omega)
        split
        · exact Nat.or_lt_two_pow (by omega) h5
        · omega
      · have := h4 z hz; omega

end Go.Proofs.YtcfioncnpfoccaaGreatDoor
