/-
  The mask of some cells: in the model and in the program: what each call gives.
-/
import Derived.Test.YtailmmamgnebhaaSm1
import Derived.Lib.QuietBelow
namespace Go.Proofs.Ytailmmamgnebhaa
open Go.RowKit

theorem bit_val {m : Nat} (b : Nat) (hm : m < 9223372036854775808) : bits .and .i64 ((m / 2 ^ b : Nat) : Int) 1 = ((m.testBit b).toNat : Int) := by
  have h1 : m / 2 ^ b ≤ m := Nat.div_le_self _ _
  rw [show (1 : Int) = ((1 : Nat) : Int) from rfl, i64_and_nat _ _ (by omega) (by omega), Nat.and_one_is_mod, Nat.testBit_eq_decide_div_mod_eq]
  have := Nat.mod_two_eq_zero_or_one (m / 2 ^ b)
  rcases this with h | h <;> simp [h]
theorem and_bit {m b : Nat} (hm : m < 9223372036854775808) (hb : b ≤ 50) : bits .and .i64 (m : Int) ((2 ^ b : Nat) : Int) = ((if m.testBit b = true then 2 ^ b else 0 : Nat) : Int) := by
  have h1 : (2 : Nat) ^ b ≤ 2 ^ 50 := Nat.pow_le_pow_right (by omega) hb
  rw [i64_and_nat _ _ hm (by omega)]
  congr 1
  apply Nat.eq_of_testBit_eq
  intro i
  rw [Nat.testBit_and, Nat.testBit_two_pow]
  by_cases h : b = i
  · subst h
    cases hb : m.testBit b <;> simp
  · split <;> simp [h, Nat.testBit_two_pow]
/-- A cell of a region: its place in the mask. -/
theorem Rg.place {W H : Nat} {l : List Int} (h : Rg W H l) {x y : Int} (hb : bt l (x, y) = true) : ∃ u v : Nat, x = u ∧ y = v ∧ u < W ∧ v < H ∧ u < 6 ∧ v < 6 ∧ bN W (x, y) = v * W + u ∧ v * W + u < 36 := by
  have hg := h.bt_in hb
  have hl := bN_lt hg
  obtain ⟨⟨h1, h2⟩, h3, h4⟩ := hg
  have hw := h.w6
  have hh := h.h6
  have hm := Nat.mul_le_mul hw hh
  dsimp only at *
  refine ⟨x.toNat, y.toNat, by omega, by omega, by omega, by omega, by omega, by omega, rfl, ?_⟩
  have : bN W (x, y) = y.toNat * W + x.toNat := rfl
  omega


end Go.Proofs.Ytailmmamgnebhaa
