/-
  Decimal numerals read back: plain arithmetic on lists of bytes. Nothing of the program is claimed here.
-/
import Derived.Test.YtljlkhlnjjchgaaDoorInt
namespace Go.Proofs.YtljlkhlnjjchgaaDoor
open Go.RowKit

def isD (b : UInt8) : Bool := decide (48 ≤ b.toNat) && decide (b.toNat ≤ 57)
def numL (l : List UInt8) : Nat := l.foldl (fun a b => a * 10 + (b.toNat - 48)) 0
def dgs (l : List UInt8) : List UInt8 := l.filter isD
theorem isD_iff (b : UInt8) : isD b = true ↔ 48 ≤ b.toNat ∧ b.toNat ≤ 57 := by simp [isD]
theorem isD_45 : isD 45 = false := by decide
theorem numL_snoc (l : List UInt8) (b : UInt8) : numL (l ++ [b]) = numL l * 10 + (b.toNat - 48) := by simp [numL]
theorem dgs_snoc (l : List UInt8) (b : UInt8) : dgs (l ++ [b]) = if isD b then dgs l ++ [b] else dgs l := by
  unfold dgs
  rw [List.filter_append]
  by_cases h : isD b <;> simp [h]
theorem snoc_ind {P : List UInt8 → Prop} (h0 : P []) (h1 : ∀ l b, P l → P (l ++ [b])) (l : List UInt8) : P l := by
  have : ∀ r : List UInt8, P r.reverse := by
    intro r
    induction r with
    | nil => exact h0
    | cons b r ih => rw [List.reverse_cons]; exact h1 _ _ ih
  have := this l.reverse
  rwa [List.reverse_reverse] at this
theorem numL_lt (l : List UInt8) : (∀ b ∈ l, isD b = true) → numL l < 10 ^ l.length := by
  refine snoc_ind (P := fun l => (∀ b ∈ l, isD b = true) → numL l < 10 ^ l.length) (fun _ => by simp [numL]) (fun l b ih h => ?_) l
  have h1 := ih fun c hc => h c (by simp [hc])
  have h2 := (isD_iff b).1 (h b (by simp))
  rw [numL_snoc, List.length_append, List.length_singleton, Nat.pow_succ]
  omega
theorem dec_digits : ∀ u, ∀ b ∈ Lib.decDigits u, isD b = true := by
  intro u
  induction u using Nat.strongRecOn with
  | ind u ih =>
    intro b hb
    rw [Lib.decDigits] at hb
    split at hb
    · rename_i h
      simp only [List.mem_singleton] at hb
      subst hb
      rw [isD_iff]
      simp
      omega
    · rename_i h
      rw [List.mem_append] at hb
      rcases hb with hb | hb
      · exact ih (u / 10) (by omega) b hb
      · simp only [List.mem_singleton] at hb
        subst hb
        rw [isD_iff]
        simp
        omega
theorem dec_num : ∀ u, numL (Lib.decDigits u) = u := by
  intro u
  induction u using Nat.strongRecOn with
  | ind u ih =>
    rw [Lib.decDigits]
    split
    · rename_i h
      simp [numL]
      omega
    · rename_i h
      rw [numL_snoc, ih (u / 10) (by omega)]
      simp
      omega
theorem dec_ne (u : Nat) : Lib.decDigits u ≠ [] := by
  intro h
  have := Lib.decDigits_length u
  rw [h] at this
  have := Lib.nDigits_pos u
  simp at *
  omega
theorem dec_len_le (u : Nat) (h : u < 1000000000) : (Lib.decDigits u).length ≤ 9 := by
  rw [Lib.decDigits_length]
  rcases Nat.lt_or_ge 9 (Lib.nDigits u) with hl | hl
  · exfalso
    have key : ∀ k u, k < Lib.nDigits u → 10 ^ k ≤ u ∨ k = 0 := by
      intro k
      induction k with
      | zero => intro u _; exact .inr rfl
      | succ k ih =>
        intro u hk
        left
        by_cases h10 : u < 10
        · rw [Lib.nDigits_small h10] at hk; omega
        · rw [Lib.nDigits_big h10] at hk
          rcases ih (u / 10) (by omega) with h' | h'
          · rw [Nat.pow_succ]; omega
          · subst h'; simp; omega
    rcases key 9 u hl with h' | h'
    · omega
    · omega
  · exact hl
theorem dec_len_ge (u : Nat) (h : (Lib.decDigits u).length ≤ 9) : u < 1000000000 := by
  have := numL_lt (Lib.decDigits u) (dec_digits u)
  rw [dec_num] at this
  have h2 : 10 ^ (Lib.decDigits u).length ≤ 10 ^ 9 := Nat.pow_le_pow_right (by omega) h
  omega
theorem dgs_all (l : List UInt8) (h : ∀ b ∈ l, isD b = true) : dgs l = l := List.filter_eq_self.2 h
theorem dgs_dec (u : Nat) : dgs (Lib.decDigits u) = Lib.decDigits u := dgs_all _ (dec_digits u)

def valD (l : List UInt8) : Nat := numL (dgs l)
def cntD (l : List UInt8) : Nat := (dgs l).length
theorem valD_lt (l : List UInt8) : valD l < 10 ^ cntD l := numL_lt _ fun _ hb => (List.mem_filter.1 hb).2
theorem cntD_le (l : List UInt8) : cntD l ≤ l.length := List.length_filter_le _ _
/-- The number that the model reads off l. -/
def cand (l : List UInt8) : Int := if l.getD 0 0 = 45 then -(valD (l.take 11) : Int) else (valD (l.take 11) : Int)
theorem dec_head (u : Nat) : (Lib.decDigits u).getD 0 0 ≠ 45 := by
  have h := dec_ne u
  cases hd : Lib.decDigits u with
  | nil => exact absurd hd h
  | cons b r =>
    have := (isD_iff b).1 (dec_digits u b (by rw [hd]; simp))
    simp only [List.getD_cons_zero]
    intro e
    rw [e] at this
    simp at this
theorem itoa_cases (m : Int) : (0 ≤ m ∧ Lib.itoa m = Lib.decDigits m.natAbs) ∨ (m < 0 ∧ Lib.itoa m = 45 :: Lib.decDigits m.natAbs) := by
  unfold Lib.itoa
  by_cases h : m < 0
  · right; rw [if_pos h]; exact ⟨h, rfl⟩
  · left; rw [if_neg h]; exact ⟨by omega, by congr 1; omega⟩
/-- A numeral of at most nine digits. -/
def Small (m : Int) : Prop := -1000000000 < m ∧ m < 1000000000
theorem itoa_len (m : Int) (h : Small m) : (Lib.itoa m).length ≤ 10 ∧ cntD (Lib.itoa m) ≤ 9 := by
  have hu := dec_len_le m.natAbs (by unfold Small at h; omega)
  rcases itoa_cases m with ⟨_, e⟩ | ⟨_, e⟩
  · rw [e]; exact ⟨by omega, by unfold cntD; rw [dgs_dec]; exact hu⟩
  · rw [e]
    refine ⟨by simp; omega, ?_⟩
    unfold cntD dgs
    rw [List.filter_cons_of_neg (by simp [isD_45])]
    have := dgs_dec m.natAbs
    unfold dgs at this
    rw [this]
    exact hu
theorem cand_itoa (m : Int) (h : Small m) : cand (Lib.itoa m) = m := by
  have hl := (itoa_len m h).1
  unfold cand
  rw [List.take_of_length_le (by omega)]
  rcases itoa_cases m with ⟨hm, e⟩ | ⟨hm, e⟩
  · rw [e, if_neg (dec_head _)]
    unfold valD
    rw [dgs_dec, dec_num]
    omega
  · rw [e, if_pos (by simp)]
    unfold valD dgs
    rw [List.filter_cons_of_neg (by simp [isD_45])]
    have := dgs_dec m.natAbs
    unfold dgs at this
    rw [this, dec_num]
    omega
theorem cand_small (l : List UInt8) (h : cntD (l.take 11) ≤ 9) : Small (cand l) := by
  have h1 := valD_lt (l.take 11)
  have h2 : 10 ^ cntD (l.take 11) ≤ 10 ^ 9 := Nat.pow_le_pow_right (by omega) h
  unfold cand Small
  split <;> omega
/-- What stands behind a leading sign. -/
theorem trim_itoa (m : Int) : Lib.trimPrefix (Lib.itoa m) [45] = Lib.decDigits m.natAbs := by
  unfold Lib.trimPrefix Lib.hasPrefix
  rcases itoa_cases m with ⟨_, e⟩ | ⟨_, e⟩
  · rw [e, if_neg]
    have h := dec_head m.natAbs
    cases hd : Lib.decDigits m.natAbs with
    | nil => simp
    | cons b r =>
      rw [hd] at h
      simp only [List.getD_cons_zero] at h
      simp [List.isPrefixOf]
      exact fun e => h e.symm
  · rw [e]
    simp [List.isPrefixOf]
theorem no_itoa (l : List UInt8) (h : ∀ m, Small m → Lib.itoa m ≠ l) (h9 : (Lib.trimPrefix l [45]).length ≤ 9) (n : Int) : Lib.itoa n ≠ l := by
  intro e
  have hu : n.natAbs < 1000000000 := dec_len_ge _ (by rw [← trim_itoa, e]; exact h9)
  exact h n (by unfold Small; omega) e
theorem itoa_inj {a b : Int} (h : Lib.itoa a = Lib.itoa b) : a = b := by
  have ht : Lib.decDigits a.natAbs = Lib.decDigits b.natAbs := by rw [← trim_itoa, ← trim_itoa, h]
  have hn : a.natAbs = b.natAbs := by rw [← dec_num a.natAbs, ← dec_num b.natAbs, ht]
  rcases itoa_cases a with ⟨ha, ea⟩ | ⟨ha, ea⟩ <;> rcases itoa_cases b with ⟨hb, eb⟩ | ⟨hb, eb⟩
  · omega
  · exfalso
    rw [ea, eb] at h
    have := dec_head a.natAbs
    rw [h] at this
    simp at this
  · exfalso
    rw [ea, eb] at h
    have := dec_head b.natAbs
    rw [← h] at this
    simp at this
  · omega

end Go.Proofs.YtljlkhlnjjchgaaDoor
