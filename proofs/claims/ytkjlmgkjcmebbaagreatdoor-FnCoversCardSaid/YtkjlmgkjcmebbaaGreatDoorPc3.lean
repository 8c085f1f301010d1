/-
  Tilings as a text, the plain facts: the letter of a place, the rows.
-/
import Derived.Test.YtkjlmgkjcmebbaaGreatDoorWai
namespace Go.Proofs.YtkjlmgkjcmebbaaGreatDoor

/-- Whether a mask has a place. -/
def hasM (b : Nat) (m : Int) : Bool := decide (0 ≤ m) && m.toNat.testBit b
/-- The first mask from k on that has the place: its number, or -1. -/
def fstI (l : List Int) (b k : Nat) : Int :=
  match (l.drop k).findIdx? (hasM b) with
  | some j => ((k + j : Nat) : Int)
  | none => -1
theorem fstI_end (l : List Int) (b : Nat) : fstI l b l.length = -1 := by
  unfold fstI
  rw [List.drop_length]
  rfl
theorem fstI_yes {l : List Int} {b k : Nat} (h : k < l.length) (hm : hasM b (l.getD k 0) = true) : fstI l b k = (k : Int) := by
  unfold fstI
  rw [List.drop_eq_getElem_cons h, List.findIdx?_cons]
  have : l[k] = l.getD k 0 := by simp [List.getD, h]
  rw [this, hm]
  simp
theorem fstI_no {l : List Int} {b k : Nat} (h : k < l.length) (hm : hasM b (l.getD k 0) = false) : fstI l b k = fstI l b (k + 1) := by
  unfold fstI
  rw [List.drop_eq_getElem_cons h, List.findIdx?_cons]
  have : l[k] = l.getD k 0 := by simp [List.getD, h]
  rw [this, hm]
  cases (l.drop (k + 1)).findIdx? (hasM b) with
  | none => rfl
  | some j => simp; omega
theorem fstI_bd (l : List Int) (b : Nat) : ∀ d k, k + d = l.length → -1 ≤ fstI l b k ∧ fstI l b k < (l.length : Int)
  | 0, k, h => by
    have : k = l.length := by omega
    subst this
    rw [fstI_end]
    omega
  | d + 1, k, h => by
    have ih := fstI_bd l b d (k + 1) (by omega)
    cases hm : hasM b (l.getD k 0) with
    | true => rw [fstI_yes (by omega) hm]; omega
    | false => rw [fstI_no (by omega) hm]; exact ih
/-- The letter of a place. -/
def letR (l : List Int) (b : Nat) : UInt8 := if fstI l b 0 < 0 then 46 else UInt8.ofNat (97 + (fstI l b 0).toNat)
theorem letR_no {l : List Int} {b : Nat} (h : fstI l b 0 < 0) : letR l b = 46 := if_pos h
theorem letR_yes {l : List Int} {b k : Nat} (h : fstI l b 0 = (k : Int)) : letR l b = UInt8.ofNat (97 + k) := by
  unfold letR
  rw [if_neg (by omega), h]
  rfl

def ltRow (g : Nat → Nat → UInt8) (y x : Nat) : List UInt8 := (List.range x).map (g y)
theorem ltRow_step (g : Nat → Nat → UInt8) (y x : Nat) : ltRow g y (x + 1) = ltRow g y x ++ [g y x] := by
  unfold ltRow
  rw [List.range_succ, List.map_append]
  rfl
theorem ltRow_ln (g : Nat → Nat → UInt8) (y x : Nat) : (ltRow g y x).length = x := by simp [ltRow]
def ltT (W : Nat) (g : Nat → Nat → UInt8) : Nat → List UInt8
  | 0 => []
  | y + 1 => ltT W g y ++ ((if y = 0 then [] else [47]) ++ ltRow g y W)
theorem ltT_le (W : Nat) (g : Nat → Nat → UInt8) : ∀ y, (ltT W g y).length ≤ (W + 1) * y
  | 0 => by simp [ltT]
  | y + 1 => by
    have := ltT_le W g y
    unfold ltT
    rw [List.length_append, List.length_append, ltRow_ln, Nat.mul_add, Nat.mul_one]
    split <;> simp <;> omega
def ltA (N : Nat) (g : Nat → Nat → UInt8) (y x : Nat) : List UInt8 := ltT N g y ++ ((if y = 0 then [] else [47]) ++ ltRow g y x)
theorem ltA_row (N : Nat) (g : Nat → Nat → UInt8) (y : Nat) : ltA N g y N = ltT N g (y + 1) := rfl
theorem ltA_first (N : Nat) (g : Nat → Nat → UInt8) : ltA N g 0 0 = ltT N g 0 := by simp [ltA, ltT, ltRow]
theorem ltA_next (N : Nat) (g : Nat → Nat → UInt8) (y : Nat) (h : 0 < y) : ltA N g y 0 = ltT N g y ++ [47] := by
  have : ¬ y = 0 := by omega
  simp [ltA, ltRow, this]
theorem ltA_step (N : Nat) (g : Nat → Nat → UInt8) (y x : Nat) : ltA N g y (x + 1) = ltA N g y x ++ [g y x] := by
  unfold ltA
  rw [ltRow_step]
  simp
theorem ltA_len (N : Nat) (g : Nat → Nat → UInt8) (y x : Nat) (hN : N ≤ 6) (hy : y ≤ 6) (hx : x ≤ 6) : (ltA N g y x).length ≤ 50 ∧ (ltT N g y).length ≤ 42 := by
  have h1 := ltT_le N g y
  have h2 := Nat.mul_le_mul (show N + 1 ≤ 7 by omega) hy
  unfold ltA
  rw [List.length_append, List.length_append, ltRow_ln]
  refine ⟨?_, by omega⟩
  split
  · simp; omega
  · simp; omega
def letG (N : Nat) (l : List Int) (y x : Nat) : UInt8 := letR l (y * N + x)
def tilOk (W : Int) (rows l : List Int) : Bool := isReg W rows && decide (l.length ≤ 26)
/-- A tiling as a text. -/
def fmtM (W : Int) (rows l : List Int) : List UInt8 := if tilOk W rows l = true then ltT W.toNat (letG W.toNat l) rows.length else []
theorem fmtM_no {W : Int} {rows l : List Int} (h : tilOk W rows l = false) : fmtM W rows l = [] := if_neg (by rw [h]; simp)
theorem fmtM_yes {W H : Nat} {rows l : List Int} (h : Rg W H rows) (hl : l.length ≤ 26) : fmtM W rows l = ltT W (letG W l) H := by
  unfold fmtM tilOk
  rw [isReg_of h, decide_eq_true hl, h.len]
  rfl
/-- A letter, cut out of the alphabet. -/
def abc : List UInt8 := [97, 98, 99, 100, 101, 102, 103, 104, 105, 106, 107, 108, 109, 110, 111, 112, 113, 114, 115, 116, 117, 118, 119, 120, 121, 122]
theorem abc_at : ∀ k, k < 26 → (abc.take (k + 1)).drop k = [UInt8.ofNat (97 + k)] := by decide
end Go.Proofs.YtkjlmgkjcmebbaaGreatDoor
