/-
  Motions of shapes and their orders, as lists: plain facts, nothing of the program.
-/
import Derived.Test.YtkcclhnligajeaaDoorPur
import Derived.Test.YtkcclhnligajeaaDoorVab
namespace Go.Proofs.YtkcclhnligajeaaDoor

def rotC (c : Cl) : Cl := (-c.2, c.1)
def rotN : Nat → Cl → Cl
  | 0, c => c
  | n + 1, c => rotC (rotN n c)
def flipC (m : Nat) (c : Cl) : Cl := if 4 ≤ m then (-c.1, c.2) else c
/-- A motion of a cell. -/
def apM (m : Nat) (c : Cl) : Cl := rotN (m % 4) (flipC m c)
def inR (b : Int) (c : Cl) : Prop := -b ≤ c.1 ∧ c.1 ≤ b ∧ -b ≤ c.2 ∧ c.2 ≤ b
theorem rotN_in {b : Int} : ∀ (n : Nat) {c : Cl}, inR b c → inR b (rotN n c)
  | 0, _, h => h
  | n + 1, c, h => by
    have := rotN_in n h
    unfold inR at *
    simp only [rotN, rotC]
    omega
theorem flipC_in {b : Int} (m : Nat) {c : Cl} (h : inR b c) : inR b (flipC m c) := by
  unfold flipC
  split
  · unfold inR at *
    dsimp only
    omega
  · exact h
theorem apM_in {b : Int} (m : Nat) {c : Cl} (h : inR b c) : inR b (apM m c) := rotN_in _ (flipC_in m h)
theorem inR_of_inP {c : Cl} (h : inP c = true) : inR 7 c := by
  have := inP_out h
  unfold inR
  omega
def turnC (m : Nat) (l : List Cl) : List Cl := cornerC (sortU (l.map (apM m)))
def turnS (m : Int) (l : List Cl) : List Cl := if (isShape l && inb m 0 7) = true then turnC m.toNat l else []

/-! ### The order of shapes -/
def cmpL : List Cl → List Cl → Int
  | a :: l, b :: r => if a = b then cmpL l r else if bef a b = true then -1 else 1
  | _, _ => 0
def cmpS (a b : List Cl) : Int := if a.length < b.length then -1 else if b.length < a.length then 1 else cmpL a b
def ltS (a b : List Cl) : Bool := decide (cmpS a b < 0)
theorem cmpL_self : ∀ l : List Cl, cmpL l l = 0
  | [] => rfl
  | a :: l => by unfold cmpL; rw [if_pos rfl]; exact cmpL_self l
theorem cmpL_cases : ∀ l r : List Cl, cmpL l r = -1 ∨ cmpL l r = 0 ∨ cmpL l r = 1
  | [], _ => .inr (.inl (by unfold cmpL; rfl))
  | _ :: _, [] => .inr (.inl (by unfold cmpL; rfl))
  | a :: l, b :: r => by
    unfold cmpL
    split
    · exact cmpL_cases l r
    · split
      · exact .inl rfl
      · exact .inr (.inr rfl)
theorem cmpL_neg : ∀ l r : List Cl, l.length = r.length → cmpL r l = -cmpL l r
  | [], [], _ => rfl
  | a :: l, b :: r, h => by
    unfold cmpL
    by_cases e : a = b
    · rw [if_pos e, if_pos e.symm]
      exact cmpL_neg l r (by simpa using h)
    · rw [if_neg e, if_neg (fun h => e h.symm)]
      cases h1 : bef a b with
      | true => rw [bef_asym h1]; rfl
      | false =>
        cases h2 : bef b a with
        | true => rfl
        | false => exact absurd (bef_total h1 h2) e
theorem cmpL_zero : ∀ l r : List Cl, l.length = r.length → cmpL l r = 0 → l = r
  | [], [], _, _ => rfl
  | a :: l, b :: r, h, h0 => by
    unfold cmpL at h0
    split at h0
    · rename_i e
      rw [e, cmpL_zero l r (by simpa using h) h0]
    · split at h0 <;> cases h0
theorem cmpL_trans : ∀ a b c : List Cl, a.length = b.length → b.length = c.length → cmpL a b = -1 → cmpL b c = -1 → cmpL a c = -1
  | [], [], [], _, _, h, _ => by simp [cmpL] at h
  | x :: a, y :: b, z :: c, h1, h2, h3, h4 => by
    unfold cmpL at h3 h4 ⊢
    by_cases e1 : x = y
    · subst e1
      rw [if_pos rfl] at h3
      by_cases e2 : x = z
      · subst e2
        rw [if_pos rfl] at h4 ⊢
        exact cmpL_trans a b c (by simpa using h1) (by simpa using h2) h3 h4
      · rw [if_neg e2] at h4 ⊢
        exact h4
    · rw [if_neg e1] at h3
      have b1 : bef x y = true := by
        split at h3
        · assumption
        · cases h3
      by_cases e2 : y = z
      · subst e2
        rw [if_neg e1, if_pos b1]
      · rw [if_neg e2] at h4
        have b2 : bef y z = true := by
          split at h4
          · assumption
          · cases h4
        have b3 := bef_trans b1 b2
        have e3 : x ≠ z := fun e => by subst e; rw [bef_irr] at b3; cases b3
        rw [if_neg e3, if_pos b3]
theorem cmpS_cases (a b : List Cl) : cmpS a b = -1 ∨ cmpS a b = 0 ∨ cmpS a b = 1 := by
  unfold cmpS
  split
  · exact .inl rfl
  · split
    · exact .inr (.inr rfl)
    · exact cmpL_cases a b
theorem cmpS_neg (a b : List Cl) : cmpS b a = -cmpS a b := by
  unfold cmpS
  by_cases h1 : a.length < b.length
  · rw [if_neg (by omega), if_pos h1, if_pos h1]; rfl
  · by_cases h2 : b.length < a.length
    · rw [if_pos h2, if_neg h1, if_pos h2]
    · rw [if_neg h2, if_neg h1, if_neg h1, if_neg h2]
      exact cmpL_neg a b (by omega)
theorem cmpS_self (a : List Cl) : cmpS a a = 0 := by
  unfold cmpS
  rw [if_neg (by omega), if_neg (by omega)]
  exact cmpL_self a
theorem cmpS_zero {a b : List Cl} (h : cmpS a b = 0) : a = b := by
  unfold cmpS at h
  split at h
  · cases h
  · split at h
    · cases h
    · exact cmpL_zero a b (by omega) h
theorem ordS : OrdG ltS where
  irr a := by unfold ltS; rw [cmpS_self]; rfl
  trans := by
    intro a b c h1 h2
    unfold ltS at *
    simp only [decide_eq_true_eq] at *
    have k1 : cmpS a b = -1 := by rcases cmpS_cases a b with h | h | h <;> omega
    have k2 : cmpS b c = -1 := by rcases cmpS_cases b c with h | h | h <;> omega
    suffices cmpS a c = -1 by omega
    unfold cmpS at k1 k2 ⊢
    by_cases l1 : a.length < b.length
    · by_cases l2 : b.length < c.length
      · rw [if_pos (by omega)]
      · by_cases l3 : c.length < b.length
        · rw [if_neg l2, if_pos l3] at k2; cases k2
        · rw [if_pos (by omega)]
    · rw [if_neg l1] at k1
      by_cases l2 : b.length < a.length
      · rw [if_pos l2] at k1; cases k1
      · rw [if_neg l2] at k1
        by_cases l3 : b.length < c.length
        · rw [if_pos (by omega)]
        · rw [if_neg l3] at k2
          by_cases l4 : c.length < b.length
          · rw [if_pos l4] at k2; cases k2
          · rw [if_neg l4] at k2
            rw [if_neg (by omega), if_neg (by omega)]
            exact cmpL_trans a b c (by omega) (by omega) k1 k2
  asym := by
    intro a b h
    unfold ltS at *
    rw [cmpS_neg]
    simp only [decide_eq_true_eq, decide_eq_false_iff_not] at *
    omega
  total := by
    intro a b h1 h2
    unfold ltS at *
    rw [cmpS_neg] at h2
    simp only [decide_eq_false_iff_not] at *
    exact cmpS_zero (by omega)
/-- How far two lists agree. -/
theorem cmpL_drop {l r : List Cl} (hl : l.length = r.length) (k : Nat) (hk : k < l.length) : cmpL (l.drop k) (r.drop k) = if l.getD k (0, 0) = r.getD k (0, 0) then cmpL (l.drop (k + 1)) (r.drop (k + 1)) else if bef (l.getD k (0, 0)) (r.getD k (0, 0)) = true then -1 else 1 := by
  have h1 : l.drop k = l.getD k (0, 0) :: l.drop (k + 1) := by rw [List.drop_eq_getElem_cons hk]; simp [List.getD, hk]
  have h2 : r.drop k = r.getD k (0, 0) :: r.drop (k + 1) := by rw [List.drop_eq_getElem_cons (by omega)]; simp [List.getD, show k < r.length by omega]
  rw [h1, h2]
  conv => lhs; unfold cmpL

/-! ### Orientations, symmetries -/
def turnsC (l : List Cl) (k : Nat) : List (List Cl) := (List.range k).map fun m => turnC m l
def orientS (l : List Cl) : List (List Cl) := if isShape l = true then sortG ltS [] (turnsC l 8) else []
def canonS (l : List Cl) : List Cl := (orientS l).getD 0 []
def symTo (l : List Cl) (k : Nat) : List Int := ((List.range k).filter fun m => decide (turnC m l = cornerC l)).map Int.ofNat
def symS (l : List Cl) : List Int := if isShape l = true then symTo l 8 else []
def congS (a b : List Cl) : Bool := isShape a && isShape b && decide (canonS a = canonS b)
def chirS (l : List Cl) : Bool := decide (symS l ≠ []) && (symS l).all fun m => decide (m < 4)
theorem turnsC_succ (l : List Cl) (k : Nat) : turnsC l (k + 1) = turnsC l k ++ [turnC k l] := by simp [turnsC, List.range_succ]
theorem symTo_succ (l : List Cl) (k : Nat) : symTo l (k + 1) = if turnC k l = cornerC l then symTo l k ++ [(k : Int)] else symTo l k := by
  unfold symTo
  rw [List.range_succ, List.filter_append, List.map_append]
  by_cases h : turnC k l = cornerC l
  · rw [if_pos h]; simp [h]
  · rw [if_neg h]; simp [h]
theorem turnC_len (m : Nat) (l : List Cl) : (turnC m l).length ≤ l.length := by
  unfold turnC
  rw [show (cornerC (sortU (l.map (apM m)))).length = (sortU (l.map (apM m))).length by simp [cornerC]]
  exact Nat.le_trans (sortU_len _) (by simp)

/-! ### Motions one after the other -/
def sameM (a b m : Nat) : Bool := decide (apM m (1, 0) = apM b (apM a (1, 0))) && decide (apM m (0, 1) = apM b (apM a (0, 1)))
def compI (a b : Int) : Int := if (inb a 0 7 && inb b 0 7) = true then match (List.range 8).find? (sameM a.toNat b.toNat) with | some m => (m : Int) | none => -1 else -1
def invI (m : Int) : Int := match (List.range 8).find? (fun k : Nat => decide (compI m (k : Int) = 0)) with | some k => (k : Int) | none => -1

end Go.Proofs.YtkcclhnligajeaaDoor
