/-
  Motions of shapes and their orders, as lists: plain facts, nothing of the program.
  Enumeration: one cell more, all fixed shapes, the first among results of motions: plain facts, nothing of the program.
  Cells compared as structs: what the comparison gives.
  Looking for a cell, cells side by side, equal lists, in the model: what each call gives.
  The size of a shape, in the model: what the call gives.
  Do cells hang together, in the model: what the call gives.
-/
import Derived.Test.YtkcclhnligajeaaGreatDoorPur
import Derived.Test.YtkcclhnligajeaaGreatDoorVab
import Derived.Test.YtkcclhnligajeaaGreatDoorVaa
import Derived.Laws.StructEq
import Derived.Test.YtkcclhnligajeaaGreatDoorVac
import Derived.Shelf.SlSortCmp.QuietGrown
namespace Go.Proofs.YtkcclhnligajeaaGreatDoor

section
def rotC (c : Cl) : Cl := (-c.2, c.1)
def rotN : Nat → Cl → Cl
  | 0, c => c
  | n + 1, c => rotC (rotN n c)
def flipC (m : Nat) (c : Cl) : Cl := if 4 ≤ m then (-c.1, c.2) else c
/-- A motion of a cell. -/
def apM (m : Nat) (c : Cl) : Cl := rotN (m % 4) (flipC m c)
def inR (b : Int) (c : Cl) : Prop := -b ≤ c.1 ∧ c.1 ≤ b ∧ -b ≤ c.2 ∧ c.2 ≤ b
theorem rotN_in {b : Int} : ∀ (n : Nat) {c : Cl}, inR b c → inR b (rotN n c)
  | 0, _, h => h
  | n + 1, c, h => by
    have := rotN_in n h
    unfold inR at *
    simp only [rotN, rotC]
    omega
theorem flipC_in {b : Int} (m : Nat) {c : Cl} (h : inR b c) : inR b (flipC m c) := by
  unfold flipC
  split
  · unfold inR at *
    dsimp only
    omega
  · exact h
theorem apM_in {b : Int} (m : Nat) {c : Cl} (h : inR b c) : inR b (apM m c) := rotN_in _ (flipC_in m h)
theorem inR_of_inP {c : Cl} (h : inP c = true) : inR 7 c := by
  have := inP_out h
  unfold inR
  omega
def turnC (m : Nat) (l : List Cl) : List Cl := cornerC (sortU (l.map (apM m)))
def turnS (m : Int) (l : List Cl) : List Cl := if (isShape l && inb m 0 7) = true then turnC m.toNat l else []

/-! ### The order of shapes -/
def cmpL : List Cl → List Cl → Int
  | a :: l, b :: r => if a = b then cmpL l r else if bef a b = true then -1 else 1
  | _, _ => 0
def cmpS (a b : List Cl) : Int := if a.length < b.length then -1 else if b.length < a.length then 1 else cmpL a b
def ltS (a b : List Cl) : Bool := decide (cmpS a b < 0)
theorem cmpL_self : ∀ l : List Cl, cmpL l l = 0
  | [] => rfl
  | a :: l => by unfold cmpL; rw [if_pos rfl]; exact cmpL_self l
theorem cmpL_cases : ∀ l r : List Cl, cmpL l r = -1 ∨ cmpL l r = 0 ∨ cmpL l r = 1
  | [], _ => .inr (.inl (by unfold cmpL; rfl))
  | _ :: _, [] => .inr (.inl (by unfold cmpL; rfl))
  | a :: l, b :: r => by
    unfold cmpL
    split
    · exact cmpL_cases l r
    · split
      · exact .inl rfl
      · exact .inr (.inr rfl)
theorem cmpL_neg : ∀ l r : List Cl, l.length = r.length → cmpL r l = -cmpL l r
  | [], [], _ => rfl
  | a :: l, b :: r, h => by
    unfold cmpL
    by_cases e : a = b
    · rw [if_pos e, if_pos e.symm]
      exact cmpL_neg l r (by simpa using h)
    · rw [if_neg e, if_neg (fun h => e h.symm)]
      cases h1 : bef a b with
      | true => rw [bef_asym h1]; rfl
      | false =>
        cases h2 : bef b a with
        | true => rfl
        | false => exact absurd (bef_total h1 h2) e
theorem cmpL_zero : ∀ l r : List Cl, l.length = r.length → cmpL l r = 0 → l = r
  | [], [], _, _ => rfl
  | a :: l, b :: r, h, h0 => by
    unfold cmpL at h0
    split at h0
    · rename_i e
      rw [e, cmpL_zero l r (by simpa using h) h0]
    · split at h0 <;> cases h0
theorem cmpL_trans : ∀ a b c : List Cl, a.length = b.length → b.length = c.length → cmpL a b = -1 → cmpL b c = -1 → cmpL a c = -1
  | [], [], [], _, _, h, _ => by simp [cmpL] at h
  | x :: a, y :: b, z :: c, h1, h2, h3, h4 => by
    unfold cmpL at h3 h4 ⊢
    by_cases e1 : x = y
    · subst e1
      rw [if_pos rfl] at h3
      by_cases e2 : x = z
      · subst e2
        rw [if_pos rfl] at h4 ⊢
        exact cmpL_trans a b c (by simpa using h1) (by simpa using h2) h3 h4
      · rw [if_neg e2] at h4 ⊢
        exact h4
    · rw [if_neg e1] at h3
      have b1 : bef x y = true := by
        split at h3
        · assumption
        · cases h3
      by_cases e2 : y = z
      · subst e2
        rw [if_neg e1, if_pos b1]
      · rw [if_neg e2] at h4
        have b2 : bef y z = true := by
          split at h4
          · assumption
          · cases h4
        have b3 := bef_trans b1 b2
        have e3 : x ≠ z := fun e => by subst e; rw [bef_irr] at b3; cases b3
        rw [if_neg e3, if_pos b3]
theorem cmpS_cases (a b : List Cl) : cmpS a b = -1 ∨ cmpS a b = 0 ∨ cmpS a b = 1 := by
  unfold cmpS
  split
  · exact .inl rfl
  · split
    · exact .inr (.inr rfl)
    · exact cmpL_cases a b
theorem cmpS_neg (a b : List Cl) : cmpS b a = -cmpS a b := by
  unfold cmpS
  by_cases h1 : a.length < b.length
  · rw [if_neg (by omega), if_pos h1, if_pos h1]; rfl
  · by_cases h2 : b.length < a.length
    · rw [if_pos h2, if_neg h1, if_pos h2]
    · rw [if_neg h2, if_neg h1, if_neg h1, if_neg h2]
      exact cmpL_neg a b (by omega)
theorem cmpS_self (a : List Cl) : cmpS a a = 0 := by
  unfold cmpS
  rw [if_neg (by omega), if_neg (by omega)]
  exact cmpL_self a
theorem cmpS_zero {a b : List Cl} (h : cmpS a b = 0) : a = b := by
  unfold cmpS at h
  split at h
  · cases h
  · split at h
    · cases h
    · exact cmpL_zero a b (by omega) h
theorem ordS : OrdG ltS where
  irr a := by unfold ltS; rw [cmpS_self]; rfl
  trans := by
    intro a b c h1 h2
    unfold ltS at *
    simp only [decide_eq_true_eq] at *
    have k1 : cmpS a b = -1 := by rcases cmpS_cases a b with h | h | h <;> omega
    have k2 : cmpS b c = -1 := by rcases cmpS_cases b c with h | h | h <;> omega
    suffices cmpS a c = -1 by omega
    unfold cmpS at k1 k2 ⊢
    by_cases l1 : a.length < b.length
    · by_cases l2 : b.length < c.length
      · rw [if_pos (by omega)]
      · by_cases l3 : c.length < b.length
        · rw [if_neg l2, if_pos l3] at k2; cases k2
        · rw [if_pos (by omega)]
    · rw [if_neg l1] at k1
      by_cases l2 : b.length < a.length
      · rw [if_pos l2] at k1; cases k1
      · rw [if_neg l2] at k1
        by_cases l3 : b.length < c.length
        · rw [if_pos (by omega)]
        · rw [if_neg l3] at k2
          by_cases l4 : c.length < b.length
          · rw [if_pos l4] at k2; cases k2
          · rw [if_neg l4] at k2
            rw [if_neg (by omega), if_neg (by omega)]
            exact cmpL_trans a b c (by omega) (by omega) k1 k2
  asym := by
    intro a b h
    unfold ltS at *
    rw [cmpS_neg]
    simp only [decide_eq_true_eq, decide_eq_false_iff_not] at *
    omega
  total := by
    intro a b h1 h2
    unfold ltS at *
    rw [cmpS_neg] at h2
    simp only [decide_eq_false_iff_not] at *
    exact cmpS_zero (by omega)
/-- How far two lists agree. -/
theorem cmpL_drop {l r : List Cl} (hl : l.length = r.length) (k : Nat) (hk : k < l.length) : cmpL (l.drop k) (r.drop k) = if l.getD k (0, 0) = r.getD k (0, 0) then cmpL (l.drop (k + 1)) (r.drop (k + 1)) else if bef (l.getD k (0, 0)) (r.getD k (0, 0)) = true then -1 else 1 := by
  have h1 : l.drop k = l.getD k (0, 0) :: l.drop (k + 1) := by rw [List.drop_eq_getElem_cons hk]; simp [List.getD, hk]
  have h2 : r.drop k = r.getD k (0, 0) :: r.drop (k + 1) := by rw [List.drop_eq_getElem_cons (by omega)]; simp [List.getD, show k < r.length by omega]
  rw [h1, h2]
  conv => lhs; unfold cmpL

/-! ### Orientations, symmetries -/
def turnsC (l : List Cl) (k : Nat) : List (List Cl) := (List.range k).map fun m => turnC m l
def orientS (l : List Cl) : List (List Cl) := if isShape l = true then sortG ltS [] (turnsC l 8) else []
def canonS (l : List Cl) : List Cl := (orientS l).getD 0 []
def symTo (l : List Cl) (k : Nat) : List Int := ((List.range k).filter fun m => decide (turnC m l = cornerC l)).map Int.ofNat
def symS (l : List Cl) : List Int := if isShape l = true then symTo l 8 else []
def congS (a b : List Cl) : Bool := isShape a && isShape b && decide (canonS a = canonS b)
def chirS (l : List Cl) : Bool := decide (symS l ≠ []) && (symS l).all fun m => decide (m < 4)
theorem turnsC_succ (l : List Cl) (k : Nat) : turnsC l (k + 1) = turnsC l k ++ [turnC k l] := by simp [turnsC, List.range_succ]
theorem symTo_succ (l : List Cl) (k : Nat) : symTo l (k + 1) = if turnC k l = cornerC l then symTo l k ++ [(k : Int)] else symTo l k := by
  unfold symTo
  rw [List.range_succ, List.filter_append, List.map_append]
  by_cases h : turnC k l = cornerC l
  · rw [if_pos h]; simp [h]
  · rw [if_neg h]; simp [h]
theorem turnC_len (m : Nat) (l : List Cl) : (turnC m l).length ≤ l.length := by
  unfold turnC
  rw [show (cornerC (sortU (l.map (apM m)))).length = (sortU (l.map (apM m))).length by simp [cornerC]]
  exact Nat.le_trans (sortU_len _) (by simp)

/-! ### Motions one after the other -/
def sameM (a b m : Nat) : Bool := decide (apM m (1, 0) = apM b (apM a (1, 0))) && decide (apM m (0, 1) = apM b (apM a (0, 1)))
def compI (a b : Int) : Int := if (inb a 0 7 && inb b 0 7) = true then match (List.range 8).find? (sameM a.toNat b.toNat) with | some m => (m : Int) | none => -1 else -1
def invI (m : Int) : Int := match (List.range 8).find? (fun k : Nat => decide (compI m (k : Int) = 0)) with | some k => (k : Int) | none => -1
end

section
theorem sortG_snoc {α : Type} [DecidableEq α] (lt : α → α → Bool) (d : α) (l : List α) (x : α) : sortG lt d (l ++ [x]) = insG lt d (sortG lt d l) x := by
  unfold sortG
  rw [List.foldl_append]
  rfl
theorem insG_le {α : Type} [DecidableEq α] (lt : α → α → Bool) (d : α) (o : List α) (x : α) : (insG lt d o x).length ≤ o.length + 1 := by
  unfold insG
  split
  · omega
  · simp; omega
theorem sortG_le {α : Type} [DecidableEq α] (lt : α → α → Bool) (d : α) (l : List α) : (sortG lt d l).length ≤ l.length := by
  have key : ∀ (l o : List α), (l.foldl (insG lt d) o).length ≤ o.length + l.length := by
    intro l
    induction l with
    | nil => intro o; simp
    | cons c l ih =>
      intro o
      rw [List.foldl_cons]
      have := ih (insG lt d o c)
      have := insG_le lt d o c
      simp only [List.length_cons]
      omega
  have := key l []
  simpa [sortG] using this

/-! ### One cell more -/
/-- The cell at side d. -/
def nbC (c : Cl) (d : Nat) : Cl := (c.1 + (1 - (d : Int)).tmod 2, c.2 + (2 - (d : Int)).tmod 2)
def moreC (l : List Cl) (x : Cl) : List Cl := cornerC (sortU (l ++ [x]))
def extAt (l : List Cl) (i d : Nat) : List (List Cl) := if hasC l (nbC (l.getD i (0, 0)) d).1 (nbC (l.getD i (0, 0)) d).2 = true then [] else if isShape (moreC l (nbC (l.getD i (0, 0)) d)) = true then [moreC l (nbC (l.getD i (0, 0)) d)] else []
def extRow (l : List Cl) (i : Nat) : Nat → List (List Cl)
  | 0 => []
  | d + 1 => extRow l i d ++ extAt l i d
def extTo (l : List Cl) : Nat → List (List Cl)
  | 0 => []
  | i + 1 => extTo l i ++ extRow l i 4
def extS (l : List Cl) : List (List Cl) := if (isShape l && !decide (l.length = 8)) = true then sortG ltS [] (extTo l l.length) else []
theorem extAt_has {l : List Cl} {i d : Nat} {c : Cl} (hc : l.getD i (0, 0) = c) (h : hasC l (nbC c d).1 (nbC c d).2 = true) : extAt l i d = [] := by
  subst hc
  exact if_pos h
theorem extAt_no {l : List Cl} {i d : Nat} {c : Cl} (hc : l.getD i (0, 0) = c) (h : hasC l (nbC c d).1 (nbC c d).2 = false) (h2 : isShape (moreC l (nbC c d)) = false) : extAt l i d = [] := by
  subst hc
  unfold extAt
  rw [if_neg (by rw [h]; simp), if_neg (by rw [h2]; simp)]
theorem extAt_yes {l : List Cl} {i d : Nat} {c : Cl} (hc : l.getD i (0, 0) = c) (h : hasC l (nbC c d).1 (nbC c d).2 = false) (h2 : isShape (moreC l (nbC c d)) = true) : extAt l i d = [moreC l (nbC c d)] := by
  subst hc
  unfold extAt
  rw [if_neg (by rw [h]; simp), if_pos h2]
theorem extAt_le (l : List Cl) (i d : Nat) : (extAt l i d).length ≤ 1 := by
  unfold extAt
  split
  · simp
  · split <;> simp
theorem extRow_le (l : List Cl) (i : Nat) : ∀ d, (extRow l i d).length ≤ d
  | 0 => by simp [extRow]
  | d + 1 => by
    have := extRow_le l i d
    have := extAt_le l i d
    simp only [extRow, List.length_append]
    omega
theorem extTo_le (l : List Cl) : ∀ i, (extTo l i).length ≤ 4 * i
  | 0 => by simp [extTo]
  | i + 1 => by
    have := extTo_le l i
    have := extRow_le l i 4
    simp only [extTo, List.length_append]
    omega
theorem mem_extRow (l : List Cl) (i : Nat) (x : List Cl) : ∀ n, x ∈ extRow l i n ↔ ∃ d, d < n ∧ x ∈ extAt l i d
  | 0 => by simp [extRow]
  | n + 1 => by
    simp only [extRow, List.mem_append, mem_extRow l i x n]
    constructor
    · rintro (⟨d, hd, h⟩ | h)
      · exact ⟨d, by omega, h⟩
      · exact ⟨n, by omega, h⟩
    · rintro ⟨d, hd, h⟩
      by_cases e : d = n
      · exact .inr (e ▸ h)
      · exact .inl ⟨d, by omega, h⟩
theorem mem_extTo (l : List Cl) (x : List Cl) : ∀ n, x ∈ extTo l n ↔ ∃ i, i < n ∧ ∃ d, d < 4 ∧ x ∈ extAt l i d
  | 0 => by simp [extTo]
  | n + 1 => by
    simp only [extTo, List.mem_append, mem_extTo l x n, mem_extRow l n x 4]
    constructor
    · rintro (⟨i, hi, h⟩ | h)
      · exact ⟨i, by omega, h⟩
      · exact ⟨n, by omega, h⟩
    · rintro ⟨i, hi, h⟩
      by_cases e : i = n
      · exact .inr (e ▸ h)
      · exact .inl ⟨i, by omega, h⟩
theorem mem_extAt (l : List Cl) (i d : Nat) (x : List Cl) : x ∈ extAt l i d ↔ nbC (l.getD i (0, 0)) d ∉ l ∧ isShape (moreC l (nbC (l.getD i (0, 0)) d)) = true ∧ x = moreC l (nbC (l.getD i (0, 0)) d) := by
  unfold extAt
  generalize nbC (l.getD i (0, 0)) d = c
  by_cases h1 : hasC l c.1 c.2 = true
  · rw [if_pos h1]
    have := (hasC_iff l c).1 h1
    simp [this]
  · rw [if_neg h1]
    have h3 : c ∉ l := fun h => h1 ((hasC_iff l _).2 h)
    by_cases h2 : isShape (moreC l c) = true
    · rw [if_pos h2]
      simp [h3, h2]
    · rw [if_neg h2]
      simp [h2]
/-- The shapes with one cell more, by what they are. -/
theorem mem_extS (l : List Cl) (x : List Cl) : x ∈ extS l ↔ isShape l = true ∧ l.length ≠ 8 ∧ ∃ c ∈ l, ∃ d, d < 4 ∧ nbC c d ∉ l ∧ isShape (moreC l (nbC c d)) = true ∧ x = moreC l (nbC c d) := by
  unfold extS
  by_cases h : (isShape l && !decide (l.length = 8)) = true
  · rw [if_pos h, sortG_mem ordS, mem_extTo]
    have h' := h
    simp only [Bool.and_eq_true, Bool.not_eq_true', decide_eq_false_iff_not] at h'
    constructor
    · rintro ⟨i, hi, d, hd, hx⟩
      exact ⟨h'.1, h'.2, l.getD i (0, 0), getD_mem hi, d, hd, (mem_extAt l i d x).1 hx⟩
    · rintro ⟨_, _, c, hc, d, hd, hx⟩
      obtain ⟨i, hi, rfl⟩ := mem_getD hc
      exact ⟨i, hi, d, hd, (mem_extAt l i d x).2 hx⟩
  · rw [if_neg h]
    constructor
    · intro h2; cases h2
    · rintro ⟨h1, h2, _⟩
      exact absurd (by simp [h1, h2]) h
theorem extS_srt (l : List Cl) : SrtG ltS (extS l) := by
  unfold extS
  split
  · exact sortG_srt ordS [] _
  · exact List.Pairwise.nil
theorem extS_shape {l x : List Cl} (h : x ∈ extS l) : isShape x = true := by
  obtain ⟨_, _, c, _, d, _, _, h1, rfl⟩ := (mem_extS l x).1 h
  exact h1
theorem extS_le (l : List Cl) : (extS l).length ≤ 32 := by
  unfold extS
  split
  · rename_i h
    simp only [Bool.and_eq_true] at h
    have h8 := ((isShape_iff l).1 h.1).1.2
    have := sortG_le ltS [] (extTo l l.length)
    have := extTo_le l l.length
    omega
  · simp
theorem extS_le4 (l : List Cl) : (extS l).length ≤ 4 * l.length := by
  unfold extS
  split
  · have := sortG_le ltS [] (extTo l l.length)
    have := extTo_le l l.length
    omega
  · simp
theorem moreC_len (l : List Cl) (x : Cl) : (moreC l x).length ≤ l.length + 1 := by
  have := sortU_len (l ++ [x])
  unfold moreC cornerC
  simp at this ⊢
  exact this

/-! ### All fixed shapes -/
def fixT : Nat → List (List Cl)
  | 0 => [[(0, 0)]]
  | k + 1 => sortG ltS [] ((fixT k).flatMap extS)
def fixS (n : Int) : List (List Cl) := if inb n 1 5 = true then fixT (n.toNat - 1) else []
theorem fixT_shape : ∀ (k : Nat) {x : List Cl}, x ∈ fixT k → isShape x = true ∧ x.length ≤ k + 1
  | 0, x, h => by
    simp only [fixT, List.mem_singleton] at h
    subst h
    exact ⟨by decide, by simp⟩
  | k + 1, x, h => by
    simp only [fixT, sortG_mem ordS, List.mem_flatMap] at h
    obtain ⟨y, hy, hx⟩ := h
    have h1 := fixT_shape k hy
    have h2 := extS_shape hx
    obtain ⟨_, _, c, _, d, _, _, _, rfl⟩ := (mem_extS y x).1 hx
    have := moreC_len y (nbC c d)
    exact ⟨h2, by omega⟩
theorem flat_le (L : List (List Cl)) (n : Nat) (h : ∀ x ∈ L, (extS x).length ≤ n) : (L.flatMap extS).length ≤ n * L.length := by
  induction L with
  | nil => simp
  | cons a r ih =>
    have h1 := h a (by simp)
    have h2 := ih fun x hx => h x (by simp [hx])
    simp only [List.flatMap_cons, List.length_append, List.length_cons, Nat.mul_add]
    omega
theorem fixT_le (k : Nat) : (fixT (k + 1)).length ≤ 4 * (k + 1) * (fixT k).length := by
  have h1 := sortG_le ltS [] ((fixT k).flatMap extS)
  have h2 := flat_le (fixT k) (4 * (k + 1)) fun x hx => by
    have := extS_le4 x
    have := (fixT_shape k hx).2
    omega
  exact Nat.le_trans h1 h2
theorem fixT_bd : ∀ k, k ≤ 4 → (fixT k).length ≤ 6144 := by
  have h0 : (fixT 0).length = 1 := rfl
  have h1 : (fixT 1).length ≤ 4 * (fixT 0).length := by simpa only [Nat.reduceAdd, Nat.reduceMul] using fixT_le 0
  have h2 : (fixT 2).length ≤ 8 * (fixT 1).length := by simpa only [Nat.reduceAdd, Nat.reduceMul] using fixT_le 1
  have h3 : (fixT 3).length ≤ 12 * (fixT 2).length := by simpa only [Nat.reduceAdd, Nat.reduceMul] using fixT_le 2
  have h4 : (fixT 4).length ≤ 16 * (fixT 3).length := by simpa only [Nat.reduceAdd, Nat.reduceMul] using fixT_le 3
  intro k hk
  have : k = 0 ∨ k = 1 ∨ k = 2 ∨ k = 3 ∨ k = 4 := by omega
  rcases this with rfl | rfl | rfl | rfl | rfl <;> omega
theorem fixT_srt : ∀ k, SrtG ltS (fixT k)
  | 0 => by simp [fixT, SrtG]
  | k + 1 => sortG_srt ordS [] _
theorem fixS_srt (n : Int) : SrtG ltS (fixS n) := by
  unfold fixS
  split
  · exact fixT_srt _
  · exact List.Pairwise.nil
theorem fixS_bd (n : Int) : (fixS n).length ≤ 6144 := by
  unfold fixS
  split
  · rename_i h
    unfold inb at h
    simp at h
    exact fixT_bd _ (by omega)
  · simp
theorem fixS_shape {n : Int} {x : List Cl} (h : x ∈ fixS n) : isShape x = true ∧ x.length ≤ 5 := by
  unfold fixS at h
  split at h
  · rename_i h1
    unfold inb at h1
    simp at h1
    have := fixT_shape _ h
    exact ⟨this.1, by omega⟩
  · cases h

/-! ### The first of its results -/
def leastS (m : Nat) (l : List Cl) : Bool := (List.range m).all fun k => !decide (cmpS (turnC k l) l < 0)
def firstS (m : Nat) (n : Int) : List (List Cl) := (fixS n).filter (leastS m)
def countS (n : Int) : Int := if inb n 1 5 = true then ((firstS 8 n).length : Int) else -1
theorem leastS_succ (l : List Cl) (m : Nat) : leastS (m + 1) l = (leastS m l && !decide (cmpS (turnC m l) l < 0)) := by
  unfold leastS
  rw [List.range_succ, List.all_append]
  simp
theorem leastS_false {l : List Cl} {k m : Nat} (h : cmpS (turnC k l) l < 0) (hk : k < m) : leastS m l = false := by
  rw [← Bool.not_eq_true]
  intro h2
  unfold leastS at h2
  rw [List.all_eq_true] at h2
  have := h2 k (List.mem_range.2 hk)
  simp [h] at this
theorem filter_snoc {α : Type} (p : α → Bool) (d : α) (l : List α) (k : Nat) (h : k < l.length) : (l.take (k + 1)).filter p = (l.take k).filter p ++ (if p (l.getD k d) = true then [l.getD k d] else []) := by
  rw [List.take_succ_eq_append_getElem h, List.filter_append]
  congr 1
  simp only [List.getD_eq_getElem?_getD, List.getElem?_eq_getElem h, Option.getD_some]
  cases hp : p l[k] <;> simp [hp]
theorem filter_le {α : Type} (p : α → Bool) (l : List α) : (l.filter p).length ≤ l.length := List.length_filter_le p l
end

section
open Go.RowKit

theorem cell_guard : Tryz.prog.eqGuardType Tryz.prog.depth 126 = false := by kernel_rfl
theorem cell_held : Tryz.prog.stoodInHeld 126 = false := by kernel_rfl
theorem cell_struct : Tryz.prog.underlying 126 = some (.struct (Tryz.prog.fieldsOf 126)) := by kernel_rfl
theorem cell_fields : (Tryz.prog.fieldsOf 126).toList.map (fun f => (f.name, f.type, f.offset)) = [("X", 3, 0), ("Y", 3, 1)] := by kernel_rfl
theorem int_plain : (Tryz.prog.underlying 3) = some (.int .i64) := Tryz.underlying3
def sameC (a b : Cl) : Bool := decide (a = b)
theorem sameC_eq (x y u v : Int) : sameC (x, y) (u, v) = ((x == u) && (y == v)) := by
  unfold sameC
  rw [Bool.eq_iff_iff]
  simp
theorem part_int (cs : Array Value) (off : Nat) (v : Value) (h : cs[off]? = some v) (w : World) : (part 3 cs off).run Tryz.prog w = .ok v w := by
  unfold part
  simp [go_sem, h]

theorem part_0 (a b : Value) (w : World) : (part 3 #[a, b] 0).run Tryz.prog w = .ok a w := part_int _ _ _ rfl w
theorem part_1 (a b : Value) (w : World) : (part 3 #[a, b] 1).run Tryz.prog w = .ok b w := part_int _ _ _ rfl w
theorem cell_eq (x y u v : Int) (w : World) : (Op.equalIn 10000 126 (.agg #[.int .i64 x, .int .i64 y]) (.agg #[.int .i64 u, .int .i64 v])).run Tryz.prog w = .ok (sameC (x, y) (u, v)) w := by
  rw [run_equalIn_struct w 9999 126 _ _ cell_struct cell_held, sameC_eq]
  have h := cell_fields
  generalize (Tryz.prog.fieldsOf 126).toList = fs at h
  match fs, h with
  | [], h => simp at h
  | [_], h => simp at h
  | _ :: _ :: _ :: _, h => simp at h
  | [f, g], h =>
    simp only [List.map_cons, List.map_nil, List.cons.injEq, Prod.mk.injEq, and_true] at h
    obtain ⟨⟨h1, h2, h3⟩, h4, h5, h6⟩ := h
    simp only [Op.eqFields, h1, h2, h3, h4, h5, h6]
    have n1 : ("X" ≠ "_") = True := eq_true (by decide)
    have n2 : ("Y" ≠ "_") = True := eq_true (by decide)
    simp only [n1, n2, if_true, Sem.run_bind, part_0, Result.andThen_ok]
    by_cases hx : x = u <;> by_cases hy : y = v <;> simp [hx, hy, Sem.run_bind, part_1, run_equalIn_int w 9998 3 .i64 .i64 _ _ int_plain]

theorem eql_cell (x y u v : Int) (w : World) : (binOp .eql 126 (.agg #[.int .i64 x, .int .i64 y]) (.agg #[.int .i64 u, .int .i64 v])).run Tryz.prog w = .ok (.bool (sameC (x, y) (u, v))) w := by
  rw [run_eql_struct, cell_eq]; rfl
theorem neq_cell (x y u v : Int) (w : World) : (binOp .neq 126 (.agg #[.int .i64 x, .int .i64 y]) (.agg #[.int .i64 u, .int .i64 v])).run Tryz.prog w = .ok (.bool (!sameC (x, y) (u, v))) w := by
  rw [run_neq_struct, cell_eq]; rfl
end

section
open Go.RowKit

theorem take_any (l : List Cl) (p : Cl → Bool) (k : Nat) (h : k < l.length) : (l.take (k + 1)).any p = ((l.take k).any p || p (l.getD k (0, 0))) := by
  rw [List.take_succ_eq_append_getElem h, List.any_append]
  simp [List.getD, h]
theorem any_yes {l : List Cl} {p : Cl → Bool} {k : Nat} (h : k < l.length) (hp : p (l.getD k (0, 0)) = true) : l.any p = true := by
  rw [List.any_eq_true]
  refine ⟨l[k], List.getElem_mem h, ?_⟩
  simpa [List.getD, h] using hp

set_option maxHeartbeats 1000000 in
set_option maxRecDepth 100000 in
theorem sHasCell (B n cap : Nat) (a : Option Addr) (l : List Cl) (p q : Int) (w : World) (hn : n ≤ 4194304) (hc : CellsAt B w a n l) :
    Calls Tryz.prog 205 #[.slice a n cap, .int .i64 p, .int .i64 q] w fun e w' => e = .returned (.bool (hasC l p q)) ∧ w = w' := by
  have H := Lib.hid hc
  clear hc
  go_enter Tryz.func205, Tryz.ntmps205
  go_wp2
  go_loopw [7] (fun i wr => ∃ k : Nat, k ≤ n ∧ i = .int .i64 k ∧ Hid ((l.take k).any (cellIs p q) = false) ∧ wr = w) (fun i _ => n - (intOf i).toNat)
  case atStart => exact ⟨0, by omega, rfl, by simp [Hid], rfl⟩
  case round =>
    obtain ⟨k, hk, rfl, hno, rfl⟩ := hrel
    by_cases hlt : k < n
    · obtain ⟨b1, o1, rfl, hb1, hc1⟩ := H.out.2.2 (by omega)
      obtain ⟨x, y, hxy⟩ : ∃ x y, l.getD k (0, 0) = (x, y) := ⟨_, _, rfl⟩
      have p1 := (hc1 k hlt).1
      have p2 := (hc1 k hlt).2
      rw [hxy] at p1 p2
      have HX := Lib.hid hxy
      have hk0 : (0 : Int) ≤ (k : Int) := by omega
      have hk1 : (k : Int) < (n : Int) := by omega
      clear hxy hc1
      by_cases hA : x = p ∧ y = q
      · obtain ⟨rfl, rfl⟩ := hA
        have hyes : hasC l x y = true := any_yes (by rw [H.out.1]; exact hlt) (by rw [HX.out]; simp [cellIs])
        go_wp2
        go_ret
        exact ⟨by first | rfl | (rw [hyes]; rfl), rfl⟩
      · have hno2 : (l.take (k + 1)).any (cellIs p q) = false := by
          rw [take_any l _ k (by rw [H.out.1]; exact hlt), hno.out, HX.out]
          simp only [cellIs, Bool.false_or]
          simpa using hA
        by_cases h1 : x = p
        · have h2 : (y == q) = false := by simp; intro e; exact hA ⟨h1, e⟩
          subst h1
          clear hA
          go_wp2
          go_roundw
          case rel => exact ⟨k + 1, by omega, by go_num, hno2, trivial⟩
          case measure => simp [intOf]; omega
        · have h2 : (x == p) = false := by simp; exact h1
          clear hA h1
          go_wp2
          go_roundw
          case rel => exact ⟨k + 1, by omega, by go_num, hno2, trivial⟩
          case measure => simp [intOf]; omega
    · obtain rfl : k = n := by omega
      have he : hasC l p q = false := by
        have := hno.out
        rwa [List.take_of_length_le (by rw [H.out.1]; exact Nat.le_refl _)] at this
      go_wp2
      go_ret
      exact ⟨by first | rfl | (rw [he]; rfl), rfl⟩

theorem sq_bd (x : Int) (h1 : -7 ≤ x) (h2 : x ≤ 7) : 0 ≤ x * x ∧ x * x ≤ 49 := by
  rcases Int.le_total 0 x with h | h
  · exact ⟨Int.mul_nonneg h h, Int.le_trans (Int.mul_le_mul h2 h2 h (by omega)) (by omega)⟩
  · have h3 : 0 ≤ (-x) * (-x) := Int.mul_nonneg (by omega) (by omega)
    have h4 : (-x) * (-x) ≤ 7 * 7 := Int.mul_le_mul (by omega) (by omega) (by omega) (by omega)
    rw [Int.neg_mul_neg] at h3 h4
    omega

set_option maxHeartbeats 1000000 in
set_option maxRecDepth 100000 in
theorem sEqual_same (B n c1 c2 : Nat) (a1 a2 : Option Addr) (l r : List Cl) (w : World) (hn : n ≤ 4194304) (h1 : CellsAt B w a1 n l) (h2 : CellsAt B w a2 n r) (hB : B ≤ w.heap.size) :
    Calls Tryz.prog 180 #[.slice a1 n c1, .slice a2 n c2] w fun e w' => e = .returned (.bool (eqb l r)) ∧ Below w.heap.size w w' := by
  have H1 := Lib.hid h1
  have H2 := Lib.hid h2
  clear h1 h2
  have hne : (((n : Nat) : Int) != (n : Int)) = false := by simp
  go_enter Tryz.func180, Tryz.ntmps180
  go_wp2
  go_loopw [5] (fun i wr => ∃ k : Nat, k ≤ n ∧ i = .int .i64 k ∧ Hid (l.take k = r.take k) ∧ Below w.heap.size w wr) (fun i _ => n - (intOf i).toNat)
  case atStart => exact ⟨0, by omega, rfl, by simp [Hid], Below.refl _ _⟩
  case round =>
    obtain ⟨k, hk, rfl, hsame, hb⟩ := hrel
    have hsz := hb.size
    by_cases hlt : k < n
    · obtain ⟨b1, o1, rfl, hb1, hc1⟩ := H1.out.2.2 (by omega)
      obtain ⟨b2, o2, rfl, hb2, hc2⟩ := H2.out.2.2 (by omega)
      obtain ⟨x, y, hxy⟩ : ∃ x y, l.getD k (0, 0) = (x, y) := ⟨_, _, rfl⟩
      obtain ⟨u, v, huv⟩ : ∃ u v, r.getD k (0, 0) = (u, v) := ⟨_, _, rfl⟩
      have p1 := (hb.cell (p := ⟨b1, o1 + k * 2, none⟩) (Nat.lt_of_lt_of_le hb1 hB)).trans (hc1 k hlt).1
      have p2 := (hb.cell (p := ⟨b1, o1 + k * 2 + 1, none⟩) (Nat.lt_of_lt_of_le hb1 hB)).trans (hc1 k hlt).2
      have q1 := (hb.cell (p := ⟨b2, o2 + k * 2, none⟩) (Nat.lt_of_lt_of_le hb2 hB)).trans (hc2 k hlt).1
      have q2 := (hb.cell (p := ⟨b2, o2 + k * 2 + 1, none⟩) (Nat.lt_of_lt_of_le hb2 hB)).trans (hc2 k hlt).2
      rw [hxy] at p1 p2
      rw [huv] at q1 q2
      have HX := Lib.hid hxy
      have HU := Lib.hid huv
      have hk0 : (0 : Int) ≤ (k : Int) := by omega
      have hk1 : (k : Int) < (n : Int) := by omega
      have hE := neq_cell x y u v
      have hG := cell_guard
      clear hc1 hc2 hxy huv
      go_wp2_with fail
      go_quiet (fail)
      go_wp2
      all_goals
        rename_i hcase
        clear hE hG
        simp [sameC] at hcase
        first
          | (have hd : l.getD k (0, 0) ≠ r.getD k (0, 0) := by
               rw [HX.out, HU.out]
               intro e
               injection e with e1 e2
               subst e1 e2
               simp at hcase
             go_ret
             exact ⟨by rw [eqb_no hd]; rfl, below_drewn hb _⟩)
          | (have hd : l.getD k (0, 0) = r.getD k (0, 0) := by
               rw [HX.out, HU.out, hcase.1, hcase.2]
             have hst := take_same l r k (by have := H1.out.1; omega) (by have := H2.out.1; omega) hsame.out hd
             go_roundw
             case rel => exact ⟨k + 1, by omega, by go_num, hst, below_drewn hb _⟩
             case measure => simp [intOf]; omega)
    · go_wp2
      go_ret
      have e : l = r := by
        have h := hsame.out
        rwa [List.take_of_length_le (by have := H1.out.1; omega), List.take_of_length_le (by have := H2.out.1; omega)] at h
      exact ⟨by rw [eqb, e]; simp, hb⟩

theorem sEqual_any (B n m c1 c2 : Nat) (a1 a2 : Option Addr) (l r : List Cl) (w : World) (hn : n ≤ 4194304) (hm : m ≤ 4194304) (h1 : CellsAt B w a1 n l) (h2 : CellsAt B w a2 m r) (hB : B ≤ w.heap.size) :
    Calls Tryz.prog 180 #[.slice a1 n c1, .slice a2 m c2] w fun e w' => e = .returned (.bool (eqb l r)) ∧ Below w.heap.size w w' := by
  by_cases hnm : n = m
  · subst hnm
    exact sEqual_same B n c1 c2 a1 a2 l r w hn h1 h2 hB
  · have hne : (((n : Nat) : Int) != (m : Int)) = true := by rw [bne_iff_ne]; omega
    have he : eqb l r = false := by
      unfold eqb
      simp
      intro e
      have a := h1.1
      have b := h2.1
      rw [e] at a
      omega
    rw [he]
    clear he hnm h1 h2
    go_enter Tryz.func180, Tryz.ntmps180
    go_wp2
    go_ret
    exact ⟨rfl, Below.refl _ _⟩
end

section
open Go.RowKit

theorem cornerC_in {l : List Cl} (hp : ∀ c ∈ l, inP c = true) : ∀ c ∈ cornerC l, inP c = true := by
  intro c hc
  obtain ⟨d, hd, rfl⟩ := List.mem_map.1 hc
  have h1 := inP_out (hp d hd)
  obtain ⟨j, hj, rfl⟩ := List.getElem_of_mem hd
  have e : l[j] = l.getD j (0, 0) := by simp [List.getD, hj]
  rw [e] at h1 ⊢
  have h2 := minTo_le Prod.fst l l.length j hj
  have h3 := minTo_le Prod.snd l l.length j hj
  have h4 := minTo_bd Prod.fst l 7 (by omega) (fun j hj => by have := inP_out (hp _ (getD_mem hj)); omega) l.length (Nat.le_refl _)
  have h5 := minTo_bd Prod.snd l 7 (by omega) (fun j hj => by have := inP_out (hp _ (getD_mem hj)); omega) l.length (Nat.le_refl _)
  unfold minX minY inP inb
  simp only [Bool.and_eq_true, decide_eq_true_eq]
  omega
theorem cornS_in (l : List Cl) : ∀ c ∈ cornS l, inP c = true := by
  unfold cornS
  split
  · rename_i h
    exact cornerC_in (isShape_in h)
  · intro c hc; cases hc
theorem isShape_len {l : List Cl} (h : isShape l = true) : 1 ≤ l.length ∧ l.length ≤ 8 := by
  simp [isShape, inb] at h
  omega
theorem cornS_len (l : List Cl) : (cornS l).length ≤ 8 := by
  unfold cornS
  split
  · rename_i h
    have := isShape_len h
    unfold cornerC
    rw [List.length_map]
    omega
  · simp
theorem inP_in {c : Cl} (h : inP c = true) : InC c := by
  have := inP_out h
  unfold InC
  omega
theorem maxTo_bd (f : Cl → Int) (l : List Cl) (h : ∀ c ∈ l, 0 ≤ f c ∧ f c ≤ 7) : ∀ k, k ≤ l.length → 0 ≤ maxTo f l k ∧ maxTo f l k ≤ 8
  | 0, _ => by simp [maxTo]
  | k + 1, hk => by
    have h1 := maxTo_bd f l h k (by omega)
    have h2 := h _ (getD_mem (l := l) (j := k) (by omega))
    unfold maxTo
    split
    · omega
    · exact h1
end

section
open Go.RowKit

def Conn (l : List Cl) : Prop := isShape l = true ∧ AllRch l
end

end Go.Proofs.YtkcclhnligajeaaGreatDoor
