/-
  Motions of shapes and their orders, as lists: plain facts, nothing of the program.
  Enumeration: one cell more, all fixed shapes, the first among results of motions: plain facts, nothing of the program.
  Do cells hang together, in the model: what the call gives.
  Enumeration: what comes of taking one cell away; plain facts.
  Shapes turned: the order in which one moves and sorts does not matter; plain facts.
  Symmetries, congruence and mirror images: where the program's words and the model's are one; plain facts.
-/
import Derived.Test.YtailmmamgnebhaaGreatDoorPur
import Derived.Test.YtailmmamgnebhaaGreatDoorXaf
import Derived.Test.YtailmmamgnebhaaGreatDoorXad
import Derived.Test.YtailmmamgnebhaaGreatDoorXab
import Derived.Shelf.SlSortCmp.QuietGrown
namespace Go.Proofs.YtailmmamgnebhaaGreatDoor

section
def rotC (c : Cl) : Cl := (-c.2, c.1)
def rotN : Nat → Cl → Cl
  | 0, c => c
  | n + 1, c => rotC (rotN n c)
def flipC (m : Nat) (c : Cl) : Cl := if 4 ≤ m then (-c.1, c.2) else c
/-- A motion of a cell. -/
def apM (m : Nat) (c : Cl) : Cl := rotN (m % 4) (flipC m c)
def inR (b : Int) (c : Cl) : Prop := -b ≤ c.1 ∧ c.1 ≤ b ∧ -b ≤ c.2 ∧ c.2 ≤ b
theorem rotN_in {b : Int} : ∀ (n : Nat) {c : Cl}, inR b c → inR b (rotN n c)
  | 0, _, h => h
  | n + 1, c, h => by
    have := rotN_in n h
    unfold inR at *
    simp only [rotN, rotC]
    omega
theorem flipC_in {b : Int} (m : Nat) {c : Cl} (h : inR b c) : inR b (flipC m c) := by
  unfold flipC
  split
  · unfold inR at *
    dsimp only
    omega
  · exact h
theorem apM_in {b : Int} (m : Nat) {c : Cl} (h : inR b c) : inR b (apM m c) := rotN_in _ (flipC_in m h)
theorem inR_of_inP {c : Cl} (h : inP c = true) : inR 7 c := by
  have := inP_out h
  unfold inR
  omega
def turnC (m : Nat) (l : List Cl) : List Cl := cornerC (sortU (l.map (apM m)))
def turnS (m : Int) (l : List Cl) : List Cl := if (isShape l && inb m 0 7) = true then turnC m.toNat l else []

/-! ### The order of shapes -/
def cmpL : List Cl → List Cl → Int
  | a :: l, b :: r => if a = b then cmpL l r else if bef a b = true then -1 else 1
  | _, _ => 0
def cmpS (a b : List Cl) : Int := if a.length < b.length then -1 else if b.length < a.length then 1 else cmpL a b
def ltS (a b : List Cl) : Bool := decide (cmpS a b < 0)
theorem cmpL_self : ∀ l : List Cl, cmpL l l = 0
  | [] => rfl
  | a :: l => by unfold cmpL; rw [if_pos rfl]; exact cmpL_self l
theorem cmpL_cases : ∀ l r : List Cl, cmpL l r = -1 ∨ cmpL l r = 0 ∨ cmpL l r = 1
  | [], _ => .inr (.inl (by unfold cmpL; rfl))
  | _ :: _, [] => .inr (.inl (by unfold cmpL; rfl))
  | a :: l, b :: r => by
    unfold cmpL
    split
    · exact cmpL_cases l r
    · split
      · exact .inl rfl
      · exact .inr (.inr rfl)
theorem cmpL_neg : ∀ l r : List Cl, l.length = r.length → cmpL r l = -cmpL l r
  | [], [], _ => rfl
  | a :: l, b :: r, h => by
    unfold cmpL
    by_cases e : a = b
    · rw [if_pos e, if_pos e.symm]
      exact cmpL_neg l r (by simpa using h)
    · rw [if_neg e, if_neg (fun h => e h.symm)]
      cases h1 : bef a b with
      | true => rw [bef_asym h1]; rfl
      | false =>
        cases h2 : bef b a with
        | true => rfl
        | false => exact absurd (bef_total h1 h2) e
theorem cmpL_zero : ∀ l r : List Cl, l.length = r.length → cmpL l r = 0 → l = r
  | [], [], _, _ => rfl
  | a :: l, b :: r, h, h0 => by
    unfold cmpL at h0
    split at h0
    · rename_i e
      rw [e, cmpL_zero l r (by simpa using h) h0]
    · split at h0 <;> cases h0
theorem cmpL_trans : ∀ a b c : List Cl, a.length = b.length → b.length = c.length → cmpL a b = -1 → cmpL b c = -1 → cmpL a c = -1
  | [], [], [], _, _, h, _ => by simp [cmpL] at h
  | x :: a, y :: b, z :: c, h1, h2, h3, h4 => by
    unfold cmpL at h3 h4 ⊢
    by_cases e1 : x = y
    · subst e1
      rw [if_pos rfl] at h3
      by_cases e2 : x = z
      · subst e2
        rw [if_pos rfl] at h4 ⊢
        exact cmpL_trans a b c (by simpa using h1) (by simpa using h2) h3 h4
      · rw [if_neg e2] at h4 ⊢
        exact h4
    · rw [if_neg e1] at h3
      have b1 : bef x y = true := by
        split at h3
        · assumption
        · cases h3
      by_cases e2 : y = z
      · subst e2
        rw [if_neg e1, if_pos b1]
      · rw [if_neg e2] at h4
        have b2 : bef y z = true := by
          split at h4
          · assumption
          · cases h4
        have b3 := bef_trans b1 b2
        have e3 : x ≠ z := fun e => by subst e; rw [bef_irr] at b3; cases b3
        rw [if_neg e3, if_pos b3]
theorem cmpS_cases (a b : List Cl) : cmpS a b = -1 ∨ cmpS a b = 0 ∨ cmpS a b = 1 := by
  unfold cmpS
  split
  · exact .inl rfl
  · split
    · exact .inr (.inr rfl)
    · exact cmpL_cases a b
theorem cmpS_neg (a b : List Cl) : cmpS b a = -cmpS a b := by
  unfold cmpS
  by_cases h1 : a.length < b.length
  · rw [if_neg (by omega), if_pos h1, if_pos h1]; rfl
  · by_cases h2 : b.length < a.length
    · rw [if_pos h2, if_neg h1, if_pos h2]
    · rw [if_neg h2, if_neg h1, if_neg h1, if_neg h2]
      exact cmpL_neg a b (by omega)
theorem cmpS_self (a : List Cl) : cmpS a a = 0 := by
  unfold cmpS
  rw [if_neg (by omega), if_neg (by omega)]
  exact cmpL_self a
theorem cmpS_zero {a b : List Cl} (h : cmpS a b = 0) : a = b := by
  unfold cmpS at h
  split at h
  · cases h
  · split at h
    · cases h
    · exact cmpL_zero a b (by omega) h
theorem ordS : OrdG ltS where
  irr a := by unfold ltS; rw [cmpS_self]; rfl
  trans := by
    intro a b c h1 h2
    unfold ltS at *
    simp only [decide_eq_true_eq] at *
    have k1 : cmpS a b = -1 := by rcases cmpS_cases a b with h | h | h <;> omega
    have k2 : cmpS b c = -1 := by rcases cmpS_cases b c with h | h | h <;> omega
    suffices cmpS a c = -1 by omega
    unfold cmpS at k1 k2 ⊢
    by_cases l1 : a.length < b.length
    · by_cases l2 : b.length < c.length
      · rw [if_pos (by omega)]
      · by_cases l3 : c.length < b.length
        · rw [if_neg l2, if_pos l3] at k2; cases k2
        · rw [if_pos (by omega)]
    · rw [if_neg l1] at k1
      by_cases l2 : b.length < a.length
      · rw [if_pos l2] at k1; cases k1
      · rw [if_neg l2] at k1
        by_cases l3 : b.length < c.length
        · rw [if_pos (by omega)]
        · rw [if_neg l3] at k2
          by_cases l4 : c.length < b.length
          · rw [if_pos l4] at k2; cases k2
          · rw [if_neg l4] at k2
            rw [if_neg (by omega), if_neg (by omega)]
            exact cmpL_trans a b c (by omega) (by omega) k1 k2
  asym := by
    intro a b h
    unfold ltS at *
    rw [cmpS_neg]
    simp only [decide_eq_true_eq, decide_eq_false_iff_not] at *
    omega
  total := by
    intro a b h1 h2
    unfold ltS at *
    rw [cmpS_neg] at h2
    simp only [decide_eq_false_iff_not] at *
    exact cmpS_zero (by omega)
/-- How far two lists agree. -/
theorem cmpL_drop {l r : List Cl} (hl : l.length = r.length) (k : Nat) (hk : k < l.length) : cmpL (l.drop k) (r.drop k) = if l.getD k (0, 0) = r.getD k (0, 0) then cmpL (l.drop (k + 1)) (r.drop (k + 1)) else if bef (l.getD k (0, 0)) (r.getD k (0, 0)) = true then -1 else 1 := by
  have h1 : l.drop k = l.getD k (0, 0) :: l.drop (k + 1) := by rw [List.drop_eq_getElem_cons hk]; simp [List.getD, hk]
  have h2 : r.drop k = r.getD k (0, 0) :: r.drop (k + 1) := by rw [List.drop_eq_getElem_cons (by omega)]; simp [List.getD, show k < r.length by omega]
  rw [h1, h2]
  conv => lhs; unfold cmpL

/-! ### Orientations, symmetries -/
def turnsC (l : List Cl) (k : Nat) : List (List Cl) := (List.range k).map fun m => turnC m l
def orientS (l : List Cl) : List (List Cl) := if isShape l = true then sortG ltS [] (turnsC l 8) else []
def canonS (l : List Cl) : List Cl := (orientS l).getD 0 []
def symTo (l : List Cl) (k : Nat) : List Int := ((List.range k).filter fun m => decide (turnC m l = cornerC l)).map Int.ofNat
def symS (l : List Cl) : List Int := if isShape l = true then symTo l 8 else []
def congS (a b : List Cl) : Bool := isShape a && isShape b && decide (canonS a = canonS b)
def chirS (l : List Cl) : Bool := decide (symS l ≠ []) && (symS l).all fun m => decide (m < 4)
theorem turnsC_succ (l : List Cl) (k : Nat) : turnsC l (k + 1) = turnsC l k ++ [turnC k l] := by simp [turnsC, List.range_succ]
theorem symTo_succ (l : List Cl) (k : Nat) : symTo l (k + 1) = if turnC k l = cornerC l then symTo l k ++ [(k : Int)] else symTo l k := by
  unfold symTo
  rw [List.range_succ, List.filter_append, List.map_append]
  by_cases h : turnC k l = cornerC l
  · rw [if_pos h]; simp [h]
  · rw [if_neg h]; simp [h]
theorem turnC_len (m : Nat) (l : List Cl) : (turnC m l).length ≤ l.length := by
  unfold turnC
  rw [show (cornerC (sortU (l.map (apM m)))).length = (sortU (l.map (apM m))).length by simp [cornerC]]
  exact Nat.le_trans (sortU_len _) (by simp)

/-! ### Motions one after the other -/
def sameM (a b m : Nat) : Bool := decide (apM m (1, 0) = apM b (apM a (1, 0))) && decide (apM m (0, 1) = apM b (apM a (0, 1)))
def compI (a b : Int) : Int := if (inb a 0 7 && inb b 0 7) = true then match (List.range 8).find? (sameM a.toNat b.toNat) with | some m => (m : Int) | none => -1 else -1
def invI (m : Int) : Int := match (List.range 8).find? (fun k : Nat => decide (compI m (k : Int) = 0)) with | some k => (k : Int) | none => -1
end

section
theorem sortG_snoc {α : Type} [DecidableEq α] (lt : α → α → Bool) (d : α) (l : List α) (x : α) : sortG lt d (l ++ [x]) = insG lt d (sortG lt d l) x := by
  unfold sortG
  rw [List.foldl_append]
  rfl
theorem insG_le {α : Type} [DecidableEq α] (lt : α → α → Bool) (d : α) (o : List α) (x : α) : (insG lt d o x).length ≤ o.length + 1 := by
  unfold insG
  split
  · omega
  · simp; omega
theorem sortG_le {α : Type} [DecidableEq α] (lt : α → α → Bool) (d : α) (l : List α) : (sortG lt d l).length ≤ l.length := by
  have key : ∀ (l o : List α), (l.foldl (insG lt d) o).length ≤ o.length + l.length := by
    intro l
    induction l with
    | nil => intro o; simp
    | cons c l ih =>
      intro o
      rw [List.foldl_cons]
      have := ih (insG lt d o c)
      have := insG_le lt d o c
      simp only [List.length_cons]
      omega
  have := key l []
  simpa [sortG] using this

/-! ### One cell more -/
/-- The cell at side d. -/
def nbC (c : Cl) (d : Nat) : Cl := (c.1 + (1 - (d : Int)).tmod 2, c.2 + (2 - (d : Int)).tmod 2)
def moreC (l : List Cl) (x : Cl) : List Cl := cornerC (sortU (l ++ [x]))
def extAt (l : List Cl) (i d : Nat) : List (List Cl) := if hasC l (nbC (l.getD i (0, 0)) d).1 (nbC (l.getD i (0, 0)) d).2 = true then [] else if isShape (moreC l (nbC (l.getD i (0, 0)) d)) = true then [moreC l (nbC (l.getD i (0, 0)) d)] else []
def extRow (l : List Cl) (i : Nat) : Nat → List (List Cl)
  | 0 => []
  | d + 1 => extRow l i d ++ extAt l i d
def extTo (l : List Cl) : Nat → List (List Cl)
  | 0 => []
  | i + 1 => extTo l i ++ extRow l i 4
def extS (l : List Cl) : List (List Cl) := if (isShape l && !decide (l.length = 8)) = true then sortG ltS [] (extTo l l.length) else []
theorem extAt_has {l : List Cl} {i d : Nat} {c : Cl} (hc : l.getD i (0, 0) = c) (h : hasC l (nbC c d).1 (nbC c d).2 = true) : extAt l i d = [] := by
  subst hc
  exact if_pos h
theorem extAt_no {l : List Cl} {i d : Nat} {c : Cl} (hc : l.getD i (0, 0) = c) (h : hasC l (nbC c d).1 (nbC c d).2 = false) (h2 : isShape (moreC l (nbC c d)) = false) : extAt l i d = [] := by
  subst hc
  unfold extAt
  rw [if_neg (by rw [h]; simp), if_neg (by rw [h2]; simp)]
theorem extAt_yes {l : List Cl} {i d : Nat} {c : Cl} (hc : l.getD i (0, 0) = c) (h : hasC l (nbC c d).1 (nbC c d).2 = false) (h2 : isShape (moreC l (nbC c d)) = true) : extAt l i d = [moreC l (nbC c d)] := by
  subst hc
  unfold extAt
  rw [if_neg (by rw [h]; simp), if_pos h2]
theorem extAt_le (l : List Cl) (i d : Nat) : (extAt l i d).length ≤ 1 := by
  unfold extAt
  split
  · simp
  · split <;> simp
theorem extRow_le (l : List Cl) (i : Nat) : ∀ d, (extRow l i d).length ≤ d
  | 0 => by simp [extRow]
  | d + 1 => by
    have := extRow_le l i d
    have := extAt_le l i d
    simp only [extRow, List.length_append]
    omega
theorem extTo_le (l : List Cl) : ∀ i, (extTo l i).length ≤ 4 * i
  | 0 => by simp [extTo]
  | i + 1 => by
    have := extTo_le l i
    have := extRow_le l i 4
    simp only [extTo, List.length_append]
    omega
theorem mem_extRow (l : List Cl) (i : Nat) (x : List Cl) : ∀ n, x ∈ extRow l i n ↔ ∃ d, d < n ∧ x ∈ extAt l i d
  | 0 => by simp [extRow]
  | n + 1 => by
    simp only [extRow, List.mem_append, mem_extRow l i x n]
    constructor
    · rintro (⟨d, hd, h⟩ | h)
      · exact ⟨d, by omega, h⟩
      · exact ⟨n, by omega, h⟩
    · rintro ⟨d, hd, h⟩
      by_cases e : d = n
      · exact .inr (e ▸ h)
      · exact .inl ⟨d, by omega, h⟩
theorem mem_extTo (l : List Cl) (x : List Cl) : ∀ n, x ∈ extTo l n ↔ ∃ i, i < n ∧ ∃ d, d < 4 ∧ x ∈ extAt l i d
  | 0 => by simp [extTo]
  | n + 1 => by
    simp only [extTo, List.mem_append, mem_extTo l x n, mem_extRow l n x 4]
    constructor
    · rintro (⟨i, hi, h⟩ | h)
      · exact ⟨i, by omega, h⟩
      · exact ⟨n, by omega, h⟩
    · rintro ⟨i, hi, h⟩
      by_cases e : i = n
      · exact .inr (e ▸ h)
      · exact .inl ⟨i, by omega, h⟩
theorem mem_extAt (l : List Cl) (i d : Nat) (x : List Cl) : x ∈ extAt l i d ↔ nbC (l.getD i (0, 0)) d ∉ l ∧ isShape (moreC l (nbC (l.getD i (0, 0)) d)) = true ∧ x = moreC l (nbC (l.getD i (0, 0)) d) := by
  unfold extAt
  generalize nbC (l.getD i (0, 0)) d = c
  by_cases h1 : hasC l c.1 c.2 = true
  · rw [if_pos h1]
    have := (hasC_iff l c).1 h1
    simp [this]
  · rw [if_neg h1]
    have h3 : c ∉ l := fun h => h1 ((hasC_iff l _).2 h)
    by_cases h2 : isShape (moreC l c) = true
    · rw [if_pos h2]
      simp [h3, h2]
    · rw [if_neg h2]
      simp [h2]
/-- The shapes with one cell more, by what they are. -/
theorem mem_extS (l : List Cl) (x : List Cl) : x ∈ extS l ↔ isShape l = true ∧ l.length ≠ 8 ∧ ∃ c ∈ l, ∃ d, d < 4 ∧ nbC c d ∉ l ∧ isShape (moreC l (nbC c d)) = true ∧ x = moreC l (nbC c d) := by
  unfold extS
  by_cases h : (isShape l && !decide (l.length = 8)) = true
  · rw [if_pos h, sortG_mem ordS, mem_extTo]
    have h' := h
    simp only [Bool.and_eq_true, Bool.not_eq_true', decide_eq_false_iff_not] at h'
    constructor
    · rintro ⟨i, hi, d, hd, hx⟩
      exact ⟨h'.1, h'.2, l.getD i (0, 0), getD_mem hi, d, hd, (mem_extAt l i d x).1 hx⟩
    · rintro ⟨_, _, c, hc, d, hd, hx⟩
      obtain ⟨i, hi, rfl⟩ := mem_getD hc
      exact ⟨i, hi, d, hd, (mem_extAt l i d x).2 hx⟩
  · rw [if_neg h]
    constructor
    · intro h2; cases h2
    · rintro ⟨h1, h2, _⟩
      exact absurd (by simp [h1, h2]) h
theorem extS_srt (l : List Cl) : SrtG ltS (extS l) := by
  unfold extS
  split
  · exact sortG_srt ordS [] _
  · exact List.Pairwise.nil
theorem extS_shape {l x : List Cl} (h : x ∈ extS l) : isShape x = true := by
  obtain ⟨_, _, c, _, d, _, _, h1, rfl⟩ := (mem_extS l x).1 h
  exact h1
theorem extS_le (l : List Cl) : (extS l).length ≤ 32 := by
  unfold extS
  split
  · rename_i h
    simp only [Bool.and_eq_true] at h
    have h8 := ((isShape_iff l).1 h.1).1.2
    have := sortG_le ltS [] (extTo l l.length)
    have := extTo_le l l.length
    omega
  · simp
theorem extS_le4 (l : List Cl) : (extS l).length ≤ 4 * l.length := by
  unfold extS
  split
  · have := sortG_le ltS [] (extTo l l.length)
    have := extTo_le l l.length
    omega
  · simp
theorem moreC_len (l : List Cl) (x : Cl) : (moreC l x).length ≤ l.length + 1 := by
  have := sortU_len (l ++ [x])
  unfold moreC cornerC
  simp at this ⊢
  exact this

/-! ### All fixed shapes -/
def fixT : Nat → List (List Cl)
  | 0 => [[(0, 0)]]
  | k + 1 => sortG ltS [] ((fixT k).flatMap extS)
def fixS (n : Int) : List (List Cl) := if inb n 1 5 = true then fixT (n.toNat - 1) else []
theorem fixT_shape : ∀ (k : Nat) {x : List Cl}, x ∈ fixT k → isShape x = true ∧ x.length ≤ k + 1
  | 0, x, h => by
    simp only [fixT, List.mem_singleton] at h
    subst h
    exact ⟨by decide, by simp⟩
  | k + 1, x, h => by
    simp only [fixT, sortG_mem ordS, List.mem_flatMap] at h
    obtain ⟨y, hy, hx⟩ := h
    have h1 := fixT_shape k hy
    have h2 := extS_shape hx
    obtain ⟨_, _, c, _, d, _, _, _, rfl⟩ := (mem_extS y x).1 hx
    have := moreC_len y (nbC c d)
    exact ⟨h2, by omega⟩
theorem flat_le (L : List (List Cl)) (n : Nat) (h : ∀ x ∈ L, (extS x).length ≤ n) : (L.flatMap extS).length ≤ n * L.length := by
  induction L with
  | nil => simp
  | cons a r ih =>
    have h1 := h a (by simp)
    have h2 := ih fun x hx => h x (by simp [hx])
    simp only [List.flatMap_cons, List.length_append, List.length_cons, Nat.mul_add]
    omega
theorem fixT_le (k : Nat) : (fixT (k + 1)).length ≤ 4 * (k + 1) * (fixT k).length := by
  have h1 := sortG_le ltS [] ((fixT k).flatMap extS)
  have h2 := flat_le (fixT k) (4 * (k + 1)) fun x hx => by
    have := extS_le4 x
    have := (fixT_shape k hx).2
    omega
  exact Nat.le_trans h1 h2
theorem fixT_bd : ∀ k, k ≤ 4 → (fixT k).length ≤ 6144 := by
  have h0 : (fixT 0).length = 1 := rfl
  have h1 : (fixT 1).length ≤ 4 * (fixT 0).length := by simpa only [Nat.reduceAdd, Nat.reduceMul] using fixT_le 0
  have h2 : (fixT 2).length ≤ 8 * (fixT 1).length := by simpa only [Nat.reduceAdd, Nat.reduceMul] using fixT_le 1
  have h3 : (fixT 3).length ≤ 12 * (fixT 2).length := by simpa only [Nat.reduceAdd, Nat.reduceMul] using fixT_le 2
  have h4 : (fixT 4).length ≤ 16 * (fixT 3).length := by simpa only [Nat.reduceAdd, Nat.reduceMul] using fixT_le 3
  intro k hk
  have : k = 0 ∨ k = 1 ∨ k = 2 ∨ k = 3 ∨ k = 4 := by omega
  rcases this with rfl | rfl | rfl | rfl | rfl <;> omega
theorem fixT_srt : ∀ k, SrtG ltS (fixT k)
  | 0 => by simp [fixT, SrtG]
  | k + 1 => sortG_srt ordS [] _
theorem fixS_srt (n : Int) : SrtG ltS (fixS n) := by
  unfold fixS
  split
  · exact fixT_srt _
  · exact List.Pairwise.nil
theorem fixS_bd (n : Int) : (fixS n).length ≤ 6144 := by
  unfold fixS
  split
  · rename_i h
    unfold inb at h
    simp at h
    exact fixT_bd _ (by omega)
  · simp
theorem fixS_shape {n : Int} {x : List Cl} (h : x ∈ fixS n) : isShape x = true ∧ x.length ≤ 5 := by
  unfold fixS at h
  split at h
  · rename_i h1
    unfold inb at h1
    simp at h1
    have := fixT_shape _ h
    exact ⟨this.1, by omega⟩
  · cases h

/-! ### The first of its results -/
def leastS (m : Nat) (l : List Cl) : Bool := (List.range m).all fun k => !decide (cmpS (turnC k l) l < 0)
def firstS (m : Nat) (n : Int) : List (List Cl) := (fixS n).filter (leastS m)
def countS (n : Int) : Int := if inb n 1 5 = true then ((firstS 8 n).length : Int) else -1
theorem leastS_succ (l : List Cl) (m : Nat) : leastS (m + 1) l = (leastS m l && !decide (cmpS (turnC m l) l < 0)) := by
  unfold leastS
  rw [List.range_succ, List.all_append]
  simp
theorem leastS_false {l : List Cl} {k m : Nat} (h : cmpS (turnC k l) l < 0) (hk : k < m) : leastS m l = false := by
  rw [← Bool.not_eq_true]
  intro h2
  unfold leastS at h2
  rw [List.all_eq_true] at h2
  have := h2 k (List.mem_range.2 hk)
  simp [h] at this
theorem filter_snoc {α : Type} (p : α → Bool) (d : α) (l : List α) (k : Nat) (h : k < l.length) : (l.take (k + 1)).filter p = (l.take k).filter p ++ (if p (l.getD k d) = true then [l.getD k d] else []) := by
  rw [List.take_succ_eq_append_getElem h, List.filter_append]
  congr 1
  simp only [List.getD_eq_getElem?_getD, List.getElem?_eq_getElem h, Option.getD_some]
  cases hp : p l[k] <;> simp [hp]
theorem filter_le {α : Type} (p : α → Bool) (l : List α) : (l.filter p).length ≤ l.length := List.length_filter_le p l
end

section
open Go.RowKit

def Conn (l : List Cl) : Prop := isShape l = true ∧ AllRch l
end

section
def delC (l : List Cl) (i : Nat) : List Cl := l.take i ++ l.drop (i + 1)
theorem delC_len (l : List Cl) (i : Nat) (h : i < l.length) : (delC l i).length = l.length - 1 := by
  unfold delC
  simp
  omega
/-- The list of a shape's parents: in order, each once, all of them. -/
def IsPar (l : List Cl) (L : List (List Cl)) : Prop := SrtG ltS L ∧ ∀ x, x ∈ L ↔ isShape l = true ∧ ∃ i, i < l.length ∧ Conn (delC l i) ∧ x = cornerC (delC l i)
/-- .. as far as the first k places. -/
def ParTo (l : List Cl) (k : Nat) (L : List (List Cl)) : Prop := SrtG ltS L ∧ ∀ x, x ∈ L ↔ ∃ i, i < k ∧ Conn (delC l i) ∧ x = cornerC (delC l i)
theorem parTo_zero (l : List Cl) : ParTo l 0 [] := ⟨List.Pairwise.nil, fun x => ⟨fun h => (by cases h), fun ⟨i, h, _⟩ => absurd h (Nat.not_lt_zero i)⟩⟩
theorem parTo_skip {l : List Cl} {k : Nat} {L : List (List Cl)} (h : ParTo l k L) (hc : ¬ Conn (delC l k)) : ParTo l (k + 1) L :=
  ⟨h.1, fun x => (h.2 x).trans ⟨fun ⟨i, hi, h2⟩ => ⟨i, by omega, h2⟩, fun ⟨i, hi, h2, h3⟩ => ⟨i, by
    by_cases e : i = k
    · exact absurd (e ▸ h2) hc
    · omega, h2, h3⟩⟩⟩
theorem parTo_put {l : List Cl} {k : Nat} {L : List (List Cl)} (h : ParTo l k L) (hc : Conn (delC l k)) : ParTo l (k + 1) (insG ltS [] L (cornerC (delC l k))) :=
  ⟨insG_srt ordS [] h.1 _, fun x => by
    rw [insG_mem, h.2 x]
    constructor
    · rintro (⟨i, hi, h2⟩ | rfl)
      · exact ⟨i, by omega, h2⟩
      · exact ⟨k, by omega, hc, rfl⟩
    · rintro ⟨i, hi, h2, h3⟩
      by_cases e : i = k
      · subst e; exact .inr h3
      · exact .inl ⟨i, by omega, h2, h3⟩⟩
theorem parTo_all {l : List Cl} {L : List (List Cl)} (hs : isShape l = true) (h : ParTo l l.length L) : IsPar l L := ⟨h.1, fun x => (h.2 x).trans ⟨fun h2 => ⟨hs, h2⟩, fun h2 => h2.2⟩⟩
theorem isPar_none {l : List Cl} (hs : isShape l = false) : IsPar l [] := ⟨List.Pairwise.nil, fun x => ⟨fun h => (by cases h), fun ⟨h, _⟩ => by rw [hs] at h; cases h⟩⟩
theorem isPar_unique {l : List Cl} {L M : List (List Cl)} (h : IsPar l L) (k : IsPar l M) : L = M := srtG_unique ordS h.1 k.1 fun x => (h.2 x).trans (k.2 x).symm
theorem isPar_ex (l : List Cl) : ∃ L, IsPar l L := by
  cases hs : isShape l with
  | false => exact ⟨[], isPar_none hs⟩
  | true =>
    have key : ∀ k, ∃ L, ParTo l k L := by
      intro k
      induction k with
      | zero => exact ⟨[], parTo_zero l⟩
      | succ k ih =>
        obtain ⟨L, hL⟩ := ih
        rcases Classical.em (Conn (delC l k)) with hc | hc
        · exact ⟨_, parTo_put hL hc⟩
        · exact ⟨L, parTo_skip hL hc⟩
    obtain ⟨L, hL⟩ := key l.length
    exact ⟨L, parTo_all hs hL⟩
theorem parTo_le {l : List Cl} : ∀ {k : Nat} {L : List (List Cl)}, ParTo l k L → L.length ≤ k
  | 0, L, h => by
    cases L with
    | nil => simp
    | cons x r => obtain ⟨i, hi, _⟩ := (h.2 x).1 (by simp); omega
  | k + 1, L, h => by
    have : ∃ M, ParTo l k M := by
      clear h
      induction k with
      | zero => exact ⟨[], parTo_zero l⟩
      | succ k ih =>
        obtain ⟨M, hM⟩ := ih
        rcases Classical.em (Conn (delC l k)) with hc | hc
        · exact ⟨_, parTo_put hM hc⟩
        · exact ⟨M, parTo_skip hM hc⟩
    obtain ⟨M, hM⟩ := this
    have hM2 := parTo_le hM
    rcases Classical.em (Conn (delC l k)) with hc | hc
    · have e : L = insG ltS [] M (cornerC (delC l k)) := srtG_unique ordS h.1 (parTo_put hM hc).1 fun x => (h.2 x).trans ((parTo_put hM hc).2 x).symm
      have := insG_le ltS [] M (cornerC (delC l k))
      rw [e]
      omega
    · have e : L = M := srtG_unique ordS h.1 hM.1 fun x => (h.2 x).trans ((parTo_skip hM hc).2 x).symm
      rw [e]
      omega
theorem isPar_shape {l : List Cl} {L : List (List Cl)} (h : IsPar l L) {x : List Cl} (hx : x ∈ L) : isShape x = true := by
  obtain ⟨_, i, _, hc, rfl⟩ := (h.2 x).1 hx
  exact isShape_corner hc.1
theorem isPar_le {l : List Cl} {L : List (List Cl)} (h : IsPar l L) : L.length ≤ 8 := by
  cases hs : isShape l with
  | false =>
    have := isPar_unique h (isPar_none hs)
    rw [this]
    simp
  | true =>
    have h8 := ((isShape_iff l).1 hs).1.2
    have : ParTo l l.length L := ⟨h.1, fun x => (h.2 x).trans ⟨fun h2 => h2.2, fun h2 => ⟨hs, h2⟩⟩⟩
    have := parTo_le this
    omega
end

section
theorem sortU_move (x y : Int) (l : List Cl) : sortU (moveC x y l) = moveC x y (sortU l) := by
  refine (sortU_unique (srt_move (sortU_srt l)) fun c => ?_).symm
  unfold moveC
  simp only [List.mem_map, sortU_mem]
theorem minTo_same (f : Cl → Int) {A C : List Cl} (hA : 0 < A.length) (h : ∀ c, c ∈ A ↔ c ∈ C) : minTo f A A.length = minTo f C C.length := by
  have hC : 0 < C.length := List.length_pos_of_mem ((h _).1 (getD_mem hA))
  refine minTo_eq hA (fun j hj => ?_) ?_
  · obtain ⟨i, hi, e⟩ := mem_getD ((h _).1 (getD_mem hj))
    rw [← e]
    exact minTo_le f C C.length i hi
  · obtain ⟨i, hi, e⟩ := minTo_mem f C C.length hC
    obtain ⟨j, hj, e2⟩ := mem_getD ((h _).2 (getD_mem hi))
    exact ⟨j, hj, by rw [e2, e]⟩
theorem sortU_pos {l : List Cl} (h : 0 < l.length) : 0 < (sortU l).length := List.length_pos_of_mem ((sortU_mem l _).2 (getD_mem h))
theorem cornerC_sortU {l : List Cl} (h : 0 < l.length) : cornerC (sortU l) = sortU (cornerC l) := by
  have e1 : minX (sortU l) = minX l := minTo_same _ (sortU_pos h) (sortU_mem l)
  have e2 : minY (sortU l) = minY l := minTo_same _ (sortU_pos h) (sortU_mem l)
  rw [cornerC_move, cornerC_move, e1, e2, sortU_move]
/-- Turned, moved to the corner, put in order: the program's way. -/
theorem turnC_prog (m : Nat) {l : List Cl} (h : 0 < l.length) : turnC m l = sortU (cornerC (l.map (apM m))) := cornerC_sortU (by simpa using h)
theorem fill_map (f : Cl → Cl) (l : List Cl) (k n : Nat) (h : k < n) (hl : l.length = n) : ((l.take k).map f ++ List.replicate (n - k) ((0 : Int), (0 : Int))).set k (f (l.getD k (0, 0))) = (l.take (k + 1)).map f ++ List.replicate (n - (k + 1)) (0, 0) := by
  have e : n - k = (n - (k + 1)) + 1 := by omega
  have el : ((l.take k).map f).length = k := by simp; omega
  rw [e, List.replicate_succ, List.set_append_right _ _ (by omega), el, Nat.sub_self, List.set_cons_zero, take_snoc l k (by omega), List.map_append, List.append_assoc]
  rfl
theorem over_map (f : Cl → Cl) (l : List Cl) (k : Nat) (h : k < l.length) : ((l.take k).map f ++ l.drop k).set k (f (l.getD k (0, 0))) = (l.take (k + 1)).map f ++ l.drop (k + 1) := by
  have el : ((l.take k).map f).length = k := by simp; omega
  have ed : l.drop k = l.getD k (0, 0) :: l.drop (k + 1) := by rw [List.drop_eq_getElem_cons h]; simp [List.getD, h]
  rw [ed, List.set_append_right _ _ (by omega), el, Nat.sub_self, List.set_cons_zero, take_snoc l k h, List.map_append, List.append_assoc]
  rfl
theorem over_get (f : Cl → Cl) (l : List Cl) (k : Nat) (h : k < l.length) : ((l.take k).map f ++ l.drop k).getD k (0, 0) = l.getD k (0, 0) := by
  have el : ((l.take k).map f).length = k := by simp; omega
  simp only [List.getD_eq_getElem?_getD]
  rw [List.getElem?_append_right (by omega), el, Nat.sub_self, List.getElem?_drop, Nat.add_zero]
end

section
theorem apM_zero (c : Cl) : apM 0 c = c := by simp [apM, rotN, flipC]
theorem srt_sortU {l : List Cl} (h : Srt l) : sortU l = l := (sortU_unique h fun _ => Iff.rfl).symm
theorem turnC_zero {l : List Cl} (h : isShape l = true) : turnC 0 l = cornerC l := by
  have hs := ((isShape_iff l).1 h).2.2
  unfold turnC
  rw [show l.map (apM 0) = l by rw [List.map_congr_left (g := id) (fun c _ => apM_zero c)]; simp, srt_sortU hs]
theorem symS_ne {l : List Cl} (h : isShape l = true) : symS l ≠ [] := by
  intro e
  have : (0 : Int) ∈ symS l := by
    unfold symS symTo
    rw [if_pos h, List.mem_map]
    exact ⟨0, by rw [List.mem_filter]; exact ⟨by simp, by simpa using turnC_zero h⟩, rfl⟩
  rw [e] at this
  cases this
theorem turnC_pos (m : Nat) {l : List Cl} (h : 0 < l.length) : 0 < (turnC m l).length := by
  have : 0 < (sortU (l.map (apM m))).length := sortU_pos (by simpa using h)
  unfold turnC cornerC
  simpa using this
theorem turnsC_len (l : List Cl) (k : Nat) : (turnsC l k).length = k := by simp [turnsC]
theorem turnsC_get (l : List Cl) {k n : Nat} (h : k < n) : (turnsC l n)[k]? = some (turnC k l) := by simp [turnsC, h]
theorem orient_pos {l : List Cl} (h : isShape l = true) : 0 < (orientS l).length := by
  unfold orientS
  rw [if_pos h]
  refine List.length_pos_of_mem (a := turnC 0 l) ((sortG_mem ordS [] _ _).2 ?_)
  exact List.mem_of_getElem? (turnsC_get l (by omega))
theorem canonS_pos {l : List Cl} (h : isShape l = true) : 0 < (canonS l).length := by
  have h0 := orient_pos h
  have hl := ((isShape_iff l).1 h).1.1
  have hm : (orientS l).getD 0 [] ∈ orientS l := by simp [List.getD, h0]
  have hm2 : canonS l ∈ orientS l := hm
  unfold orientS at hm2
  rw [if_pos h, sortG_mem ordS] at hm2
  obtain ⟨m, _, e⟩ := List.mem_map.1 hm2
  rw [← e]
  exact turnC_pos m (by omega)
theorem canonS_no {l : List Cl} (h : isShape l = false) : canonS l = [] := by
  have : orientS l = [] := if_neg (by rw [h]; simp)
  unfold canonS
  rw [this]
  rfl
theorem congS_prog (a b : List Cl) : congS a b = (isShape a && decide (canonS a = canonS b)) := by
  unfold congS
  cases ha : isShape a with
  | false => rfl
  | true =>
    cases hb : isShape b with
    | true => simp
    | false =>
      have : canonS a ≠ canonS b := by
        intro e
        have := canonS_pos ha
        rw [e, canonS_no hb] at this
        simp at this
      simp [this]
theorem chirS_prog (l : List Cl) : chirS l = (isShape l && !(symS l).any fun m => decide (4 ≤ m)) := by
  unfold chirS
  have e : ((symS l).all fun m => decide (m < 4)) = !(symS l).any fun m => decide (4 ≤ m) := by
    rw [List.not_any_eq_all_not]
    congr 1
    funext m
    by_cases h : m < 4
    · simp [h]
    · simp [h]; omega
  rw [e]
  cases h : isShape l with
  | true => simp [symS_ne h]
  | false =>
    have : symS l = [] := if_neg (by rw [h]; simp)
    simp [this]
end

end Go.Proofs.YtailmmamgnebhaaGreatDoor
