/-
  Weights, the plain facts: the elimination column by column, as both sides do it, and the two answers that are read off it.
-/
import Derived.Test.YtkcclhnligajeaaGreatDoorVaj
namespace Go.Proofs.YtkcclhnligajeaaGreatDoor

abbrev Mt := Nat → Nat → Int
def PrmI (p : Int) : Prop := p = 2 ∨ p = 3 ∨ p = 5
def invM (p x : Int) : Int := if p = 5 then x * x * x % 5 else if p = 3 then x % 3 else 1
theorem PrmI.pos {p : Int} (h : PrmI p) : 1 < p ∧ p ≤ 5 := by unfold PrmI at h; omega
theorem invM_is {p x : Int} (hp : PrmI p) (hx : 0 < x ∧ x < p) : p ∣ x * invM p x - 1 ∧ 0 < invM p x ∧ invM p x < p := by
  rcases hp with rfl | rfl | rfl
  · obtain rfl : x = 1 := by omega
    decide
  · have h : x = 1 ∨ x = 2 := by omega
    rcases h with rfl | rfl <;> decide
  · have h : x = 1 ∨ x = 2 ∨ x = 3 ∨ x = 4 := by omega
    rcases h with rfl | rfl | rfl | rfl <;> decide
/-- The first row from d on that is not 0 in column k. -/
def pivI (a : Mt) (m d k : Nat) : Option Nat := (List.range m).find? fun i => decide (d ≤ i) && decide (a i k ≠ 0)
theorem pivI_some {a : Mt} {m d k q : Nat} (h : pivI a m d k = some q) : d ≤ q ∧ q < m ∧ a q k ≠ 0 ∧ ∀ i, d ≤ i → i < q → a i k = 0 := by
  unfold pivI at h
  obtain ⟨h1, h2, h3⟩ := List.find?_range_eq_some.1 h
  simp only [Bool.and_eq_true, decide_eq_true_eq] at h1
  refine ⟨h1.1, List.mem_range.1 h2, h1.2, fun i hi hq => ?_⟩
  have := h3 i hq
  simpa [hi] using this
theorem pivI_none {a : Mt} {m d k : Nat} (h : pivI a m d k = none) : ∀ i, d ≤ i → i < m → a i k = 0 := by
  unfold pivI at h
  intro i h1 h2
  have := List.find?_range_eq_none.1 h i h2
  simpa [h1] using this
theorem pivI_of {a : Mt} {m d k q : Nat} (h1 : d ≤ q) (h2 : q < m) (h3 : a q k ≠ 0) (h4 : ∀ i, d ≤ i → i < q → a i k = 0) : pivI a m d k = some q := by
  unfold pivI
  rw [List.find?_range_eq_some]
  refine ⟨by simp [h1, h3], List.mem_range.2 h2, fun i hi => ?_⟩
  by_cases h : d ≤ i
  · simp [h4 i h hi]
  · simp [h]
theorem pivI_no {a : Mt} {m d k : Nat} (h : ∀ i, d ≤ i → i < m → a i k = 0) : pivI a m d k = none := by
  unfold pivI
  rw [List.find?_range_eq_none]
  intro i hi
  by_cases h1 : d ≤ i
  · simp [h i h1 hi]
  · simp [h1]
def swpI (a : Mt) (d q : Nat) : Mt := fun i => if i = d then a q else if i = q then a d else a i
def sclI (p : Int) (a : Mt) (d : Nat) (f : Int) : Mt := fun i j => if i = d then a i j * f % p else a i j
def clrI (p : Int) (a : Mt) (d k : Nat) : Mt := fun i j => if i = d then a i j else (a i j - a i k * a d j) % p
def stpI (p : Int) (a : Mt) (d q k : Nat) : Mt := clrI p (sclI p (swpI a d q) d (invM p (a q k))) d k
/-- The rows and the columns of the leading ones, done for the columns ahead of k. -/
def redI (p : Int) (m : Nat) (P : Mt) : Nat → Mt × List Nat
  | 0 => (P, [])
  | k + 1 => match pivI (redI p m P k).1 m (redI p m P k).2.length k with
    | none => redI p m P k
    | some q => (stpI p (redI p m P k).1 (redI p m P k).2.length q k, (redI p m P k).2 ++ [k])
theorem redI_skip {p : Int} {m k : Nat} {P : Mt} (h : pivI (redI p m P k).1 m (redI p m P k).2.length k = none) : redI p m P (k + 1) = redI p m P k := by
  show (match pivI (redI p m P k).1 m (redI p m P k).2.length k with | none => redI p m P k | some q => (stpI p (redI p m P k).1 (redI p m P k).2.length q k, (redI p m P k).2 ++ [k])) = _
  rw [h]
theorem redI_step {p : Int} {m k q : Nat} {P : Mt} (h : pivI (redI p m P k).1 m (redI p m P k).2.length k = some q) : redI p m P (k + 1) = (stpI p (redI p m P k).1 (redI p m P k).2.length q k, (redI p m P k).2 ++ [k]) := by
  show (match pivI (redI p m P k).1 m (redI p m P k).2.length k with | none => redI p m P k | some q => (stpI p (redI p m P k).1 (redI p m P k).2.length q k, (redI p m P k).2 ++ [k])) = _
  rw [h]
/-- The vectors that the rows weigh 0. -/
def NulM (p : Int) (n m : Nat) (P : Mt) : (Nat → Int) → Prop := fun w => ∀ i, i < m → p ∣ dotI n (P i) w
theorem redI_is {p : Int} {n m : Nat} {P : Mt} (hp : PrmI p) (hb : ∀ i j, i < m → j < n → 0 ≤ P i j ∧ P i j < p) :
    ∀ k, k ≤ n → RedI p n m k (NulM p n m P) (redI p m P k).1 (redI p m P k).2
  | 0, _ => red_start hb
  | k + 1, hk => by
    have h := redI_is hp hb k (by omega)
    have h1 := hp.pos.1
    cases hq : pivI (redI p m P k).1 m (redI p m P k).2.length k with
    | none =>
      rw [redI_skip hq]
      exact h.skip (pivI_none hq)
    | some q =>
      rw [redI_step hq]
      obtain ⟨e1, e2, e3, e4⟩ := pivI_some hq
      have hbq := h.bnd q k e2 (by omega)
      obtain ⟨i1, i2, i3⟩ := invM_is hp (x := (redI p m P k).1 q k) (by omega)
      have e0 : ∀ j, stpI p (redI p m P k).1 (redI p m P k).2.length q k (redI p m P k).2.length j = ((redI p m P k).1 q j * invM p ((redI p m P k).1 q k)) % p := fun j => by
        simp [stpI, clrI, sclI, swpI]
      refine h.step (by omega) h1 e1 e2 i1 (fun j _ => e0 j) (fun i hi hne j hj => ?_)
      show stpI p (redI p m P k).1 (redI p m P k).2.length q k i j = (((if i = q then (redI p m P k).1 (redI p m P k).2.length j else (redI p m P k).1 i j) - (if i = q then (redI p m P k).1 (redI p m P k).2.length k else (redI p m P k).1 i k) * stpI p (redI p m P k).1 (redI p m P k).2.length q k (redI p m P k).2.length j) % p + p) % p
      rw [e0, Int.add_emod_right, Int.emod_emod_of_dvd _ (Int.dvd_refl p)]
      by_cases hiq : i = q
      · have hnq : ¬ q = (redI p m P k).2.length := fun h9 => hne (hiq.trans h9)
        simp [stpI, clrI, sclI, swpI, hiq, hnq]
      · simp [stpI, clrI, sclI, swpI, hne, hiq]
theorem redI_few {p : Int} {n m : Nat} {P : Mt} (hp : PrmI p) (hb : ∀ i j, i < m → j < n → 0 ≤ P i j ∧ P i j < p) {k : Nat} (hk : k ≤ n) : (redI p m P k).2.length ≤ m ∧ (redI p m P k).2.length ≤ k ∧ ∀ x ∈ (redI p m P k).2, x < k := by
  have h := redI_is hp hb k hk
  refine ⟨h.few, ?_, fun x hx => ?_⟩
  · clear h
    induction k with
    | zero => exact Nat.le_refl _
    | succ k ih =>
      have := ih (by omega)
      cases hq : pivI (redI p m P k).1 m (redI p m P k).2.length k with
      | none => rw [redI_skip hq]; omega
      | some q => rw [redI_step hq]; simp; omega
  · obtain ⟨i, hi, rfl⟩ := List.mem_iff_getElem.1 hx
    have := h.cols i hi
    simpa [List.getD, hi] using this
/-- All rows have leading ones: nothing more comes. -/
theorem redI_full {p : Int} {m k : Nat} {P : Mt} (h : m ≤ (redI p m P k).2.length) : ∀ j, redI p m P (k + j) = redI p m P k
  | 0 => rfl
  | j + 1 => by
    have ih := redI_full h j
    have : pivI (redI p m P (k + j)).1 m (redI p m P (k + j)).2.length (k + j) = none := pivI_no fun i h1 h2 => by rw [ih] at h1; omega
    rw [← Nat.add_assoc, redI_skip this, ih]

/-! ### What is read off -/
def lstI (n : Nat) (f : Nat → Int) : List Int := (List.range n).map f
theorem lstI_len (n : Nat) (f : Nat → Int) : (lstI n f).length = n := by simp [lstI]
theorem lstI_get {n j : Nat} (f : Nat → Int) (h : j < n) : (lstI n f).getD j 0 = f j := by simp [lstI, List.getD, h]
theorem lstI_congr {n : Nat} {f g : Nat → Int} (h : ∀ j, j < n → f j = g j) : lstI n f = lstI n g := by
  unfold lstI
  exact List.map_congr_left fun j hj => h j (List.mem_range.1 hj)
theorem lstI_set {n k : Nat} (f : Nat → Int) (z : Int) : (lstI n f).set k z = lstI n fun j => if j = k then z else f j := by
  apply List.ext_getElem
  · simp [lstI]
  · intro j h1 h2
    simp only [lstI, List.getElem_set, List.getElem_map, List.getElem_range]
    by_cases e : k = j
    · rw [if_pos e, if_pos e.symm]
    · rw [if_neg e, if_neg (fun h => e h.symm)]
theorem lstI_mem {n : Nat} {f : Nat → Int} {z : Int} (h : z ∈ lstI n f) : ∃ j, j < n ∧ f j = z := by
  obtain ⟨j, hj, e⟩ := List.mem_map.1 h
  exact ⟨j, List.mem_range.1 hj, e⟩
theorem lstI_of (l : List Int) : lstI l.length (fun j => l.getD j 0) = l := by
  apply List.ext_getElem
  · simp [lstI]
  · intro j h1 h2
    simp [lstI, List.getD, h2]
/-- The numbers at the columns of the leading ones, 0 at the others. -/
def solI (a : Mt) (lead : List Nat) (n : Nat) : Nat → Int := fun j => match posL lead j with | some i => a i n | none => 0
/-- The solution: none if the last column, n, has a leading one. -/
def ansS (p : Int) (m n : Nat) (P : Mt) : Option (List Int) := if (posL (redI p m P (n + 1)).2 n).isSome then none else some (lstI n (solI (redI p m P (n + 1)).1 (redI p m P (n + 1)).2 n))
def vecI (p : Int) (a : Mt) (lead : List Nat) (k : Nat) : Nat → Int := fun j => if j = k then 1 else match posL lead j with | some i => (p - a i k) % p | none => 0
/-- The first column without a leading one whose vector u does not weigh 0. -/
def colW (p : Int) (m n : Nat) (P : Mt) (u : Nat → Int) : Option Nat := (List.range n).find? fun k => (posL (redI p m P n).2 k).isNone && decide (dotI n u (vecI p (redI p m P n).1 (redI p m P n).2 k) % p ≠ 0)
def ansW (p : Int) (m n : Nat) (P : Mt) (u : Nat → Int) : Option (List Int) := (colW p m n P u).map fun k => lstI n (vecI p (redI p m P n).1 (redI p m P n).2 k)
section
variable {p : Int} {n m m' : Nat} {P P' : Mt}
theorem vecI_wOf (a : Mt) (lead : List Nat) (k j : Nat) : p ∣ vecI p a lead k j - wOf a lead k j := by
  unfold vecI wOf
  by_cases e : j = k
  · rw [if_pos e, if_pos e]; exact ⟨0, by omega⟩
  · rw [if_neg e, if_neg e]
    cases posL lead j with
    | none =>
      show p ∣ (0 : Int) - 0
      exact ⟨0, by omega⟩
    | some i =>
      show p ∣ (p - a i k) % p - -(a i k)
      have h := em_dvd p (p - a i k)
      have h2 := Int.dvd_add h (Int.dvd_refl p)
      rwa [show (p - a i k) % p - (p - a i k) + p = (p - a i k) % p - -(a i k) by omega] at h2
theorem vecI_bd (hp : PrmI p) (a : Mt) (lead : List Nat) (k j : Nat) : 0 ≤ vecI p a lead k j ∧ vecI p a lead k j < p := by
  have h1 := hp.pos.1
  unfold vecI
  by_cases e : j = k
  · rw [if_pos e]; omega
  · rw [if_neg e]
    cases posL lead j with
    | none => show 0 ≤ (0 : Int) ∧ (0 : Int) < p; omega
    | some i => exact ⟨Int.emod_nonneg _ (by omega), Int.emod_lt_of_pos _ (by omega)⟩
theorem dotI_mod2 {p : Int} {n : Nat} (u : Nat → Int) {v w : Nat → Int} (h : ∀ j, j < n → p ∣ v j - w j) : p ∣ dotI n u v - dotI n u w := by
  rw [dotI_comm n u v, dotI_comm n u w]
  exact dotI_mod u h
/-- Rows with the same null vectors give the same solution. -/
theorem ansS_same (hp : PrmI p) (hb : ∀ i j, i < m → j < n + 1 → 0 ≤ P i j ∧ P i j < p) (hb' : ∀ i j, i < m' → j < n + 1 → 0 ≤ P' i j ∧ P' i j < p)
    (h : ∀ w, NulM p (n + 1) m P w ↔ NulM p (n + 1) m' P' w) : ansS p m n P = ansS p m' n P' := by
  obtain ⟨hp1, hpd, hinv⟩ := inv_prime hp
  have r := redI_is hp hb (n + 1) (Nat.le_refl _)
  have r' := redI_is hp hb' (n + 1) (Nat.le_refl _)
  rw [show NulM p (n + 1) m P = NulM p (n + 1) m' P' from funext fun w => propext (h w)] at r
  obtain ⟨s1, s2⟩ := red_same hpd hinv r r'
  unfold ansS
  have e1 := s1 n (by omega)
  cases hq : posL (redI p m P (n + 1)).2 n with
  | some i =>
    cases hq' : posL (redI p m' P' (n + 1)).2 n with
    | some i' => rfl
    | none => rw [e1.2 hq'] at hq; cases hq
  | none =>
    rw [e1.1 hq]
    show some _ = some _
    congr 1
    refine lstI_congr fun j hj => ?_
    unfold solI
    have e2 := s1 j (by omega)
    have e3 := s2 n (by omega) hq j (by omega)
    unfold wOf at e3
    rw [if_neg (by omega), if_neg (by omega)] at e3
    cases hj1 : posL (redI p m P (n + 1)).2 j with
    | none => rw [e2.1 hj1]
    | some i =>
      cases hj2 : posL (redI p m' P' (n + 1)).2 j with
      | none => rw [e2.2 hj2] at hj1; cases hj1
      | some i' =>
        rw [hj1, hj2] at e3
        show (redI p m P (n + 1)).1 i n = (redI p m' P' (n + 1)).1 i' n
        have b1 := r.bnd i n (Nat.lt_of_lt_of_le (posL_some hj1).1 r.few) (by omega)
        have b2 := r'.bnd i' n (Nat.lt_of_lt_of_le (posL_some hj2).1 r'.few) (by omega)
        refine mod_inj (p := p) ?_ b1 b2
        have e4 : p ∣ -(redI p m P (n + 1)).1 i n - -(redI p m' P' (n + 1)).1 i' n := e3
        have e5 := Int.dvd_neg.2 e4
        rwa [show -(-(redI p m P (n + 1)).1 i n - -(redI p m' P' (n + 1)).1 i' n) = (redI p m P (n + 1)).1 i n - (redI p m' P' (n + 1)).1 i' n by omega] at e5
theorem ansS_len {k : List Int} (h : ansS p m n P = some k) : k.length = n := by
  unfold ansS at h
  split at h
  · cases h
  · injection h with h
    rw [← h, lstI_len]
theorem ansS_bd (hp : PrmI p) (hb : ∀ i j, i < m → j < n + 1 → 0 ≤ P i j ∧ P i j < p) {k : List Int} (h : ansS p m n P = some k) : ∀ z ∈ k, 0 ≤ z ∧ z < p := by
  have h1 := hp.pos.1
  unfold ansS at h
  split at h
  · cases h
  · injection h with h
    subst h
    intro z hz
    obtain ⟨j, hj, rfl⟩ := lstI_mem hz
    unfold solI
    have r := redI_is hp hb (n + 1) (Nat.le_refl _)
    cases hj1 : posL (redI p m P (n + 1)).2 j with
    | none => show 0 ≤ (0 : Int) ∧ (0 : Int) < p; omega
    | some i => exact r.bnd i n (Nat.lt_of_lt_of_le (posL_some hj1).1 r.few) (by omega)
/-- What is given as the solution solves. -/
theorem ansS_sol (hp : PrmI p) (hb : ∀ i j, i < m → j < n + 1 → 0 ≤ P i j ∧ P i j < p) {k : List Int} (h : ansS p m n P = some k) :
    ∀ i, i < m → p ∣ sumI n (fun j => P i j * k.getD j 0) - P i n := by
  obtain ⟨hp1, hpd, hinv⟩ := inv_prime hp
  have r := redI_is hp hb (n + 1) (Nat.le_refl _)
  unfold ansS at h
  cases hq : posL (redI p m P (n + 1)).2 n with
  | some i => rw [hq] at h; cases h
  | none =>
    rw [hq] at h
    injection h with h
    intro i hi
    have hw := (r.wOf_nul (k := n) (by omega) hq) i hi
    have e : dotI (n + 1) (P i) (wOf (redI p m P (n + 1)).1 (redI p m P (n + 1)).2 n) = P i n - sumI n (fun j => P i j * k.getD j 0) := by
      show sumI n _ + P i n * wOf _ _ n n = _
      rw [wOf_self, Int.mul_one]
      have e2 : sumI n (fun j => P i j * wOf (redI p m P (n + 1)).1 (redI p m P (n + 1)).2 n j) = -1 * sumI n (fun j => P i j * k.getD j 0) := by
        rw [← sumI_mul]
        refine sumI_congr fun j hj => ?_
        rw [← h, lstI_get _ hj]
        unfold wOf solI
        rw [if_neg (by omega)]
        cases posL (redI p m P (n + 1)).2 j with
        | none => show P i j * 0 = -1 * (P i j * 0); omega
        | some i' => show P i j * -(redI p m P (n + 1)).1 i' n = -1 * (P i j * (redI p m P (n + 1)).1 i' n); rw [Int.mul_neg, Int.neg_mul, Int.one_mul]
      rw [e2]
      omega
    rw [e] at hw
    have := Int.dvd_neg.2 hw
    rwa [show -(P i n - sumI n (fun j => P i j * k.getD j 0)) = sumI n (fun j => P i j * k.getD j 0) - P i n by omega] at this
/-- If there are numbers that solve, a solution is given. -/
theorem ansS_is (hp : PrmI p) (hb : ∀ i j, i < m → j < n + 1 → 0 ≤ P i j ∧ P i j < p) {c : Nat → Int} (hc : ∀ i, i < m → p ∣ sumI n (fun j => P i j * c j) - P i n) : (ansS p m n P).isSome = true := by
  obtain ⟨hp1, hpd, hinv⟩ := inv_prime hp
  have r := redI_is hp hb (n + 1) (Nat.le_refl _)
  have hf : FreI p (n + 1) (NulM p (n + 1) m P) n := by
    refine ⟨by omega, fun j => if j = n then 1 else -1 * c j, fun i hi => ?_, by show p ∣ (if n = n then (1 : Int) else -1 * c n) - 1; rw [if_pos rfl]; exact ⟨0, by omega⟩, fun j h1 h2 => by omega⟩
    have e : dotI (n + 1) (P i) (fun j => if j = n then 1 else -1 * c j) = P i n - sumI n (fun j => P i j * c j) := by
      show sumI n (fun j => P i j * (if j = n then (1 : Int) else -1 * c j)) + P i n * (if n = n then (1 : Int) else -1 * c n) = _
      rw [if_pos rfl, Int.mul_one]
      have e2 : sumI n (fun j => P i j * (if j = n then (1 : Int) else -1 * c j)) = -1 * sumI n (fun j => P i j * c j) := by
        rw [← sumI_mul]
        refine sumI_congr fun j hj => ?_
        rw [if_neg (by omega), ← Int.mul_assoc, Int.mul_comm (P i j) (-1), Int.mul_assoc]
      rw [e2]
      omega
    rw [e]
    have := Int.dvd_neg.2 (hc i hi)
    rwa [show -(sumI n (fun j => P i j * c j) - P i n) = P i n - sumI n (fun j => P i j * c j) by omega] at this
  have hq := (r.lead_iff hpd (by omega)).2 hf
  unfold ansS
  rw [hq]
  rfl
/-- The given weights: in range, the rows weigh them 0, u does not. -/
theorem ansW_is (hp : PrmI p) (hb : ∀ i j, i < m → j < n → 0 ≤ P i j ∧ P i j < p) {u : Nat → Int} {w : List Int} (h : ansW p m n P u = some w) :
    w.length = n ∧ (∀ z ∈ w, 0 ≤ z ∧ z < p) ∧ (∀ i, i < m → p ∣ dotI n (P i) fun j => w.getD j 0) ∧ dotI n u (fun j => w.getD j 0) % p ≠ 0 := by
  have r := redI_is hp hb n (Nat.le_refl _)
  unfold ansW at h
  rw [Option.map_eq_some_iff] at h
  obtain ⟨k, hk, rfl⟩ := h
  unfold colW at hk
  obtain ⟨h1, h2, -⟩ := List.find?_range_eq_some.1 hk
  have hkn := List.mem_range.1 h2
  simp only [Bool.and_eq_true, decide_eq_true_eq, Option.isNone_iff_eq_none] at h1
  refine ⟨lstI_len _ _, fun z hz => ?_, fun i hi => ?_, ?_⟩
  · obtain ⟨j, hj, rfl⟩ := lstI_mem hz
    exact vecI_bd hp _ _ _ _
  · have h3 := r.wOf_nul hkn h1.1 i hi
    have h4 := dotI_mod2 (p := p) (n := n) (P i) (fun j (hj : j < n) => vecI_wOf (redI p m P n).1 (redI p m P n).2 k j)
    have h5 := Int.dvd_add h4 h3
    rw [show dotI n (P i) (vecI p (redI p m P n).1 (redI p m P n).2 k) - dotI n (P i) (wOf (redI p m P n).1 (redI p m P n).2 k) + dotI n (P i) (wOf (redI p m P n).1 (redI p m P n).2 k) = dotI n (P i) (vecI p (redI p m P n).1 (redI p m P n).2 k) by omega] at h5
    have e : dotI n (P i) (fun j => (lstI n (vecI p (redI p m P n).1 (redI p m P n).2 k)).getD j 0) = dotI n (P i) (vecI p (redI p m P n).1 (redI p m P n).2 k) := by
      unfold dotI
      exact sumI_congr fun j hj => by show P i j * (lstI n _).getD j 0 = _; rw [lstI_get _ hj]
    rw [e]
    exact h5
  · have e : dotI n u (fun j => (lstI n (vecI p (redI p m P n).1 (redI p m P n).2 k)).getD j 0) = dotI n u (vecI p (redI p m P n).1 (redI p m P n).2 k) := by
      unfold dotI
      exact sumI_congr fun j hj => by show u j * (lstI n _).getD j 0 = _; rw [lstI_get _ hj]
    rw [e]
    exact h1.2
/-- If there are weights that forbid, some are given. -/
theorem ansW_some (hp : PrmI p) (hb : ∀ i j, i < m → j < n → 0 ≤ P i j ∧ P i j < p) {u w : Nat → Int} (hw : NulM p n m P w) (hu : ¬ p ∣ dotI n u w) : (ansW p m n P u).isSome = true := by
  obtain ⟨hp1, hpd, hinv⟩ := inv_prime hp
  have r := redI_is hp hb n (Nat.le_refl _)
  cases h : ansW p m n P u with
  | some _ => rfl
  | none =>
    exfalso
    unfold ansW at h
    rw [Option.map_eq_none_iff] at h
    unfold colW at h
    refine hu (red_all hpd hinv r (u := u) (fun k hk hf => ?_) hw)
    have h1 := List.find?_range_eq_none.1 h k hk
    rw [hf] at h1
    have h2 : dotI n u (vecI p (redI p m P n).1 (redI p m P n).2 k) % p = 0 := by simpa using h1
    have h3 := Int.dvd_of_emod_eq_zero h2
    have h4 := dotI_mod2 (p := p) (n := n) u (fun j (hj : j < n) => vecI_wOf (redI p m P n).1 (redI p m P n).2 k j)
    have h5 := Int.dvd_sub h3 h4
    rwa [show dotI n u (vecI p (redI p m P n).1 (redI p m P n).2 k) - (dotI n u (vecI p (redI p m P n).1 (redI p m P n).2 k) - dotI n u (wOf (redI p m P n).1 (redI p m P n).2 k)) = dotI n u (wOf (redI p m P n).1 (redI p m P n).2 k) by omega] at h5
/-- There are weights that forbid exactly if there is no solution: P's rows are the columns of Q, u is Q's last column. -/
theorem ans_iff (hp : PrmI p) {Q : Mt} {u : Nat → Int} (hb : ∀ i j, i < m → j < n → 0 ≤ P i j ∧ P i j < p) (hbQ : ∀ i j, i < n → j < m + 1 → 0 ≤ Q i j ∧ Q i j < p)
    (hQ : ∀ i j, i < n → j < m → Q i j = P j i) (hu : ∀ i, i < n → Q i m = u i) : (ansW p m n P u).isSome = !(ansS p n m Q).isSome := by
  obtain ⟨hp1, hpd, hinv⟩ := inv_prime hp
  have key := sgn_iff (u := u) hp1 hinv hb
  have hS : SgnI p n m P u ↔ (ansS p n m Q).isSome = true := by
    constructor
    · rintro ⟨c, hc⟩
      refine ansS_is hp hbQ (c := c) fun i hi => ?_
      rw [hu i hi]
      have h1 := hc i hi
      rwa [show sumI m (fun j => Q i j * c j) = sumI m (fun j => c j * P j i) from sumI_congr fun j hj => by rw [hQ i j hi hj, Int.mul_comm]]
    · intro h
      obtain ⟨k, hk⟩ := Option.isSome_iff_exists.1 h
      refine ⟨fun j => k.getD j 0, fun i hi => ?_⟩
      have h1 := ansS_sol hp hbQ hk i hi
      rw [hu i hi] at h1
      rwa [show sumI m (fun j => k.getD j 0 * P j i) = sumI m (fun j => Q i j * k.getD j 0) from sumI_congr fun j hj => by rw [hQ i j hi hj, Int.mul_comm]]
  have hW : (∃ w, (∀ i, i < m → p ∣ dotI n (P i) w) ∧ ¬ p ∣ dotI n u w) ↔ (ansW p m n P u).isSome = true := by
    constructor
    · rintro ⟨w, h1, h2⟩
      exact ansW_some hp hb h1 h2
    · intro h
      obtain ⟨w, hw⟩ := Option.isSome_iff_exists.1 h
      obtain ⟨-, -, h3, h4⟩ := ansW_is hp hb hw
      exact ⟨_, h3, fun h5 => h4 (Int.emod_eq_zero_of_dvd h5)⟩
  rw [hS, hW] at key
  cases h1 : (ansW p m n P u).isSome <;> cases h2 : (ansS p n m Q).isSome <;> simp [h1, h2] at key ⊢
end
end Go.Proofs.YtkcclhnligajeaaGreatDoor
