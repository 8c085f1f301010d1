/-
  Weights, the plain facts: a reduced form, column by column; what it tells of the vectors that rows weigh 0.
  Weights, the plain facts: one column more of a reduced form.
-/
import Derived.Test.YtkcclhnligajeaaDoorVag
namespace Go.Proofs.YtkcclhnligajeaaDoor

section
/-- A reduced form of rows, done for the columns ahead of k: m rows, n columns; lead: the columns of the leading ones. -/
structure RedI (p : Int) (n m k : Nat) (N : (Nat → Int) → Prop) (a : Nat → Nat → Int) (lead : List Nat) : Prop where
  bnd : ∀ i j, i < m → j < n → 0 ≤ a i j ∧ a i j < p
  nul : ∀ w, (∀ i, i < m → p ∣ dotI n (a i) w) ↔ N w
  few : lead.length ≤ m
  cols : ∀ i, i < lead.length → lead.getD i 0 < k
  rise : ∀ i j, i < j → j < lead.length → lead.getD i 0 < lead.getD j 0
  one : ∀ i, i < lead.length → a i (lead.getD i 0) = 1
  zero : ∀ i i', i < lead.length → i' < m → i' ≠ i → a i' (lead.getD i 0) = 0
  front : ∀ i j, i < lead.length → j < lead.getD i 0 → a i j = 0
  rest : ∀ i j, lead.length ≤ i → i < m → j < k → j < n → a i j = 0
section
variable {p : Int} {n m : Nat} {N : (Nat → Int) → Prop} {a : Nat → Nat → Int} {lead : List Nat}
/-- Where a column is among the leading ones. -/
def posL (lead : List Nat) (j : Nat) : Option Nat := (List.range lead.length).find? fun i => decide (lead.getD i 0 = j)
theorem posL_some {lead : List Nat} {i j : Nat} (h : posL lead j = some i) : i < lead.length ∧ lead.getD i 0 = j := by
  unfold posL at h
  have h1 := List.find?_some h
  have h2 := List.mem_of_find?_eq_some h
  exact ⟨List.mem_range.1 h2, of_decide_eq_true h1⟩
theorem posL_none {lead : List Nat} {j : Nat} (h : posL lead j = none) : ∀ i, i < lead.length → lead.getD i 0 ≠ j := by
  unfold posL at h
  intro i hi e
  have := List.find?_eq_none.1 h i (List.mem_range.2 hi)
  rw [decide_eq_true e] at this
  exact this rfl
/-- The vector that belongs to a column without a leading one. -/
def wOf (a : Nat → Nat → Int) (lead : List Nat) (k : Nat) : Nat → Int := fun j => if j = k then 1 else match posL lead j with | some i => -(a i k) | none => 0
theorem wOf_self (a : Nat → Nat → Int) (lead : List Nat) (k : Nat) : wOf a lead k k = 1 := if_pos rfl
theorem RedI.nodup (h : RedI p n m n N a lead) {i i' : Nat} (hi : i < lead.length) (hi' : i' < lead.length) (e : lead.getD i 0 = lead.getD i' 0) : i = i' := by
  rcases Nat.lt_trichotomy i i' with h1 | h1 | h1
  · have := h.rise i i' h1 hi'; omega
  · exact h1
  · have := h.rise i' i h1 hi; omega
theorem RedI.wOf_nul (h : RedI p n m n N a lead) {k : Nat} (hk : k < n) (hf : posL lead k = none) : N (wOf a lead k) := by
  rw [← h.nul]
  intro i hi
  by_cases hl : i < lead.length
  · have hc := h.cols i hl
    have hne : lead.getD i 0 ≠ k := posL_none hf i hl
    have e : dotI n (a i) (wOf a lead k) = sumI n (fun j => (if j = k then a i k else 0) + (if j = lead.getD i 0 then -(a i k) else 0)) := by
      unfold dotI
      refine sumI_congr fun j hj => ?_
      unfold wOf
      by_cases e1 : j = k
      · subst e1
        rw [if_pos rfl, if_pos rfl, if_neg (fun h9 => hne h9.symm)]
        omega
      · rw [if_neg e1, if_neg e1]
        cases hp : posL lead j with
        | none =>
          rw [if_neg (fun h9 => posL_none hp i hl h9.symm)]
          simp
        | some i' =>
          obtain ⟨h1, h2⟩ := posL_some hp
          show a i j * -(a i' k) = _
          by_cases e2 : i = i'
          · subst e2
            rw [if_pos h2.symm, ← h2, h.one i h1]
            omega
          · rw [if_neg (fun h9 => e2 (h.nodup hl h1 (by rw [h2, h9]))), ← h2, h.zero i' i h1 hi e2]
            omega
    rw [e, sumI_add, sumI_one (k := k) hk (fun j _ hj => if_neg hj), sumI_one (k := lead.getD i 0) hc (fun j _ hj => if_neg hj), if_pos rfl, if_pos rfl]
    exact ⟨0, by omega⟩
  · have e : dotI n (a i) (wOf a lead k) = 0 := by
      unfold dotI
      exact sumI_zero fun j hj => by rw [h.rest i j (by omega) hi hj hj]; omega
    rw [e]
    exact ⟨0, by omega⟩
theorem RedI.fre (h : RedI p n m n N a lead) {k : Nat} (hk : k < n) (hf : posL lead k = none) : FreI p n N k := by
  refine ⟨hk, wOf a lead k, h.wOf_nul hk hf, by rw [wOf_self]; exact ⟨0, by omega⟩, fun j hj1 hj2 => ?_⟩
  unfold wOf
  rw [if_neg (by omega)]
  cases hp : posL lead j with
  | none =>
    show p ∣ (0 : Int)
    exact ⟨0, by omega⟩
  | some i =>
    obtain ⟨h1, h2⟩ := posL_some hp
    show p ∣ -(a i k)
    rw [h.front i k h1 (by omega)]
    exact ⟨0, by omega⟩
theorem RedI.not_fre (h : RedI p n m n N a lead) (hp1 : ¬ p ∣ 1) {k i : Nat} (hf : posL lead k = some i) : ¬ FreI p n N k := by
  rintro ⟨hk, w, hw, h1, h2⟩
  obtain ⟨hi, he⟩ := posL_some hf
  have him : i < m := Nat.lt_of_lt_of_le hi h.few
  have h3 := (h.nul w).2 hw i him
  have h4 : p ∣ dotI n (a i) w - w k := by
    have e : dotI n (a i) w - w k = sumI n (fun j => a i j * w j + (if j = k then -(w k) else 0)) := by
      rw [sumI_add, sumI_one (f := fun j => if j = k then -(w k) else 0) (k := k) hk (fun j _ hj => if_neg hj), if_pos rfl]
      unfold dotI
      omega
    rw [e]
    refine sumI_dvd fun j hj => ?_
    by_cases e1 : j = k
    · rw [if_pos e1, e1, ← he, h.one i hi]
      exact ⟨0, by omega⟩
    · rw [if_neg e1, Int.add_zero]
      rcases Nat.lt_or_ge j k with h5 | h5
      · rw [h.front i j hi (by omega)]
        exact ⟨0, by omega⟩
      · exact Int.dvd_trans (h2 j (by omega) hj) ⟨a i j, Int.mul_comm _ _⟩
  have h5 := Int.dvd_sub (Int.dvd_sub h3 h4) h1
  rw [show dotI n (a i) w - (dotI n (a i) w - w k) - (w k - 1) = 1 by omega] at h5
  exact hp1 h5
theorem RedI.lead_iff (h : RedI p n m n N a lead) (hp1 : ¬ p ∣ 1) {k : Nat} (hk : k < n) : posL lead k = none ↔ FreI p n N k := by
  constructor
  · exact h.fre hk
  · intro hf
    cases e : posL lead k with
    | none => rfl
    | some i => exact absurd hf (h.not_fre hp1 e)
/-- At the other columns without a leading one the vector is 0. -/
theorem wOf_other {k j : Nat} (hj : posL lead j = none) (hne : j ≠ k) : wOf a lead k j = 0 := by
  unfold wOf
  rw [if_neg hne, hj]
end
end

section
theorem md_same {p v : Int} (h : 0 ≤ v ∧ v < p) : (v % p + p) % p = v := by
  rw [Int.add_emod_right, Int.emod_emod_of_dvd _ (Int.dvd_refl p)]
  exact Int.emod_eq_of_lt h.1 h.2
theorem md_dvd (p v : Int) : p ∣ (v % p + p) % p - v := by
  rw [Int.add_emod_right, Int.emod_emod_of_dvd _ (Int.dvd_refl p)]
  have h := Int.emod_add_mul_ediv v p
  exact ⟨-(v / p), by rw [Int.mul_neg]; omega⟩
theorem md_bd {p : Int} (hp : 0 < p) (v : Int) : 0 ≤ (v % p + p) % p ∧ (v % p + p) % p < p := ⟨Int.emod_nonneg _ (by omega), Int.emod_lt_of_pos _ hp⟩
theorem em_dvd (p v : Int) : p ∣ v % p - v := by
  have h := Int.emod_add_mul_ediv v p
  exact ⟨-(v / p), by rw [Int.mul_neg]; omega⟩
theorem getD_snoc_lt {l : List Nat} {k i : Nat} (h : i < l.length) : (l ++ [k]).getD i 0 = l.getD i 0 := by
  simp [List.getD, List.getElem?_append_left h]
theorem getD_snoc_eq (l : List Nat) (k : Nat) : (l ++ [k]).getD l.length 0 = k := by
  simp [List.getD]
section
variable {p : Int} {n m k : Nat} {N : (Nat → Int) → Prop} {a a' : Nat → Nat → Int} {lead : List Nat}
/-- A column that has nothing below the rows with leading ones. -/
theorem RedI.skip (h : RedI p n m k N a lead) (hz : ∀ i, lead.length ≤ i → i < m → a i k = 0) : RedI p n m (k + 1) N a lead :=
  ⟨h.bnd, h.nul, h.few, fun i hi => by have := h.cols i hi; omega, h.rise, h.one, h.zero, h.front, fun i j h1 h2 h3 h4 => by
    by_cases e : j = k
    · subst e; exact hz i h1 h2
    · exact h.rest i j h1 h2 (by omega) h4⟩
/-- All rows have leading ones. -/
theorem RedI.full (h : RedI p n m k N a lead) (hm : lead.length = m) (hkn : k ≤ n) : RedI p n m n N a lead :=
  ⟨h.bnd, h.nul, h.few, fun i hi => by have := h.cols i hi; omega, h.rise, h.one, h.zero, h.front, fun i j h1 h2 => by omega⟩
/-- A row comes up, is scaled, and is taken from all others. -/
theorem RedI.step (h : RedI p n m k N a lead) (hk : k < n) (hp : 1 < p) {q : Nat} {inv : Int} (hq : lead.length ≤ q) (hqm : q < m) (hinv : p ∣ a q k * inv - 1)
    (hx : ∀ j, j < n → a' lead.length j = (a q j * inv) % p)
    (ho : ∀ i, i < m → i ≠ lead.length → ∀ j, j < n → a' i j = (((if i = q then a lead.length j else a i j) - (if i = q then a lead.length k else a i k) * a' lead.length j) % p + p) % p) :
    RedI p n m (k + 1) N a' (lead ++ [k]) := by
  have hxm : lead.length < m := by omega
  have hone : a' lead.length k = 1 := by
    rw [hx k hk]
    obtain ⟨c, hc⟩ := hinv
    rw [show a q k * inv = 1 + p * c by omega, Int.add_mul_emod_self_left]
    exact Int.emod_eq_of_lt (by omega) hp
  have hxz : ∀ j, j < k → j < n → a' lead.length j = 0 := fun j h1 h2 => by
    rw [hx j h2, h.rest q j hq hqm h1 h2, Int.zero_mul]
    rfl
  have hbs : ∀ i j, i < m → j < n → 0 ≤ (if i = q then a lead.length j else a i j) ∧ (if i = q then a lead.length j else a i j) < p := fun i j h1 h2 => by
    split
    · exact h.bnd _ _ hxm h2
    · exact h.bnd _ _ h1 h2
  have hb' : ∀ i j, i < m → j < n → 0 ≤ a' i j ∧ a' i j < p := fun i j h1 h2 => by
    by_cases e : i = lead.length
    · subst e
      rw [hx j h2]
      exact ⟨Int.emod_nonneg _ (by omega), Int.emod_lt_of_pos _ (by omega)⟩
    · rw [ho i h1 e j h2]
      exact md_bd (by omega) _
  -- where the new row is 0 nothing turns
  have hsame : ∀ i j, i < m → i ≠ lead.length → j < n → a' lead.length j = 0 → a' i j = (if i = q then a lead.length j else a i j) := fun i j h1 h2 h3 h4 => by
    rw [ho i h1 h2 j h3, h4, Int.mul_zero, Int.sub_zero]
    exact md_same (hbs i j h1 h3)
  have hcol : ∀ i, i < m → i ≠ lead.length → a' i k = 0 := fun i h1 h2 => by
    rw [ho i h1 h2 k hk, hone, Int.mul_one, Int.sub_self]
    simp
  have hll : (lead ++ [k]).length = lead.length + 1 := by simp
  refine ⟨hb', fun w => ?_, by omega, fun i hi => ?_, fun i j hij hj => ?_, fun i hi => ?_, fun i i' hi hi' hne => ?_, fun i j hi hj => ?_, fun i j h1 h2 h3 h4 => ?_⟩
  · rw [← h.nul]
    have hA : p ∣ dotI n (a' lead.length) w ↔ p ∣ dotI n (a q) w :=
      nul_scale (c := inv) (d := a q k) (fun j hj => by rw [hx j hj]; exact em_dvd p _) (by rw [Int.mul_comm]; exact hinv)
    have hB : p ∣ dotI n (a' lead.length) w → ∀ i, i < m → i ≠ lead.length → (p ∣ dotI n (a' i) w ↔ p ∣ dotI n (fun j => if i = q then a lead.length j else a i j) w) := fun hs i h1 h2 =>
      nul_sub (s := a' lead.length) (c := if i = q then a lead.length k else a i k) (fun j hj => by rw [ho i h1 h2 j hj]; exact md_dvd p _) hs
    have hB1 : ∀ i, i ≠ q → (fun j => if i = q then a lead.length j else a i j) = a i := fun i hi => by funext j; exact if_neg hi
    have hB2 : ∀ i, i = q → (fun j => if i = q then a lead.length j else a i j) = a lead.length := fun i hi => by funext j; exact if_pos hi
    constructor
    · intro hw i hi
      have hs := hw _ hxm
      by_cases e1 : i = q
      · rw [e1]; exact hA.1 hs
      · by_cases e2 : i = lead.length
        · have h9 := (hB hs q hqm (fun h8 => e1 (by omega))).1 (hw q hqm)
          rw [hB2 q rfl] at h9
          rw [e2]; exact h9
        · have h9 := (hB hs i hi e2).1 (hw i hi)
          rw [hB1 i e1] at h9
          exact h9
    · intro hw i hi
      have hs := hA.2 (hw q hqm)
      by_cases e2 : i = lead.length
      · rw [e2]; exact hs
      · refine (hB hs i hi e2).2 ?_
        by_cases e1 : i = q
        · rw [hB2 i e1]; exact hw _ hxm
        · rw [hB1 i e1]; exact hw i hi
  · rcases Nat.lt_or_ge i lead.length with h1 | h1
    · rw [getD_snoc_lt h1]; have := h.cols i h1; omega
    · obtain rfl : i = lead.length := by omega
      rw [getD_snoc_eq]; omega
  · rcases Nat.lt_or_ge j lead.length with h1 | h1
    · rw [getD_snoc_lt h1, getD_snoc_lt (by omega)]; exact h.rise i j hij h1
    · obtain rfl : j = lead.length := by omega
      rw [getD_snoc_eq, getD_snoc_lt hij]; exact h.cols i hij
  · rcases Nat.lt_or_ge i lead.length with h1 | h1
    · have hc := h.cols i h1
      rw [getD_snoc_lt h1, hsame i _ (by omega) (by omega) (by omega) (hxz _ hc (by omega)), if_neg (by omega)]
      exact h.one i h1
    · obtain rfl : i = lead.length := by omega
      rw [getD_snoc_eq]; exact hone
  · rcases Nat.lt_or_ge i lead.length with h1 | h1
    · have hc := h.cols i h1
      rw [getD_snoc_lt h1]
      by_cases e : i' = lead.length
      · rw [e]; exact hxz _ hc (by omega)
      · rw [hsame i' _ hi' e (by omega) (hxz _ hc (by omega))]
        split
        · exact h.zero i _ h1 hxm (by omega)
        · exact h.zero i i' h1 hi' hne
    · obtain rfl : i = lead.length := by omega
      rw [getD_snoc_eq]; exact hcol i' hi' hne
  · rcases Nat.lt_or_ge i lead.length with h1 | h1
    · have hc := h.cols i h1
      rw [getD_snoc_lt h1] at hj
      rw [hsame i j (by omega) (by omega) (by omega) (hxz j (by omega) (by omega)), if_neg (by omega)]
      exact h.front i j h1 hj
    · obtain rfl : i = lead.length := by omega
      rw [getD_snoc_eq] at hj
      exact hxz j hj (by omega)
  · by_cases e : j = k
    · subst e; exact hcol i h2 (by omega)
    · rw [hsame i j h2 (by omega) h4 (hxz j (by omega) h4)]
      split
      · exact h.rest _ j (Nat.le_refl _) hxm (by omega) h4
      · exact h.rest i j (by omega) h2 (by omega) h4
end
end

end Go.Proofs.YtkcclhnligajeaaDoor
