/-
  Weights, the plain facts: a reduced form, column by column; what it tells of the vectors that rows weigh 0.
-/
import Derived.Test.YtkcclhnligajeaaPw1
namespace Go.Proofs.Ytkcclhnligajeaa

/-- A reduced form of rows, done for the columns ahead of k: m rows, n columns; lead: the columns of the leading ones. -/
structure RedI (p : Int) (n m k : Nat) (N : (Nat → Int) → Prop) (a : Nat → Nat → Int) (lead : List Nat) : Prop where
  bnd : ∀ i j, i < m → j < n → 0 ≤ a i j ∧ a i j < p
  nul : ∀ w, (∀ i, i < m → p ∣ dotI n (a i) w) ↔ N w
  few : lead.length ≤ m
  cols : ∀ i, i < lead.length → lead.getD i 0 < k
  rise : ∀ i j, i < j → j < lead.length → lead.getD i 0 < lead.getD j 0
  one : ∀ i, i < lead.length → a i (lead.getD i 0) = 1
  zero : ∀ i i', i < lead.length → i' < m → i' ≠ i → a i' (lead.getD i 0) = 0
  front : ∀ i j, i < lead.length → j < lead.getD i 0 → a i j = 0
  rest : ∀ i j, lead.length ≤ i → i < m → j < k → j < n → a i j = 0
section
variable {p : Int} {n m : Nat} {N : (Nat → Int) → Prop} {a : Nat → Nat → Int} {lead : List Nat}
/-- Where a column is among the leading ones. -/
def posL (lead : List Nat) (j : Nat) : Option Nat := (List.range lead.length).find? fun i => decide (lead.getD i 0 = j)
theorem posL_some {lead : List Nat} {i j : Nat} (h : posL lead j = some i) : i < lead.length ∧ lead.getD i 0 = j := by
  unfold posL at h
  have h1 := List.find?_some h
  have h2 := List.mem_of_find?_eq_some h
  exact ⟨List.mem_range.1 h2, of_decide_eq_true h1⟩
theorem posL_none {lead : List Nat} {j : Nat} (h : posL lead j = none) : ∀ i, i < lead.length → lead.getD i 0 ≠ j := by
  unfold posL at h
  intro i hi e
  have := List.find?_eq_none.1 h i (List.mem_range.2 hi)
  rw [decide_eq_true e] at this
  exact this rfl
/-- The vector that belongs to a column without a leading one. -/
def wOf (a : Nat → Nat → Int) (lead : List Nat) (k : Nat) : Nat → Int := fun j => if j = k then 1 else match posL lead j with | some i => -(a i k) | none => 0
theorem wOf_self (a : Nat → Nat → Int) (lead : List Nat) (k : Nat) : wOf a lead k k = 1 := if_pos rfl
theorem RedI.nodup (h : RedI p n m n N a lead) {i i' : Nat} (hi : i < lead.length) (hi' : i' < lead.length) (e : lead.getD i 0 = lead.getD i' 0) : i = i' := by
  rcases Nat.lt_trichotomy i i' with h1 | h1 | h1
  · have := h.rise i i' h1 hi'; omega
  · exact h1
  · have := h.rise i' i h1 hi; omega
theorem RedI.wOf_nul (h : RedI p n m n N a lead) {k : Nat} (hk : k < n) (hf : posL lead k = none) : N (wOf a lead k) := by
  rw [← h.nul]
  intro i hi
  by_cases hl : i < lead.length
  · have hc := h.cols i hl
    have hne : lead.getD i 0 ≠ k := posL_none hf i hl
    have e : dotI n (a i) (wOf a lead k) = sumI n (fun j => (if j = k then a i k else 0) + (if j = lead.getD i 0 then -(a i k) else 0)) := by
      unfold dotI
      refine sumI_congr fun j hj => ?_
      unfold wOf
      by_cases e1 : j = k
      · subst e1
        rw [if_pos rfl, if_pos rfl, if_neg (fun h9 => hne h9.symm)]
        omega
      · rw [if_neg e1, if_neg e1]
        cases hp : posL lead j with
        | none =>
          rw [if_neg (fun h9 => posL_none hp i hl h9.symm)]
          simp
        | some i' =>
          obtain ⟨h1, h2⟩ := posL_some hp
          show a i j * -(a i' k) = _
          by_cases e2 : i = i'
          · subst e2
            rw [if_pos h2.symm, ← h2, h.one i h1]
            omega
          · rw [if_neg (fun h9 => e2 (h.nodup hl h1 (by rw [h2, h9]))), ← h2, h.zero i' i h1 hi e2]
            omega
    rw [e, sumI_add, sumI_one (k := k) hk (fun j _ hj => if_neg hj), sumI_one (k := lead.getD i 0) hc (fun j _ hj => if_neg hj), if_pos rfl, if_pos rfl]
    exact ⟨0, by omega⟩
  · have e : dotI n (a i) (wOf a lead k) = 0 := by
      unfold dotI
      exact sumI_zero fun j hj => by rw [h.rest i j (by omega) hi hj hj]; omega
    rw [e]
    exact ⟨0, by omega⟩
theorem RedI.fre (h : RedI p n m n N a lead) {k : Nat} (hk : k < n) (hf : posL lead k = none) : FreI p n N k := by
  refine ⟨hk, wOf a lead k, h.wOf_nul hk hf, by rw [wOf_self]; exact ⟨0, by omega⟩, fun j hj1 hj2 => ?_⟩
  unfold wOf
  rw [if_neg (by omega)]
  cases hp : posL lead j with
  | none =>
    show p ∣ (0 : Int)
    exact ⟨0, by omega⟩
  | some i =>
    obtain ⟨h1, h2⟩ := posL_some hp
    show p ∣ -(a i k)
    rw [h.front i k h1 (by omega)]
    exact ⟨0, by omega⟩
theorem RedI.not_fre (h : RedI p n m n N a lead) (hp1 : ¬ p ∣ 1) {k i : Nat} (hf : posL lead k = some i) : ¬ FreI p n N k := by
  rintro ⟨hk, w, hw, h1, h2⟩
  obtain ⟨hi, he⟩ := posL_some hf
  have him : i < m := Nat.lt_of_lt_of_le hi h.few
  have h3 := (h.nul w).2 hw i him
  have h4 : p ∣ dotI n (a i) w - w k := by
    have e : dotI n (a i) w - w k = sumI n (fun j => a i j * w j + (if j = k then -(w k) else 0)) := by
      rw [sumI_add, sumI_one (f := fun j => if j = k then -(w k) else 0) (k := k) hk (fun j _ hj => if_neg hj), if_pos rfl]
      unfold dotI
      omega
    rw [e]
    refine sumI_dvd fun j hj => ?_
    by_cases e1 : j = k
    · rw [if_pos e1, e1, ← he, h.one i hi]
      exact ⟨0, by omega⟩
    · rw [if_neg e1, Int.add_zero]
      rcases Nat.lt_or_ge j k with h5 | h5
      · rw [h.front i j hi (by omega)]
        exact ⟨0, by omega⟩
      · exact Int.dvd_trans (h2 j (by omega) hj) ⟨a i j, Int.mul_comm _ _⟩
  have h5 := Int.dvd_sub (Int.dvd_sub h3 h4) h1
  rw [show dotI n (a i) w - (dotI n (a i) w - w k) - (w k - 1) = 1 by omega] at h5
  exact hp1 h5
theorem RedI.lead_iff (h : RedI p n m n N a lead) (hp1 : ¬ p ∣ 1) {k : Nat} (hk : k < n) : posL lead k = none ↔ FreI p n N k := by
  constructor
  · exact h.fre hk
  · intro hf
    cases e : posL lead k with
    | none => rfl
    | some i => exact absurd hf (h.not_fre hp1 e)
/-- At the other columns without a leading one the vector is 0. -/
theorem wOf_other {k j : Nat} (hj : posL lead j = none) (hne : j ≠ k) : wOf a lead k j = 0 := by
  unfold wOf
  rw [if_neg hne, hj]
end
end Go.Proofs.Ytkcclhnligajeaa
