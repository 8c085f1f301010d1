/-
  Weights, the plain facts: a reduced form, column by column; what it tells of the vectors that rows weigh 0.
  Weights, the plain facts: one column more of a reduced form.
  Weights, the plain facts: there is a reduced form; weights that forbid exist exactly if there is no signed tiling.
  Weights, the plain facts: two reduced forms of one set give the same answers; the vectors of the columns without leading ones stand for all.
-/
import Derived.Test.YtkcclhnligajeaaGreatDoorVai
namespace Go.Proofs.YtkcclhnligajeaaGreatDoor

section
/-- A reduced form of rows, done for the columns ahead of k: m rows, n columns; lead: the columns of the leading ones. -/
structure RedI (p : Int) (n m k : Nat) (N : (Nat → Int) → Prop) (a : Nat → Nat → Int) (lead : List Nat) : Prop where
  bnd : ∀ i j, i < m → j < n → 0 ≤ a i j ∧ a i j < p
  nul : ∀ w, (∀ i, i < m → p ∣ dotI n (a i) w) ↔ N w
  few : lead.length ≤ m
  cols : ∀ i, i < lead.length → lead.getD i 0 < k
  rise : ∀ i j, i < j → j < lead.length → lead.getD i 0 < lead.getD j 0
  one : ∀ i, i < lead.length → a i (lead.getD i 0) = 1
  zero : ∀ i i', i < lead.length → i' < m → i' ≠ i → a i' (lead.getD i 0) = 0
  front : ∀ i j, i < lead.length → j < lead.getD i 0 → a i j = 0
  rest : ∀ i j, lead.length ≤ i → i < m → j < k → j < n → a i j = 0
section
variable {p : Int} {n m : Nat} {N : (Nat → Int) → Prop} {a : Nat → Nat → Int} {lead : List Nat}
/-- Where a column is among the leading ones. -/
def posL (lead : List Nat) (j : Nat) : Option Nat := (List.range lead.length).find? fun i => decide (lead.getD i 0 = j)
theorem posL_some {lead : List Nat} {i j : Nat} (h : posL lead j = some i) : i < lead.length ∧ lead.getD i 0 = j := by
  unfold posL at h
  have h1 := List.find?_some h
  have h2 := List.mem_of_find?_eq_some h
  exact ⟨List.mem_range.1 h2, of_decide_eq_true h1⟩
theorem posL_none {lead : List Nat} {j : Nat} (h : posL lead j = none) : ∀ i, i < lead.length → lead.getD i 0 ≠ j := by
  unfold posL at h
  intro i hi e
  have := List.find?_eq_none.1 h i (List.mem_range.2 hi)
  rw [decide_eq_true e] at this
  exact this rfl
/-- The vector that belongs to a column without a leading one. -/
def wOf (a : Nat → Nat → Int) (lead : List Nat) (k : Nat) : Nat → Int := fun j => if j = k then 1 else match posL lead j with | some i => -(a i k) | none => 0
theorem wOf_self (a : Nat → Nat → Int) (lead : List Nat) (k : Nat) : wOf a lead k k = 1 := if_pos rfl
theorem RedI.nodup (h : RedI p n m n N a lead) {i i' : Nat} (hi : i < lead.length) (hi' : i' < lead.length) (e : lead.getD i 0 = lead.getD i' 0) : i = i' := by
  rcases Nat.lt_trichotomy i i' with h1 | h1 | h1
  · have := h.rise i i' h1 hi'; omega
  · exact h1
  · have := h.rise i' i h1 hi; omega
theorem RedI.wOf_nul (h : RedI p n m n N a lead) {k : Nat} (hk : k < n) (hf : posL lead k = none) : N (wOf a lead k) := by
  rw [← h.nul]
  intro i hi
  by_cases hl : i < lead.length
  · have hc := h.cols i hl
    have hne : lead.getD i 0 ≠ k := posL_none hf i hl
    have e : dotI n (a i) (wOf a lead k) = sumI n (fun j => (if j = k then a i k else 0) + (if j = lead.getD i 0 then -(a i k) else 0)) := by
      unfold dotI
      refine sumI_congr fun j hj => ?_
      unfold wOf
      by_cases e1 : j = k
      · subst e1
        rw [if_pos rfl, if_pos rfl, if_neg (fun h9 => hne h9.symm)]
        omega
      · rw [if_neg e1, if_neg e1]
        cases hp : posL lead j with
        | none =>
          rw [if_neg (fun h9 => posL_none hp i hl h9.symm)]
          simp
        | some i' =>
          obtain ⟨h1, h2⟩ := posL_some hp
          show a i j * -(a i' k) = _
          by_cases e2 : i = i'
          · subst e2
            rw [if_pos h2.symm, ← h2, h.one i h1]
            omega
          · rw [if_neg (fun h9 => e2 (h.nodup hl h1 (by rw [h2, h9]))), ← h2, h.zero i' i h1 hi e2]
            omega
    rw [e, sumI_add, sumI_one (k := k) hk (fun j _ hj => if_neg hj), sumI_one (k := lead.getD i 0) hc (fun j _ hj => if_neg hj), if_pos rfl, if_pos rfl]
    exact ⟨0, by omega⟩
  · have e : dotI n (a i) (wOf a lead k) = 0 := by
      unfold dotI
      exact sumI_zero fun j hj => by rw [h.rest i j (by omega) hi hj hj]; omega
    rw [e]
    exact ⟨0, by omega⟩
theorem RedI.fre (h : RedI p n m n N a lead) {k : Nat} (hk : k < n) (hf : posL lead k = none) : FreI p n N k := by
  refine ⟨hk, wOf a lead k, h.wOf_nul hk hf, by rw [wOf_self]; exact ⟨0, by omega⟩, fun j hj1 hj2 => ?_⟩
  unfold wOf
  rw [if_neg (by omega)]
  cases hp : posL lead j with
  | none =>
    show p ∣ (0 : Int)
    exact ⟨0, by omega⟩
  | some i =>
    obtain ⟨h1, h2⟩ := posL_some hp
    show p ∣ -(a i k)
    rw [h.front i k h1 (by omega)]
    exact ⟨0, by omega⟩
theorem RedI.not_fre (h : RedI p n m n N a lead) (hp1 : ¬ p ∣ 1) {k i : Nat} (hf : posL lead k = some i) : ¬ FreI p n N k := by
  rintro ⟨hk, w, hw, h1, h2⟩
  obtain ⟨hi, he⟩ := posL_some hf
  have him : i < m := Nat.lt_of_lt_of_le hi h.few
  have h3 := (h.nul w).2 hw i him
  have h4 : p ∣ dotI n (a i) w - w k := by
    have e : dotI n (a i) w - w k = sumI n (fun j => a i j * w j + (if j = k then -(w k) else 0)) := by
      rw [sumI_add, sumI_one (f := fun j => if j = k then -(w k) else 0) (k := k) hk (fun j _ hj => if_neg hj), if_pos rfl]
      unfold dotI
      omega
    rw [e]
    refine sumI_dvd fun j hj => ?_
    by_cases e1 : j = k
    · rw [if_pos e1, e1, ← he, h.one i hi]
      exact ⟨0, by omega⟩
    · rw [if_neg e1, Int.add_zero]
      rcases Nat.lt_or_ge j k with h5 | h5
      · rw [h.front i j hi (by omega)]
        exact ⟨0, by omega⟩
      · exact Int.dvd_trans (h2 j (by omega) hj) ⟨a i j, Int.mul_comm _ _⟩
  have h5 := Int.dvd_sub (Int.dvd_sub h3 h4) h1
  rw [show dotI n (a i) w - (dotI n (a i) w - w k) - (w k - 1) = 1 by omega] at h5
  exact hp1 h5
theorem RedI.lead_iff (h : RedI p n m n N a lead) (hp1 : ¬ p ∣ 1) {k : Nat} (hk : k < n) : posL lead k = none ↔ FreI p n N k := by
  constructor
  · exact h.fre hk
  · intro hf
    cases e : posL lead k with
    | none => rfl
    | some i => exact absurd hf (h.not_fre hp1 e)
/-- At the other columns without a leading one the vector is 0. -/
theorem wOf_other {k j : Nat} (hj : posL lead j = none) (hne : j ≠ k) : wOf a lead k j = 0 := by
  unfold wOf
  rw [if_neg hne, hj]
end
end

section
theorem md_same {p v : Int} (h : 0 ≤ v ∧ v < p) : (v % p + p) % p = v := by
  rw [Int.add_emod_right, Int.emod_emod_of_dvd _ (Int.dvd_refl p)]
  exact Int.emod_eq_of_lt h.1 h.2
theorem md_dvd (p v : Int) : p ∣ (v % p + p) % p - v := by
  rw [Int.add_emod_right, Int.emod_emod_of_dvd _ (Int.dvd_refl p)]
  have h := Int.emod_add_mul_ediv v p
  exact ⟨-(v / p), by rw [Int.mul_neg]; omega⟩
theorem md_bd {p : Int} (hp : 0 < p) (v : Int) : 0 ≤ (v % p + p) % p ∧ (v % p + p) % p < p := ⟨Int.emod_nonneg _ (by omega), Int.emod_lt_of_pos _ hp⟩
theorem em_dvd (p v : Int) : p ∣ v % p - v := by
  have h := Int.emod_add_mul_ediv v p
  exact ⟨-(v / p), by rw [Int.mul_neg]; omega⟩
theorem getD_snoc_lt {l : List Nat} {k i : Nat} (h : i < l.length) : (l ++ [k]).getD i 0 = l.getD i 0 := by
  simp [List.getD, List.getElem?_append_left h]
theorem getD_snoc_eq (l : List Nat) (k : Nat) : (l ++ [k]).getD l.length 0 = k := by
  simp [List.getD]
section
variable {p : Int} {n m k : Nat} {N : (Nat → Int) → Prop} {a a' : Nat → Nat → Int} {lead : List Nat}
/-- A column that has nothing below the rows with leading ones. -/
theorem RedI.skip (h : RedI p n m k N a lead) (hz : ∀ i, lead.length ≤ i → i < m → a i k = 0) : RedI p n m (k + 1) N a lead :=
  ⟨h.bnd, h.nul, h.few, fun i hi => by have := h.cols i hi; omega, h.rise, h.one, h.zero, h.front, fun i j h1 h2 h3 h4 => by
    by_cases e : j = k
    · subst e; exact hz i h1 h2
    · exact h.rest i j h1 h2 (by omega) h4⟩
/-- All rows have leading ones. -/
theorem RedI.full (h : RedI p n m k N a lead) (hm : lead.length = m) (hkn : k ≤ n) : RedI p n m n N a lead :=
  ⟨h.bnd, h.nul, h.few, fun i hi => by have := h.cols i hi; omega, h.rise, h.one, h.zero, h.front, fun i j h1 h2 => by omega⟩
/-- A row comes up, is scaled, and is taken from all others. -/
theorem RedI.step (h : RedI p n m k N a lead) (hk : k < n) (hp : 1 < p) {q : Nat} {inv : Int} (hq : lead.length ≤ q) (hqm : q < m) (hinv : p ∣ a q k * inv - 1)
    (hx : ∀ j, j < n → a' lead.length j = (a q j * inv) % p)
    (ho : ∀ i, i < m → i ≠ lead.length → ∀ j, j < n → a' i j = (((if i = q then a lead.length j else a i j) - (if i = q then a lead.length k else a i k) * a' lead.length j) % p + p) % p) :
    RedI p n m (k + 1) N a' (lead ++ [k]) := by
  have hxm : lead.length < m := by omega
  have hone : a' lead.length k = 1 := by
    rw [hx k hk]
    obtain ⟨c, hc⟩ := hinv
    rw [show a q k * inv = 1 + p * c by omega, Int.add_mul_emod_self_left]
    exact Int.emod_eq_of_lt (by omega) hp
  have hxz : ∀ j, j < k → j < n → a' lead.length j = 0 := fun j h1 h2 => by
    rw [hx j h2, h.rest q j hq hqm h1 h2, Int.zero_mul]
    rfl
  have hbs : ∀ i j, i < m → j < n → 0 ≤ (if i = q then a lead.length j else a i j) ∧ (if i = q then a lead.length j else a i j) < p := fun i j h1 h2 => by
    split
    · exact h.bnd _ _ hxm h2
    · exact h.bnd _ _ h1 h2
  have hb' : ∀ i j, i < m → j < n → 0 ≤ a' i j ∧ a' i j < p := fun i j h1 h2 => by
    by_cases e : i = lead.length
    · subst e
      rw [hx j h2]
      exact ⟨Int.emod_nonneg _ (by omega), Int.emod_lt_of_pos _ (by omega)⟩
    · rw [ho i h1 e j h2]
      exact md_bd (by omega) _
  -- where the new row is 0 nothing turns
  have hsame : ∀ i j, i < m → i ≠ lead.length → j < n → a' lead.length j = 0 → a' i j = (if i = q then a lead.length j else a i j) := fun i j h1 h2 h3 h4 => by
    rw [ho i h1 h2 j h3, h4, Int.mul_zero, Int.sub_zero]
    exact md_same (hbs i j h1 h3)
  have hcol : ∀ i, i < m → i ≠ lead.length → a' i k = 0 := fun i h1 h2 => by
    rw [ho i h1 h2 k hk, hone, Int.mul_one, Int.sub_self]
    simp
  have hll : (lead ++ [k]).length = lead.length + 1 := by simp
  refine ⟨hb', fun w => ?_, by omega, fun i hi => ?_, fun i j hij hj => ?_, fun i hi => ?_, fun i i' hi hi' hne => ?_, fun i j hi hj => ?_, fun i j h1 h2 h3 h4 => ?_⟩
  · rw [← h.nul]
    have hA : p ∣ dotI n (a' lead.length) w ↔ p ∣ dotI n (a q) w :=
      nul_scale (c := inv) (d := a q k) (fun j hj => by rw [hx j hj]; exact em_dvd p _) (by rw [Int.mul_comm]; exact hinv)
    have hB : p ∣ dotI n (a' lead.length) w → ∀ i, i < m → i ≠ lead.length → (p ∣ dotI n (a' i) w ↔ p ∣ dotI n (fun j => if i = q then a lead.length j else a i j) w) := fun hs i h1 h2 =>
      nul_sub (s := a' lead.length) (c := if i = q then a lead.length k else a i k) (fun j hj => by rw [ho i h1 h2 j hj]; exact md_dvd p _) hs
    have hB1 : ∀ i, i ≠ q → (fun j => if i = q then a lead.length j else a i j) = a i := fun i hi => by funext j; exact if_neg hi
    have hB2 : ∀ i, i = q → (fun j => if i = q then a lead.length j else a i j) = a lead.length := fun i hi => by funext j; exact if_pos hi
    constructor
    · intro hw i hi
      have hs := hw _ hxm
      by_cases e1 : i = q
      · rw [e1]; exact hA.1 hs
      · by_cases e2 : i = lead.length
        · have h9 := (hB hs q hqm (fun h8 => e1 (by omega))).1 (hw q hqm)
          rw [hB2 q rfl] at h9
          rw [e2]; exact h9
        · have h9 := (hB hs i hi e2).1 (hw i hi)
          rw [hB1 i e1] at h9
          exact h9
    · intro hw i hi
      have hs := hA.2 (hw q hqm)
      by_cases e2 : i = lead.length
      · rw [e2]; exact hs
      · refine (hB hs i hi e2).2 ?_
        by_cases e1 : i = q
        · rw [hB2 i e1]; exact hw _ hxm
        · rw [hB1 i e1]; exact hw i hi
  · rcases Nat.lt_or_ge i lead.length with h1 | h1
    · rw [getD_snoc_lt h1]; have := h.cols i h1; omega
    · obtain rfl : i = lead.length := by omega
      rw [getD_snoc_eq]; omega
  · rcases Nat.lt_or_ge j lead.length with h1 | h1
    · rw [getD_snoc_lt h1, getD_snoc_lt (by omega)]; exact h.rise i j hij h1
    · obtain rfl : j = lead.length := by omega
      rw [getD_snoc_eq, getD_snoc_lt hij]; exact h.cols i hij
  · rcases Nat.lt_or_ge i lead.length with h1 | h1
    · have hc := h.cols i h1
      rw [getD_snoc_lt h1, hsame i _ (by omega) (by omega) (by omega) (hxz _ hc (by omega)), if_neg (by omega)]
      exact h.one i h1
    · obtain rfl : i = lead.length := by omega
      rw [getD_snoc_eq]; exact hone
  · rcases Nat.lt_or_ge i lead.length with h1 | h1
    · have hc := h.cols i h1
      rw [getD_snoc_lt h1]
      by_cases e : i' = lead.length
      · rw [e]; exact hxz _ hc (by omega)
      · rw [hsame i' _ hi' e (by omega) (hxz _ hc (by omega))]
        split
        · exact h.zero i _ h1 hxm (by omega)
        · exact h.zero i i' h1 hi' hne
    · obtain rfl : i = lead.length := by omega
      rw [getD_snoc_eq]; exact hcol i' hi' hne
  · rcases Nat.lt_or_ge i lead.length with h1 | h1
    · have hc := h.cols i h1
      rw [getD_snoc_lt h1] at hj
      rw [hsame i j (by omega) (by omega) (by omega) (hxz j (by omega) (by omega)), if_neg (by omega)]
      exact h.front i j h1 hj
    · obtain rfl : i = lead.length := by omega
      rw [getD_snoc_eq] at hj
      exact hxz j hj (by omega)
  · by_cases e : j = k
    · subst e; exact hcol i h2 (by omega)
    · rw [hsame i j h2 (by omega) h4 (hxz j (by omega) h4)]
      split
      · exact h.rest _ j (Nat.le_refl _) hxm (by omega) h4
      · exact h.rest i j (by omega) h2 (by omega) h4
end
end

section
section
variable {p : Int} {n m k : Nat} {N R : (Nat → Int) → Prop} {a a' : Nat → Nat → Int} {lead : List Nat}
/-- What a closed set holds of the rows it holds of the rows behind a step. -/
theorem spn_step (hR : LinI p n R) (h : ∀ i, i < m → R (a i)) {q x : Nat} {inv : Int} (hxm : x < m) (hqm : q < m)
    (hx : ∀ j, j < n → a' x j = (a q j * inv) % p)
    (ho : ∀ i, i < m → i ≠ x → ∀ j, j < n → a' i j = (((if i = q then a x j else a i j) - (if i = q then a x k else a i k) * a' x j) % p + p) % p) :
    ∀ i, i < m → R (a' i) := by
  have h0 : R (a' x) := hR.mod _ _ (fun j hj => by
    rw [hx j hj]
    have h9 := em_dvd p (a q j * inv)
    rw [show inv * a q j - a q j * inv % p = -(a q j * inv % p - a q j * inv) by rw [Int.mul_comm inv]; omega]
    exact Int.dvd_neg.2 h9) (hR.mul inv _ (h q hqm))
  intro i hi
  by_cases e : i = x
  · rw [e]; exact h0
  · have h1 : R (fun j => if i = q then a x j else a i j) := by
      by_cases e1 : i = q
      · have e2 : (fun j => if i = q then a x j else a i j) = a x := by funext j; exact if_pos e1
        rw [e2]; exact h x hxm
      · have e2 : (fun j => if i = q then a x j else a i j) = a i := by funext j; exact if_neg e1
        rw [e2]; exact h i hi
    refine hR.mod _ _ (fun j hj => ?_) (hR.sub _ _ h1 (hR.mul (if i = q then a x k else a i k) _ h0))
    rw [ho i hi e j hj]
    have h9 := md_dvd p ((if i = q then a x j else a i j) - (if i = q then a x k else a i k) * a' x j)
    rw [show (if i = q then a x j else a i j) - (if i = q then a x k else a i k) * a' x j - (((if i = q then a x j else a i j) - (if i = q then a x k else a i k) * a' x j) % p + p) % p = -((((if i = q then a x j else a i j) - (if i = q then a x k else a i k) * a' x j) % p + p) % p - ((if i = q then a x j else a i j) - (if i = q then a x k else a i k) * a' x j)) by omega]
    exact Int.dvd_neg.2 h9
end
/-- A reduced form at the start. -/
theorem red_start {p : Int} {n m : Nat} {P : Nat → Nat → Int} (hb : ∀ i j, i < m → j < n → 0 ≤ P i j ∧ P i j < p) : RedI p n m 0 (fun w => ∀ i, i < m → p ∣ dotI n (P i) w) P [] :=
  ⟨hb, fun _ => Iff.rfl, by simp, fun i hi => (by simp at hi), fun i j _ hj => (by simp at hj), fun i hi => (by simp at hi), fun i i' hi => (by simp at hi), fun i j hi => (by simp at hi), fun i j _ _ h => (by omega)⟩
/-- There is a reduced form, and what is closed and holds of the rows holds of its rows. -/
theorem red_is {p : Int} {n m : Nat} {P : Nat → Nat → Int} (hp : 1 < p) (hinv : ∀ x : Int, ¬ p ∣ x → ∃ y, p ∣ x * y - 1) (hb : ∀ i j, i < m → j < n → 0 ≤ P i j ∧ P i j < p) :
    ∀ k, k ≤ n → ∃ a lead, RedI p n m k (fun w => ∀ i, i < m → p ∣ dotI n (P i) w) a lead ∧ ∀ R, LinI p n R → (∀ i, i < m → R (P i)) → ∀ i, i < m → R (a i)
  | 0, _ => ⟨P, [], red_start hb, fun _ _ h => h⟩
  | k + 1, hk => by
    obtain ⟨a, lead, h, hs⟩ := red_is hp hinv hb k (by omega)
    rcases Classical.em (∃ q, lead.length ≤ q ∧ q < m ∧ a q k ≠ 0) with ⟨q, h1, h2, h3⟩ | hno
    · have hnd : ¬ p ∣ a q k := fun hd => by
        have h4 := h.bnd q k h2 (by omega)
        have h5 := mod_inj (p := p) (x := a q k) (y := 0) (by rw [Int.sub_zero]; exact hd) h4 (by omega)
        exact h3 h5
      obtain ⟨inv, hi⟩ := hinv _ hnd
      let ax : Nat → Int := fun j => (a q j * inv) % p
      let a' : Nat → Nat → Int := fun i => if i = lead.length then ax else fun j => (((if i = q then a lead.length j else a i j) - (if i = q then a lead.length k else a i k) * ax j) % p + p) % p
      have e0 : a' lead.length = ax := if_pos rfl
      have e1 : ∀ i, i ≠ lead.length → a' i = fun j => (((if i = q then a lead.length j else a i j) - (if i = q then a lead.length k else a i k) * ax j) % p + p) % p := fun i hi => if_neg hi
      have hx : ∀ j, j < n → a' lead.length j = (a q j * inv) % p := fun j _ => by rw [e0]
      have ho : ∀ i, i < m → i ≠ lead.length → ∀ j, j < n → a' i j = (((if i = q then a lead.length j else a i j) - (if i = q then a lead.length k else a i k) * a' lead.length j) % p + p) % p := fun i _ hi j _ => by rw [e1 i hi, e0]
      exact ⟨a', lead ++ [k], h.step (by omega) hp h1 h2 hi hx ho, fun R hR hP => spn_step hR (hs R hR hP) (by omega) h2 hx ho⟩
    · exact ⟨a, lead, h.skip (fun i h1 h2 => Classical.byContradiction fun h3 => hno ⟨i, h1, h2, h3⟩), hs⟩
/-- Multiples of rows that add up. -/
def SgnI (p : Int) (n m : Nat) (P : Nat → Nat → Int) (u : Nat → Int) : Prop := ∃ c : Nat → Int, ∀ j, j < n → p ∣ sumI m (fun i => c i * P i j) - u j
theorem sgn_lin (p : Int) (n m : Nat) (P : Nat → Nat → Int) : LinI p n (SgnI p n m P) := by
  refine ⟨fun v w ⟨c, hc⟩ ⟨d, hd⟩ => ⟨fun i => c i - d i, fun j hj => ?_⟩, fun x v ⟨c, hc⟩ => ⟨fun i => x * c i, fun j hj => ?_⟩, fun v w h ⟨c, hc⟩ => ⟨c, fun j hj => ?_⟩⟩
  · have e : sumI m (fun i => c i * P i j) = sumI m (fun i => (c i - d i) * P i j) + sumI m (fun i => d i * P i j) := by
      rw [← sumI_add]
      exact sumI_congr fun i _ => by rw [Int.sub_mul]; omega
    have h1 := Int.dvd_sub (hc j hj) (hd j hj)
    rwa [show sumI m (fun i => c i * P i j) - v j - (sumI m (fun i => d i * P i j) - w j) = sumI m (fun i => (c i - d i) * P i j) - (v j - w j) by omega] at h1
  · have e : sumI m (fun i => x * c i * P i j) = x * sumI m (fun i => c i * P i j) := by
      rw [← sumI_mul]
      exact sumI_congr fun i _ => Int.mul_assoc _ _ _
    rw [e, ← Int.mul_sub]
    exact Int.dvd_trans (hc j hj) ⟨x, Int.mul_comm _ _⟩
  · have h1 := Int.dvd_add (hc j hj) (h j hj)
    rwa [show sumI m (fun i => c i * P i j) - v j + (v j - w j) = sumI m (fun i => c i * P i j) - w j by omega] at h1
theorem sgn_row {p : Int} {n m : Nat} {P : Nat → Nat → Int} {i : Nat} (hi : i < m) : SgnI p n m P (P i) := by
  refine ⟨fun x => if x = i then 1 else 0, fun j _ => ?_⟩
  rw [sumI_one (k := i) hi (fun x _ hx => by show (if x = i then (1 : Int) else 0) * P x j = 0; rw [if_neg hx]; omega)]
  show p ∣ (if i = i then (1 : Int) else 0) * P i j - P i j
  rw [if_pos rfl]
  exact ⟨0, by omega⟩
theorem sgn_zero {p : Int} {n m : Nat} {P : Nat → Nat → Int} {v : Nat → Int} (h : ∀ j, j < n → p ∣ v j) : SgnI p n m P v := by
  refine ⟨fun _ => 0, fun j hj => ?_⟩
  rw [sumI_zero (fun i _ => by show (0 : Int) * P i j = 0; omega)]
  rw [show 0 - v j = -(v j) by omega]
  exact Int.dvd_neg.2 (h j hj)
theorem dotI_comm (n : Nat) (v w : Nat → Int) : dotI n v w = dotI n w v := by
  unfold dotI
  exact sumI_congr fun j _ => Int.mul_comm _ _
theorem sumI_swap (f : Nat → Nat → Int) : ∀ n m, sumI n (fun j => sumI m (fun i => f i j)) = sumI m (fun i => sumI n (fun j => f i j))
  | 0, m => (sumI_zero (n := m) fun _ _ => rfl).symm
  | n + 1, m => by
    show sumI n (fun j => sumI m (fun i => f i j)) + sumI m (fun i => f i n) = sumI m (fun i => sumI n (fun j => f i j) + f i n)
    rw [sumI_swap f n m, sumI_add]
/-- What rows weigh 0 their multiples weigh 0. -/
theorem sgn_nul {p : Int} {n m : Nat} {P : Nat → Nat → Int} {u w : Nat → Int} (h : SgnI p n m P u) (hw : ∀ i, i < m → p ∣ dotI n (P i) w) : p ∣ dotI n u w := by
  obtain ⟨c, hc⟩ := h
  have e : dotI n u w = sumI m (fun i => c i * dotI n (P i) w) - sumI n (fun j => (sumI m (fun i => c i * P i j) - u j) * w j) := by
    have e1 : sumI m (fun i => c i * dotI n (P i) w) = sumI n (fun j => sumI m (fun i => c i * P i j) * w j) := by
      have e2 : sumI m (fun i => c i * dotI n (P i) w) = sumI m (fun i => sumI n (fun j => c i * P i j * w j)) :=
        sumI_congr fun i _ => by
          unfold dotI
          rw [← sumI_mul]
          exact sumI_congr fun j _ => by rw [Int.mul_assoc]
      rw [e2, ← sumI_swap]
      exact sumI_congr fun j _ => by
        rw [Int.mul_comm, ← sumI_mul]
        exact sumI_congr fun i _ => Int.mul_comm _ _
    rw [e1]
    have e3 : sumI n (fun j => sumI m (fun i => c i * P i j) * w j) = dotI n u w + sumI n (fun j => (sumI m (fun i => c i * P i j) - u j) * w j) := by
      unfold dotI
      rw [← sumI_add]
      exact sumI_congr fun j _ => by rw [Int.sub_mul]; omega
    omega
  rw [e]
  exact Int.dvd_sub (sumI_dvd fun i hi => Int.dvd_trans (hw i hi) ⟨c i, Int.mul_comm _ _⟩) (sumI_dvd fun j hj => Int.dvd_trans (hc j hj) ⟨w j, rfl⟩)
/-- If all that rows weigh 0 weighs u 0, u is made of the rows. -/
theorem sgn_of {p : Int} {n m : Nat} {P : Nat → Nat → Int} {u : Nat → Int} (hp : 1 < p) (hinv : ∀ x : Int, ¬ p ∣ x → ∃ y, p ∣ x * y - 1) (hb : ∀ i j, i < m → j < n → 0 ≤ P i j ∧ P i j < p)
    (h : ∀ w, (∀ i, i < m → p ∣ dotI n (P i) w) → p ∣ dotI n u w) : SgnI p n m P u := by
  obtain ⟨a, lead, hr, hs⟩ := red_is hp hinv hb n (Nat.le_refl _)
  have hL := sgn_lin p n m P
  have ha : ∀ i, i < m → SgnI p n m P (a i) := hs _ hL fun i hi => sgn_row hi
  -- u less its leading part: 0 everywhere
  have key : ∀ t, t ≤ lead.length → ∃ v, SgnI p n m P (fun j => u j - v j) ∧ (∀ w, (∀ i, i < m → p ∣ dotI n (P i) w) → p ∣ dotI n v w) ∧ ∀ i, i < t → v (lead.getD i 0) = 0 := by
    intro t
    induction t with
    | zero => exact fun _ => ⟨u, sgn_zero fun j _ => ⟨0, by omega⟩, h, fun i hi => by omega⟩
    | succ t ih =>
      intro ht
      obtain ⟨v, h1, h2, h3⟩ := ih (by omega)
      have htm : t < m := Nat.lt_of_lt_of_le (by omega) hr.few
      refine ⟨fun j => v j - v (lead.getD t 0) * a t j, ?_, fun w hw => ?_, fun i hi => ?_⟩
      · have h4 := hL.sub _ _ h1 (hL.mul (-(v (lead.getD t 0))) _ (ha t htm))
        refine hL.mod _ _ (fun j _ => ⟨0, ?_⟩) h4
        show u j - v j - -(v (lead.getD t 0)) * a t j - (u j - (v j - v (lead.getD t 0) * a t j)) = p * 0
        rw [Int.neg_mul]
        omega
      · rw [dotI_lin]
        exact Int.dvd_sub (h2 w hw) (Int.dvd_trans ((hr.nul w).2 hw t htm) ⟨_, Int.mul_comm _ _⟩)
      · show v (lead.getD i 0) - v (lead.getD t 0) * a t (lead.getD i 0) = 0
        by_cases e : i = t
        · subst e
          rw [hr.one i (by omega)]
          omega
        · rw [h3 i (by omega), hr.zero i t (by omega) htm (fun h9 => e h9.symm)]
          omega
  obtain ⟨v, h1, h2, h3⟩ := key lead.length (Nat.le_refl _)
  have hv : ∀ j, j < n → p ∣ v j := fun k hk => by
    cases hp9 : posL lead k with
    | some i =>
      obtain ⟨h4, h5⟩ := posL_some hp9
      rw [← h5, h3 i h4]
      exact ⟨0, by omega⟩
    | none =>
      have h4 := h2 _ (hr.wOf_nul hk hp9)
      have e : dotI n v (wOf a lead k) = v k := by
        unfold dotI
        rw [sumI_one (k := k) hk (fun j _ hj => ?_), wOf_self, Int.mul_one]
        cases hq : posL lead j with
        | none => rw [wOf_other hq hj, Int.mul_zero]
        | some i =>
          obtain ⟨h5, h6⟩ := posL_some hq
          rw [← h6, h3 i h5, Int.zero_mul]
      rw [e] at h4
      exact h4
  exact hL.mod _ _ (fun j hj => by
    rw [show u j - v j - u j = -(v j) by omega]
    exact Int.dvd_neg.2 (hv j hj)) h1
/-- Weights that forbid exist exactly if there is no signed tiling. -/
theorem sgn_iff {p : Int} {n m : Nat} {P : Nat → Nat → Int} {u : Nat → Int} (hp : 1 < p) (hinv : ∀ x : Int, ¬ p ∣ x → ∃ y, p ∣ x * y - 1) (hb : ∀ i j, i < m → j < n → 0 ≤ P i j ∧ P i j < p) :
    (∃ w, (∀ i, i < m → p ∣ dotI n (P i) w) ∧ ¬ p ∣ dotI n u w) ↔ ¬ SgnI p n m P u := by
  constructor
  · rintro ⟨w, hw, hn⟩ hs
    exact hn (sgn_nul hs hw)
  · intro hs
    refine Classical.byContradiction fun hno => hs (sgn_of hp hinv hb fun w hw => Classical.byContradiction fun hn => hno ⟨w, hw, hn⟩)
end

section
section
variable {p : Int} {n m m' : Nat} {N : (Nat → Int) → Prop} {a b : Nat → Nat → Int} {lead lead' : List Nat}
theorem RedI.lin (h : RedI p n m n N a lead) : LinI p n N := by
  have e : N = fun w => ∀ i, i < m → p ∣ dotI n (a i) w := by
    funext w
    exact propext (h.nul w).symm
  have hl := nul_lin p n ((List.range m).map a)
  have e2 : NulI p n ((List.range m).map a) = fun w => ∀ i, i < m → p ∣ dotI n (a i) w := by
    funext w
    apply propext
    constructor
    · intro hw i hi
      exact hw _ (List.mem_map_of_mem (List.mem_range.2 hi))
    · intro hw r hr
      obtain ⟨i, hi, rfl⟩ := List.mem_map.1 hr
      exact hw i (List.mem_range.1 hi)
  rw [e2, ← e] at hl
  exact hl
/-- Two reduced forms: the same columns, the same vectors. -/
theorem red_same (hp1 : ¬ p ∣ 1) (hinv : ∀ x : Int, ¬ p ∣ x → ∃ y, p ∣ x * y - 1) (h : RedI p n m n N a lead) (h' : RedI p n m' n N b lead') :
    (∀ k, k < n → (posL lead k = none ↔ posL lead' k = none)) ∧ ∀ k, k < n → posL lead k = none → ∀ j, j < n → p ∣ wOf a lead k j - wOf b lead' k j := by
  have h1 : ∀ k, k < n → (posL lead k = none ↔ posL lead' k = none) := fun k hk => (h.lead_iff hp1 hk).trans (h'.lead_iff hp1 hk).symm
  refine ⟨h1, fun k hk hf => fre_one h.lin hinv (h.wOf_nul hk hf) (h'.wOf_nul hk ((h1 k hk).1 hf)) fun j hj => ?_⟩
  have hjn := (h.lead_iff hp1 hj.1).2 hj
  have hjn' := (h1 j hj.1).1 hjn
  by_cases e : j = k
  · subst e
    rw [wOf_self, wOf_self]
    exact ⟨0, by omega⟩
  · rw [wOf_other hjn e, wOf_other hjn' e]
    exact ⟨0, by omega⟩
/-- If the vectors of the columns without leading ones are weighed 0, all are. -/
theorem red_all (hp1 : ¬ p ∣ 1) (hinv : ∀ x : Int, ¬ p ∣ x → ∃ y, p ∣ x * y - 1) (h : RedI p n m n N a lead) {u : Nat → Int} (hu : ∀ k, k < n → posL lead k = none → p ∣ dotI n u (wOf a lead k)) {w : Nat → Int} (hw : N w) :
    p ∣ dotI n u w := by
  have hL := h.lin
  have key : ∀ t, t ≤ n → ∃ v, N v ∧ p ∣ dotI n u w - dotI n u v ∧ ∀ k, k < t → posL lead k = none → p ∣ v k := by
    intro t
    induction t with
    | zero => exact fun _ => ⟨w, hw, ⟨0, by omega⟩, fun k hk => by omega⟩
    | succ t ih =>
      intro ht
      obtain ⟨v, h1, h2, h3⟩ := ih (by omega)
      cases hq : posL lead t with
      | some i =>
        refine ⟨v, h1, h2, fun k hk hf => ?_⟩
        by_cases e : k = t
        · rw [e, hq] at hf; cases hf
        · exact h3 k (by omega) hf
      | none =>
        refine ⟨fun j => v j - v t * wOf a lead t j, hL.sub _ _ h1 (hL.mul (v t) _ (h.wOf_nul (by omega) hq)), ?_, fun k hk hf => ?_⟩
        · have e : dotI n u (fun j => v j - v t * wOf a lead t j) = dotI n u v - v t * dotI n u (wOf a lead t) := by
            rw [dotI_comm n u, dotI_lin, dotI_comm n v u, dotI_comm n (wOf a lead t) u]
          rw [e]
          have h5 : p ∣ v t * dotI n u (wOf a lead t) := Int.dvd_trans (hu t (by omega) hq) ⟨v t, Int.mul_comm _ _⟩
          have h4 := Int.dvd_add h2 h5
          rwa [show dotI n u w - dotI n u v + v t * dotI n u (wOf a lead t) = dotI n u w - (dotI n u v - v t * dotI n u (wOf a lead t)) by omega] at h4
        · show p ∣ v k - v t * wOf a lead t k
          by_cases e : k = t
          · subst e
            rw [wOf_self, Int.mul_one, Int.sub_self]
            exact ⟨0, by omega⟩
          · rw [wOf_other hf e, Int.mul_zero, Int.sub_zero]
            exact h3 k (by omega) hf
  obtain ⟨v, h1, h2, h3⟩ := key n (Nat.le_refl _)
  have hz := fre_zero hL hinv h1 (fun k hk => h3 k hk.1 ((h.lead_iff hp1 hk.1).2 hk)) n (Nat.le_refl _)
  have h4 : p ∣ dotI n u v := by
    unfold dotI
    exact sumI_dvd fun j hj => Int.dvd_trans (hz j hj (by omega)) ⟨u j, Int.mul_comm _ _⟩
  have h5 := Int.dvd_add h2 h4
  rwa [show dotI n u w - dotI n u v + dotI n u v = dotI n u w by omega] at h5
end
/-- The primes: each number that is not 0 has an inverse. -/
theorem inv_prime {p : Int} (h : p = 2 ∨ p = 3 ∨ p = 5) : 1 < p ∧ ¬ p ∣ 1 ∧ ∀ x : Int, ¬ p ∣ x → ∃ y, p ∣ x * y - 1 := by
  refine ⟨by omega, by rcases h with rfl | rfl | rfl <;> omega, fun x hx => ?_⟩
  rcases h with rfl | rfl | rfl
  · exact ⟨1, by omega⟩
  · by_cases e : x % 3 = 1
    · exact ⟨1, by omega⟩
    · exact ⟨2, by omega⟩
  · by_cases e1 : x % 5 = 1
    · exact ⟨1, by omega⟩
    · by_cases e2 : x % 5 = 2
      · exact ⟨3, by omega⟩
      · by_cases e3 : x % 5 = 3
        · exact ⟨2, by omega⟩
        · exact ⟨4, by omega⟩
end

end Go.Proofs.YtkcclhnligajeaaGreatDoor
