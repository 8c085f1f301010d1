/-
  Weights, the plain facts: two reduced forms of one set give the same answers; the vectors of the columns without leading ones stand for all.
-/
import Derived.Test.YtkcclhnligajeaaDoorPw4
namespace Go.Proofs.YtkcclhnligajeaaDoor

section
variable {p : Int} {n m m' : Nat} {N : (Nat → Int) → Prop} {a b : Nat → Nat → Int} {lead lead' : List Nat}
theorem RedI.lin (h : RedI p n m n N a lead) : LinI p n N := by
  have e : N = fun w => ∀ i, i < m → p ∣ dotI n (a i) w := by
    funext w
    exact propext (h.nul w).symm
  have hl := nul_lin p n ((List.range m).map a)
  have e2 : NulI p n ((List.range m).map a) = fun w => ∀ i, i < m → p ∣ dotI n (a i) w := by
    funext w
    apply propext
    constructor
    · intro hw i hi
      exact hw _ (List.mem_map_of_mem (List.mem_range.2 hi))
    · intro hw r hr
      obtain ⟨i, hi, rfl⟩ := List.mem_map.1 hr
      exact hw i (List.mem_range.1 hi)
  rw [e2, ← e] at hl
  exact hl
/-- Two reduced forms: the same columns, the same vectors. -/
theorem red_same (hp1 : ¬ p ∣ 1) (hinv : ∀ x : Int, ¬ p ∣ x → ∃ y, p ∣ x * y - 1) (h : RedI p n m n N a lead) (h' : RedI p n m' n N b lead') :
    (∀ k, k < n → (posL lead k = none ↔ posL lead' k = none)) ∧ ∀ k, k < n → posL lead k = none → ∀ j, j < n → p ∣ wOf a lead k j - wOf b lead' k j := by
  have h1 : ∀ k, k < n → (posL lead k = none ↔ posL lead' k = none) := fun k hk => (h.lead_iff hp1 hk).trans (h'.lead_iff hp1 hk).symm
  refine ⟨h1, fun k hk hf => fre_one h.lin hinv (h.wOf_nul hk hf) (h'.wOf_nul hk ((h1 k hk).1 hf)) fun j hj => ?_⟩
  have hjn := (h.lead_iff hp1 hj.1).2 hj
  have hjn' := (h1 j hj.1).1 hjn
  by_cases e : j = k
  · subst e
    rw [wOf_self, wOf_self]
    exact ⟨0, by omega⟩
  · rw [wOf_other hjn e, wOf_other hjn' e]
    exact ⟨0, by omega⟩
/-- If the vectors of the columns without leading ones are weighed 0, all are. -/
theorem red_all (hp1 : ¬ p ∣ 1) (hinv : ∀ x : Int, ¬ p ∣ x → ∃ y, p ∣ x * y - 1) (h : RedI p n m n N a lead) {u : Nat → Int} (hu : ∀ k, k < n → posL lead k = none → p ∣ dotI n u (wOf a lead k)) {w : Nat → Int} (hw : N w) :
    p ∣ dotI n u w := by
  have hL := h.lin
  have key : ∀ t, t ≤ n → ∃ v, N v ∧ p ∣ dotI n u w - dotI n u v ∧ ∀ k, k < t → posL lead k = none → p ∣ v k := by
    intro t
    induction t with
    | zero => exact fun _ => ⟨w, hw, ⟨0, by omega⟩, fun k hk => by omega⟩
    | succ t ih =>
      intro ht
      obtain ⟨v, h1, h2, h3⟩ := ih (by omega)
      cases hq : posL lead t with
      | some i =>
        refine ⟨v, h1, h2, fun k hk hf => ?_⟩
        by_cases e : k = t
        · rw [e, hq] at hf; cases hf
        · exact h3 k (by omega) hf
      | none =>
        refine ⟨fun j => v j - v t * wOf a lead t j, hL.sub _ _ h1 (hL.mul (v t) _ (h.wOf_nul (by omega) hq)), ?_, fun k hk hf => ?_⟩
        · have e : dotI n u (fun j => v j - v t * wOf a lead t j) = dotI n u v - v t * dotI n u (wOf a lead t) := by
            rw [dotI_comm n u, dotI_lin, dotI_comm n v u, dotI_comm n (wOf a lead t) u]
          rw [e]
          have h5 : p ∣ v t * dotI n u (wOf a lead t) := Int.dvd_trans (hu t (by omega) hq) ⟨v t, Int.mul_comm _ _⟩
          have h4 := Int.dvd_add h2 h5
          rwa [show dotI n u w - dotI n u v + v t * dotI n u (wOf a lead t) = dotI n u w - (dotI n u v - v t * dotI n u (wOf a lead t)) by omega] at h4
        · show p ∣ v k - v t * wOf a lead t k
          by_cases e : k = t
          · subst e
            rw [wOf_self, Int.mul_one, Int.sub_self]
            exact ⟨0, by omega⟩
          · rw [wOf_other hf e, Int.mul_zero, Int.sub_zero]
            exact h3 k (by omega) hf
  obtain ⟨v, h1, h2, h3⟩ := key n (Nat.le_refl _)
  have hz := fre_zero hL hinv h1 (fun k hk => h3 k hk.1 ((h.lead_iff hp1 hk.1).2 hk)) n (Nat.le_refl _)
  have h4 : p ∣ dotI n u v := by
    unfold dotI
    exact sumI_dvd fun j hj => Int.dvd_trans (hz j hj (by omega)) ⟨u j, Int.mul_comm _ _⟩
  have h5 := Int.dvd_add h2 h4
  rwa [show dotI n u w - dotI n u v + dotI n u v = dotI n u w by omega] at h5
end
/-- The primes: each number that is not 0 has an inverse. -/
theorem inv_prime {p : Int} (h : p = 2 ∨ p = 3 ∨ p = 5) : 1 < p ∧ ¬ p ∣ 1 ∧ ∀ x : Int, ¬ p ∣ x → ∃ y, p ∣ x * y - 1 := by
  refine ⟨by omega, by rcases h with rfl | rfl | rfl <;> omega, fun x hx => ?_⟩
  rcases h with rfl | rfl | rfl
  · exact ⟨1, by omega⟩
  · by_cases e : x % 3 = 1
    · exact ⟨1, by omega⟩
    · exact ⟨2, by omega⟩
  · by_cases e1 : x % 5 = 1
    · exact ⟨1, by omega⟩
    · by_cases e2 : x % 5 = 2
      · exact ⟨3, by omega⟩
      · by_cases e3 : x % 5 = 3
        · exact ⟨2, by omega⟩
        · exact ⟨4, by omega⟩
end Go.Proofs.YtkcclhnligajeaaDoor
