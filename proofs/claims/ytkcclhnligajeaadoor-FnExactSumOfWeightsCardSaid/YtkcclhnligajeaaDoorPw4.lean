/-
  Weights, the plain facts: there is a reduced form; weights that forbid exist exactly if there is no signed tiling.
-/
import Derived.Test.YtkcclhnligajeaaDoorVah
namespace Go.Proofs.YtkcclhnligajeaaDoor

section
variable {p : Int} {n m k : Nat} {N R : (Nat → Int) → Prop} {a a' : Nat → Nat → Int} {lead : List Nat}
/-- What a closed set holds of the rows it holds of the rows behind a step. -/
theorem spn_step (hR : LinI p n R) (h : ∀ i, i < m → R (a i)) {q x : Nat} {inv : Int} (hxm : x < m) (hqm : q < m)
    (hx : ∀ j, j < n → a' x j = (a q j * inv) % p)
    (ho : ∀ i, i < m → i ≠ x → ∀ j, j < n → a' i j = (((if i = q then a x j else a i j) - (if i = q then a x k else a i k) * a' x j) % p + p) % p) :
    ∀ i, i < m → R (a' i) := by
  have h0 : R (a' x) := hR.mod _ _ (fun j hj => by
    rw [hx j hj]
    have h9 := em_dvd p (a q j * inv)
    rw [show inv * a q j - a q j * inv % p = -(a q j * inv % p - a q j * inv) by rw [Int.mul_comm inv]; omega]
    exact Int.dvd_neg.2 h9) (hR.mul inv _ (h q hqm))
  intro i hi
  by_cases e : i = x
  · rw [e]; exact h0
  · have h1 : R (fun j => if i = q then a x j else a i j) := by
      by_cases e1 : i = q
      · have e2 : (fun j => if i = q then a x j else a i j) = a x := by funext j; exact if_pos e1
        rw [e2]; exact h x hxm
      · have e2 : (fun j => if i = q then a x j else a i j) = a i := by funext j; exact if_neg e1
        rw [e2]; exact h i hi
    refine hR.mod _ _ (fun j hj => ?_) (hR.sub _ _ h1 (hR.mul (if i = q then a x k else a i k) _ h0))
    rw [ho i hi e j hj]
    have h9 := md_dvd p ((if i = q then a x j else a i j) - (if i = q then a x k else a i k) * a' x j)
    rw [show (if i = q then a x j else a i j) - (if i = q then a x k else a i k) * a' x j - (((if i = q then a x j else a i j) - (if i = q then a x k else a i k) * a' x j) % p + p) % p = -((((if i = q then a x j else a i j) - (if i = q then a x k else a i k) * a' x j) % p + p) % p - ((if i = q then a x j else a i j) - (if i = q then a x k else a i k) * a' x j)) by omega]
    exact Int.dvd_neg.2 h9
end
/-- A reduced form at the start. -/
theorem red_start {p : Int} {n m : Nat} {P : Nat → Nat → Int} (hb : ∀ i j, i < m → j < n → 0 ≤ P i j ∧ P i j < p) : RedI p n m 0 (fun w => ∀ i, i < m → p ∣ dotI n (P i) w) P [] :=
  ⟨hb, fun _ => Iff.rfl, by simp, fun i hi => (by simp at hi), fun i j _ hj => (by simp at hj), fun i hi => (by simp at hi), fun i i' hi => (by simp at hi), fun i j hi => (by simp at hi), fun i j _ _ h => (by omega)⟩
/-- There is a reduced form, and what is closed and holds of the rows holds of its rows. -/
theorem red_is {p : Int} {n m : Nat} {P : Nat → Nat → Int} (hp : 1 < p) (hinv : ∀ x : Int, ¬ p ∣ x → ∃ y, p ∣ x * y - 1) (hb : ∀ i j, i < m → j < n → 0 ≤ P i j ∧ P i j < p) :
    ∀ k, k ≤ n → ∃ a lead, RedI p n m k (fun w => ∀ i, i < m → p ∣ dotI n (P i) w) a lead ∧ ∀ R, LinI p n R → (∀ i, i < m → R (P i)) → ∀ i, i < m → R (a i)
  | 0, _ => ⟨P, [], red_start hb, fun _ _ h => h⟩
  | k + 1, hk => by
    obtain ⟨a, lead, h, hs⟩ := red_is hp hinv hb k (by omega)
    rcases Classical.em (∃ q, lead.length ≤ q ∧ q < m ∧ a q k ≠ 0) with ⟨q, h1, h2, h3⟩ | hno
    · have hnd : ¬ p ∣ a q k := fun hd => by
        have h4 := h.bnd q k h2 (by omega)
        have h5 := mod_inj (p := p) (x := a q k) (y := 0) (by rw [Int.sub_zero]; exact hd) h4 (by omega)
        exact h3 h5
      obtain ⟨inv, hi⟩ := hinv _ hnd
      let ax : Nat → Int := fun j => (a q j * inv) % p
      let a' : Nat → Nat → Int := fun i => if i = lead.length then ax else fun j => (((if i = q then a lead.length j else a i j) - (if i = q then a lead.length k else a i k) * ax j) % p + p) % p
      have e0 : a' lead.length = ax := if_pos rfl
      have e1 : ∀ i, i ≠ lead.length → a' i = fun j => (((if i = q then a lead.length j else a i j) - (if i = q then a lead.length k else a i k) * ax j) % p + p) % p := fun i hi => if_neg hi
      have hx : ∀ j, j < n → a' lead.length j = (a q j * inv) % p := fun j _ => by rw [e0]
      have ho : ∀ i, i < m → i ≠ lead.length → ∀ j, j < n → a' i j = (((if i = q then a lead.length j else a i j) - (if i = q then a lead.length k else a i k) * a' lead.length j) % p + p) % p := fun i _ hi j _ => by rw [e1 i hi, e0]
      exact ⟨a', lead ++ [k], h.step (by omega) hp h1 h2 hi hx ho, fun R hR hP => spn_step hR (hs R hR hP) (by omega) h2 hx ho⟩
    · exact ⟨a, lead, h.skip (fun i h1 h2 => Classical.byContradiction fun h3 => hno ⟨i, h1, h2, h3⟩), hs⟩
/-- Multiples of rows that add up. -/
def SgnI (p : Int) (n m : Nat) (P : Nat → Nat → Int) (u : Nat → Int) : Prop := ∃ c : Nat → Int, ∀ j, j < n → p ∣ sumI m (fun i => c i * P i j) - u j
theorem sgn_lin (p : Int) (n m : Nat) (P : Nat → Nat → Int) : LinI p n (SgnI p n m P) := by
  refine ⟨fun v w ⟨c, hc⟩ ⟨d, hd⟩ => ⟨fun i => c i - d i, fun j hj => ?_⟩, fun x v ⟨c, hc⟩ => ⟨fun i => x * c i, fun j hj => ?_⟩, fun v w h ⟨c, hc⟩ => ⟨c, fun j hj => ?_⟩⟩
  · have e : sumI m (fun i => c i * P i j) = sumI m (fun i => (c i - d i) * P i j) + sumI m (fun i => d i * P i j) := by
      rw [← sumI_add]
      exact sumI_congr fun i _ => by rw [Int.sub_mul]; omega
    have h1 := Int.dvd_sub (hc j hj) (hd j hj)
    rwa [show sumI m (fun i => c i * P i j) - v j - (sumI m (fun i => d i * P i j) - w j) = sumI m (fun i => (c i - d i) * P i j) - (v j - w j) by omega] at h1
  · have e : sumI m (fun i => x * c i * P i j) = x * sumI m (fun i => c i * P i j) := by
      rw [← sumI_mul]
      exact sumI_congr fun i _ => Int.mul_assoc _ _ _
    rw [e, ← Int.mul_sub]
    exact Int.dvd_trans (hc j hj) ⟨x, Int.mul_comm _ _⟩
  · have h1 := Int.dvd_add (hc j hj) (h j hj)
    rwa [show sumI m (fun i => c i * P i j) - v j + (v j - w j) = sumI m (fun i => c i * P i j) - w j by omega] at h1
theorem sgn_row {p : Int} {n m : Nat} {P : Nat → Nat → Int} {i : Nat} (hi : i < m) : SgnI p n m P (P i) := by
  refine ⟨fun x => if x = i then 1 else 0, fun j _ => ?_⟩
  rw [sumI_one (k := i) hi (fun x _ hx => by show (if x = i then (1 : Int) else 0) * P x j = 0; rw [if_neg hx]; omega)]
  show p ∣ (if i = i then (1 : Int) else 0) * P i j - P i j
  rw [if_pos rfl]
  exact ⟨0, by omega⟩
theorem sgn_zero {p : Int} {n m : Nat} {P : Nat → Nat → Int} {v : Nat → Int} (h : ∀ j, j < n → p ∣ v j) : SgnI p n m P v := by
  refine ⟨fun _ => 0, fun j hj => ?_⟩
  rw [sumI_zero (fun i _ => by show (0 : Int) * P i j = 0; omega)]
  rw [show 0 - v j = -(v j) by omega]
  exact Int.dvd_neg.2 (h j hj)
theorem dotI_comm (n : Nat) (v w : Nat → Int) : dotI n v w = dotI n w v := by
  unfold dotI
  exact sumI_congr fun j _ => Int.mul_comm _ _
theorem sumI_swap (f : Nat → Nat → Int) : ∀ n m, sumI n (fun j => sumI m (fun i => f i j)) = sumI m (fun i => sumI n (fun j => f i j))
  | 0, m => (sumI_zero (n := m) fun _ _ => rfl).symm
  | n + 1, m => by
    show sumI n (fun j => sumI m (fun i => f i j)) + sumI m (fun i => f i n) = sumI m (fun i => sumI n (fun j => f i j) + f i n)
    rw [sumI_swap f n m, sumI_add]
/-- What rows weigh 0 their multiples weigh 0. -/
theorem sgn_nul {p : Int} {n m : Nat} {P : Nat → Nat → Int} {u w : Nat → Int} (h : SgnI p n m P u) (hw : ∀ i, i < m → p ∣ dotI n (P i) w) : p ∣ dotI n u w := by
  obtain ⟨c, hc⟩ := h
  have e : dotI n u w = sumI m (fun i => c i * dotI n (P i) w) - sumI n (fun j => (sumI m (fun i => c i * P i j) - u j) * w j) := by
    have e1 : sumI m (fun i => c i * dotI n (P i) w) = sumI n (fun j => sumI m (fun i => c i * P i j) * w j) := by
      have e2 : sumI m (fun i => c i * dotI n (P i) w) = sumI m (fun i => sumI n (fun j => c i * P i j * w j)) :=
        sumI_congr fun i _ => by
          unfold dotI
          rw [← sumI_mul]
          exact sumI_congr fun j _ => by rw [Int.mul_assoc]
      rw [e2, ← sumI_swap]
      exact sumI_congr fun j _ => by
        rw [Int.mul_comm, ← sumI_mul]
        exact sumI_congr fun i _ => Int.mul_comm _ _
    rw [e1]
    have e3 : sumI n (fun j => sumI m (fun i => c i * P i j) * w j) = dotI n u w + sumI n (fun j => (sumI m (fun i => c i * P i j) - u j) * w j) := by
      unfold dotI
      rw [← sumI_add]
      exact sumI_congr fun j _ => by rw [Int.sub_mul]; omega
    omega
  rw [e]
  exact Int.dvd_sub (sumI_dvd fun i hi => Int.dvd_trans (hw i hi) ⟨c i, Int.mul_comm _ _⟩) (sumI_dvd fun j hj => Int.dvd_trans (hc j hj) ⟨w j, rfl⟩)
/-- If all that rows weigh 0 weighs u 0, u is made of the rows. -/
theorem sgn_of {p : Int} {n m : Nat} {P : Nat → Nat → Int} {u : Nat → Int} (hp : 1 < p) (hinv : ∀ x : Int, ¬ p ∣ x → ∃ y, p ∣ x * y - 1) (hb : ∀ i j, i < m → j < n → 0 ≤ P i j ∧ P i j < p)
    (h : ∀ w, (∀ i, i < m → p ∣ dotI n (P i) w) → p ∣ dotI n u w) : SgnI p n m P u := by
  obtain ⟨a, lead, hr, hs⟩ := red_is hp hinv hb n (Nat.le_refl _)
  have hL := sgn_lin p n m P
  have ha : ∀ i, i < m → SgnI p n m P (a i) := hs _ hL fun i hi => sgn_row hi
  -- u less its leading part: 0 everywhere
  have key : ∀ t, t ≤ lead.length → ∃ v, SgnI p n m P (fun j => u j - v j) ∧ (∀ w, (∀ i, i < m → p ∣ dotI n (P i) w) → p ∣ dotI n v w) ∧ ∀ i, i < t → v (lead.getD i 0) = 0 := by
    intro t
    induction t with
    | zero => exact fun _ => ⟨u, sgn_zero fun j _ => ⟨0, by omega⟩, h, fun i hi => by omega⟩
    | succ t ih =>
      intro ht
      obtain ⟨v, h1, h2, h3⟩ := ih (by omega)
      have htm : t < m := Nat.lt_of_lt_of_le (by omega) hr.few
      refine ⟨fun j => v j - v (lead.getD t 0) * a t j, ?_, fun w hw => ?_, fun i hi => ?_⟩
      · have h4 := hL.sub _ _ h1 (hL.mul (-(v (lead.getD t 0))) _ (ha t htm))
        refine hL.mod _ _ (fun j _ => ⟨0, ?_⟩) h4
        show u j - v j - -(v (lead.getD t 0)) * a t j - (u j - (v j - v (lead.getD t 0) * a t j)) = p * 0
        rw [Int.neg_mul]
        omega
      · rw [dotI_lin]
        exact Int.dvd_sub (h2 w hw) (Int.dvd_trans ((hr.nul w).2 hw t htm) ⟨_, Int.mul_comm _ _⟩)
      · show v (lead.getD i 0) - v (lead.getD t 0) * a t (lead.getD i 0) = 0
        by_cases e : i = t
        · subst e
          rw [hr.one i (by omega)]
          omega
        · rw [h3 i (by omega), hr.zero i t (by omega) htm (fun h9 => e h9.symm)]
          omega
  obtain ⟨v, h1, h2, h3⟩ := key lead.length (Nat.le_refl _)
  have hv : ∀ j, j < n → p ∣ v j := fun k hk => by
    cases hp9 : posL lead k with
    | some i =>
      obtain ⟨h4, h5⟩ := posL_some hp9
      rw [← h5, h3 i h4]
      exact ⟨0, by omega⟩
    | none =>
      have h4 := h2 _ (hr.wOf_nul hk hp9)
      have e : dotI n v (wOf a lead k) = v k := by
        unfold dotI
        rw [sumI_one (k := k) hk (fun j _ hj => ?_), wOf_self, Int.mul_one]
        cases hq : posL lead j with
        | none => rw [wOf_other hq hj, Int.mul_zero]
        | some i =>
          obtain ⟨h5, h6⟩ := posL_some hq
          rw [← h6, h3 i h5, Int.zero_mul]
      rw [e] at h4
      exact h4
  exact hL.mod _ _ (fun j hj => by
    rw [show u j - v j - u j = -(v j) by omega]
    exact Int.dvd_neg.2 (hv j hj)) h1
/-- Weights that forbid exist exactly if there is no signed tiling. -/
theorem sgn_iff {p : Int} {n m : Nat} {P : Nat → Nat → Int} {u : Nat → Int} (hp : 1 < p) (hinv : ∀ x : Int, ¬ p ∣ x → ∃ y, p ∣ x * y - 1) (hb : ∀ i j, i < m → j < n → 0 ≤ P i j ∧ P i j < p) :
    (∃ w, (∀ i, i < m → p ∣ dotI n (P i) w) ∧ ¬ p ∣ dotI n u w) ↔ ¬ SgnI p n m P u := by
  constructor
  · rintro ⟨w, hw, hn⟩ hs
    exact hn (sgn_nul hs hw)
  · intro hs
    refine Classical.byContradiction fun hno => hs (sgn_of hp hinv hb fun w hw => Classical.byContradiction fun hn => hno ⟨w, hw, hn⟩)
end Go.Proofs.YtkcclhnligajeaaDoor
