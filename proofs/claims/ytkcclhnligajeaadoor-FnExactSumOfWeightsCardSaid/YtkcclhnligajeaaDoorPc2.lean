/-
  Tilings, the plain facts: sums of sizes; when a list of masks is a tiling, told in two ways.
-/
import Derived.Test.YtkcclhnligajeaaDoorPc0
import Derived.Test.YtkcclhnligajeaaDoorPc1
namespace Go.Proofs.YtkcclhnligajeaaDoor

/-- The masks as the program holds them. -/
def ints (Q : List Nat) : List Int := Q.map fun (m : Nat) => (m : Int)
theorem ints_len (Q : List Nat) : (ints Q).length = Q.length := by unfold ints; exact List.length_map _
theorem ints_get (Q : List Nat) (k : Nat) : (ints Q).getD k 0 = ((Q.getD k 0 : Nat) : Int) := by
  unfold ints
  by_cases h : k < Q.length
  · simp [List.getD, h]
  · simp [List.getD, h]
theorem getD_memN {Q : List Nat} {k : Nat} (h : k < Q.length) : Q.getD k 0 ∈ Q := by simp [List.getD, h]

/-! ### Sums of sizes -/
theorem popN_sub {m f : Nat} (h : subN m f) : ∀ n, popN n f = popN n m + popN n (f - m)
  | 0 => rfl
  | n + 1 => by
    show popN n f + _ = popN n m + _ + (popN n (f - m) + _)
    rw [popN_sub h n, sub_bit h]
    cases e : m.testBit n with
    | false => simp; omega
    | true => rw [subN_bit h e]; simp; omega
theorem pop_sub {m f : Nat} (h : subN m f) : pop f = pop m + pop (f - m) := popN_sub h 40
theorem popN_zero : ∀ n, popN n 0 = 0
  | 0 => rfl
  | n + 1 => by
    show popN n 0 + _ = 0
    rw [popN_zero n, Nat.zero_testBit]
    rfl
theorem pop_zero : pop 0 = 0 := popN_zero 40
theorem pop_pos {m : Nat} (h0 : m ≠ 0) (h : m < 68719476736) : 0 < pop m := by
  have h1 := lowB_bit h0 (by omega)
  have h2 : lowB m < 40 := by
    rcases Nat.lt_or_ge (lowB m) 40 with h3 | h3
    · exact h3
    · have := Nat.testBit_lt_two_pow (x := m) (i := lowB m) (Nat.lt_of_lt_of_le h (Nat.le_trans (by decide) (Nat.pow_le_pow_right (n := 2) (by decide) h3)))
      rw [this] at h1
      cases h1
  exact popN_pos h1 40 h2
/-- What the program tells of sums: no sum is missing below n. -/
def SumTo (Q : List Nat) (d : Nat → Bool) (n : Nat) : Prop := d 0 = true ∧ ∀ q, q < n → ∀ m ∈ Q, pop m ≤ q → d (q - pop m) = true → d q = true
theorem sum_ok {Q : List Nat} {d : Nat → Bool} (h : SumTo Q d 65) : ∀ n f, f ≤ n → tilR Q f ≠ [] → d (pop f) = true
  | n, f, hf, ht => by
    by_cases h0 : f = 0
    · subst h0
      rw [pop_zero]
      exact h.1
    · obtain ⟨t, htm⟩ : ∃ t, t ∈ tilR Q f := List.exists_mem_of_ne_nil _ ht
      obtain ⟨m, r, _, hm, hfit, hr⟩ := til_mem h0 htm
      have h1 := fit_sub hfit
      have h2 := pop_sub (fit_parts hfit).2
      have h3 := pop_le f
      cases n with
      | zero => omega
      | succ n =>
        have h4 := sum_ok h n (f - m) (by omega) (List.ne_nil_of_mem hr)
        exact h.2 (pop f) (by omega) m hm (by omega) (by rw [show pop f - pop m = pop (f - m) by omega]; exact h4)
theorem sum_no {Q : List Nat} {d : Nat → Bool} (h : SumTo Q d 65) {f : Nat} (hd : d (pop f) = false) : cntR Q f = 0 := by
  unfold cntR
  by_cases e : tilR Q f = []
  · rw [e]; rfl
  · have := sum_ok h f f (Nat.le_refl _) e
    rw [this] at hd
    cases hd
/-- Within a round of the program: the first i masks have been looked at for p places. -/
def SumAt (Q : List Nat) (d : Nat → Bool) (p i : Nat) : Prop := SumTo Q d p ∧ ∀ j, j < i → pop (Q.getD j 0) ≤ p → d (p - pop (Q.getD j 0)) = true → d p = true
def setB1 (d : Nat → Bool) (p : Nat) : Nat → Bool := fun j => if j = p then true else d j
theorem sumAt_start {Q : List Nat} {d : Nat → Bool} {p : Nat} (h : SumTo Q d p) : SumAt Q d p 0 := ⟨h, fun j hj => by omega⟩
theorem sumAt_yes {Q : List Nat} {d : Nat → Bool} {p i : Nat} (h : SumAt Q d p i) : SumAt Q (setB1 d p) p (i + 1) := by
  refine ⟨⟨?_, fun q hq m hm h1 h2 => ?_⟩, fun j _ _ _ => ?_⟩
  · unfold setB1
    split
    · rfl
    · exact h.1.1
  · unfold setB1 at h2 ⊢
    rw [if_neg (by omega)] at h2
    rw [if_neg (by omega)]
    exact h.1.2 q hq m hm h1 h2
  · unfold setB1
    rw [if_pos rfl]
theorem sumAt_no {Q : List Nat} {d : Nat → Bool} {p i : Nat} (h : SumAt Q d p i) (hn : pop (Q.getD i 0) ≤ p → d (p - pop (Q.getD i 0)) = false) : SumAt Q d p (i + 1) := by
  refine ⟨h.1, fun j hj h1 h2 => ?_⟩
  rcases Nat.lt_or_ge j i with h3 | h3
  · exact h.2 j h3 h1 h2
  · have : j = i := by omega
    subst this
    rw [hn h1] at h2
    cases h2
theorem sumAt_end {Q : List Nat} {d : Nat → Bool} {p : Nat} (h : SumAt Q d p Q.length) : SumTo Q d (p + 1) := by
  refine ⟨h.1.1, fun q hq m hm h1 h2 => ?_⟩
  rcases Nat.lt_or_ge q p with h3 | h3
  · exact h.1.2 q h3 m hm h1 h2
  · have : q = p := by omega
    subst this
    obtain ⟨j, hj, e⟩ := List.getElem_of_mem hm
    have e2 : Q.getD j 0 = m := by simp [List.getD, hj, e]
    exact h.2 j hj (by rw [e2]; exact h1) (by rw [e2]; exact h2)
theorem sumTo_start (Q : List Nat) : SumTo Q (setB1 (fun _ => false) 0) 0 := ⟨by unfold setB1; rfl, fun q hq => by omega⟩

/-! ### All of the first -/
def allN (p : Nat → Bool) (k : Nat) : Bool := (List.range k).all p
theorem allN_zero (p : Nat → Bool) : allN p 0 = true := rfl
theorem allN_step (p : Nat → Bool) (k : Nat) : allN p (k + 1) = (allN p k && p k) := by
  unfold allN
  rw [List.range_succ, List.all_append]
  simp
theorem allN_iff (p : Nat → Bool) (k : Nat) : allN p k = true ↔ ∀ j, j < k → p j = true := by
  unfold allN
  simp [List.all_eq_true]
theorem allN_false {p : Nat → Bool} {k n : Nat} (h : p k = false) (hk : k < n) : allN p n = false := by
  cases e : allN p n with
  | false => rfl
  | true =>
    rw [(allN_iff p n).1 e k hk] at h
    cases h

/-! ### A tiling, as the model tells it, and as the program does -/
def atI (l : List Int) (j : Nat) : Nat := (l.getD j 0).toNat
/-- The places of the first k. -/
def usd (l : List Int) (k : Nat) : Nat := (l.take k).foldl (fun u m => u ||| m.toNat) 0
theorem usd_zero (l : List Int) : usd l 0 = 0 := rfl
theorem usd_step {l : List Int} {k : Nat} (h : k < l.length) : usd l (k + 1) = usd l k ||| atI l k := by
  unfold usd
  rw [take_one h 0, List.foldl_append]
  rfl
theorem usd_bit {l : List Int} (i : Nat) : ∀ k, k ≤ l.length → ((usd l k).testBit i = true ↔ ∃ j, j < k ∧ (atI l j).testBit i = true)
  | 0, _ => by rw [usd_zero]; simp
  | k + 1, h => by
    rw [usd_step (by omega), Nat.testBit_or, Bool.or_eq_true, usd_bit i k (by omega)]
    constructor
    · rintro (⟨j, h1, h2⟩ | h1)
      · exact ⟨j, by omega, h2⟩
      · exact ⟨k, by omega, h1⟩
    · rintro ⟨j, h1, h2⟩
      rcases Nat.lt_or_ge j k with h3 | h3
      · exact .inl ⟨j, h3, h2⟩
      · have : j = k := by omega
        subst this
        exact .inr h2
def mT (P l : List Int) (j : Nat) : Bool := P.contains (l.getD j 0) && ((usd l j &&& atI l j == 0) && !(decide (0 < j) && decide (lowB (atI l j) < lowB (atI l (j - 1)))))
/-- The places that the first k leave free. -/
def fre (F : Nat) (l : List Int) : Nat → Nat
  | 0 => F
  | k + 1 => fre F l k - atI l k
def pT (P : List Int) (F : Nat) (l : List Int) (j : Nat) : Bool := decide (0 ≤ l.getD j 0) && (decide (atI l j &&& fre F l j = atI l j) && (decide (lowB (atI l j) = lowB (fre F l j)) && P.contains (l.getD j 0)))
theorem pT_parts {P : List Int} {F : Nat} {l : List Int} {j : Nat} (h : pT P F l j = true) : 0 ≤ l.getD j 0 ∧ subN (atI l j) (fre F l j) ∧ lowB (atI l j) = lowB (fre F l j) ∧ l.getD j 0 ∈ P := by
  unfold pT at h
  simp only [Bool.and_eq_true, decide_eq_true_eq, List.contains_iff_mem] at h
  exact h
theorem mT_parts {P l : List Int} {j : Nat} (h : mT P l j = true) : l.getD j 0 ∈ P ∧ usd l j &&& atI l j = 0 ∧ (0 < j → lowB (atI l (j - 1)) ≤ lowB (atI l j)) := by
  unfold mT at h
  simp only [Bool.and_eq_true, List.contains_iff_mem, beq_iff_eq, Bool.not_eq_true', Bool.and_eq_false_iff, decide_eq_false_iff_not] at h
  refine ⟨h.1, h.2.1, fun h0 => ?_⟩
  rcases h.2.2 with h1 | h1 <;> omega
theorem pT_of {P : List Int} {F : Nat} {l : List Int} {j : Nat} (h1 : 0 ≤ l.getD j 0) (h2 : subN (atI l j) (fre F l j)) (h3 : lowB (atI l j) = lowB (fre F l j)) (h4 : l.getD j 0 ∈ P) : pT P F l j = true := by
  unfold pT
  simp only [Bool.and_eq_true, decide_eq_true_eq, List.contains_iff_mem]
  exact ⟨h1, h2, h3, h4⟩
theorem mT_of {P l : List Int} {j : Nat} (h1 : l.getD j 0 ∈ P) (h2 : usd l j &&& atI l j = 0) (h3 : 0 < j → lowB (atI l (j - 1)) ≤ lowB (atI l j)) : mT P l j = true := by
  unfold mT
  simp only [Bool.and_eq_true, List.contains_iff_mem, beq_iff_eq, Bool.not_eq_true', Bool.and_eq_false_iff, decide_eq_false_iff_not]
  refine ⟨h1, h2, ?_⟩
  rcases Nat.eq_zero_or_pos j with h4 | h4
  · left; omega
  · right; have := h3 h4; omega
theorem fre_le (F : Nat) (l : List Int) : ∀ k, fre F l k ≤ F
  | 0 => Nat.le_refl _
  | k + 1 => by
    have := fre_le F l k
    show fre F l k - _ ≤ F
    omega
theorem fre_bit {P : List Int} {F : Nat} {l : List Int} (i : Nat) : ∀ k, k ≤ l.length → allN (pT P F l) k = true → (fre F l k).testBit i = (F.testBit i && !(usd l k).testBit i) ∧ ((usd l k).testBit i = true → F.testBit i = true)
  | 0, _, _ => by rw [usd_zero]; simp [fre]
  | k + 1, h, hp => by
    rw [allN_step, Bool.and_eq_true] at hp
    obtain ⟨h1, h2⟩ := fre_bit i k (by omega) hp.1
    obtain ⟨_, hs, _, _⟩ := pT_parts hp.2
    show (fre F l k - atI l k).testBit i = _ ∧ _
    rw [sub_bit hs, h1, usd_step (by omega), Nat.testBit_or]
    have h3 := @subN_bit _ _ i hs
    rw [h1] at h3
    revert h2 h3
    cases F.testBit i <;> cases (usd l k).testBit i <;> cases (atI l k).testBit i <;> simp
theorem usd_pT {P : List Int} {F : Nat} {l : List Int} {k : Nat} (h : k < l.length) (hp : allN (pT P F l) (k + 1) = true) : usd l k &&& atI l k = 0 := by
  rw [allN_step, Bool.and_eq_true] at hp
  obtain ⟨_, hs, _, _⟩ := pT_parts hp.2
  apply Nat.eq_of_testBit_eq
  intro i
  rw [Nat.testBit_and, Nat.zero_testBit]
  cases e : (atI l k).testBit i with
  | false => simp
  | true =>
    have h3 := subN_bit hs e
    rw [(fre_bit i k (by omega) hp.1).1] at h3
    revert h3
    cases (usd l k).testBit i <;> simp
def isTm (P : List Int) (F : Nat) (l : List Int) : Bool := allN (mT P l) l.length && decide (usd l l.length = F)
def isTp (P : List Int) (F : Nat) (l : List Int) : Bool := allN (pT P F l) l.length && decide (fre F l l.length = 0)
theorem tiling_eq {P : List Int} {F : Nat} (hP : ∀ x ∈ P, 0 < x ∧ x < 68719476736) (hF : F < 68719476736) (l : List Int) : isTp P F l = isTm P F l := by
  rw [Bool.eq_iff_iff]
  unfold isTm isTp
  simp only [Bool.and_eq_true, decide_eq_true_eq]
  constructor
  · rintro ⟨hp, h0⟩
    have hp' := (allN_iff _ _).1 hp
    refine ⟨(allN_iff _ _).2 fun j hj => ?_, ?_⟩
    · obtain ⟨p1, p2, p3, p4⟩ := pT_parts (hp' j hj)
      have hpos := hP _ p4
      refine mT_of p4 (usd_pT hj ((allN_iff _ _).2 fun k hk => hp' k (by omega))) fun hj0 => ?_
      obtain ⟨q1, q2, q3, q4⟩ := pT_parts (hp' (j - 1) (by omega))
      have hk := fre_le F l j
      have hk1 := fre_le F l (j - 1)
      have hne : fre F l j ≠ 0 := by
        have := subN_le p2
        unfold atI at this
        omega
      have hb := lowB_bit hne (by omega)
      have hb2 : (fre F l (j - 1)).testBit (lowB (fre F l j)) = true := by
        have e : fre F l j = fre F l (j - 1) - atI l (j - 1) := by
          obtain ⟨j', rfl⟩ : ∃ j', j = j' + 1 := ⟨j - 1, by omega⟩
          rfl
        have h5 : (fre F l (j - 1) - atI l (j - 1)).testBit (lowB (fre F l j)) = true := by rw [← e]; exact hb
        rw [sub_bit q2, Bool.and_eq_true] at h5
        exact h5.1
      rw [p3, q3]
      exact lowB_le (by omega) hb2
    · apply Nat.eq_of_testBit_eq
      intro i
      obtain ⟨h1, h2⟩ := fre_bit i l.length (Nat.le_refl _) hp
      rw [h0, Nat.zero_testBit] at h1
      revert h1 h2
      cases F.testBit i <;> cases (usd l l.length).testBit i <;> simp
  · rintro ⟨hm, hu⟩
    have hm' := (allN_iff _ _).1 hm
    have hmono : ∀ d j, j + d < l.length → lowB (atI l j) ≤ lowB (atI l (j + d)) := by
      intro d
      induction d with
      | zero => exact fun j _ => Nat.le_refl _
      | succ d ih =>
        intro j hj
        have h1 := ih j (by omega)
        have h2 := (mT_parts (hm' (j + (d + 1)) hj)).2.2 (by omega)
        rw [show j + (d + 1) - 1 = j + d by omega] at h2
        omega
    have hpos : ∀ j, j < l.length → atI l j ≠ 0 ∧ atI l j < 68719476736 ∧ 0 ≤ l.getD j 0 := fun j hj => by
      have := hP _ (mT_parts (hm' j hj)).1
      unfold atI
      omega
    have key : ∀ k, k ≤ l.length → allN (pT P F l) k = true := by
      intro k
      induction k with
      | zero => exact fun _ => rfl
      | succ k ih =>
        intro hk
        have hpk := ih (by omega)
        rw [allN_step, hpk, Bool.true_and]
        obtain ⟨m1, m2, _⟩ := mT_parts (hm' k (by omega))
        obtain ⟨z1, z2, z3⟩ := hpos k (by omega)
        have hsub : subN (atI l k) (fre F l k) := subN_of fun i hi => by
          rw [(fre_bit i k (by omega) hpk).1, ← hu]
          have h1 : (usd l l.length).testBit i = true := (usd_bit i _ (Nat.le_refl _)).2 ⟨k, by omega, hi⟩
          have h2 := congrArg (fun x => x.testBit i) m2
          simp only [Nat.testBit_and, Nat.zero_testBit] at h2
          rw [hi] at h2
          rw [h1]
          revert h2
          cases (usd l k).testBit i <;> simp
        refine pT_of z3 hsub (lowB_eq (by have := fre_le F l k; omega) (subN_bit hsub (lowB_bit z1 (by omega))) fun i hi => ?_).symm m1
        rw [(fre_bit i k (by omega) hpk).1, ← hu, Bool.and_eq_true] at hi
        obtain ⟨j, hj, hb⟩ := (usd_bit i _ (Nat.le_refl _)).1 hi.1
        have hjk : k ≤ j := by
          rcases Nat.lt_or_ge j k with h3 | h3
          · have h4 := (usd_bit i k (by omega)).2 ⟨j, h3, hb⟩
            rw [h4] at hi
            simp at hi
          · exact h3
        have h5 := hmono (j - k) k (by omega)
        rw [show k + (j - k) = j by omega] at h5
        have h6 := lowB_le (by have := hpos j hj; omega) hb
        omega
    refine ⟨key _ (Nat.le_refl _), ?_⟩
    apply Nat.eq_of_testBit_eq
    intro i
    rw [(fre_bit i l.length (Nat.le_refl _) (key _ (Nat.le_refl _))).1, hu, Nat.zero_testBit]
    cases F.testBit i <;> rfl
end Go.Proofs.YtkcclhnligajeaaDoor
