/-
  The placements as masks, the counts and the ways of a region: the plain facts.
  What is listed is a tiling, no two are the same, numbers and counts agree: the plain facts.
-/
import Derived.Test.YtkcclhnligajeaaDoorPc2
namespace Go.Proofs.YtkcclhnligajeaaDoor

section
theorem plR_pos (W : Int) (l : List Int) (s : List Cl) : ∀ m ∈ plR W l s, 0 < m := by
  intro m hm
  cases h : isReg W l with
  | false => rw [plR_no h] at hm; cases hm
  | true =>
    obtain ⟨N, rfl, hr⟩ := isReg_out h
    obtain ⟨o, ho, y, x, _, rfl⟩ := (mem_plR hr).1 hm
    have hs := (orient_mem ho).2.1.shape
    have hl := ((isShape_iff o).1 hs).1.1
    have h1 : (moveC x y o).length = o.length := by unfold moveC; exact List.length_map _
    obtain ⟨c, hc⟩ : ∃ c, c ∈ moveC (x : Int) (y : Int) o := List.exists_mem_of_length_pos (by omega)
    have hb := (orB_bit N (moveC x y o) (bN N c)).2 ⟨c, hc, rfl⟩
    have h0 : orB N (moveC x y o) ≠ 0 := fun e => by rw [e] at hb; simp at hb
    omega
/-- All placements, as masks. -/
def pQ (W : Int) (l : List Int) (ps : List (List Cl)) : List Nat := (apR W l ps).map Int.toNat
theorem apR_bd (W : Int) (l : List Int) (ps : List (List Cl)) : ∀ m ∈ apR W l ps, 0 < m ∧ m < 68719476736 := by
  intro m hm
  cases h : arePc ps with
  | false => rw [apR_no h] at hm; cases hm
  | true =>
    rw [apR_yes h, mem_ascI] at hm
    refine ⟨?_, (apTo_bd W l ps _ m hm).2⟩
    unfold apTo at hm
    obtain ⟨s, _, h2⟩ := List.mem_flatMap.1 hm
    exact plR_pos W l s m h2
theorem pQ_ints (W : Int) (l : List Int) (ps : List (List Cl)) : ints (pQ W l ps) = apR W l ps := by
  unfold ints pQ
  rw [List.map_map]
  conv => rhs; rw [← List.map_id (apR W l ps)]
  apply List.map_congr_left
  intro m hm
  have := apR_bd W l ps m hm
  show ((m.toNat : Nat) : Int) = m
  omega
theorem pQ_ok (W : Int) (l : List Int) (ps : List (List Cl)) : ∀ m ∈ pQ W l ps, m ≠ 0 ∧ m < 68719476736 := by
  intro m hm
  unfold pQ at hm
  obtain ⟨z, hz, rfl⟩ := List.mem_map.1 hm
  have := apR_bd W l ps z hz
  omega
theorem pQ_len (W : Int) (l : List Int) (ps : List (List Cl)) : (pQ W l ps).length ≤ 1440 := by
  unfold pQ
  rw [List.length_map]
  cases h : arePc ps with
  | false => rw [apR_no h]; simp
  | true =>
    rw [apR_yes h]
    have h1 := ascI_len (apTo W l ps ps.length)
    have h2 := apTo_len W l ps ps.length (Nat.le_refl _)
    have h3 := (arePc_len h).2
    omega
/-- Region and pieces are valid. -/
def okT (W : Int) (l : List Int) (ps : List (List Cl)) : Bool := isReg W l && arePc ps
/-- How many tilings, at most so many. -/
def cntT (W : Int) (l : List Int) (ps : List (List Cl)) : Int := if okT W l ps = true then ((min (cntR (pQ W l ps) (maskR W l)) 2000 : Nat) : Int) else -1
theorem cntT_no {W : Int} {l : List Int} {ps : List (List Cl)} (h : okT W l ps = false) : cntT W l ps = -1 := if_neg (by rw [h]; simp)
theorem cntT_yes {W : Int} {l : List Int} {ps : List (List Cl)} (h : okT W l ps = true) : cntT W l ps = ((min (cntR (pQ W l ps) (maskR W l)) 2000 : Nat) : Int) := if_pos h
/-- The tiling with a number. -/
def tilN (W : Int) (l : List Int) (ps : List (List Cl)) (n : Int) : Option (List Nat) := if okT W l ps = true ∧ 0 ≤ n ∧ n ≤ 199 then (tilR (pQ W l ps) (maskR W l))[n.toNat]? else none
theorem tilN_no {W : Int} {l : List Int} {ps : List (List Cl)} {n : Int} (h : ¬ (okT W l ps = true ∧ 0 ≤ n ∧ n ≤ 199)) : tilN W l ps n = none := if_neg h
theorem tilN_yes {W : Int} {l : List Int} {ps : List (List Cl)} {n : Nat} (h : okT W l ps = true) (hn : n ≤ 199) : tilN W l ps n = (tilR (pQ W l ps) (maskR W l))[n]? := by
  unfold tilN
  rw [if_pos ⟨h, by omega, by omega⟩]
  rfl
/-- The tiling's masks, if there is one. -/
def wayI (t : Option (List Nat)) : List Int := ints (t.getD [])
def isTil (W : Int) (l : List Int) (ps : List (List Cl)) (ms : List Int) : Bool := okT W l ps && isTm (apR W l ps) (maskR W l) ms
theorem isTil_no {W : Int} {l : List Int} {ps : List (List Cl)} (h : okT W l ps = false) (ms : List Int) : isTil W l ps ms = false := by unfold isTil; rw [h]; rfl
theorem isTil_m {W : Int} {l : List Int} {ps : List (List Cl)} (h : okT W l ps = true) (ms : List Int) : isTil W l ps ms = isTm (apR W l ps) (maskR W l) ms := by unfold isTil; rw [h]; rfl
theorem isTil_p {W : Int} {l : List Int} {ps : List (List Cl)} (h : okT W l ps = true) (ms : List Int) : isTil W l ps ms = isTp (apR W l ps) (maskR W l) ms := by
  rw [isTil_m h, tiling_eq (apR_bd W l ps) (maskR_lt W l)]
theorem til_len (Q : List Nat) : ∀ n f, f ≤ n → f < 2 ^ 64 → ∀ t ∈ tilR Q f, t.length ≤ pop f ∨ 68719476736 ≤ f
  | n, f, hf, h64, t, ht => by
    by_cases hb : 68719476736 ≤ f
    · exact .inr hb
    left
    by_cases h0 : f = 0
    · subst h0
      rw [tilR_zero] at ht
      rw [List.mem_singleton.1 ht]
      exact Nat.zero_le _
    · obtain ⟨m, r, rfl, hm, hfit, hr⟩ := til_mem h0 ht
      have h1 := fit_sub hfit
      have h2 := pop_sub (fit_parts hfit).2
      have h3 := pop_pos (m := m) (by have := fit_pos hfit; omega) (by omega)
      cases n with
      | zero => omega
      | succ n =>
        rcases til_len Q n (f - m) (by omega) (by omega) r hr with h4 | h4
        · simp only [List.length_cons]; omega
        · omega
theorem til_len40 {Q : List Nat} {f : Nat} (hf : f < 68719476736) {t : List Nat} (h : t ∈ tilR Q f) : t.length ≤ 40 := by
  rcases til_len Q f f (Nat.le_refl _) (by omega) t h with h1 | h1
  · exact Nat.le_trans h1 (pop_le f)
  · omega
end

section
theorem fre_cons (F : Nat) (z : Int) (l : List Int) : ∀ k, fre F (z :: l) (k + 1) = fre (F - z.toNat) l k
  | 0 => rfl
  | k + 1 => by
    show fre F (z :: l) (k + 1) - atI (z :: l) (k + 1) = fre (F - z.toNat) l k - atI l k
    rw [fre_cons F z l k]
    rfl
theorem pT_cons (P : List Int) (F : Nat) (z : Int) (l : List Int) (j : Nat) : pT P F (z :: l) (j + 1) = pT P (F - z.toNat) l j := by
  unfold pT
  rw [fre_cons]
  rfl
theorem til_isTp {Q : List Nat} (hQ : ∀ m ∈ Q, m ≠ 0 ∧ m < 68719476736) : ∀ n f, f ≤ n → f < 68719476736 → ∀ t ∈ tilR Q f, isTp (ints Q) f (ints t) = true
  | n, f, hf, h36, t, ht => by
    by_cases h0 : f = 0
    · subst h0
      rw [tilR_zero] at ht
      rw [List.mem_singleton.1 ht]
      rfl
    · obtain ⟨m, r, rfl, hm, hfit, hr⟩ := til_mem h0 ht
      have h1 := fit_sub hfit
      cases n with
      | zero => omega
      | succ n =>
        have ih := til_isTp hQ n (f - m) (by omega) (by omega) r hr
        unfold isTp at ih ⊢
        rw [Bool.and_eq_true, decide_eq_true_eq] at ih ⊢
        have e1 : ints (m :: r) = (m : Int) :: ints r := rfl
        have e2 : ((m : Int)).toNat = m := by omega
        rw [e1]
        constructor
        · rw [allN_iff]
          intro j hj
          cases j with
          | zero =>
            refine pT_of (by show (0 : Int) ≤ (m : Int); omega) ?_ ?_ ?_
            · show subN ((m : Int)).toNat f
              rw [e2]
              exact (fit_parts hfit).2
            · show lowB ((m : Int)).toNat = lowB f
              rw [e2]
              exact fit_low hfit (by omega)
            · show (m : Int) ∈ ints Q
              exact List.mem_map_of_mem hm
          | succ j =>
            rw [pT_cons, e2]
            exact (allN_iff _ _).1 ih.1 j (by simp only [List.length_cons] at hj; omega)
        · show fre f ((m : Int) :: ints r) ((ints r).length + 1) = 0
          rw [fre_cons, e2]
          exact ih.2
theorem seg_nodup {Q : List Nat} {f : Nat} : ∀ C : List Nat, C.Nodup → (∀ m ∈ C, (tilR Q (f - m)).Nodup) → (segR Q C f).Nodup
  | [], _, _ => List.nodup_nil
  | m :: C, h, hC => by
    have e : segR Q (m :: C) f = (tilR Q (f - m)).map (m :: ·) ++ segR Q C f := by
      unfold segR
      rw [List.flatMap_cons]
    obtain ⟨h1, h2⟩ := List.nodup_cons.1 h
    rw [e, List.nodup_append]
    refine ⟨?_, seg_nodup C h2 (fun x hx => hC x (by simp [hx])), fun a ha b hb hab => ?_⟩
    · exact List.Pairwise.map _ (fun x y hxy h9 => hxy (List.cons.inj h9).2) (hC m (by simp))
    · subst hab
      obtain ⟨s, _, rfl⟩ := List.mem_map.1 ha
      unfold segR at hb
      obtain ⟨m', hm', hb⟩ := List.mem_flatMap.1 hb
      obtain ⟨s', _, e2⟩ := List.mem_map.1 hb
      have e3 : m' = m := (List.cons.inj e2).1
      subst e3
      exact h1 hm'
theorem til_nodup {Q : List Nat} (hQ : Q.Nodup) : ∀ n f, f ≤ n → (tilR Q f).Nodup
  | n, f, hf => by
    by_cases h0 : f = 0
    · subst h0
      rw [tilR_zero]
      simp
    · rw [tilR_step Q h0]
      refine seg_nodup _ (hQ.filter _) fun m hm => ?_
      have h1 := fit_sub (List.mem_filter.1 hm).2
      cases n with
      | zero => omega
      | succ n => exact til_nodup hQ n (f - m) (by omega)
theorem til_apart {Q : List Nat} (hQ : Q.Nodup) {f n : Nat} {s t : List Nat} (hn : 0 < n) (hs : (tilR Q f)[n - 1]? = some s) (ht : (tilR Q f)[n]? = some t) : s ≠ t := by
  intro e
  subst e
  have h1 := til_nodup hQ f f (Nat.le_refl _)
  obtain ⟨a1, a2⟩ := List.getElem?_eq_some_iff.1 hs
  obtain ⟨b1, b2⟩ := List.getElem?_eq_some_iff.1 ht
  have h2 := List.pairwise_iff_getElem.1 h1 (n - 1) n a1 b1 (by omega)
  exact h2 (by rw [a2, b2])
theorem ints_inj {a b : List Nat} (h : ints a = ints b) : a = b := by
  have h1 := congrArg (List.map Int.toNat) h
  unfold ints at h1
  rw [List.map_map, List.map_map] at h1
  have e : ∀ l : List Nat, l.map (Int.toNat ∘ fun (m : Nat) => (m : Int)) = l := fun l => by
    conv => rhs; rw [← List.map_id l]
    apply List.map_congr_left
    intro x _
    show ((x : Int)).toNat = x
    omega
  rw [e, e] at h1
  exact h1
theorem pQ_nodup (W : Int) (l : List Int) (ps : List (List Cl)) : (pQ W l ps).Nodup := by
  have h : SrtG ltI (apR W l ps) := by
    cases h : arePc ps with
    | false => rw [apR_no h]; exact List.Pairwise.nil
    | true => rw [apR_yes h]; exact ascI_srt _
  rw [← pQ_ints] at h
  unfold ints at h
  have h2 := List.pairwise_map.1 h
  exact h2.imp (fun {a b} hab e => by
    subst e
    unfold ltI at hab
    simp at hab)
/-! ### What the law says -/
theorem tilN_some {W : Int} {l : List Int} {ps : List (List Cl)} {n : Int} {t : List Nat} (h : tilN W l ps n = some t) : okT W l ps = true ∧ 0 ≤ n ∧ n ≤ 199 ∧ (tilR (pQ W l ps) (maskR W l))[n.toNat]? = some t := by
  unfold tilN at h
  split at h
  · rename_i h1
    exact ⟨h1.1, h1.2.1, h1.2.2, h⟩
  · cases h
theorem cov_is {W : Int} {l : List Int} {ps : List (List Cl)} {n : Int} {t : List Nat} (h : tilN W l ps n = some t) : isTil W l ps (ints t) = true := by
  obtain ⟨h1, _, _, h2⟩ := tilN_some h
  rw [isTil_p h1, ← pQ_ints]
  exact til_isTp (pQ_ok W l ps) _ _ (Nat.le_refl _) (maskR_lt W l) t (List.mem_of_getElem? h2)
theorem cov_more {W : Int} {l : List Int} {ps : List (List Cl)} {n : Int} {t : List Nat} (h : tilN W l ps n = some t) : n < cntT W l ps := by
  obtain ⟨h1, h2, h3, h4⟩ := tilN_some h
  obtain ⟨h5, _⟩ := List.getElem?_eq_some_iff.1 h4
  rw [cntT_yes h1]
  unfold cntR
  omega
theorem cov_none {W : Int} {l : List Int} {ps : List (List Cl)} {n : Int} (h : tilN W l ps n = none) (h0 : 0 ≤ n) (h1 : n ≤ 199) : cntT W l ps ≤ n := by
  cases h2 : okT W l ps with
  | false => rw [cntT_no h2]; omega
  | true =>
    obtain ⟨k, rfl⟩ : ∃ k : Nat, n = k := ⟨n.toNat, by omega⟩
    rw [tilN_yes h2 (by omega), List.getElem?_eq_none_iff] at h
    rw [cntT_yes h2]
    unfold cntR
    omega
theorem cov_has (W : Int) (l : List Int) (ps : List (List Cl)) : decide (0 < cntT W l ps) = (tilN W l ps 0).isSome := by
  cases h : tilN W l ps 0 with
  | none =>
    have := cov_none h (by omega) (by omega)
    rw [decide_eq_false (by omega)]
    rfl
  | some t =>
    have := cov_more h
    rw [decide_eq_true this]
    rfl
end

end Go.Proofs.YtkcclhnligajeaaDoor
