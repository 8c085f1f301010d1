/-
  The placements as masks, the counts and the ways of a region: the plain facts.
-/
import Derived.Test.YtkjlmgkjcmebbaaPc2
namespace Go.Proofs.Ytkjlmgkjcmebbaa

theorem plR_pos (W : Int) (l : List Int) (s : List Cl) : ∀ m ∈ plR W l s, 0 < m := by
  intro m hm
  cases h : isReg W l with
  | false => rw [plR_no h] at hm; cases hm
  | true =>
    obtain ⟨N, rfl, hr⟩ := isReg_out h
    obtain ⟨o, ho, y, x, _, rfl⟩ := (mem_plR hr).1 hm
    have hs := (orient_mem ho).2.1.shape
    have hl := ((isShape_iff o).1 hs).1.1
    have h1 : (moveC x y o).length = o.length := by unfold moveC; exact List.length_map _
    obtain ⟨c, hc⟩ : ∃ c, c ∈ moveC (x : Int) (y : Int) o := List.exists_mem_of_length_pos (by omega)
    have hb := (orB_bit N (moveC x y o) (bN N c)).2 ⟨c, hc, rfl⟩
    have h0 : orB N (moveC x y o) ≠ 0 := fun e => by rw [e] at hb; simp at hb
    omega
/-- All placements, as masks. -/
def pQ (W : Int) (l : List Int) (ps : List (List Cl)) : List Nat := (apR W l ps).map Int.toNat
theorem apR_bd (W : Int) (l : List Int) (ps : List (List Cl)) : ∀ m ∈ apR W l ps, 0 < m ∧ m < 68719476736 := by
  intro m hm
  cases h : arePc ps with
  | false => rw [apR_no h] at hm; cases hm
  | true =>
    rw [apR_yes h, mem_ascI] at hm
    refine ⟨?_, (apTo_bd W l ps _ m hm).2⟩
    unfold apTo at hm
    obtain ⟨s, _, h2⟩ := List.mem_flatMap.1 hm
    exact plR_pos W l s m h2
theorem pQ_ints (W : Int) (l : List Int) (ps : List (List Cl)) : ints (pQ W l ps) = apR W l ps := by
  unfold ints pQ
  rw [List.map_map]
  conv => rhs; rw [← List.map_id (apR W l ps)]
  apply List.map_congr_left
  intro m hm
  have := apR_bd W l ps m hm
  show ((m.toNat : Nat) : Int) = m
  omega
theorem pQ_ok (W : Int) (l : List Int) (ps : List (List Cl)) : ∀ m ∈ pQ W l ps, m ≠ 0 ∧ m < 68719476736 := by
  intro m hm
  unfold pQ at hm
  obtain ⟨z, hz, rfl⟩ := List.mem_map.1 hm
  have := apR_bd W l ps z hz
  omega
theorem pQ_len (W : Int) (l : List Int) (ps : List (List Cl)) : (pQ W l ps).length ≤ 1440 := by
  unfold pQ
  rw [List.length_map]
  cases h : arePc ps with
  | false => rw [apR_no h]; simp
  | true =>
    rw [apR_yes h]
    have h1 := ascI_len (apTo W l ps ps.length)
    have h2 := apTo_len W l ps ps.length (Nat.le_refl _)
    have h3 := (arePc_len h).2
    omega
/-- Region and pieces are valid. -/
def okT (W : Int) (l : List Int) (ps : List (List Cl)) : Bool := isReg W l && arePc ps
/-- How many tilings, at most so many. -/
def cntT (W : Int) (l : List Int) (ps : List (List Cl)) : Int := if okT W l ps = true then ((min (cntR (pQ W l ps) (maskR W l)) 2000 : Nat) : Int) else -1
theorem cntT_no {W : Int} {l : List Int} {ps : List (List Cl)} (h : okT W l ps = false) : cntT W l ps = -1 := if_neg (by rw [h]; simp)
theorem cntT_yes {W : Int} {l : List Int} {ps : List (List Cl)} (h : okT W l ps = true) : cntT W l ps = ((min (cntR (pQ W l ps) (maskR W l)) 2000 : Nat) : Int) := if_pos h
/-- The tiling with a number. -/
def tilN (W : Int) (l : List Int) (ps : List (List Cl)) (n : Int) : Option (List Nat) := if okT W l ps = true ∧ 0 ≤ n ∧ n ≤ 199 then (tilR (pQ W l ps) (maskR W l))[n.toNat]? else none
theorem tilN_no {W : Int} {l : List Int} {ps : List (List Cl)} {n : Int} (h : ¬ (okT W l ps = true ∧ 0 ≤ n ∧ n ≤ 199)) : tilN W l ps n = none := if_neg h
theorem tilN_yes {W : Int} {l : List Int} {ps : List (List Cl)} {n : Nat} (h : okT W l ps = true) (hn : n ≤ 199) : tilN W l ps n = (tilR (pQ W l ps) (maskR W l))[n]? := by
  unfold tilN
  rw [if_pos ⟨h, by omega, by omega⟩]
  rfl
/-- The tiling's masks, if there is one. -/
def wayI (t : Option (List Nat)) : List Int := ints (t.getD [])
def isTil (W : Int) (l : List Int) (ps : List (List Cl)) (ms : List Int) : Bool := okT W l ps && isTm (apR W l ps) (maskR W l) ms
theorem isTil_no {W : Int} {l : List Int} {ps : List (List Cl)} (h : okT W l ps = false) (ms : List Int) : isTil W l ps ms = false := by unfold isTil; rw [h]; rfl
theorem isTil_m {W : Int} {l : List Int} {ps : List (List Cl)} (h : okT W l ps = true) (ms : List Int) : isTil W l ps ms = isTm (apR W l ps) (maskR W l) ms := by unfold isTil; rw [h]; rfl
theorem isTil_p {W : Int} {l : List Int} {ps : List (List Cl)} (h : okT W l ps = true) (ms : List Int) : isTil W l ps ms = isTp (apR W l ps) (maskR W l) ms := by
  rw [isTil_m h, tiling_eq (apR_bd W l ps) (maskR_lt W l)]
theorem til_len (Q : List Nat) : ∀ n f, f ≤ n → f < 2 ^ 64 → ∀ t ∈ tilR Q f, t.length ≤ pop f ∨ 68719476736 ≤ f
  | n, f, hf, h64, t, ht => by
    by_cases hb : 68719476736 ≤ f
    · exact .inr hb
    left
    by_cases h0 : f = 0
    · subst h0
      rw [tilR_zero] at ht
      rw [List.mem_singleton.1 ht]
      exact Nat.zero_le _
    · obtain ⟨m, r, rfl, hm, hfit, hr⟩ := til_mem h0 ht
      have h1 := fit_sub hfit
      have h2 := pop_sub (fit_parts hfit).2
      have h3 := pop_pos (m := m) (by have := fit_pos hfit; omega) (by omega)
      cases n with
      | zero => omega
      | succ n =>
        rcases til_len Q n (f - m) (by omega) (by omega) r hr with h4 | h4
        · simp only [List.length_cons]; omega
        · omega
theorem til_len40 {Q : List Nat} {f : Nat} (hf : f < 68719476736) {t : List Nat} (h : t ∈ tilR Q f) : t.length ≤ 40 := by
  rcases til_len Q f f (Nat.le_refl _) (by omega) t h with h1 | h1
  · exact Nat.le_trans h1 (pop_le f)
  · omega
end Go.Proofs.Ytkjlmgkjcmebbaa
