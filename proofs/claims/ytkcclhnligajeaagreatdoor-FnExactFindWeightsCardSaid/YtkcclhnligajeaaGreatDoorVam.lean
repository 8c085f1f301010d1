/-
  What is listed is a tiling, no two are the same, numbers and counts agree: the plain facts.
  Weights, the plain facts: sums, weights that are accepted, numbers that are a signed tiling, stripes; what the two searches answer.
-/
import Derived.Test.YtkcclhnligajeaaGreatDoorVal
import Derived.Test.YtkcclhnligajeaaGreatDoorPw6
namespace Go.Proofs.YtkcclhnligajeaaGreatDoor

section
theorem fre_cons (F : Nat) (z : Int) (l : List Int) : ∀ k, fre F (z :: l) (k + 1) = fre (F - z.toNat) l k
  | 0 => rfl
  | k + 1 => by
    show fre F (z :: l) (k + 1) - atI (z :: l) (k + 1) = fre (F - z.toNat) l k - atI l k
    rw [fre_cons F z l k]
    rfl
theorem pT_cons (P : List Int) (F : Nat) (z : Int) (l : List Int) (j : Nat) : pT P F (z :: l) (j + 1) = pT P (F - z.toNat) l j := by
  unfold pT
  rw [fre_cons]
  rfl
theorem til_isTp {Q : List Nat} (hQ : ∀ m ∈ Q, m ≠ 0 ∧ m < 68719476736) : ∀ n f, f ≤ n → f < 68719476736 → ∀ t ∈ tilR Q f, isTp (ints Q) f (ints t) = true
  | n, f, hf, h36, t, ht => by
    by_cases h0 : f = 0
    · subst h0
      rw [tilR_zero] at ht
      rw [List.mem_singleton.1 ht]
      rfl
    · obtain ⟨m, r, rfl, hm, hfit, hr⟩ := til_mem h0 ht
      have h1 := fit_sub hfit
      cases n with
      | zero => omega
      | succ n =>
        have ih := til_isTp hQ n (f - m) (by omega) (by omega) r hr
        unfold isTp at ih ⊢
        rw [Bool.and_eq_true, decide_eq_true_eq] at ih ⊢
        have e1 : ints (m :: r) = (m : Int) :: ints r := rfl
        have e2 : ((m : Int)).toNat = m := by omega
        rw [e1]
        constructor
        · rw [allN_iff]
          intro j hj
          cases j with
          | zero =>
            refine pT_of (by show (0 : Int) ≤ (m : Int); omega) ?_ ?_ ?_
            · show subN ((m : Int)).toNat f
              rw [e2]
              exact (fit_parts hfit).2
            · show lowB ((m : Int)).toNat = lowB f
              rw [e2]
              exact fit_low hfit (by omega)
            · show (m : Int) ∈ ints Q
              exact List.mem_map_of_mem hm
          | succ j =>
            rw [pT_cons, e2]
            exact (allN_iff _ _).1 ih.1 j (by simp only [List.length_cons] at hj; omega)
        · show fre f ((m : Int) :: ints r) ((ints r).length + 1) = 0
          rw [fre_cons, e2]
          exact ih.2
theorem seg_nodup {Q : List Nat} {f : Nat} : ∀ C : List Nat, C.Nodup → (∀ m ∈ C, (tilR Q (f - m)).Nodup) → (segR Q C f).Nodup
  | [], _, _ => List.nodup_nil
  | m :: C, h, hC => by
    have e : segR Q (m :: C) f = (tilR Q (f - m)).map (m :: ·) ++ segR Q C f := by
      unfold segR
      rw [List.flatMap_cons]
    obtain ⟨h1, h2⟩ := List.nodup_cons.1 h
    rw [e, List.nodup_append]
    refine ⟨?_, seg_nodup C h2 (fun x hx => hC x (by simp [hx])), fun a ha b hb hab => ?_⟩
    · exact List.Pairwise.map _ (fun x y hxy h9 => hxy (List.cons.inj h9).2) (hC m (by simp))
    · subst hab
      obtain ⟨s, _, rfl⟩ := List.mem_map.1 ha
      unfold segR at hb
      obtain ⟨m', hm', hb⟩ := List.mem_flatMap.1 hb
      obtain ⟨s', _, e2⟩ := List.mem_map.1 hb
      have e3 : m' = m := (List.cons.inj e2).1
      subst e3
      exact h1 hm'
theorem til_nodup {Q : List Nat} (hQ : Q.Nodup) : ∀ n f, f ≤ n → (tilR Q f).Nodup
  | n, f, hf => by
    by_cases h0 : f = 0
    · subst h0
      rw [tilR_zero]
      simp
    · rw [tilR_step Q h0]
      refine seg_nodup _ (hQ.filter _) fun m hm => ?_
      have h1 := fit_sub (List.mem_filter.1 hm).2
      cases n with
      | zero => omega
      | succ n => exact til_nodup hQ n (f - m) (by omega)
theorem til_apart {Q : List Nat} (hQ : Q.Nodup) {f n : Nat} {s t : List Nat} (hn : 0 < n) (hs : (tilR Q f)[n - 1]? = some s) (ht : (tilR Q f)[n]? = some t) : s ≠ t := by
  intro e
  subst e
  have h1 := til_nodup hQ f f (Nat.le_refl _)
  obtain ⟨a1, a2⟩ := List.getElem?_eq_some_iff.1 hs
  obtain ⟨b1, b2⟩ := List.getElem?_eq_some_iff.1 ht
  have h2 := List.pairwise_iff_getElem.1 h1 (n - 1) n a1 b1 (by omega)
  exact h2 (by rw [a2, b2])
theorem ints_inj {a b : List Nat} (h : ints a = ints b) : a = b := by
  have h1 := congrArg (List.map Int.toNat) h
  unfold ints at h1
  rw [List.map_map, List.map_map] at h1
  have e : ∀ l : List Nat, l.map (Int.toNat ∘ fun (m : Nat) => (m : Int)) = l := fun l => by
    conv => rhs; rw [← List.map_id l]
    apply List.map_congr_left
    intro x _
    show ((x : Int)).toNat = x
    omega
  rw [e, e] at h1
  exact h1
theorem pQ_nodup (W : Int) (l : List Int) (ps : List (List Cl)) : (pQ W l ps).Nodup := by
  have h : SrtG ltI (apR W l ps) := by
    cases h : arePc ps with
    | false => rw [apR_no h]; exact List.Pairwise.nil
    | true => rw [apR_yes h]; exact ascI_srt _
  rw [← pQ_ints] at h
  unfold ints at h
  have h2 := List.pairwise_map.1 h
  exact h2.imp (fun {a b} hab e => by
    subst e
    unfold ltI at hab
    simp at hab)
/-! ### What the law says -/
theorem tilN_some {W : Int} {l : List Int} {ps : List (List Cl)} {n : Int} {t : List Nat} (h : tilN W l ps n = some t) : okT W l ps = true ∧ 0 ≤ n ∧ n ≤ 199 ∧ (tilR (pQ W l ps) (maskR W l))[n.toNat]? = some t := by
  unfold tilN at h
  split at h
  · rename_i h1
    exact ⟨h1.1, h1.2.1, h1.2.2, h⟩
  · cases h
theorem cov_is {W : Int} {l : List Int} {ps : List (List Cl)} {n : Int} {t : List Nat} (h : tilN W l ps n = some t) : isTil W l ps (ints t) = true := by
  obtain ⟨h1, _, _, h2⟩ := tilN_some h
  rw [isTil_p h1, ← pQ_ints]
  exact til_isTp (pQ_ok W l ps) _ _ (Nat.le_refl _) (maskR_lt W l) t (List.mem_of_getElem? h2)
theorem cov_more {W : Int} {l : List Int} {ps : List (List Cl)} {n : Int} {t : List Nat} (h : tilN W l ps n = some t) : n < cntT W l ps := by
  obtain ⟨h1, h2, h3, h4⟩ := tilN_some h
  obtain ⟨h5, _⟩ := List.getElem?_eq_some_iff.1 h4
  rw [cntT_yes h1]
  unfold cntR
  omega
theorem cov_none {W : Int} {l : List Int} {ps : List (List Cl)} {n : Int} (h : tilN W l ps n = none) (h0 : 0 ≤ n) (h1 : n ≤ 199) : cntT W l ps ≤ n := by
  cases h2 : okT W l ps with
  | false => rw [cntT_no h2]; omega
  | true =>
    obtain ⟨k, rfl⟩ : ∃ k : Nat, n = k := ⟨n.toNat, by omega⟩
    rw [tilN_yes h2 (by omega), List.getElem?_eq_none_iff] at h
    rw [cntT_yes h2]
    unfold cntR
    omega
theorem cov_has (W : Int) (l : List Int) (ps : List (List Cl)) : decide (0 < cntT W l ps) = (tilN W l ps 0).isSome := by
  cases h : tilN W l ps 0 with
  | none =>
    have := cov_none h (by omega) (by omega)
    rw [decide_eq_false (by omega)]
    rfl
  | some t =>
    have := cov_more h
    rw [decide_eq_true this]
    rfl
end

section
def prmB (p : Int) : Bool := (p == 2) || ((p == 3) || (p == 5))
theorem prmB_iff (p : Int) : prmB p = true ↔ PrmI p := by unfold prmB PrmI; simp
/-- All of the first k are numbers from 0 up to p. -/
def inTo (p : Int) (ws : List Int) (k : Nat) : Bool := allN (fun j => decide (0 ≤ ws.getD j 0) && decide (ws.getD j 0 < p)) k
def inPW (p : Int) (ws : List Int) : Bool := inTo p ws ws.length
theorem inTo_step (p : Int) (ws : List Int) (k : Nat) : inTo p ws (k + 1) = (inTo p ws k && (decide (0 ≤ ws.getD k 0) && decide (ws.getD k 0 < p))) := allN_step _ _
theorem inTo_bad {p : Int} {ws : List Int} {k n : Nat} (h : ¬ (0 ≤ ws.getD k 0 ∧ ws.getD k 0 < p)) (hk : k < n) : inTo p ws n = false := allN_false (k := k) (by
  rw [Bool.and_eq_false_iff, decide_eq_false_iff_not, decide_eq_false_iff_not]
  omega) hk
theorem inTo_get {p : Int} {ws : List Int} {k n : Nat} (h : inTo p ws n = true) (hk : k < n) : 0 ≤ ws.getD k 0 ∧ ws.getD k 0 < p := by
  have := (allN_iff _ _).1 h k hk
  simpa using this
theorem inPW_get {p : Int} {ws : List Int} (h : inPW p ws = true) (h0 : 0 < p) (k : Nat) : 0 ≤ ws.getD k 0 ∧ ws.getD k 0 < p := by
  rcases Nat.lt_or_ge k ws.length with hk | hk
  · exact inTo_get h hk
  · have : ws.getD k 0 = 0 := by simp [List.getD, List.getElem?_eq_none hk]
    omega
theorem inPW_of {p : Int} {ws : List Int} (h : ∀ z ∈ ws, 0 ≤ z ∧ z < p) : inPW p ws = true := (allN_iff _ _).2 fun j hj => by
  have := h (ws.getD j 0) (by simp [List.getD, hj])
  simpa using this
def plcN (W : Int) (l : List Int) : Nat := W.toNat * l.length
theorem plcN_rg {W H : Nat} {l : List Int} (h : Rg W H l) : plcN W l = W * H := by unfold plcN; rw [h.len]; rfl
theorem plcN_bd {W H : Nat} {l : List Int} (h : Rg W H l) : 1 ≤ plcN W l ∧ plcN W l ≤ 36 := by
  rw [plcN_rg h]
  have h1 := Nat.mul_le_mul h.w0 h.h0
  have h2 := Nat.mul_le_mul h.w6 h.h6
  omega
def areW (W : Int) (l ws : List Int) (p : Int) : Bool := isReg W l && (prmB p && (decide (ws.length = plcN W l) && inPW p ws))
/-- The sum of the weights of the places below k that a mask has. -/
def smN (m : Nat) (ws : List Int) (k : Nat) : Int := sumI k fun i => if m.testBit i = true then ws.getD i 0 else 0
def smL (ws : List Int) (pre : List Nat) : Int := pre.foldl (fun s i => s + ws.getD i 0) 0
theorem smL_snoc (ws : List Int) (pre : List Nat) (i : Nat) : smL ws (pre ++ [i]) = smL ws pre + ws.getD i 0 := by unfold smL; rw [List.foldl_append]; rfl
theorem smL_bits (m : Nat) (ws : List Int) : ∀ k, smL ws ((List.range k).filter m.testBit) = smN m ws k
  | 0 => rfl
  | k + 1 => by
    rw [List.range_succ, List.filter_append]
    show _ = smN m ws k + (if m.testBit k = true then ws.getD k 0 else 0)
    cases h : m.testBit k with
    | false =>
      rw [show [k].filter m.testBit = [] by simp [h], List.append_nil, smL_bits m ws k]
      simp
    | true =>
      rw [show [k].filter m.testBit = [k] by simp [h], smL_snoc, smL_bits m ws k]
      simp
theorem sumI_cut {f : Nat → Int} {n : Nat} : ∀ d, (∀ j, n ≤ j → j < n + d → f j = 0) → sumI (n + d) f = sumI n f
  | 0, _ => rfl
  | d + 1, h => by
    show sumI (n + d) f + f (n + d) = _
    rw [sumI_cut d fun j h1 h2 => h j h1 (by omega), h (n + d) (by omega) (by omega)]
    omega
theorem smL_bitL {m n : Nat} (ws : List Int) (h : ∀ i, m.testBit i = true → i < n) (hn : n ≤ 64) : smL ws (bitL m) = smN m ws n := by
  have hlt : m < 2 ^ n := Nat.lt_pow_two_of_testBit _ fun i hi => by
    cases e : m.testBit i with
    | false => rfl
    | true => have := h i e; omega
  rw [bitL_upto hlt hn, smL_bits]
theorem smN_bd {p : Int} {ws : List Int} (h : inPW p ws = true) (hp : 0 < p ∧ p ≤ 5) (m : Nat) : ∀ k, 0 ≤ smN m ws k ∧ smN m ws k ≤ 4 * k
  | 0 => by unfold smN sumI; omega
  | k + 1 => by
    have ih := smN_bd h hp m k
    have h1 := inPW_get h hp.1 k
    have e : smN m ws (k + 1) = smN m ws k + (if m.testBit k = true then ws.getD k 0 else 0) := rfl
    rw [e]
    split <;> omega
theorem smL_from {p : Int} {ws : List Int} (h : inPW p ws = true) (hp : 0 < p ∧ p ≤ 5) : ∀ (pre : List Nat) (z : Int), 0 ≤ z → 0 ≤ pre.foldl (fun s i => s + ws.getD i 0) z ∧ pre.foldl (fun s i => s + ws.getD i 0) z ≤ z + 4 * pre.length
  | [], z, hz => ⟨hz, by simp⟩
  | i :: r, z, hz => by
    have h1 := inPW_get h hp.1 i
    have ih := smL_from h hp r (z + ws.getD i 0) (by omega)
    rw [List.foldl_cons, List.length_cons]
    generalize List.foldl (fun s i => s + ws.getD i 0) (z + ws.getD i 0) r = y at ih
    push_cast
    omega
theorem smL_bd {p : Int} {ws : List Int} (h : inPW p ws = true) (hp : 0 < p ∧ p ≤ 5) (pre : List Nat) : 0 ≤ smL ws pre ∧ smL ws pre ≤ 4 * pre.length := by
  have h1 := smL_from h hp pre 0 (Int.le_refl _)
  unfold smL
  omega
def sumW (W : Int) (l : List Int) (m : Int) (ws : List Int) (p : Int) : Int := if areW W l ws p = true ∧ okM W l m = true then smN m.toNat ws ws.length % p else -1
theorem sumW_no {W : Int} {l : List Int} {m : Int} {ws : List Int} {p : Int} (h : ¬ (areW W l ws p = true ∧ okM W l m = true)) : sumW W l m ws p = -1 := if_neg h
theorem sumW_yes {W : Int} {l : List Int} {m : Nat} {ws : List Int} {p : Int} (h : areW W l ws p = true) (h2 : okM W l m = true) : sumW W l m ws p = smN m ws ws.length % p := if_pos ⟨h, h2⟩
theorem areW_parts {W : Int} {l ws : List Int} {p : Int} (h : areW W l ws p = true) : isReg W l = true ∧ PrmI p ∧ ws.length = plcN W l ∧ inPW p ws = true := by
  unfold areW at h
  simp only [Bool.and_eq_true, decide_eq_true_eq] at h
  exact ⟨h.1, (prmB_iff p).1 h.2.1, h.2.2.1, h.2.2.2⟩
theorem areW_of {W : Int} {l ws : List Int} {p : Int} (h1 : isReg W l = true) (h2 : PrmI p) (h3 : ws.length = plcN W l) (h4 : inPW p ws = true) : areW W l ws p = true := by
  unfold areW
  rw [h1, (prmB_iff p).2 h2, h3, h4]
  simp
theorem sumW_bd (W : Int) (l : List Int) (m : Int) (ws : List Int) (p : Int) : -1 ≤ sumW W l m ws p ∧ sumW W l m ws p ≤ 5 := by
  unfold sumW
  split
  · rename_i h
    have := (areW_parts h.1).2.1.pos
    have h1 := Int.emod_nonneg (smN m.toNat ws ws.length) (show p ≠ 0 by omega)
    have h2 := Int.emod_lt_of_pos (smN m.toNat ws ws.length) (show 0 < p by omega)
    omega
  · omega
/-- Each of the first k masks has the sum 0. -/
def zerW (W : Int) (l : List Int) (ws : List Int) (p : Int) (P : List Int) (k : Nat) : Bool := allN (fun j => sumW W l (P.getD j 0) ws p == 0) k
theorem zerW_step (W : Int) (l : List Int) (ws : List Int) (p : Int) (P : List Int) (k : Nat) : zerW W l ws p P (k + 1) = (zerW W l ws p P k && (sumW W l (P.getD k 0) ws p == 0)) := allN_step _ _
theorem zerW_bad {W : Int} {l ws : List Int} {p : Int} {P : List Int} {k n : Nat} (h : (sumW W l (P.getD k 0) ws p == 0) = false) (hk : k < n) : zerW W l ws p P n = false := allN_false h hk
/-- Whether weights are accepted. -/
def isWP (W : Int) (l : List Int) (ps : List (List Cl)) (p : Int) (ws : List Int) : Bool :=
  areW W l ws p && (arePc ps && ((!(sumW W l (maskR W l) ws p == 0)) && zerW W l ws p (apR W l ps) (apR W l ps).length))

/-! ### What the searches answer -/
def rowP (Q : List Nat) : Mt := fun i j => if (Q.getD i 0).testBit j = true then 1 else 0
def bitV (m : Nat) : Nat → Int := fun j => if m.testBit j = true then 1 else 0
/-- One row for each place: which placements have it; whether it is a cell. -/
def rowS (Q : List Nat) (m : Nat) : Mt := fun j i => if i < Q.length then (if (Q.getD i 0).testBit j = true then 1 else 0) else (if m.testBit j = true then 1 else 0)
def rowSc (Q : List Nat) (m : Nat) : Mt := fun c => rowS Q m ((bitL m).getD c 0)
def okPr (W : Int) (l : List Int) (ps : List (List Cl)) (p : Int) : Bool := okT W l ps && prmB p
theorem okPr_parts {W : Int} {l : List Int} {ps : List (List Cl)} {p : Int} (h : okPr W l ps p = true) : okT W l ps = true ∧ isReg W l = true ∧ arePc ps = true ∧ PrmI p := by
  unfold okPr okT at h
  simp only [Bool.and_eq_true] at h
  unfold okT
  exact ⟨by rw [h.1.1, h.1.2]; rfl, h.1.1, h.1.2, (prmB_iff p).1 h.2⟩
def fndW (W : Int) (l : List Int) (ps : List (List Cl)) (p : Int) : Option (List Int) :=
  if okPr W l ps p = true then ansW p (pQ W l ps).length (plcN W l) (rowP (pQ W l ps)) (bitV (maskR W l)) else none
def fndS (W : Int) (l : List Int) (ps : List (List Cl)) (p : Int) : Option (List Int) :=
  if okPr W l ps p = true then ansS p (plcN W l) (pQ W l ps).length (rowS (pQ W l ps) (maskR W l)) else none
theorem fndW_no {W : Int} {l : List Int} {ps : List (List Cl)} {p : Int} (h : okPr W l ps p = false) : fndW W l ps p = none := if_neg (by rw [h]; simp)
theorem fndS_no {W : Int} {l : List Int} {ps : List (List Cl)} {p : Int} (h : okPr W l ps p = false) : fndS W l ps p = none := if_neg (by rw [h]; simp)
theorem fndW_yes {W : Int} {l : List Int} {ps : List (List Cl)} {p : Int} (h : okPr W l ps p = true) : fndW W l ps p = ansW p (pQ W l ps).length (plcN W l) (rowP (pQ W l ps)) (bitV (maskR W l)) := if_pos h
theorem fndS_yes {W : Int} {l : List Int} {ps : List (List Cl)} {p : Int} (h : okPr W l ps p = true) : fndS W l ps p = ansS p (plcN W l) (pQ W l ps).length (rowS (pQ W l ps) (maskR W l)) := if_pos h
theorem rowP_bd {p : Int} (hp : PrmI p) (Q : List Nat) (i j : Nat) : 0 ≤ rowP Q i j ∧ rowP Q i j < p := by
  have := hp.pos
  unfold rowP
  split <;> omega
theorem rowS_bd {p : Int} (hp : PrmI p) (Q : List Nat) (m i j : Nat) : 0 ≤ rowS Q m i j ∧ rowS Q m i j < p := by
  have := hp.pos
  unfold rowS
  split <;> split <;> omega
theorem rowSc_bd {p : Int} (hp : PrmI p) (Q : List Nat) (m i j : Nat) : 0 ≤ rowSc Q m i j ∧ rowSc Q m i j < p := rowS_bd hp _ _ _ _
theorem pQ_sub {W H : Nat} {l : List Int} {ps : List (List Cl)} (hr : Rg W H l) : ∀ q ∈ pQ W l ps, okM W l (q : Nat) = true := by
  intro q hq
  unfold pQ at hq
  obtain ⟨z, hz, rfl⟩ := List.mem_map.1 hq
  cases h : arePc ps with
  | false => rw [apR_no h] at hz; cases hz
  | true =>
    rw [apR_yes h, mem_ascI] at hz
    unfold apTo at hz
    obtain ⟨s, _, h2⟩ := List.mem_flatMap.1 hz
    obtain ⟨o, ho, y, x, hok, rfl⟩ := (mem_plR hr).1 h2
    have hall := (okC_all hr (move_ne _ _ (orient_mem ho).2.1.ne)).1 hok
    refine okM_of hr fun i hi => ?_
    obtain ⟨c, hc, rfl⟩ := (orB_bit _ _ _).1 hi
    rw [hr.mask_bit (hr.bt_in (hall c hc))]
    exact hall c hc
theorem rowS_out {W H : Nat} {l : List Int} {ps : List (List Cl)} (hr : Rg W H l) {j : Nat} (hj : (maskR W l).testBit j = false) (i : Nat) : rowS (pQ W l ps) (maskR W l) j i = 0 := by
  unfold rowS
  split
  · rename_i hi
    rw [if_neg]
    intro hb
    have h1 := okM_bits (pQ_sub (ps := ps) hr _ (getD_memN hi)) hb
    rw [hj] at h1
    cases h1
  · rw [hj]; rfl
/-- The rows of the cells alone answer alike. -/
theorem rows_same {W H : Nat} {l : List Int} {ps : List (List Cl)} {p : Int} (hr : Rg W H l) (hp : PrmI p) :
    ansS p (bitL (maskR W l)).length (pQ W l ps).length (rowSc (pQ W l ps) (maskR W l)) = ansS p (plcN W l) (pQ W l ps).length (rowS (pQ W l ps) (maskR W l)) := by
  refine ansS_same hp (fun i j _ _ => rowSc_bd hp _ _ _ _) (fun i j _ _ => rowS_bd hp _ _ _ _) fun w => ?_
  constructor
  · intro h j hj
    cases hb : (maskR W l).testBit j with
    | false =>
      have e : dotI ((pQ W l ps).length + 1) (rowS (pQ W l ps) (maskR W l) j) w = 0 := by
        unfold dotI
        exact sumI_zero fun i _ => by rw [rowS_out hr hb, Int.zero_mul]
      rw [e]
      exact ⟨0, by omega⟩
    | true =>
      have hlt := (hr.mask_out hb).1
      have h2 := Nat.mul_le_mul hr.w6 hr.h6
      have hm : j ∈ bitL (maskR W l) := by
        unfold bitL
        exact List.mem_filter.2 ⟨List.mem_range.2 (by omega), hb⟩
      obtain ⟨c, hc, e⟩ := List.getElem_of_mem hm
      have h3 := h c hc
      unfold rowSc at h3
      rwa [show (bitL (maskR W l)).getD c 0 = j by simp [List.getD, hc, e]] at h3
  · intro h c hc
    have hm : (bitL (maskR W l)).getD c 0 ∈ bitL (maskR W l) := getD_memN hc
    unfold bitL at hm
    have hb := (List.mem_filter.1 hm).2
    have hlt := (hr.mask_out hb).1
    exact h _ (by rw [plcN_rg hr]; exact hlt)

/-! ### Signed tilings -/
/-- What the placements that have a place add up to there. -/
def sgJ (Q : List Nat) (ks : List Int) (j k : Nat) : Int := sumI k fun i => ks.getD i 0 * (if (Q.getD i 0).testBit j = true then 1 else 0)
def sgOk (Q : List Nat) (m : Nat) (p : Int) (ks : List Int) (n : Nat) : Bool := allN (fun j => sgJ Q ks j Q.length % p == (if m.testBit j = true then 1 else 0)) n
def isSg (W : Int) (l : List Int) (ps : List (List Cl)) (p : Int) (ks : List Int) : Bool :=
  okPr W l ps p && (decide (ks.length = (pQ W l ps).length) && (inPW p ks && sgOk (pQ W l ps) (maskR W l) p ks (plcN W l)))
theorem sgJ_bd {Q : List Nat} {p : Int} {ks : List Int} (h : inPW p ks = true) (hp : 0 < p ∧ p ≤ 5) (j : Nat) : ∀ k, 0 ≤ sgJ Q ks j k ∧ sgJ Q ks j k ≤ 4 * k
  | 0 => by unfold sgJ sumI; omega
  | k + 1 => by
    have ih := sgJ_bd (Q := Q) h hp j k
    have h1 := inPW_get h hp.1 k
    have e : sgJ Q ks j (k + 1) = sgJ Q ks j k + ks.getD k 0 * (if (Q.getD k 0).testBit j = true then 1 else 0) := rfl
    rw [e]
    split <;> omega
/-- What the program looks at: the cells alone. -/
def sgC (Q : List Nat) (p : Int) (ks : List Int) (pre : List Nat) : Bool := pre.all fun j => sgJ Q ks j Q.length % p == 1
theorem sgC_eq {W H : Nat} {l : List Int} {ps : List (List Cl)} {p : Int} {ks : List Int} (hr : Rg W H l) :
    sgC (pQ W l ps) p ks (bitL (maskR W l)) = sgOk (pQ W l ps) (maskR W l) p ks (plcN W l) := by
  rw [Bool.eq_iff_iff]
  unfold sgC sgOk
  rw [allN_iff, List.all_eq_true]
  have h2 := Nat.mul_le_mul hr.w6 hr.h6
  constructor
  · intro h j hj
    cases hb : (maskR W l).testBit j with
    | true =>
      have hlt := (hr.mask_out hb).1
      exact h j (by unfold bitL; exact List.mem_filter.2 ⟨List.mem_range.2 (by omega), hb⟩)
    | false =>
      have e : sgJ (pQ W l ps) ks j (pQ W l ps).length = 0 := sumI_zero fun i hi => by
        rw [if_neg, Int.mul_zero]
        intro hb2
        have h1 := okM_bits (pQ_sub (ps := ps) hr _ (getD_memN hi)) hb2
        rw [hb] at h1
        cases h1
      show (sgJ (pQ W l ps) ks j (pQ W l ps).length % p == (if false = true then 1 else 0)) = true
      rw [e]
      simp
  · intro h j hj
    unfold bitL at hj
    have hb := (List.mem_filter.1 hj).2
    have h1 := h j (by rw [plcN_rg hr]; exact (hr.mask_out hb).1)
    rw [if_pos hb] at h1
    exact h1
theorem mod_one {p x : Int} (hp : 1 < p) (u : Int) (hu : u = 0 ∨ u = 1) : (x % p == u) = true ↔ p ∣ x - u := by
  rw [beq_iff_eq]
  constructor
  · intro h
    have h1 := em_dvd p x
    rw [h] at h1
    have h2 := Int.dvd_neg.2 h1
    rwa [show -(u - x) = x - u by omega] at h2
  · intro h
    have h1 := em_dvd p x
    have h2 := Int.dvd_add h1 h
    rw [show x % p - x + (x - u) = x % p - u by omega] at h2
    exact mod_inj h2 ⟨Int.emod_nonneg _ (by omega), Int.emod_lt_of_pos _ (by omega)⟩ (by omega)
/-- What is found as a signed tiling is one. -/
theorem fndS_is {W : Int} {l : List Int} {ps : List (List Cl)} {p : Int} {k : List Int} (h : fndS W l ps p = some k) : isSg W l ps p k = true := by
  cases h1 : okPr W l ps p with
  | false => rw [fndS_no h1] at h; cases h
  | true =>
    rw [fndS_yes h1] at h
    obtain ⟨_, hr0, _, hp⟩ := okPr_parts h1
    obtain ⟨N, rfl, hr⟩ := isReg_out hr0
    have hl := ansS_len h
    have hb := ansS_bd hp (fun i j _ _ => rowS_bd hp _ _ _ _) h
    have hs := ansS_sol hp (fun i j _ _ => rowS_bd hp _ _ _ _) h
    unfold isSg
    rw [h1, inPW_of hb, hl]
    simp only [Bool.true_and, decide_true]
    unfold sgOk
    rw [allN_iff]
    intro j hj
    have hj2 := hs j hj
    rw [mod_one hp.pos.1 _ (by split <;> simp)]
    have e1 : rowS (pQ (N : Int) l ps) (maskR (N : Int) l) j (pQ (N : Int) l ps).length = (if (maskR (N : Int) l).testBit j = true then 1 else 0) := by
      unfold rowS
      rw [if_neg (by omega)]
    rw [e1] at hj2
    have e2 : sgJ (pQ (N : Int) l ps) k j (pQ (N : Int) l ps).length = sumI (pQ (N : Int) l ps).length (fun i => rowS (pQ (N : Int) l ps) (maskR (N : Int) l) j i * k.getD i 0) := by
      unfold sgJ
      refine sumI_congr fun i hi => ?_
      unfold rowS
      rw [if_pos hi, Int.mul_comm]
    rw [e2]
    exact hj2
theorem dot_smN (m : Nat) (ws : List Int) (n : Nat) : dotI n (bitV m) (fun j => ws.getD j 0) = smN m ws n := by
  unfold dotI smN bitV
  refine sumI_congr fun j _ => ?_
  split
  · exact Int.one_mul _
  · exact Int.zero_mul _
/-- What is found as weights that forbid is accepted. -/
theorem fndW_is {W : Int} {l : List Int} {ps : List (List Cl)} {p : Int} {w : List Int} (h : fndW W l ps p = some w) : isWP W l ps p w = true := by
  cases h1 : okPr W l ps p with
  | false => rw [fndW_no h1] at h; cases h
  | true =>
    rw [fndW_yes h1] at h
    obtain ⟨_, hr0, ha, hp⟩ := okPr_parts h1
    obtain ⟨N, rfl, hr⟩ := isReg_out hr0
    obtain ⟨e1, e2, e3, e4⟩ := ansW_is hp (fun i j _ _ => rowP_bd hp _ _ _) h
    have hA : areW (N : Int) l w p = true := areW_of hr0 hp e1 (inPW_of e2)
    have hm : okM (N : Int) l ((maskR (N : Int) l : Nat) : Int) = true := okM_of hr fun i hi => hi
    unfold isWP
    rw [hA, ha, sumW_yes hA hm, e1]
    rw [dot_smN] at e4
    simp only [Bool.true_and, Bool.and_eq_true, Bool.not_eq_true', beq_eq_false_iff_ne]
    refine ⟨e4, ?_⟩
    unfold zerW
    rw [allN_iff]
    intro j hj
    have hq : (apR (N : Int) l ps).getD j 0 = (((pQ (N : Int) l ps).getD j 0 : Nat) : Int) := by rw [← ints_get, pQ_ints]
    have hjq : j < (pQ (N : Int) l ps).length := by rw [← ints_len, pQ_ints]; exact hj
    have hs := pQ_sub (ps := ps) hr _ (getD_memN hjq)
    rw [hq, sumW_yes hA hs, e1]
    have h3 := e3 j hjq
    have e5 : dotI (plcN (N : Int) l) (rowP (pQ (N : Int) l ps) j) (fun j => w.getD j 0) = smN ((pQ (N : Int) l ps).getD j 0) w (plcN (N : Int) l) := dot_smN _ _ _
    rw [e5] at h3
    rw [Int.emod_eq_zero_of_dvd h3]
    rfl
/-- Weights that forbid are found exactly if no signed tiling is. -/
theorem fnd_iff {W : Int} {l : List Int} {ps : List (List Cl)} {p : Int} (h : okPr W l ps p = true) : (fndW W l ps p).isSome = !(fndS W l ps p).isSome := by
  rw [fndW_yes h, fndS_yes h]
  obtain ⟨_, hr0, ha, hp⟩ := okPr_parts h
  refine ans_iff hp (fun i j _ _ => rowP_bd hp _ _ _) (fun i j _ _ => rowS_bd hp _ _ _ _) (fun i j hi hj => ?_) (fun i hi => ?_)
  · unfold rowS rowP
    rw [if_pos hj]
  · unfold rowS bitV
    rw [if_neg (by omega)]
/-- The placements of a tiling add up to it. -/
theorem til_sum {Q : List Nat} : ∀ n f, f ≤ n → tilR Q f ≠ [] → ∃ c : Nat → Int, ∀ j, sumI Q.length (fun i => c i * (if (Q.getD i 0).testBit j = true then 1 else 0)) = (if f.testBit j = true then 1 else 0)
  | n, f, hf, ht => by
    by_cases h0 : f = 0
    · subst h0
      refine ⟨fun _ => 0, fun j => ?_⟩
      rw [Nat.zero_testBit, if_neg (by simp)]
      exact sumI_zero fun i _ => Int.zero_mul _
    · obtain ⟨t, htm⟩ : ∃ t, t ∈ tilR Q f := List.exists_mem_of_ne_nil _ ht
      obtain ⟨m, r, _, hm, hfit, hr⟩ := til_mem h0 htm
      have h1 := fit_sub hfit
      have hs := (fit_parts hfit).2
      cases n with
      | zero => omega
      | succ n =>
        obtain ⟨c, hc⟩ := til_sum n (f - m) (by omega) (List.ne_nil_of_mem hr)
        obtain ⟨k, hk, e⟩ := List.getElem_of_mem hm
        have e2 : Q.getD k 0 = m := by simp [List.getD, hk, e]
        refine ⟨fun i => c i + (if i = k then 1 else 0), fun j => ?_⟩
        have e3 : sumI Q.length (fun i => (c i + (if i = k then 1 else 0)) * (if (Q.getD i 0).testBit j = true then 1 else 0)) = sumI Q.length (fun i => c i * (if (Q.getD i 0).testBit j = true then 1 else 0)) + sumI Q.length (fun i => (if i = k then 1 else 0) * (if (Q.getD i 0).testBit j = true then 1 else 0)) := by
          rw [← sumI_add]
          exact sumI_congr fun i _ => Int.add_mul _ _ _
        rw [e3, hc j, sumI_one (k := k) hk (fun i _ hi => by rw [if_neg hi, Int.zero_mul]), if_pos rfl, e2, sub_bit hs]
        have h9 := @subN_bit _ _ j hs
        revert h9
        cases f.testBit j <;> cases m.testBit j <;> simp
/-- Where there is a tiling there is a signed one. -/
theorem til_fndS {W : Int} {l : List Int} {ps : List (List Cl)} {p : Int} (h : okPr W l ps p = true) (ht : tilR (pQ W l ps) (maskR W l) ≠ []) : (fndS W l ps p).isSome = true := by
  rw [fndS_yes h]
  obtain ⟨_, hr0, ha, hp⟩ := okPr_parts h
  obtain ⟨c, hc⟩ := til_sum _ _ (Nat.le_refl _) ht
  refine ansS_is hp (fun i j _ _ => rowS_bd hp _ _ _ _) (c := c) fun j hj => ?_
  have e1 : rowS (pQ W l ps) (maskR W l) j (pQ W l ps).length = (if (maskR W l).testBit j = true then 1 else 0) := by
    unfold rowS
    rw [if_neg (by omega)]
  have e2 : sumI (pQ W l ps).length (fun i => rowS (pQ W l ps) (maskR W l) j i * c i) = sumI (pQ W l ps).length (fun i => c i * (if ((pQ W l ps).getD i 0).testBit j = true then 1 else 0)) := sumI_congr fun i hi => by
    unfold rowS
    rw [if_pos hi, Int.mul_comm]
  rw [e1, e2, hc j, Int.sub_self]
  exact ⟨0, by omega⟩
theorem told_til {W : Int} {l : List Int} {ps : List (List Cl)} (h : (tilN W l ps 0).isSome = true) : tilR (pQ W l ps) (maskR W l) ≠ [] := by
  obtain ⟨t, ht⟩ := Option.isSome_iff_exists.1 h
  exact List.ne_nil_of_mem (List.mem_of_getElem? (tilN_some ht).2.2.2)
/-- Weights that are accepted forbid a tiling. -/
theorem wp_none {W : Int} {l : List Int} {ps : List (List Cl)} {p : Int} {ws : List Int} (h : isWP W l ps p ws = true) : (tilN W l ps 0).isSome = false := by
  cases ht : (tilN W l ps 0).isSome with
  | false => rfl
  | true =>
    exfalso
    unfold isWP at h
    simp only [Bool.and_eq_true, Bool.not_eq_true', beq_eq_false_iff_ne] at h
    obtain ⟨hA, ha, hne, hz⟩ := h
    obtain ⟨hr0, hp, hlen, hin⟩ := areW_parts hA
    have hok : okPr W l ps p = true := by unfold okPr okT; rw [hr0, ha, (prmB_iff p).2 hp]; rfl
    obtain ⟨c, hc⟩ := til_sum _ _ (Nat.le_refl _) (told_til ht)
    obtain ⟨N, rfl, hr⟩ := isReg_out hr0
    have hm : okM (N : Int) l ((maskR (N : Int) l : Nat) : Int) = true := okM_of hr fun i hi => hi
    rw [sumW_yes hA hm, hlen] at hne
    refine hne (Int.emod_eq_zero_of_dvd ?_)
    rw [← dot_smN]
    refine sgn_nul (P := rowP (pQ (N : Int) l ps)) (m := (pQ (N : Int) l ps).length) ⟨c, fun j _ => ?_⟩ fun i hi => ?_
    · have e1 : sumI (pQ (N : Int) l ps).length (fun i => c i * rowP (pQ (N : Int) l ps) i j) = bitV (maskR (N : Int) l) j := hc j
      rw [e1, Int.sub_self]
      exact ⟨0, by omega⟩
    · have e5 : dotI (plcN (N : Int) l) (rowP (pQ (N : Int) l ps) i) (fun j => ws.getD j 0) = smN ((pQ (N : Int) l ps).getD i 0) ws (plcN (N : Int) l) := dot_smN _ _ _
      have hq : (apR (N : Int) l ps).getD i 0 = (((pQ (N : Int) l ps).getD i 0 : Nat) : Int) := by rw [← ints_get, pQ_ints]
      have hiq : i < (apR (N : Int) l ps).length := by rw [← pQ_ints, ints_len]; exact hi
      have h1 := (allN_iff _ _).1 hz i hiq
      have hs := pQ_sub (ps := ps) hr _ (getD_memN hi)
      rw [hq, sumW_yes hA hs, hlen, beq_iff_eq] at h1
      rw [e5]
      exact Int.dvd_of_emod_eq_zero h1

/-! ### Stripes -/
def strF (N : Nat) (a b p : Int) : Nat → Int := fun i => (a * ((i % N : Nat) : Int) + b * ((i / N : Nat) : Int)) % p
def strOk (W : Int) (l : List Int) (a b p : Int) : Bool := isReg W l && (prmB p && ((decide (0 ≤ a) && decide (a < p)) && (decide (0 ≤ b) && decide (b < p))))
def strW (W : Int) (l : List Int) (a b p : Int) : List Int := if strOk W l a b p = true then lstI (plcN W l) (strF W.toNat a b p) else []
theorem strW_no {W : Int} {l : List Int} {a b p : Int} (h : strOk W l a b p = false) : strW W l a b p = [] := if_neg (by rw [h]; simp)
theorem strW_yes {W : Int} {l : List Int} {a b p : Int} (h : strOk W l a b p = true) : strW W l a b p = lstI (plcN W l) (strF W.toNat a b p) := if_pos h
theorem strOk_parts {W : Int} {l : List Int} {a b p : Int} (h : strOk W l a b p = true) : isReg W l = true ∧ PrmI p ∧ (0 ≤ a ∧ a < p) ∧ 0 ≤ b ∧ b < p := by
  unfold strOk at h
  simp only [Bool.and_eq_true, decide_eq_true_eq] at h
  exact ⟨h.1, (prmB_iff p).1 h.2.1, h.2.2.1, h.2.2.2⟩
theorem strW_len (W : Int) (l : List Int) (a b p : Int) : (strW W l a b p).length ≤ 36 := by
  cases h : strOk W l a b p with
  | false => rw [strW_no h]; simp
  | true =>
    obtain ⟨N, rfl, hr⟩ := isReg_out (strOk_parts h).1
    rw [strW_yes h, lstI_len]
    exact (plcN_bd hr).2
theorem strW_zero (W : Int) (l : List Int) (a b p : Int) : (decide ((strW W l a b p).length = 0) || (sumW W l 0 (strW W l a b p) p == 0)) = true := by
  cases h : strOk W l a b p with
  | false => rw [strW_no h]; rfl
  | true =>
    obtain ⟨h1, h2, _, _⟩ := strOk_parts h
    have h3 := h2.pos
    have hA : areW W l (strW W l a b p) p = true := areW_of h1 h2 (by rw [strW_yes h, lstI_len]) (inPW_of fun z hz => by
      rw [strW_yes h] at hz
      obtain ⟨j, _, rfl⟩ := lstI_mem hz
      exact ⟨Int.emod_nonneg _ (by omega), Int.emod_lt_of_pos _ (by omega)⟩)
    have h0 : okM W l ((0 : Nat) : Int) = true := by rw [okM_nat h1]; simp
    have e := sumW_yes hA h0
    have e2 : smN 0 (strW W l a b p) (strW W l a b p).length = 0 := sumI_zero fun j _ => by rw [Nat.zero_testBit]; simp
    rw [e2] at e
    rw [Bool.or_eq_true]
    right
    rw [show (0 : Int) = ((0 : Nat) : Int) from rfl, e]
    simp
end

end Go.Proofs.YtkcclhnligajeaaGreatDoor
