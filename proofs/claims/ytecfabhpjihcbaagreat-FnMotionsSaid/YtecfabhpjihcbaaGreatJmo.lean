/-
  Motions of the program: their parts, one after the other, back again.
-/
import Derived.Test.YtecfabhpjihcbaaGreatIsm
import Derived.Test.YtecfabhpjihcbaaGreatPall
import Derived.BigQuiet
namespace Go.Proofs.YtecfabhpjihcbaaGreat
open Go.RowKit

theorem iIsMotion (m : Int) (w : World) : Calls Tryz.prog 34 #[.int .i64 m] w fun e w' => e = .returned (.bool (inb m 0 7)) ∧ w = w' := by
  unfold inb
  by_cases h1 : 0 ≤ m
  · have e : (decide (0 ≤ m) && decide (m ≤ 7)) = decide (m < 8) := by rw [Bool.eq_iff_iff]; simp; omega
    rw [e]
    clear e
    go_enter Tryz.func34, Tryz.ntmps34
    go_wp2
    go_ret
    exact ⟨rfl, rfl⟩
  · have e : (decide (0 ≤ m) && decide (m ≤ 7)) = false := by rw [decide_eq_false h1]; rfl
    rw [e]
    clear e
    go_enter Tryz.func34, Tryz.ntmps34
    go_wp2
    go_ret
    exact ⟨rfl, rfl⟩
theorem tmod4 (m : Nat) : ((m : Int).tmod 4) = ((m % 4 : Nat) : Int) := by rw [Int.tmod_eq_emod_of_nonneg (by omega)]; omega
theorem iTurns (m : Nat) (w : World) (_hm : m ≤ 7) : Calls Tryz.prog 35 #[.int .i64 m] w fun e w' => e = .returned (.int .i64 ((m % 4 : Nat) : Int)) ∧ w = w' := by
  have h4 := tmod4 m
  have hw : IntKind.i64.wrap ((m % 4 : Nat) : Int) = ((m % 4 : Nat) : Int) := IntWalk.i64_in _ (by omega)
  go_enter Tryz.func35, Tryz.ntmps35
  go_wp2
  go_ret
  exact ⟨rfl, rfl⟩
theorem iReflects (m : Int) (w : World) : Calls Tryz.prog 36 #[.int .i64 m] w fun e w' => e = .returned (.bool (decide (4 ≤ m))) ∧ w = w' := by
  go_enter Tryz.func36, Tryz.ntmps36
  go_wp2
  go_ret
  exact ⟨rfl, rfl⟩
/-- A motion out of turns and a reflection. -/
def motOf (t : Int) (r : Bool) : Int := (t + 4).tmod 4 + if r = true then 4 else 0
theorem iMotionOf (t : Int) (r : Bool) (w : World) (h1 : -4 ≤ t) (h2 : t ≤ 8) : Calls Tryz.prog 37 #[.int .i64 t, .bool r] w fun e w' => e = .returned (.int .i64 (motOf t r)) ∧ Below w.heap.size w w' := by
  have e1 : IntKind.i64.wrap (t + 4) = t + 4 := IntWalk.i64_in _ (by omega)
  have hb : 0 ≤ (t + 4).tmod 4 ∧ (t + 4).tmod 4 < 4 := by rw [Int.tmod_eq_emod_of_nonneg (by omega)]; omega
  have HM : Hid (motOf t r = (t + 4).tmod 4 + if r = true then 4 else 0) := rfl
  generalize hq : (t + 4).tmod 4 = q at hb HM
  have e2 : IntKind.i64.wrap q = q := IntWalk.i64_in _ (by omega)
  have e3 : IntKind.i64.wrap (q + 4) = q + 4 := IntWalk.i64_in _ (by omega)
  rw [HM.out]
  clear HM
  cases r with
  | true =>
    go_enter Tryz.func37, Tryz.ntmps37
    go_wp2
    go_ret
    exact ⟨by simp, Below.refl _ _⟩
  | false =>
    go_enter Tryz.func37, Tryz.ntmps37
    go_wp2
    go_ret
    exact ⟨by simp, Below.refl _ _⟩

/-- One motion after another, by turns and reflections. -/
def compF (a b : Nat) : Int := motOf ((if 4 ≤ b then -((a % 4 : Nat) : Int) else ((a % 4 : Nat) : Int)) + ((b % 4 : Nat) : Int)) (decide (4 ≤ (a : Int)) != decide (4 ≤ (b : Int)))
theorem compF_eq : ∀ a : Fin 8, ∀ b : Fin 8, compI (a.val : Int) (b.val : Int) = compF a.val b.val := by decide +kernel
theorem compI_in {a b : Nat} (ha : a ≤ 7) (hb : b ≤ 7) : compI (a : Int) (b : Int) = compF a b := compF_eq ⟨a, by omega⟩ ⟨b, by omega⟩
theorem compI_no {p q : Int} (h : (inb p 0 7 && inb q 0 7) = false) : compI p q = -1 := by unfold compI; rw [h]; rfl
/-- A motion back, by turns and reflections. -/
def invF (a : Nat) : Int := if 4 ≤ a then (a : Int) else motOf (-((a % 4 : Nat) : Int)) false
theorem invF_eq : ∀ a : Fin 8, invI (a.val : Int) = invF a.val := by decide +kernel
theorem invI_in {a : Nat} (ha : a ≤ 7) : invI (a : Int) = invF a := invF_eq ⟨a, by omega⟩
theorem invI_no {p : Int} (h : inb p 0 7 = false) : invI p = -1 := by
  unfold invI
  have : (List.range 8).find? (fun k : Nat => decide (compI p (k : Int) = 0)) = none := by
    rw [List.find?_eq_none]
    intro k _
    rw [compI_no (by rw [h]; rfl)]
    simp
  rw [this]
theorem ret_Ij {a b : Int} (h : a = b) : Ending.returned (.int .i64 a) = .returned (.int .i64 b) := by rw [h]
theorem inb_nat {p : Int} (h : inb p 0 7 = true) : ∃ a : Nat, p = (a : Int) ∧ a ≤ 7 := by
  unfold inb at h
  simp only [Bool.and_eq_true, decide_eq_true_eq] at h
  obtain ⟨a, rfl⟩ := Int.eq_ofNat_of_zero_le h.1
  exact ⟨a, rfl, by omega⟩

set_option maxHeartbeats 1000000 in
set_option maxRecDepth 100000 in
theorem iComp (p q : Int) (w : World) :
    Calls Tryz.prog 6 #[.int .i64 p, .int .i64 q] w fun e w' => e = .returned (.int .i64 (compI p q)) ∧ Below w.heap.size w w' := by
  cases hp : inb p 0 7 with
  | false =>
    have HC := Lib.hid (compI_no (p := p) (q := q) (by rw [hp]; rfl))
    have HP := Lib.hid hp
    clear hp
    go_enter Tryz.func6, Tryz.ntmps6
    go_wp2_with fail
    refine (iIsMotion p w).mono ?_
    rintro e w2 ⟨rfl, rfl⟩
    rw [HP.out]
    go_wp2
    go_ret
    exact ⟨ret_Ij HC.out.symm, Below.refl _ _⟩
  | true =>
    cases hq : inb q 0 7 with
    | false =>
      have HC := Lib.hid (compI_no (p := p) (q := q) (by rw [hp, hq]; rfl))
      have HP := Lib.hid hp
      have HQ := Lib.hid hq
      clear hp hq
      go_enter Tryz.func6, Tryz.ntmps6
      go_wp2_with fail
      refine (iIsMotion p w).mono ?_
      rintro e w2 ⟨rfl, rfl⟩
      rw [HP.out]
      go_wp2_with fail
      refine (iIsMotion q w).mono ?_
      rintro e w2 ⟨rfl, rfl⟩
      rw [HQ.out]
      go_wp2
      go_ret
      exact ⟨ret_Ij HC.out.symm, Below.refl _ _⟩
    | true =>
      obtain ⟨a, rfl, ha⟩ := inb_nat hp
      obtain ⟨b, rfl, hb⟩ := inb_nat hq
      have HC := Lib.hid (compI_in ha hb)
      have HP := Lib.hid hp
      have HQ := Lib.hid hq
      clear hp hq
      have hA : ((a % 4 : Nat) : Int) ≤ 3 ∧ 0 ≤ ((a % 4 : Nat) : Int) := by omega
      have hB : ((b % 4 : Nat) : Int) ≤ 3 ∧ 0 ≤ ((b % 4 : Nat) : Int) := by omega
      have hTa := iTurns a
      have hTb := iTurns b
      have hRa := iReflects (a : Int)
      have HF : Hid (compF a b = motOf ((if 4 ≤ b then -((a % 4 : Nat) : Int) else ((a % 4 : Nat) : Int)) + ((b % 4 : Nat) : Int)) (decide (4 ≤ (a : Int)) != decide (4 ≤ (b : Int)))) := rfl
      generalize hx : ((a % 4 : Nat) : Int) = x at hA hTa HF
      generalize hy : ((b % 4 : Nat) : Int) = y at hB hTb HF
      clear hx hy
      generalize decide (4 ≤ (a : Int)) = r at hRa HF
      have j0 : IntKind.i64.wrap (-x) = -x := IntWalk.i64_in _ (by omega)
      have j1 : IntKind.i64.wrap (x + y) = x + y := IntWalk.i64_in _ (by omega)
      have j2 : IntKind.i64.wrap (-x + y) = -x + y := IntWalk.i64_in _ (by omega)
      go_enter Tryz.func6, Tryz.ntmps6
      go_wp2_with fail
      refine (iIsMotion (a : Int) w).mono ?_
      rintro e w2 ⟨rfl, rfl⟩
      rw [HP.out]
      go_wp2_with fail
      refine (iIsMotion (b : Int) w).mono ?_
      rintro e w2 ⟨rfl, rfl⟩
      rw [HQ.out]
      go_wp2_with fail
      refine (hTa w ha).mono ?_
      rintro e w2 ⟨rfl, rfl⟩
      go_wp2_with fail
      refine (iReflects (b : Int) w).mono ?_
      rintro e w2 ⟨rfl, rfl⟩
      by_cases h4 : 4 ≤ b
      · have d4 : decide (4 ≤ (b : Int)) = true := decide_eq_true (by omega)
        rw [if_pos h4, d4, show (r != true) = !r by cases r <;> rfl] at HF
        have HR := Lib.hid (HC.out.trans HF.out)
        rw [d4]
        clear h4 HF HC
        go_wp2_with fail
        refine (hTb w hb).mono ?_
        rintro e w2 ⟨rfl, rfl⟩
        go_wp2_with fail
        refine (hRa w).mono ?_
        rintro e w2 ⟨rfl, rfl⟩
        go_wp2_with fail
        refine (iReflects (b : Int) w).mono ?_
        rintro e w2 ⟨rfl, rfl⟩
        rw [d4]
        go_wp2_with fail
        refine (iMotionOf (-x + y) (!r) _ (by omega) (by omega)).mono ?_
        rintro e w3 ⟨rfl, hb3⟩
        go_wp2
        go_ret
        exact ⟨ret_Ij HR.out.symm, hb3⟩
      · have d4 : decide (4 ≤ (b : Int)) = false := decide_eq_false (by omega)
        rw [if_neg h4, d4, show (r != false) = r by cases r <;> rfl] at HF
        have HR := Lib.hid (HC.out.trans HF.out)
        rw [d4]
        clear h4 HF HC
        go_wp2_with fail
        refine (hTb w hb).mono ?_
        rintro e w2 ⟨rfl, rfl⟩
        go_wp2_with fail
        refine (hRa w).mono ?_
        rintro e w2 ⟨rfl, rfl⟩
        go_wp2_with fail
        refine (iReflects (b : Int) w).mono ?_
        rintro e w2 ⟨rfl, rfl⟩
        rw [d4]
        go_wp2_with fail
        refine (iMotionOf (x + y) (r) _ (by omega) (by omega)).mono ?_
        rintro e w3 ⟨rfl, hb3⟩
        go_wp2
        go_ret
        exact ⟨ret_Ij HR.out.symm, hb3⟩

set_option maxHeartbeats 1000000 in
set_option maxRecDepth 100000 in
theorem iInv (p : Int) (w : World) :
    Calls Tryz.prog 8 #[.int .i64 p] w fun e w' => e = .returned (.int .i64 (invI p)) ∧ Below w.heap.size w w' := by
  cases hp : inb p 0 7 with
  | false =>
    have HC := Lib.hid (invI_no hp)
    have HP := Lib.hid hp
    clear hp
    go_enter Tryz.func8, Tryz.ntmps8
    go_wp2_with fail
    refine (iIsMotion p w).mono ?_
    rintro e w2 ⟨rfl, rfl⟩
    rw [HP.out]
    go_wp2
    go_ret
    exact ⟨ret_Ij HC.out.symm, Below.refl _ _⟩
  | true =>
    obtain ⟨a, rfl, ha⟩ := inb_nat hp
    have HC := Lib.hid (invI_in ha)
    have HP := Lib.hid hp
    clear hp
    have hA : ((a % 4 : Nat) : Int) ≤ 3 ∧ 0 ≤ ((a % 4 : Nat) : Int) := by omega
    have hTa := iTurns a
    have HF : Hid (invF a = if 4 ≤ a then (a : Int) else motOf (-((a % 4 : Nat) : Int)) false) := rfl
    generalize hx : ((a % 4 : Nat) : Int) = x at hA hTa HF
    clear hx
    have j0 : IntKind.i64.wrap (-x) = -x := IntWalk.i64_in _ (by omega)
    go_enter Tryz.func8, Tryz.ntmps8
    go_wp2_with fail
    refine (iIsMotion (a : Int) w).mono ?_
    rintro e w2 ⟨rfl, rfl⟩
    rw [HP.out]
    go_wp2_with fail
    refine (iReflects (a : Int) w).mono ?_
    rintro e w2 ⟨rfl, rfl⟩
    by_cases h4 : 4 ≤ a
    · have d4 : decide (4 ≤ (a : Int)) = true := decide_eq_true (by omega)
      rw [if_pos h4] at HF
      have HR := Lib.hid (HC.out.trans HF.out)
      rw [d4]
      clear h4 HF HC
      go_wp2
      go_ret
      exact ⟨ret_Ij HR.out.symm, Below.refl _ _⟩
    · have d4 : decide (4 ≤ (a : Int)) = false := decide_eq_false (by omega)
      rw [if_neg h4] at HF
      have HR := Lib.hid (HC.out.trans HF.out)
      rw [d4]
      clear h4 HF HC
      go_wp2_with fail
      refine (hTa w ha).mono ?_
      rintro e w2 ⟨rfl, rfl⟩
      go_wp2_with fail
      refine (iMotionOf (-x) false _ (by omega) (by omega)).mono ?_
      rintro e w3 ⟨rfl, hb3⟩
      go_wp2
      go_ret
      exact ⟨ret_Ij HR.out.symm, hb3⟩

end Go.Proofs.YtecfabhpjihcbaaGreat
