/-
  Motions of the program: their parts, one after the other, back again.
-/
import Derived.Test.YtailmmamgnebhaaGreatDoorQj
import Derived.Test.YtailmmamgnebhaaGreatDoorQf
import Derived.BigQuiet
namespace Go.Proofs.YtailmmamgnebhaaGreatDoor
open Go.RowKit

theorem iIsMotion (m : Int) (w : World) : Calls Tryz.prog 146 #[.int .i64 m] w fun e w' => e = .returned (.bool (inb m 0 7)) ∧ w = w' := by
  unfold inb
  by_cases h1 : 0 ≤ m
  · have e : (decide (0 ≤ m) && decide (m ≤ 7)) = decide (m < 8) := by rw [Bool.eq_iff_iff]; simp; omega
    rw [e]
    clear e
    go_enter Tryz.func146, Tryz.ntmps146
    go_wp2
    go_ret
    exact ⟨rfl, rfl⟩
  · have e : (decide (0 ≤ m) && decide (m ≤ 7)) = false := by rw [decide_eq_false h1]; rfl
    rw [e]
    clear e
    go_enter Tryz.func146, Tryz.ntmps146
    go_wp2
    go_ret
    exact ⟨rfl, rfl⟩
theorem tmod4 (m : Nat) : ((m : Int).tmod 4) = ((m % 4 : Nat) : Int) := by rw [Int.tmod_eq_emod_of_nonneg (by omega)]; omega
theorem iTurns (m : Nat) (w : World) (_hm : m ≤ 7) : Calls Tryz.prog 171 #[.int .i64 m] w fun e w' => e = .returned (.int .i64 ((m % 4 : Nat) : Int)) ∧ w = w' := by
  have h4 := tmod4 m
  have hw : IntKind.i64.wrap ((m % 4 : Nat) : Int) = ((m % 4 : Nat) : Int) := IntWalk.i64_in _ (by omega)
  go_enter Tryz.func171, Tryz.ntmps171
  go_wp2
  go_ret
  exact ⟨rfl, rfl⟩
theorem iReflects (m : Int) (w : World) : Calls Tryz.prog 170 #[.int .i64 m] w fun e w' => e = .returned (.bool (decide (4 ≤ m))) ∧ w = w' := by
  go_enter Tryz.func170, Tryz.ntmps170
  go_wp2
  go_ret
  exact ⟨rfl, rfl⟩
/-- A motion out of turns and a reflection. -/
def motOf (t : Int) (r : Bool) : Int := (t + 4).tmod 4 + if r = true then 4 else 0
/-- One motion after another, by turns and reflections. -/
def compF (a b : Nat) : Int := motOf ((if 4 ≤ b then -((a % 4 : Nat) : Int) else ((a % 4 : Nat) : Int)) + ((b % 4 : Nat) : Int)) (decide (4 ≤ (a : Int)) != decide (4 ≤ (b : Int)))
theorem compF_eq : ∀ a : Fin 8, ∀ b : Fin 8, compI (a.val : Int) (b.val : Int) = compF a.val b.val := by decide +kernel
theorem compI_in {a b : Nat} (ha : a ≤ 7) (hb : b ≤ 7) : compI (a : Int) (b : Int) = compF a b := compF_eq ⟨a, by omega⟩ ⟨b, by omega⟩
theorem compI_no {p q : Int} (h : (inb p 0 7 && inb q 0 7) = false) : compI p q = -1 := by unfold compI; rw [h]; rfl
/-- A motion back, by turns and reflections. -/
def invF (a : Nat) : Int := if 4 ≤ a then (a : Int) else motOf (-((a % 4 : Nat) : Int)) false
theorem invF_eq : ∀ a : Fin 8, invI (a.val : Int) = invF a.val := by decide +kernel
theorem invI_in {a : Nat} (ha : a ≤ 7) : invI (a : Int) = invF a := invF_eq ⟨a, by omega⟩
theorem invI_no {p : Int} (h : inb p 0 7 = false) : invI p = -1 := by
  unfold invI
  have : (List.range 8).find? (fun k : Nat => decide (compI p (k : Int) = 0)) = none := by
    rw [List.find?_eq_none]
    intro k _
    rw [compI_no (by rw [h]; rfl)]
    simp
  rw [this]
theorem ret_Ij {a b : Int} (h : a = b) : Ending.returned (.int .i64 a) = .returned (.int .i64 b) := by rw [h]
theorem inb_nat {p : Int} (h : inb p 0 7 = true) : ∃ a : Nat, p = (a : Int) ∧ a ≤ 7 := by
  unfold inb at h
  simp only [Bool.and_eq_true, decide_eq_true_eq] at h
  obtain ⟨a, rfl⟩ := Int.eq_ofNat_of_zero_le h.1
  exact ⟨a, rfl, by omega⟩

end Go.Proofs.YtailmmamgnebhaaGreatDoor
