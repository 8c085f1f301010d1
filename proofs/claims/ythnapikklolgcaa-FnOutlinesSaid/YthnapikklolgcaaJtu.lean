/-
  Shapes turned, in the program: what the call gives.
-/
import Derived.Test.YthnapikklolgcaaJmo
import Derived.Test.YthnapikklolgcaaPall
import Derived.Test.YthnapikklolgcaaIso
import Derived.Test.YthnapikklolgcaaIan
namespace Go.Proofs.Ythnapikklolgcaa
open Go.RowKit

def twoBox (w : World) (x y : Int) : World := (w.alloc (.cells #[.int .i64 x, .int .i64 y] 53)).alloc (.cells #[.int .i64 0, .int .i64 0] 53)

set_option maxHeartbeats 1000000 in
set_option maxRecDepth 100000 in
theorem iCarry (x y : Int) (m : Nat) (w : World) (hm : m ≤ 7) (hx : inR 1000 (x, y)) :
    Calls Try.prog 103 #[.int .i64 m, .agg #[.int .i64 x, .int .i64 y]] w fun e w' => e = .returned (.agg #[.int .i64 (apM m (x, y)).1, .int .i64 (apM m (x, y)).2]) ∧ (∃ q os', w' = Go.Sort.grow (w.drewN q) os') ∧ Below w.heap.size w w' := by
  have HF := Lib.hid (flipC_in m hx)
  have hx' := hx
  unfold inR at hx'
  dsimp only at hx'
  obtain ⟨X0, Y0, hfl⟩ : ∃ X0 Y0, flipC m (x, y) = (X0, Y0) := ⟨_, _, rfl⟩
  have HM : Hid (apM m (x, y) = rotN (m % 4) (X0, Y0)) := by unfold apM; rw [hfl]; exact rfl
  rw [hfl] at HF
  rw [HM.out]
  have hfl2 := hfl
  unfold flipC at hfl2
  clear hfl
  by_cases h4 : 4 ≤ m
  focus
    have d4 : decide (4 ≤ (m : Int)) = true := decide_eq_true (by omega)
    rw [if_pos h4] at hfl2
    injection hfl2 with e1 e2
    subst e1 e2
    go_enter Try.func103, Try.ntmps103
    go_wp2_with fail
    refine (iReflects (m : Int) _).mono ?_
    rintro e w' ⟨rfl, rfl⟩
    rw [d4]
    go_wp2_with fail
    refine (iTurns m _ hm).mono ?_
    rintro e w' ⟨rfl, rfl⟩
    go_wp2
    go_loopw [13] (fun i wr => ∃ (k : Nat) (X Y : Int), k ≤ m % 4 ∧ i = .int .i64 k ∧ (X, Y) = rotN k (-x, y) ∧ wr = twoBox w X Y) (fun i _ => 4 - (intOf i).toNat)
  rotate_left 2
  focus
    have d4 : decide (4 ≤ (m : Int)) = false := decide_eq_false (by omega)
    rw [if_neg h4] at hfl2
    injection hfl2 with e1 e2
    subst e1 e2
    go_enter Try.func103, Try.ntmps103
    go_wp2_with fail
    refine (iReflects (m : Int) _).mono ?_
    rintro e w' ⟨rfl, rfl⟩
    rw [d4]
    go_wp2_with fail
    refine (iTurns m _ hm).mono ?_
    rintro e w' ⟨rfl, rfl⟩
    go_wp2
    go_loopw [13] (fun i wr => ∃ (k : Nat) (X Y : Int), k ≤ m % 4 ∧ i = .int .i64 k ∧ (X, Y) = rotN k (x, y) ∧ wr = twoBox w X Y) (fun i _ => 4 - (intOf i).toNat)
  case atStart => exact ⟨0, x, y, by omega, rfl, rfl, rfl⟩
  case atStart => exact ⟨0, -x, y, by omega, rfl, rfl, rfl⟩
  all_goals
    obtain ⟨k, X, Y, hk, rfl, hXY, rfl⟩ := hrel
    unfold twoBox
    have hb := rotN_in k HF.out
    rw [← hXY] at hb
    unfold inR at hb
    dsimp only at hb
    by_cases hlt : k < m % 4
  all_goals first | (
    have hi : (k : Int) < ((m % 4 : Nat) : Int) := by omega
    have hnext := congrArg rotC hXY
    simp only [rotC] at hnext
    go_wp2
    go_roundw
    case rel => exact ⟨k + 1, -Y, X, by omega, by go_num, hnext, rfl⟩
    case measure => simp [intOf]; omega) | (
    obtain rfl : k = m % 4 := by omega
    go_wp2
    (try simp only [Exit.inBlock, Exit.then])
    refine bodyPost_ret (v := .agg #[.int .i64 X, .int .i64 Y]) (by simp [results, Try.results103, go_sem]) rfl ?_
    exact ⟨by rw [← hXY], ⟨0, _, by rw [Go.Sort.alloc_eq_grow, Go.Sort.alloc_eq_grow, Go.Sort.grow_grow]; rfl⟩, ((Below.refl _ _).alloc (Nat.le_refl _) _).alloc (by simp) _⟩)

theorem iSortO (base g n cap : Nat) (l : List Cl) (w : World) (hn : n ≤ 1048576) (hi : ∀ c ∈ l, InC c) (hown : w.ownsRow base 53 2 (.slice (some ⟨g, 0, none⟩) n cap) n (cvs l)) :
    Calls Try.prog 70 #[.slice (some ⟨g, 0, none⟩) n cap] w fun e w' => ∃ v, e = .returned v ∧ Own w (sortU l) v w' := by
  have C := CellsAt.of_own hown hi
  refine iSort n n cap g 0 l w hn (hown.lt g rfl).2 C.1 fun k hk => ?_
  obtain ⟨b, off, e, _, hcell⟩ := C.2.2 (by omega)
  injection e with e1
  injection e1 with e2 e3 _
  subst e2 e3
  exact hcell k hk

end Go.Proofs.Ythnapikklolgcaa
