/-
  The laws on outlines: the walk of each law, out of the contracts of the program's function and of its model.
-/
import Derived.Test.YthnapikklolgcaaSon
import Derived.Test.YthnapikklolgcaaJon
import Derived.Test.YthnapikklolgcaaLw1
namespace Go.Proofs.Ythnapikklolgcaa
open Go.RowKit

set_option maxHeartbeats 1000000 in
theorem law_PerimeterOf (a : Option Addr) (n cap : Nat) (l : List Cl) (w : World) (hc : CellsAt w.heap.size w a n l) (hm : n ≤ maxLen) :
    Calls Try.prog 4 #[.slice a n cap] w fun e w' => e = .returned (.bool true) ∧ Below w.heap.size w w' := by
  have hm2 : n ≤ 9223372036854775807 := by unfold maxLen at hm; omega
  have HC := Lib.hid hc
  have HE := Lib.hid (eqb_refl l)
  clear hc hm
  by_cases hs : (1048576 : Int) < n
  · go_enter Try.func4, Try.ntmps4
    go_wp2_with fail
    refine (lSz_big a n cap 1048576 _ (by omega) hs hm2).mono ?_
    rintro e w' ⟨rfl, rfl⟩
    go_wp2
    go_ret
    exact ⟨rfl, Below.refl _ _⟩
  · have hn : n ≤ 1048576 := by omega
    have hn4 : n ≤ 4194304 := by omega
    go_enter Try.func4, Try.ntmps4
    go_wp2_with fail
    refine (lSz_fits a n cap 1048576 _ (by omega) (by omega)).mono ?_
    rintro e w' ⟨rfl, rfl⟩
    go_wp2_with fail
    refine (lToCellS_any w.heap.size n cap a l w hn HC.out (Nat.le_refl _)).mono ?_
    rintro e w1 ⟨rfl, hown1, hb1⟩
    have HA1 := Lib.hid (CellsAt.of_own hown1 HC.out.2.1)
    clear hown1
    go_wp2_with fail
    refine (sPerim w1.heap.size n n _ l w1 hn4 HA1.out (Nat.le_refl _)).mono ?_
    rintro e w2 ⟨rfl, hb2⟩
    obtain ⟨z, hz⟩ : ∃ z, perP l = z := ⟨_, rfl⟩
    rw [hz]
    have HZ := Lib.hid hz
    clear hz
    have h12 := hb1.trans (hb2.mono hb1.size)
    go_wp2_with fail
    refine (lToCellS_any w.heap.size n cap a l w2 hn (HC.out.on h12) h12.size).mono ?_
    rintro e w3 ⟨rfl, hown3, hb3⟩
    have h13 := h12.trans (hb3.mono h12.size)
    have HA3 := Lib.hid (CellsAt.of_own hown3 HC.out.2.1)
    clear hown3
    go_wp2_with fail
    refine (iPerim w3.heap.size n n _ l w3 hn4 HA3.out (Nat.le_refl _)).mono ?_
    rintro e w4 ⟨rfl, hb4⟩
    rw [HZ.out]
    have h14 := h13.trans (hb4.mono h13.size)
    have hne : (z != z) = false := by simp
    go_wp2_with fail
    refine (lToCellS_any w.heap.size n cap a l w4 hn (HC.out.on h14) h14.size).mono ?_
    rintro e w5 ⟨rfl, hown5, hb5⟩
    have h15 := h14.trans (hb5.mono h14.size)
    have HA5 := Lib.hid (CellsAt.of_own hown5 HC.out.2.1)
    have HA35 := Lib.hid (((HA3.out.on hb4).on (hb5.mono hb4.size)).more (Nat.le_trans hb4.size hb5.size))
    clear hown5
    go_wp2_with fail
    refine (lEqCellS_any w5.heap.size n n n n _ _ l l w5 hn4 HA35.out HA5.out (Nat.le_refl _)).mono ?_
    rintro e w6 ⟨rfl, hb6⟩
    rw [HE.out]
    go_wp2
    go_ret
    exact ⟨rfl, h15.trans (hb6.mono h15.size)⟩

set_option maxHeartbeats 1000000 in
theorem law_HolesOf (a : Option Addr) (n cap : Nat) (l : List Cl) (w : World) (hc : CellsAt w.heap.size w a n l) (hm : n ≤ maxLen) :
    Calls Try.prog 5 #[.slice a n cap] w fun e w' => e = .returned (.bool true) ∧ Below w.heap.size w w' := by
  have hm2 : n ≤ 9223372036854775807 := by unfold maxLen at hm; omega
  have HC := Lib.hid hc
  have HE := Lib.hid (eqb_refl l)
  clear hc hm
  by_cases hs : (1048576 : Int) < n
  · go_enter Try.func5, Try.ntmps5
    go_wp2_with fail
    refine (lSz_big a n cap 1048576 _ (by omega) hs hm2).mono ?_
    rintro e w' ⟨rfl, rfl⟩
    go_wp2
    go_ret
    exact ⟨rfl, Below.refl _ _⟩
  · have hn : n ≤ 1048576 := by omega
    have hn4 : n ≤ 4194304 := by omega
    go_enter Try.func5, Try.ntmps5
    go_wp2_with fail
    refine (lSz_fits a n cap 1048576 _ (by omega) (by omega)).mono ?_
    rintro e w' ⟨rfl, rfl⟩
    go_wp2_with fail
    refine (lToCellS_any w.heap.size n cap a l w hn HC.out (Nat.le_refl _)).mono ?_
    rintro e w1 ⟨rfl, hown1, hb1⟩
    have HA1 := Lib.hid (CellsAt.of_own hown1 HC.out.2.1)
    clear hown1
    go_wp2_with fail
    refine (sHoles w1.heap.size n n _ l w1 hn4 HA1.out (Nat.le_refl _)).mono ?_
    rintro e w2 ⟨rfl, hb2⟩
    obtain ⟨z, hz⟩ : ∃ z, holP l = z := ⟨_, rfl⟩
    rw [hz]
    have HZ := Lib.hid hz
    clear hz
    have h12 := hb1.trans (hb2.mono hb1.size)
    go_wp2_with fail
    refine (lToCellS_any w.heap.size n cap a l w2 hn (HC.out.on h12) h12.size).mono ?_
    rintro e w3 ⟨rfl, hown3, hb3⟩
    have h13 := h12.trans (hb3.mono h12.size)
    have HA3 := Lib.hid (CellsAt.of_own hown3 HC.out.2.1)
    clear hown3
    go_wp2_with fail
    refine (iHoles w3.heap.size n n _ l w3 hn4 HA3.out (Nat.le_refl _)).mono ?_
    rintro e w4 ⟨rfl, hb4⟩
    rw [HZ.out]
    have h14 := h13.trans (hb4.mono h13.size)
    have hne : (z != z) = false := by simp
    go_wp2_with fail
    refine (lToCellS_any w.heap.size n cap a l w4 hn (HC.out.on h14) h14.size).mono ?_
    rintro e w5 ⟨rfl, hown5, hb5⟩
    have h15 := h14.trans (hb5.mono h14.size)
    have HA5 := Lib.hid (CellsAt.of_own hown5 HC.out.2.1)
    have HA35 := Lib.hid (((HA3.out.on hb4).on (hb5.mono hb4.size)).more (Nat.le_trans hb4.size hb5.size))
    clear hown5
    go_wp2_with fail
    refine (lEqCellS_any w5.heap.size n n n n _ _ l l w5 hn4 HA35.out HA5.out (Nat.le_refl _)).mono ?_
    rintro e w6 ⟨rfl, hb6⟩
    rw [HE.out]
    go_wp2
    go_ret
    exact ⟨rfl, h15.trans (hb6.mono h15.size)⟩

set_option maxHeartbeats 1000000 in
theorem law_NeighbourCells (a : Option Addr) (n cap : Nat) (l : List Cl) (w : World) (hc : CellsAt w.heap.size w a n l) (hm : n ≤ maxLen) :
    Calls Try.prog 6 #[.slice a n cap] w fun e w' => e = .returned (.bool true) ∧ Below w.heap.size w w' := by
  have hm2 : n ≤ 9223372036854775807 := by unfold maxLen at hm; omega
  have HC := Lib.hid hc
  have HE := Lib.hid (eqb_refl l)
  clear hc hm
  by_cases hs : (1048576 : Int) < n
  · go_enter Try.func6, Try.ntmps6
    go_wp2_with fail
    refine (lSz_big a n cap 1048576 _ (by omega) hs hm2).mono ?_
    rintro e w' ⟨rfl, rfl⟩
    go_wp2
    go_ret
    exact ⟨rfl, Below.refl _ _⟩
  · have hn : n ≤ 1048576 := by omega
    have hn4 : n ≤ 4194304 := by omega
    go_enter Try.func6, Try.ntmps6
    go_wp2_with fail
    refine (lSz_fits a n cap 1048576 _ (by omega) (by omega)).mono ?_
    rintro e w' ⟨rfl, rfl⟩
    go_wp2_with fail
    refine (lToCellS_any w.heap.size n cap a l w hn HC.out (Nat.le_refl _)).mono ?_
    rintro e w1 ⟨rfl, hown1, hb1⟩
    have HA1 := Lib.hid (CellsAt.of_own hown1 HC.out.2.1)
    clear hown1
    go_wp2_with fail
    refine (sNei w1.heap.size n n _ l w1 hn4 HA1.out (Nat.le_refl _)).mono ?_
    rintro e w2 ⟨rfl, hb2⟩
    obtain ⟨z, hz⟩ : ∃ z, neiP l = z := ⟨_, rfl⟩
    rw [hz]
    have HZ := Lib.hid hz
    clear hz
    have h12 := hb1.trans (hb2.mono hb1.size)
    go_wp2_with fail
    refine (lToCellS_any w.heap.size n cap a l w2 hn (HC.out.on h12) h12.size).mono ?_
    rintro e w3 ⟨rfl, hown3, hb3⟩
    have h13 := h12.trans (hb3.mono h12.size)
    have HA3 := Lib.hid (CellsAt.of_own hown3 HC.out.2.1)
    clear hown3
    go_wp2_with fail
    refine (iNei w3.heap.size n n _ l w3 hn4 HA3.out (Nat.le_refl _)).mono ?_
    rintro e w4 ⟨rfl, hb4⟩
    rw [HZ.out]
    have h14 := h13.trans (hb4.mono h13.size)
    have hne : (z != z) = false := by simp
    go_wp2_with fail
    refine (lToCellS_any w.heap.size n cap a l w4 hn (HC.out.on h14) h14.size).mono ?_
    rintro e w5 ⟨rfl, hown5, hb5⟩
    have h15 := h14.trans (hb5.mono h14.size)
    have HA5 := Lib.hid (CellsAt.of_own hown5 HC.out.2.1)
    have HA35 := Lib.hid (((HA3.out.on hb4).on (hb5.mono hb4.size)).more (Nat.le_trans hb4.size hb5.size))
    clear hown5
    go_wp2_with fail
    refine (lEqCellS_any w5.heap.size n n n n _ _ l l w5 hn4 HA35.out HA5.out (Nat.le_refl _)).mono ?_
    rintro e w6 ⟨rfl, hb6⟩
    rw [HE.out]
    go_wp2
    go_ret
    exact ⟨rfl, h15.trans (hb6.mono h15.size)⟩

set_option maxHeartbeats 1000000 in
theorem law_InnerSides (a : Option Addr) (n cap : Nat) (l : List Cl) (w : World) (hc : CellsAt w.heap.size w a n l) (hm : n ≤ maxLen) :
    Calls Try.prog 7 #[.slice a n cap] w fun e w' => e = .returned (.bool true) ∧ Below w.heap.size w w' := by
  have hm2 : n ≤ 9223372036854775807 := by unfold maxLen at hm; omega
  have HC := Lib.hid hc
  have HE := Lib.hid (eqb_refl l)
  clear hc hm
  by_cases hs : (1048576 : Int) < n
  · go_enter Try.func7, Try.ntmps7
    go_wp2_with fail
    refine (lSz_big a n cap 1048576 _ (by omega) hs hm2).mono ?_
    rintro e w' ⟨rfl, rfl⟩
    go_wp2
    go_ret
    exact ⟨rfl, Below.refl _ _⟩
  · have hn : n ≤ 1048576 := by omega
    have hn4 : n ≤ 4194304 := by omega
    go_enter Try.func7, Try.ntmps7
    go_wp2_with fail
    refine (lSz_fits a n cap 1048576 _ (by omega) (by omega)).mono ?_
    rintro e w' ⟨rfl, rfl⟩
    go_wp2_with fail
    refine (lToCellS_any w.heap.size n cap a l w hn HC.out (Nat.le_refl _)).mono ?_
    rintro e w1 ⟨rfl, hown1, hb1⟩
    have HA1 := Lib.hid (CellsAt.of_own hown1 HC.out.2.1)
    clear hown1
    go_wp2_with fail
    refine (sInner w1.heap.size n n _ l w1 hn4 HA1.out (Nat.le_refl _)).mono ?_
    rintro e w2 ⟨rfl, hb2⟩
    obtain ⟨z, hz⟩ : ∃ z, innP l = z := ⟨_, rfl⟩
    rw [hz]
    have HZ := Lib.hid hz
    clear hz
    have h12 := hb1.trans (hb2.mono hb1.size)
    go_wp2_with fail
    refine (lToCellS_any w.heap.size n cap a l w2 hn (HC.out.on h12) h12.size).mono ?_
    rintro e w3 ⟨rfl, hown3, hb3⟩
    have h13 := h12.trans (hb3.mono h12.size)
    have HA3 := Lib.hid (CellsAt.of_own hown3 HC.out.2.1)
    clear hown3
    go_wp2_with fail
    refine (iInner w3.heap.size n n _ l w3 hn4 HA3.out (Nat.le_refl _)).mono ?_
    rintro e w4 ⟨rfl, hb4⟩
    rw [HZ.out]
    have h14 := h13.trans (hb4.mono h13.size)
    have hne : (z != z) = false := by simp
    go_wp2_with fail
    refine (lToCellS_any w.heap.size n cap a l w4 hn (HC.out.on h14) h14.size).mono ?_
    rintro e w5 ⟨rfl, hown5, hb5⟩
    have h15 := h14.trans (hb5.mono h14.size)
    have HA5 := Lib.hid (CellsAt.of_own hown5 HC.out.2.1)
    have HA35 := Lib.hid (((HA3.out.on hb4).on (hb5.mono hb4.size)).more (Nat.le_trans hb4.size hb5.size))
    clear hown5
    go_wp2_with fail
    refine (lEqCellS_any w5.heap.size n n n n _ _ l l w5 hn4 HA35.out HA5.out (Nat.le_refl _)).mono ?_
    rintro e w6 ⟨rfl, hb6⟩
    rw [HE.out]
    go_wp2
    go_ret
    exact ⟨rfl, h15.trans (hb6.mono h15.size)⟩

set_option maxHeartbeats 1000000 in
theorem law_IsRowConvex (a : Option Addr) (n cap : Nat) (l : List Cl) (w : World) (hc : CellsAt w.heap.size w a n l) (hm : n ≤ maxLen) :
    Calls Try.prog 8 #[.slice a n cap] w fun e w' => e = .returned (.bool true) ∧ Below w.heap.size w w' := by
  have hm2 : n ≤ 9223372036854775807 := by unfold maxLen at hm; omega
  have HC := Lib.hid hc
  have HE := Lib.hid (eqb_refl l)
  clear hc hm
  by_cases hs : (1048576 : Int) < n
  · go_enter Try.func8, Try.ntmps8
    go_wp2_with fail
    refine (lSz_big a n cap 1048576 _ (by omega) hs hm2).mono ?_
    rintro e w' ⟨rfl, rfl⟩
    go_wp2
    go_ret
    exact ⟨rfl, Below.refl _ _⟩
  · have hn : n ≤ 1048576 := by omega
    have hn4 : n ≤ 4194304 := by omega
    go_enter Try.func8, Try.ntmps8
    go_wp2_with fail
    refine (lSz_fits a n cap 1048576 _ (by omega) (by omega)).mono ?_
    rintro e w' ⟨rfl, rfl⟩
    go_wp2_with fail
    refine (lToCellS_any w.heap.size n cap a l w hn HC.out (Nat.le_refl _)).mono ?_
    rintro e w1 ⟨rfl, hown1, hb1⟩
    have HA1 := Lib.hid (CellsAt.of_own hown1 HC.out.2.1)
    clear hown1
    go_wp2_with fail
    refine (sRow w1.heap.size n n _ l w1 hn4 HA1.out (Nat.le_refl _)).mono ?_
    rintro e w2 ⟨rfl, hb2⟩
    obtain ⟨z, hz⟩ : ∃ z, rowC l = z := ⟨_, rfl⟩
    rw [hz]
    have HZ := Lib.hid hz
    clear hz
    have h12 := hb1.trans (hb2.mono hb1.size)
    go_wp2_with fail
    refine (lToCellS_any w.heap.size n cap a l w2 hn (HC.out.on h12) h12.size).mono ?_
    rintro e w3 ⟨rfl, hown3, hb3⟩
    have h13 := h12.trans (hb3.mono h12.size)
    have HA3 := Lib.hid (CellsAt.of_own hown3 HC.out.2.1)
    clear hown3
    go_wp2_with fail
    refine (iRow w3.heap.size n n _ l w3 hn4 (Nat.le_refl _) HA3.out (Nat.le_refl _)).mono ?_
    rintro e w4 ⟨rfl, hb4⟩
    rw [HZ.out]
    have h14 := h13.trans (hb4.mono h13.size)
    have hne : (z != z) = false := by simp
    go_wp2_with fail
    refine (lToCellS_any w.heap.size n cap a l w4 hn (HC.out.on h14) h14.size).mono ?_
    rintro e w5 ⟨rfl, hown5, hb5⟩
    have h15 := h14.trans (hb5.mono h14.size)
    have HA5 := Lib.hid (CellsAt.of_own hown5 HC.out.2.1)
    have HA35 := Lib.hid (((HA3.out.on hb4).on (hb5.mono hb4.size)).more (Nat.le_trans hb4.size hb5.size))
    clear hown5
    go_wp2_with fail
    refine (lEqCellS_any w5.heap.size n n n n _ _ l l w5 hn4 HA35.out HA5.out (Nat.le_refl _)).mono ?_
    rintro e w6 ⟨rfl, hb6⟩
    rw [HE.out]
    go_wp2
    go_ret
    exact ⟨rfl, h15.trans (hb6.mono h15.size)⟩

set_option maxHeartbeats 1000000 in
theorem law_SquaresIn (a : Option Addr) (n cap : Nat) (l : List Cl) (w : World) (hc : CellsAt w.heap.size w a n l) (hm : n ≤ maxLen) :
    Calls Try.prog 10 #[.slice a n cap] w fun e w' => e = .returned (.bool true) ∧ Below w.heap.size w w' := by
  have hm2 : n ≤ 9223372036854775807 := by unfold maxLen at hm; omega
  have HC := Lib.hid hc
  have HE := Lib.hid (eqb_refl l)
  clear hc hm
  by_cases hs : (1048576 : Int) < n
  · go_enter Try.func10, Try.ntmps10
    go_wp2_with fail
    refine (lSz_big a n cap 1048576 _ (by omega) hs hm2).mono ?_
    rintro e w' ⟨rfl, rfl⟩
    go_wp2
    go_ret
    exact ⟨rfl, Below.refl _ _⟩
  · have hn : n ≤ 1048576 := by omega
    have hn4 : n ≤ 4194304 := by omega
    go_enter Try.func10, Try.ntmps10
    go_wp2_with fail
    refine (lSz_fits a n cap 1048576 _ (by omega) (by omega)).mono ?_
    rintro e w' ⟨rfl, rfl⟩
    go_wp2_with fail
    refine (lToCellS_any w.heap.size n cap a l w hn HC.out (Nat.le_refl _)).mono ?_
    rintro e w1 ⟨rfl, hown1, hb1⟩
    have HA1 := Lib.hid (CellsAt.of_own hown1 HC.out.2.1)
    clear hown1
    go_wp2_with fail
    refine (sSq w1.heap.size n n _ l w1 hn4 HA1.out (Nat.le_refl _)).mono ?_
    rintro e w2 ⟨rfl, hb2⟩
    obtain ⟨z, hz⟩ : ∃ z, sqP l = z := ⟨_, rfl⟩
    rw [hz]
    have HZ := Lib.hid hz
    clear hz
    have h12 := hb1.trans (hb2.mono hb1.size)
    go_wp2_with fail
    refine (lToCellS_any w.heap.size n cap a l w2 hn (HC.out.on h12) h12.size).mono ?_
    rintro e w3 ⟨rfl, hown3, hb3⟩
    have h13 := h12.trans (hb3.mono h12.size)
    have HA3 := Lib.hid (CellsAt.of_own hown3 HC.out.2.1)
    clear hown3
    go_wp2_with fail
    refine (iSq w3.heap.size n n _ l w3 hn4 HA3.out (Nat.le_refl _)).mono ?_
    rintro e w4 ⟨rfl, hb4⟩
    rw [HZ.out]
    have h14 := h13.trans (hb4.mono h13.size)
    have hne : (z != z) = false := by simp
    go_wp2_with fail
    refine (lToCellS_any w.heap.size n cap a l w4 hn (HC.out.on h14) h14.size).mono ?_
    rintro e w5 ⟨rfl, hown5, hb5⟩
    have h15 := h14.trans (hb5.mono h14.size)
    have HA5 := Lib.hid (CellsAt.of_own hown5 HC.out.2.1)
    have HA35 := Lib.hid (((HA3.out.on hb4).on (hb5.mono hb4.size)).more (Nat.le_trans hb4.size hb5.size))
    clear hown5
    go_wp2_with fail
    refine (lEqCellS_any w5.heap.size n n n n _ _ l l w5 hn4 HA35.out HA5.out (Nat.le_refl _)).mono ?_
    rintro e w6 ⟨rfl, hb6⟩
    rw [HE.out]
    go_wp2
    go_ret
    exact ⟨rfl, h15.trans (hb6.mono h15.size)⟩

set_option maxHeartbeats 1000000 in
theorem law_IsConvexShape (a : Option Addr) (n cap : Nat) (l : List Cl) (w : World) (hc : CellsAt w.heap.size w a n l) (hm : n ≤ maxLen) :
    Calls Try.prog 9 #[.slice a n cap] w fun e w' => e = .returned (.bool true) ∧ Below w.heap.size w w' := by
  have hm2 : n ≤ 9223372036854775807 := by unfold maxLen at hm; omega
  have HC := Lib.hid hc
  have HE := Lib.hid (eqb_refl l)
  clear hc hm
  by_cases hs : (1048576 : Int) < n
  · go_enter Try.func9, Try.ntmps9
    go_wp2_with fail
    refine (lSz_big a n cap 1048576 _ (by omega) hs hm2).mono ?_
    rintro e w' ⟨rfl, rfl⟩
    go_wp2
    go_ret
    exact ⟨rfl, Below.refl _ _⟩
  · have hn : n ≤ 1048576 := by omega
    have hn4 : n ≤ 4194304 := by omega
    go_enter Try.func9, Try.ntmps9
    go_wp2_with fail
    refine (lSz_fits a n cap 1048576 _ (by omega) (by omega)).mono ?_
    rintro e w' ⟨rfl, rfl⟩
    go_wp2_with fail
    refine (lToCellS_any w.heap.size n cap a l w hn HC.out (Nat.le_refl _)).mono ?_
    rintro e w1 ⟨rfl, hown1, hb1⟩
    have HA1 := Lib.hid (CellsAt.of_own hown1 HC.out.2.1)
    clear hown1
    go_wp2_with fail
    refine (sConvex w1.heap.size n n _ l w1 hn HA1.out (Nat.le_refl _)).mono ?_
    rintro e w2 ⟨t1, rfl, hi1, hb2⟩
    have HI1 := Lib.hid hi1
    clear hi1
    have h12 := hb1.trans (hb2.mono hb1.size)
    go_wp2_with fail
    refine (lToCellS_any w.heap.size n cap a l w2 hn (HC.out.on h12) h12.size).mono ?_
    rintro e w3 ⟨rfl, hown3, hb3⟩
    have h13 := h12.trans (hb3.mono h12.size)
    have HA3 := Lib.hid (CellsAt.of_own hown3 HC.out.2.1)
    clear hown3
    go_wp2_with fail
    refine (iConvex w3.heap.size n n _ l w3 hn4 (Nat.le_refl _) HA3.out (Nat.le_refl _)).mono ?_
    rintro e w4 ⟨t2, rfl, hi2, hb4⟩
    have h14 := h13.trans (hb4.mono h13.size)
    obtain rfl : t2 = t1 := by rw [Bool.eq_iff_iff, hi2, HI1.out]
    clear hi2 HI1
    have hne : (t2 != t2) = false := by simp
    go_wp2_with fail
    refine (lToCellS_any w.heap.size n cap a l w4 hn (HC.out.on h14) h14.size).mono ?_
    rintro e w5 ⟨rfl, hown5, hb5⟩
    have h15 := h14.trans (hb5.mono h14.size)
    have HA5 := Lib.hid (CellsAt.of_own hown5 HC.out.2.1)
    have HA35 := Lib.hid (((HA3.out.on hb4).on (hb5.mono hb4.size)).more (Nat.le_trans hb4.size hb5.size))
    clear hown5
    go_wp2_with fail
    refine (lEqCellS_any w5.heap.size n n n n _ _ l l w5 hn4 HA35.out HA5.out (Nat.le_refl _)).mono ?_
    rintro e w6 ⟨rfl, hb6⟩
    rw [HE.out]
    go_wp2
    go_ret
    exact ⟨rfl, h15.trans (hb6.mono h15.size)⟩

set_option maxHeartbeats 1000000 in
theorem law_IsTreeLike (a : Option Addr) (n cap : Nat) (l : List Cl) (w : World) (hc : CellsAt w.heap.size w a n l) (hm : n ≤ maxLen) :
    Calls Try.prog 11 #[.slice a n cap] w fun e w' => e = .returned (.bool true) ∧ Below w.heap.size w w' := by
  have hm2 : n ≤ 9223372036854775807 := by unfold maxLen at hm; omega
  have HC := Lib.hid hc
  have HE := Lib.hid (eqb_refl l)
  clear hc hm
  by_cases hs : (1048576 : Int) < n
  · go_enter Try.func11, Try.ntmps11
    go_wp2_with fail
    refine (lSz_big a n cap 1048576 _ (by omega) hs hm2).mono ?_
    rintro e w' ⟨rfl, rfl⟩
    go_wp2
    go_ret
    exact ⟨rfl, Below.refl _ _⟩
  · have hn : n ≤ 1048576 := by omega
    have hn4 : n ≤ 4194304 := by omega
    go_enter Try.func11, Try.ntmps11
    go_wp2_with fail
    refine (lSz_fits a n cap 1048576 _ (by omega) (by omega)).mono ?_
    rintro e w' ⟨rfl, rfl⟩
    go_wp2_with fail
    refine (lToCellS_any w.heap.size n cap a l w hn HC.out (Nat.le_refl _)).mono ?_
    rintro e w1 ⟨rfl, hown1, hb1⟩
    have HA1 := Lib.hid (CellsAt.of_own hown1 HC.out.2.1)
    clear hown1
    go_wp2_with fail
    refine (sTree w1.heap.size n n _ l w1 hn4 HA1.out (Nat.le_refl _)).mono ?_
    rintro e w2 ⟨t1, rfl, hi1, hb2⟩
    have HI1 := Lib.hid hi1
    clear hi1
    have h12 := hb1.trans (hb2.mono hb1.size)
    go_wp2_with fail
    refine (lToCellS_any w.heap.size n cap a l w2 hn (HC.out.on h12) h12.size).mono ?_
    rintro e w3 ⟨rfl, hown3, hb3⟩
    have h13 := h12.trans (hb3.mono h12.size)
    have HA3 := Lib.hid (CellsAt.of_own hown3 HC.out.2.1)
    clear hown3
    go_wp2_with fail
    refine (iTree w3.heap.size n n _ l w3 hn4 (Nat.le_refl _) HA3.out (Nat.le_refl _)).mono ?_
    rintro e w4 ⟨t2, rfl, hi2, hb4⟩
    have h14 := h13.trans (hb4.mono h13.size)
    obtain rfl : t2 = t1 := by rw [Bool.eq_iff_iff, hi2, HI1.out]
    clear hi2 HI1
    have hne : (t2 != t2) = false := by simp
    go_wp2_with fail
    refine (lToCellS_any w.heap.size n cap a l w4 hn (HC.out.on h14) h14.size).mono ?_
    rintro e w5 ⟨rfl, hown5, hb5⟩
    have h15 := h14.trans (hb5.mono h14.size)
    have HA5 := Lib.hid (CellsAt.of_own hown5 HC.out.2.1)
    have HA35 := Lib.hid (((HA3.out.on hb4).on (hb5.mono hb4.size)).more (Nat.le_trans hb4.size hb5.size))
    clear hown5
    go_wp2_with fail
    refine (lEqCellS_any w5.heap.size n n n n _ _ l l w5 hn4 HA35.out HA5.out (Nat.le_refl _)).mono ?_
    rintro e w6 ⟨rfl, hb6⟩
    rw [HE.out]
    go_wp2
    go_ret
    exact ⟨rfl, h15.trans (hb6.mono h15.size)⟩

end Go.Proofs.Ythnapikklolgcaa
