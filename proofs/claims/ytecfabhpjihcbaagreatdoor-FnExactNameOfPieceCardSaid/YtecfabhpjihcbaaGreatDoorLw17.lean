/-
  The walk of the law on NameOfPiece.
-/
import Derived.Test.YtecfabhpjihcbaaGreatDoorPld
import Derived.Test.YtecfabhpjihcbaaGreatDoorNmp
namespace Go.Proofs.YtecfabhpjihcbaaGreatDoor
open Go.RowKit

set_option maxHeartbeats 1000000 in
theorem law_NameOfPiece (a : Option Addr) (n cap : Nat) (l : List Cl) (w : World) (hc : CellsAt w.heap.size w a n l) (hm : n ≤ maxLen) (hN : Nmd w) (hM : Mx w) :
    Calls Tryz.prog 3 #[.slice a n cap] w fun e w' => e = .returned (.bool true) ∧ Below w.heap.size w w' := by
  have hm2 : n ≤ 9223372036854775807 := by unfold maxLen at hm; omega
  have HC := Lib.hid hc
  have HE := Lib.hid (eqb_refl l)
  have HMX := Lib.hid hM
  have hMl := hM.lt
  have HNM := Lib.hid hN
  have hNl := hN.lt
  clear hc hm hN hM
  by_cases hs : (1048576 : Int) < n
  · go_enter Tryz.func3, Tryz.ntmps3
    go_wp2_with fail
    refine (lSz_big a n cap 1048576 _ (by omega) hs hm2).mono ?_
    rintro e w' ⟨rfl, rfl⟩
    go_wp2
    go_ret
    exact ⟨rfl, Below.refl _ _⟩
  · have hn : n ≤ 1048576 := by omega
    have hn4 : n ≤ 4194304 := by omega
    generalize hnm : nmS l = nm
    have HNS := Lib.hid hnm
    go_enter Tryz.func3, Tryz.ntmps3
    clear hnm
    go_wp2_with fail
    refine (lSz_fits a n cap 1048576 _ (by omega) (by omega)).mono ?_
    rintro e w' ⟨rfl, rfl⟩
    go_wp2_with fail
    refine (lToCellS_any w.heap.size n cap a l w hn HC.out (Nat.le_refl _)).mono ?_
    rintro e w1 ⟨rfl, hown1, hb1⟩
    have HA1 := Lib.hid (CellsAt.of_own hown1 HC.out.2.1)
    clear hown1
    go_wp2_with fail
    refine (sName w1.heap.size n n _ l w1 hn HA1.out (Nat.le_refl _)).mono ?_
    rintro e w2 ⟨rfl, hb2⟩
    rw [HNS.out]
    have h12 := hb1.trans (hb2.mono hb1.size)
    go_wp2_with fail
    refine (lToCellS_any w.heap.size n cap a l w2 hn (HC.out.on h12) h12.size).mono ?_
    rintro e w3 ⟨rfl, hown3, hb3⟩
    have h13 := h12.trans (hb3.mono h12.size)
    have HA3 := Lib.hid (CellsAt.of_own hown3 HC.out.2.1)
    clear hown3
    go_wp2_with fail
    refine (iName w3.heap.size n n _ l w3 hn4 HA3.out (Nat.le_refl _) (HNM.out.on h13 hNl) (HMX.out.on h13 hMl)).mono ?_
    rintro e w4 ⟨rfl, hb4⟩
    rw [HNS.out]
    have h14 := h13.trans (hb4.mono h13.size)
    go_wp2_with fail
    refine (lToCellS_any w.heap.size n cap a l w4 hn (HC.out.on h14) h14.size).mono ?_
    rintro e w5 ⟨rfl, hown5, hb5⟩
    have h15 := h14.trans (hb5.mono h14.size)
    have HA5 := Lib.hid (CellsAt.of_own hown5 HC.out.2.1)
    have HA35 := Lib.hid (((HA3.out.on hb4).on (hb5.mono hb4.size)).more (Nat.le_trans hb4.size hb5.size))
    clear hown5
    go_wp2_with fail
    refine (lEqCellS_any w5.heap.size n n n n _ _ l l w5 hn4 HA35.out HA5.out (Nat.le_refl _)).mono ?_
    rintro e w6 ⟨rfl, hb6⟩
    rw [HE.out]
    go_wp2
    go_ret
    exact ⟨rfl, h15.trans (hb6.mono h15.size)⟩

end Go.Proofs.YtecfabhpjihcbaaGreatDoor
