/-
  The walks of the laws on motions one after the other, back again, and on shapes compared.
-/
import Derived.Test.YtiopnldddgikiaaMo7
import Derived.Test.YtiopnldddgikiaaJmo
import Derived.Test.YtiopnldddgikiaaJcm
import Derived.Test.YtiopnldddgikiaaLw1
import Derived.OpenShut
namespace Go.Proofs.Ytiopnldddgikiaa
open Go.RowKit

theorem law_ComposeMotions (a0 a1 : Int) (_ : (Lit.int .i64 a0).wf = true) (_ : (Lit.int .i64 a1).wf = true) (w : World) :
    Calls Try.prog 4 #[.int .i64 a0, .int .i64 a1] w fun e w' => e = .returned (.bool true) ∧ Below w.heap.size w w' := by
  have h1 := sComp a0 a1
  have h2 := iComp a0 a1
  generalize compI a0 a1 = r at h1 h2
  have hr : (r != r) = false := by simp
  go_enter Try.func4, Try.ntmps4
  go_wp2_with fail
  refine (h1 _).mono ?_
  rintro e w1 ⟨rfl, hb1⟩
  go_wp2_with fail
  refine (h2 _).mono ?_
  rintro e w2 ⟨rfl, hb2⟩
  go_wp2
  go_ret
  exact ⟨rfl, hb1.trans (hb2.mono hb1.size)⟩

theorem law_InverseMotion (a0 : Int) (_ : (Lit.int .i64 a0).wf = true) (w : World) :
    Calls Try.prog 5 #[.int .i64 a0] w fun e w' => e = .returned (.bool true) ∧ Below w.heap.size w w' := by
  have h1 := sInv a0
  have h2 := iInv a0
  generalize invI a0 = r at h1 h2
  have hr : (r != r) = false := by simp
  go_enter Try.func5, Try.ntmps5
  go_wp2_with fail
  refine (h1 _).mono ?_
  rintro e w1 ⟨rfl, hb1⟩
  go_wp2_with fail
  refine (h2 _).mono ?_
  rintro e w2 ⟨rfl, hb2⟩
  go_wp2
  go_ret
  exact ⟨rfl, hb1.trans (hb2.mono hb1.size)⟩

set_option maxHeartbeats 1000000 in
theorem law_CompareShapes (a : Option Addr) (n cap : Nat) (l : List Cl) (a2 : Option Addr) (m cap2 : Nat) (r : List Cl) (w : World) (hc : CellsAt w.heap.size w a n l) (hm : n ≤ maxLen) (hc2 : CellsAt w.heap.size w a2 m r) (hm2 : m ≤ maxLen) :
    Calls Try.prog 10 #[.slice a n cap, .slice a2 m cap2] w fun e w' => e = .returned (.bool true) ∧ Below w.heap.size w w' := by
  have hn2 : n ≤ 9223372036854775807 := by unfold maxLen at hm; omega
  have hm3 : m ≤ 9223372036854775807 := by unfold maxLen at hm2; omega
  have HC := Lib.hid hc
  have HD := Lib.hid hc2
  have HE := Lib.hid (eqb_refl l)
  have HF := Lib.hid (eqb_refl r)
  clear hc hm hc2 hm2
  by_cases hs : (1048576 : Int) < n
  · go_enter Try.func10, Try.ntmps10
    go_wp2_with fail
    refine (lSz_big a n cap 1048576 _ (by omega) hs hn2).mono ?_
    rintro e w' ⟨rfl, rfl⟩
    go_wp2
    go_ret
    exact ⟨rfl, Below.refl _ _⟩
  by_cases hs2 : (1048576 : Int) - n < m
  · go_enter Try.func10, Try.ntmps10
    go_wp2_with fail
    refine (lSz_fits a n cap 1048576 _ (by omega) (by omega)).mono ?_
    rintro e w' ⟨rfl, rfl⟩
    go_wp2_with fail
    refine (lSz_big a2 m cap2 (1048576 - n) _ (by omega) hs2 hm3).mono ?_
    rintro e w' ⟨rfl, rfl⟩
    go_wp2
    go_ret
    exact ⟨rfl, Below.refl _ _⟩
  · have hn : n ≤ 1048576 := by omega
    have hn4 : n ≤ 4194304 := by omega
    have hk : m ≤ 1048576 := by omega
    have hk4 : m ≤ 4194304 := by omega
    go_enter Try.func10, Try.ntmps10
    go_wp2_with fail
    refine (lSz_fits a n cap 1048576 _ (by omega) (by omega)).mono ?_
    rintro e w' ⟨rfl, rfl⟩
    go_wp2_with fail
    refine (lSz_fits a2 m cap2 (1048576 - n) _ (by omega) (by omega)).mono ?_
    rintro e w' ⟨rfl, rfl⟩
    go_wp2_with fail
    refine (lToCellS_any w.heap.size n cap a l w hn HC.out (Nat.le_refl _)).mono ?_
    rintro e w1 ⟨rfl, hown1, hb1⟩
    have HA1 := Lib.hid (CellsAt.of_own hown1 HC.out.2.1)
    clear hown1
    go_wp2_with fail
    refine (lToCellS_any w.heap.size m cap2 a2 r w1 hk (HD.out.on hb1) hb1.size).mono ?_
    rintro e w2 ⟨rfl, hown2, hb2⟩
    have h12 := hb1.trans (hb2.mono hb1.size)
    have HA2 := Lib.hid (CellsAt.of_own hown2 HD.out.2.1)
    have HA12 := Lib.hid ((HA1.out.on hb2).more hb2.size)
    clear hown2
    go_wp2_with fail
    refine (sCompare w2.heap.size n m n m _ _ l r w2 hn4 hk4 HA12.out HA2.out (Nat.le_refl _)).mono ?_
    rintro e w3 ⟨rfl, hb3⟩
    have h13 := h12.trans (hb3.mono h12.size)
    go_wp2_with fail
    refine (lToCellS_any w.heap.size n cap a l w3 hn (HC.out.on h13) h13.size).mono ?_
    rintro e w4 ⟨rfl, hown4, hb4⟩
    have h14 := h13.trans (hb4.mono h13.size)
    have HA4 := Lib.hid (CellsAt.of_own hown4 HC.out.2.1)
    clear hown4
    go_wp2_with fail
    refine (lToCellS_any w.heap.size m cap2 a2 r w4 hk (HD.out.on h14) h14.size).mono ?_
    rintro e w5 ⟨rfl, hown5, hb5⟩
    have h15 := h14.trans (hb5.mono h14.size)
    have HA5 := Lib.hid (CellsAt.of_own hown5 HD.out.2.1)
    have HA45 := Lib.hid ((HA4.out.on hb5).more hb5.size)
    clear hown5
    go_wp2_with fail
    refine (iCmpShp w5.heap.size n m n m _ _ l r w5 hn4 hk4 HA45.out HA5.out (Nat.le_refl _)).mono ?_
    rintro e w6 ⟨rfl, hg6⟩
    have hb6 := hg6.below
    have h16 := h15.trans (hb6.mono h15.size)
    have HA46 := Lib.hid (HA45.out.on hb6)
    have HA56 := Lib.hid (HA5.out.on hb6)
    go_wp2_with fail
    refine (lToCellS_any w.heap.size n cap a l w6 hn (HC.out.on h16) h16.size).mono ?_
    rintro e w7 ⟨rfl, hown7, hb7⟩
    have h17 := h16.trans (hb7.mono h16.size)
    have HA7 := Lib.hid (CellsAt.of_own hown7 HC.out.2.1)
    have HA47 := Lib.hid ((HA46.out.more hb6.size).on hb7)
    have HA57 := Lib.hid ((HA56.out.more hb6.size).on hb7)
    clear hown7
    go_wp2_with fail
    refine (lEqCellS_any w7.heap.size n n n n _ _ l l w7 hn4 (HA47.out.more hb7.size) HA7.out (Nat.le_refl _)).mono ?_
    rintro e w8 ⟨rfl, hb8⟩
    have h18 := h17.trans (hb8.mono h17.size)
    have HA58 := Lib.hid ((HA57.out.more hb7.size).on hb8)
    rw [HE.out]
    go_wp2_with fail
    refine (lToCellS_any w.heap.size m cap2 a2 r w8 hk (HD.out.on h18) h18.size).mono ?_
    rintro e w9 ⟨rfl, hown9, hb9⟩
    have h19 := h18.trans (hb9.mono h18.size)
    have HA9 := Lib.hid (CellsAt.of_own hown9 HD.out.2.1)
    have HA59 := Lib.hid ((HA58.out.more hb8.size).on hb9)
    clear hown9
    go_wp2_with fail
    refine (lEqCellS_any w9.heap.size m m m m _ _ r r w9 hk4 (HA59.out.more hb9.size) HA9.out (Nat.le_refl _)).mono ?_
    rintro e w10 ⟨rfl, hb10⟩
    rw [HF.out]
    go_wp2
    go_ret
    exact ⟨rfl, h19.trans (hb10.mono h19.size)⟩

end Go.Proofs.Ytiopnldddgikiaa
