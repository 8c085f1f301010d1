/-
  The walks of the laws on the canonical shape, congruence and mirror images.
-/
import Derived.Test.YtecfabhpjihcbaaJot
import Derived.Test.YtecfabhpjihcbaaJsy
import Derived.Test.YtecfabhpjihcbaaMo6
import Derived.Test.YtecfabhpjihcbaaLw3
namespace Go.Proofs.Ytecfabhpjihcbaa
open Go.RowKit

set_option maxHeartbeats 2000000 in
theorem law_CanonicalShape (a : Option Addr) (n cap : Nat) (l : List Cl) (w : World) (hc : CellsAt w.heap.size w a n l) (hm : n ≤ maxLen) :
    Calls Try.prog 5 #[.slice a n cap] w fun e w' => e = .returned (.bool true) ∧ Below w.heap.size w w' := by
  have hm2 : n ≤ 9223372036854775807 := by unfold maxLen at hm; omega
  have HC := Lib.hid hc
  have HE := Lib.hid (eqb_refl l)
  have HF := Lib.hid (eqb_refl (canonS l))
  have HIN := Lib.hid (show ∀ c ∈ (canonS l), InC c from let HC := HC; (canonS_inC l))
  have hrl : (canonS l).length ≤ l.length := (canonS_len l)
  rw [hc.1] at hrl
  clear hc hm
  by_cases hs : (1048576 : Int) < n
  · go_enter Try.func5, Try.ntmps5
    go_wp2_with fail
    refine (lSz_big a n cap 1048576 _ (by omega) hs hm2).mono ?_
    rintro e w' ⟨rfl, rfl⟩
    go_wp2
    go_ret
    exact ⟨rfl, Below.refl _ _⟩
  · have hn : n ≤ 1048576 := by omega
    have hn4 : n ≤ 4194304 := by omega
    have hr4 : (canonS l).length ≤ 4194304 := by omega
    have hk1 : ¬ ((1 : Int) + 2 * (n : Int) < 0) := by omega
    have hk2 : ¬ ((1 : Int) + 2 * ((canonS l).length : Int) < 0) := by omega
    have hk3 : (((1 : Int) + 2 * ((canonS l).length : Int)) != (1 + 2 * ((canonS l).length : Int))) = false := by simp
    go_enter Try.func5, Try.ntmps5
    go_wp2_with fail
    refine (lSz_fits a n cap 1048576 _ (by omega) (by omega)).mono ?_
    rintro e w' ⟨rfl, rfl⟩
    go_wp2_with fail
    refine (lToCellS_any w.heap.size n cap a l w hn HC.out (Nat.le_refl _)).mono ?_
    rintro e w1 ⟨rfl, hown1, hb1⟩
    have HA1 := Lib.hid (CellsAt.of_own hown1 HC.out.2.1)
    clear hown1
    go_wp2_with fail
    refine (sCanon w1.heap.size n n _ l w1 hn HA1.out (Nat.le_refl _)).mono ?_
    rintro e w2 ⟨gw, cw, rfl, hown2, hb2⟩
    have h12 := hb1.trans (hb2.mono hb1.size)
    have HW2 := Lib.hid hown2
    clear hown2
    go_wp2_with fail
    refine (lToCellS_any w.heap.size n cap a l w2 hn (HC.out.on h12) h12.size).mono ?_
    rintro e w3 ⟨rfl, hown3, hb3⟩
    have h13 := h12.trans (hb3.mono h12.size)
    have HA3 := Lib.hid (CellsAt.of_own hown3 HC.out.2.1)
    have HX3 := Lib.hid hown3
    clear hown3
    go_wp2_with fail
    refine (iCanon w3.heap.size n n _ l w3 hn4 HA3.out (Nat.le_refl _)).mono ?_
    rintro e w4 ⟨v, rfl, hown4, hb4⟩
    obtain ⟨ag, cg, rfl⟩ := own_slice hown4
    have h14 := h13.trans (hb4.mono h13.size)
    have b24 : Below w2.heap.size w2 w4 := hb3.trans (hb4.mono hb3.size)
    have HGC4 := Lib.hid (CellsAt.of_own hown4 HIN.out)
    have HG4 := Lib.hid hown4
    have HW4 := Lib.hid (HW2.out.on b24)
    clear hown4
    go_wp2_with fail
    refine (lEqCellS_any w4.heap.size (canonS l).length (canonS l).length cg cw ag _ (canonS l) (canonS l) w4 hr4 HGC4.out (HW4.out.more b24.size) (Nat.le_refl _)).mono ?_
    rintro e w5 ⟨rfl, hb5⟩
    have h15 := h14.trans (hb5.mono h14.size)
    rw [HF.out]
    go_wp2_with fail
    refine (lToCellS_any w.heap.size n cap a l w5 hn (HC.out.on h15) h15.size).mono ?_
    rintro e w6 ⟨rfl, hown6, hb6⟩
    have h16 := h15.trans (hb6.mono h15.size)
    have b46 : Below w4.heap.size w4 w6 := hb5.trans (hb6.mono hb5.size)
    have b36 : Below w3.heap.size w3 w6 := hb4.trans (b46.mono hb4.size)
    have HA6 := Lib.hid (CellsAt.of_own hown6 HC.out.2.1)
    have HA36 := Lib.hid ((HA3.out.on b36).more b36.size)
    clear hown6
    go_wp2_with fail
    refine (lEqCellS_any w6.heap.size n n n n _ _ l l w6 hn4 HA36.out HA6.out (Nat.le_refl _)).mono ?_
    rintro e w7 ⟨rfl, hb7⟩
    have h17 := h16.trans (hb7.mono h16.size)
    have b47 : Below w4.heap.size w4 w7 := b46.trans (hb7.mono b46.size)
    have b37 : Below w3.heap.size w3 w7 := b36.trans (hb7.mono b36.size)
    have b27 : Below w2.heap.size w2 w7 := b24.trans (b47.mono b24.size)
    have HX7 := Lib.hid (HX3.out.kept (grow_below b37 none) (none_row _))
    have HG7 := Lib.hid (HG4.out.kept (grow_below b47 none) (none_row _))
    rw [HE.out]
    go_wp2_with fail
    refine (lMark_any w2.heap.size n _ _ 1 l w7 hn4 (by omega) (by omega) HC.out.1 HX7.out).mono ?_
    rintro e w8 ⟨rfl, _, hg8⟩
    have b28 : Below w2.heap.size w2 w8 := b27.grown hg8 b27.size (fun k hk => (HX7.out.lt k hk).1)
    have h18 : Below w.heap.size w w8 := h12.trans (b28.mono h12.size)
    have HG8 := Lib.hid (HG7.out.kept hg8 (ne_row (HG7.out.lt) (fun k hk => by have := (HX3.out.lt k hk).2; omega)))
    have HGC8 := Lib.hid (CellsAt.of_own HG8.out HIN.out)
    have HW8 := Lib.hid (HW2.out.on b28)
    clear hg8
    go_wp2_with fail
    refine (lEqCellS_any w8.heap.size (canonS l).length (canonS l).length cg cw ag _ (canonS l) (canonS l) w8 hr4 HGC8.out (HW8.out.more b28.size) (Nat.le_refl _)).mono ?_
    rintro e w9 ⟨rfl, hb9⟩
    have b29 : Below w2.heap.size w2 w9 := b28.trans (hb9.mono b28.size)
    have HG9 := Lib.hid (HG8.out.kept (grow_below hb9 none) (none_row _))
    rw [HF.out]
    go_wp2_with fail
    refine (lMark_any w3.heap.size (canonS l).length _ _ 1 (canonS l) w9 hr4 (by omega) (by omega) rfl HG9.out).mono ?_
    rintro e w10 ⟨rfl, hx10, hg10⟩
    have b210 : Below w2.heap.size w2 w10 := b29.grown hg10 b29.size (fun k hk => Nat.le_trans hb3.size (HG9.out.lt k hk).1)
    have h110 : Below w.heap.size w w10 := h12.trans (b210.mono h12.size)
    have HM10 := Lib.hid (CellsAt.of_own hx10 (marks_in 1 (canonS l).length (by omega) (by omega)))
    clear hg10 hx10
    go_wp2_with fail
    refine (lHeld w10.heap.size (canonS l).length cg ag 1 w10 hr4 (by omega) (by omega) HM10.out).mono ?_
    rintro e w' ⟨rfl, rfl⟩
    go_wp2_with fail
    refine (lToCellS_any w.heap.size n cap a l w10 hn (HC.out.on h110) h110.size).mono ?_
    rintro e w11 ⟨rfl, hown11, hb11⟩
    have HA11 := Lib.hid (CellsAt.of_own hown11 HC.out.2.1)
    have HX11 := Lib.hid hown11
    clear hown11
    go_wp2_with fail
    refine (iCanon w11.heap.size n n _ l w11 hn4 HA11.out (Nat.le_refl _)).mono ?_
    rintro e w12 ⟨v2, rfl, hown12, hb12⟩
    obtain ⟨ah, ch, rfl⟩ := own_slice hown12
    have b1012 : Below w10.heap.size w10 w12 := hb11.trans (hb12.mono hb11.size)
    have b212 : Below w2.heap.size w2 w12 := b210.trans (b1012.mono b210.size)
    have HH12 := Lib.hid (CellsAt.of_own hown12 HIN.out)
    have HW12 := Lib.hid (HW2.out.on b212)
    clear hown12
    go_wp2_with fail
    refine (lEqCellS_any w12.heap.size (canonS l).length (canonS l).length ch cw ah _ (canonS l) (canonS l) w12 hr4 HH12.out (HW12.out.more b212.size) (Nat.le_refl _)).mono ?_
    rintro e w13 ⟨rfl, hb13⟩
    have b1013 : Below w10.heap.size w10 w13 := b1012.trans (hb13.mono b1012.size)
    have HM13 := Lib.hid (HM10.out.on b1013)
    rw [HF.out]
    go_wp2_with fail
    refine (lHeld w10.heap.size (canonS l).length cg ag 1 w13 hr4 (by omega) (by omega) HM13.out).mono ?_
    rintro e w' ⟨rfl, rfl⟩
    go_wp2
    go_ret
    exact ⟨rfl, h110.trans (b1013.mono h110.size)⟩


set_option maxHeartbeats 1000000 in
theorem law_IsCongruent (a : Option Addr) (n cap : Nat) (l : List Cl) (a2 : Option Addr) (m cap2 : Nat) (r : List Cl) (w : World) (hc : CellsAt w.heap.size w a n l) (hm : n ≤ maxLen) (hc2 : CellsAt w.heap.size w a2 m r) (hm2 : m ≤ maxLen) :
    Calls Try.prog 7 #[.slice a n cap, .slice a2 m cap2] w fun e w' => e = .returned (.bool true) ∧ Below w.heap.size w w' := by
  have hn2 : n ≤ 9223372036854775807 := by unfold maxLen at hm; omega
  have hm3 : m ≤ 9223372036854775807 := by unfold maxLen at hm2; omega
  have HC := Lib.hid hc
  have HD := Lib.hid hc2
  have HE := Lib.hid (eqb_refl l)
  have HF := Lib.hid (eqb_refl r)
  clear hc hm hc2 hm2
  by_cases hs : (1048576 : Int) < n
  · go_enter Try.func7, Try.ntmps7
    go_wp2_with fail
    refine (lSz_big a n cap 1048576 _ (by omega) hs hn2).mono ?_
    rintro e w' ⟨rfl, rfl⟩
    go_wp2
    go_ret
    exact ⟨rfl, Below.refl _ _⟩
  by_cases hs2 : (1048576 : Int) - n < m
  · go_enter Try.func7, Try.ntmps7
    go_wp2_with fail
    refine (lSz_fits a n cap 1048576 _ (by omega) (by omega)).mono ?_
    rintro e w' ⟨rfl, rfl⟩
    go_wp2_with fail
    refine (lSz_big a2 m cap2 (1048576 - n) _ (by omega) hs2 hm3).mono ?_
    rintro e w' ⟨rfl, rfl⟩
    go_wp2
    go_ret
    exact ⟨rfl, Below.refl _ _⟩
  · have hn : n ≤ 1048576 := by omega
    have hn4 : n ≤ 4194304 := by omega
    have hk : m ≤ 1048576 := by omega
    have hk4 : m ≤ 4194304 := by omega
    go_enter Try.func7, Try.ntmps7
    go_wp2_with fail
    refine (lSz_fits a n cap 1048576 _ (by omega) (by omega)).mono ?_
    rintro e w' ⟨rfl, rfl⟩
    go_wp2_with fail
    refine (lSz_fits a2 m cap2 (1048576 - n) _ (by omega) (by omega)).mono ?_
    rintro e w' ⟨rfl, rfl⟩
    go_wp2_with fail
    refine (lToCellS_any w.heap.size n cap a l w hn HC.out (Nat.le_refl _)).mono ?_
    rintro e w1 ⟨rfl, hown1, hb1⟩
    have HA1 := Lib.hid (CellsAt.of_own hown1 HC.out.2.1)
    clear hown1
    go_wp2_with fail
    refine (lToCellS_any w.heap.size m cap2 a2 r w1 hk (HD.out.on hb1) hb1.size).mono ?_
    rintro e w2 ⟨rfl, hown2, hb2⟩
    have h12 := hb1.trans (hb2.mono hb1.size)
    have HA2 := Lib.hid (CellsAt.of_own hown2 HD.out.2.1)
    have HA12 := Lib.hid ((HA1.out.on hb2).more hb2.size)
    clear hown2
    go_wp2_with fail
    refine (sCongr w2.heap.size n m n m _ _ l r w2 hn hk HA12.out HA2.out (Nat.le_refl _)).mono ?_
    rintro e w3 ⟨rfl, hb3⟩
    have h13 := h12.trans (hb3.mono h12.size)
    go_wp2_with fail
    refine (lToCellS_any w.heap.size n cap a l w3 hn (HC.out.on h13) h13.size).mono ?_
    rintro e w4 ⟨rfl, hown4, hb4⟩
    have h14 := h13.trans (hb4.mono h13.size)
    have HA4 := Lib.hid (CellsAt.of_own hown4 HC.out.2.1)
    clear hown4
    go_wp2_with fail
    refine (lToCellS_any w.heap.size m cap2 a2 r w4 hk (HD.out.on h14) h14.size).mono ?_
    rintro e w5 ⟨rfl, hown5, hb5⟩
    have h15 := h14.trans (hb5.mono h14.size)
    have HA5 := Lib.hid (CellsAt.of_own hown5 HD.out.2.1)
    have HA45 := Lib.hid ((HA4.out.on hb5).more hb5.size)
    clear hown5
    go_wp2_with fail
    refine (iCongr w5.heap.size n m n m _ _ l r w5 hn4 hk4 HA45.out HA5.out (Nat.le_refl _)).mono ?_
    rintro e w6 ⟨rfl, hb6⟩
    have h16 := h15.trans (hb6.mono h15.size)
    have HA46 := Lib.hid (HA45.out.on hb6)
    have HA56 := Lib.hid (HA5.out.on hb6)
    go_wp2_with fail
    refine (lToCellS_any w.heap.size n cap a l w6 hn (HC.out.on h16) h16.size).mono ?_
    rintro e w7 ⟨rfl, hown7, hb7⟩
    have h17 := h16.trans (hb7.mono h16.size)
    have HA7 := Lib.hid (CellsAt.of_own hown7 HC.out.2.1)
    have HA47 := Lib.hid ((HA46.out.more hb6.size).on hb7)
    have HA57 := Lib.hid ((HA56.out.more hb6.size).on hb7)
    clear hown7
    go_wp2_with fail
    refine (lEqCellS_any w7.heap.size n n n n _ _ l l w7 hn4 (HA47.out.more hb7.size) HA7.out (Nat.le_refl _)).mono ?_
    rintro e w8 ⟨rfl, hb8⟩
    have h18 := h17.trans (hb8.mono h17.size)
    have HA58 := Lib.hid ((HA57.out.more hb7.size).on hb8)
    rw [HE.out]
    go_wp2_with fail
    refine (lToCellS_any w.heap.size m cap2 a2 r w8 hk (HD.out.on h18) h18.size).mono ?_
    rintro e w9 ⟨rfl, hown9, hb9⟩
    have h19 := h18.trans (hb9.mono h18.size)
    have HA9 := Lib.hid (CellsAt.of_own hown9 HD.out.2.1)
    have HA59 := Lib.hid ((HA58.out.more hb8.size).on hb9)
    clear hown9
    go_wp2_with fail
    refine (lEqCellS_any w9.heap.size m m m m _ _ r r w9 hk4 (HA59.out.more hb9.size) HA9.out (Nat.le_refl _)).mono ?_
    rintro e w10 ⟨rfl, hb10⟩
    rw [HF.out]
    go_wp2
    go_ret
    exact ⟨rfl, h19.trans (hb10.mono h19.size)⟩

set_option maxHeartbeats 1000000 in
theorem law_IsChiral (a : Option Addr) (n cap : Nat) (l : List Cl) (w : World) (hc : CellsAt w.heap.size w a n l) (hm : n ≤ maxLen) :
    Calls Try.prog 8 #[.slice a n cap] w fun e w' => e = .returned (.bool true) ∧ Below w.heap.size w w' := by
  have hm2 : n ≤ 9223372036854775807 := by unfold maxLen at hm; omega
  have HC := Lib.hid hc
  have HE := Lib.hid (eqb_refl l)
  clear hc hm
  by_cases hs : (1048576 : Int) < n
  · go_enter Try.func8, Try.ntmps8
    go_wp2_with fail
    refine (lSz_big a n cap 1048576 _ (by omega) hs hm2).mono ?_
    rintro e w' ⟨rfl, rfl⟩
    go_wp2
    go_ret
    exact ⟨rfl, Below.refl _ _⟩
  · have hn : n ≤ 1048576 := by omega
    have hn4 : n ≤ 4194304 := by omega
    go_enter Try.func8, Try.ntmps8
    go_wp2_with fail
    refine (lSz_fits a n cap 1048576 _ (by omega) (by omega)).mono ?_
    rintro e w' ⟨rfl, rfl⟩
    go_wp2_with fail
    refine (lToCellS_any w.heap.size n cap a l w hn HC.out (Nat.le_refl _)).mono ?_
    rintro e w1 ⟨rfl, hown1, hb1⟩
    have HA1 := Lib.hid (CellsAt.of_own hown1 HC.out.2.1)
    clear hown1
    go_wp2_with fail
    refine (sChiral w1.heap.size n n _ l w1 hn HA1.out (Nat.le_refl _)).mono ?_
    rintro e w2 ⟨rfl, hb2⟩
    have h12 := hb1.trans (hb2.mono hb1.size)
    go_wp2_with fail
    refine (lToCellS_any w.heap.size n cap a l w2 hn (HC.out.on h12) h12.size).mono ?_
    rintro e w3 ⟨rfl, hown3, hb3⟩
    have h13 := h12.trans (hb3.mono h12.size)
    have HA3 := Lib.hid (CellsAt.of_own hown3 HC.out.2.1)
    clear hown3
    go_wp2_with fail
    refine (iChiral w3.heap.size n n _ l w3 hn4 HA3.out (Nat.le_refl _)).mono ?_
    rintro e w4 ⟨rfl, hb4⟩
    have h14 := h13.trans (hb4.mono h13.size)
    go_wp2_with fail
    refine (lToCellS_any w.heap.size n cap a l w4 hn (HC.out.on h14) h14.size).mono ?_
    rintro e w5 ⟨rfl, hown5, hb5⟩
    have h15 := h14.trans (hb5.mono h14.size)
    have HA5 := Lib.hid (CellsAt.of_own hown5 HC.out.2.1)
    have HA35 := Lib.hid (((HA3.out.on hb4).on (hb5.mono hb4.size)).more (Nat.le_trans hb4.size hb5.size))
    clear hown5
    go_wp2_with fail
    refine (lEqCellS_any w5.heap.size n n n n _ _ l l w5 hn4 HA35.out HA5.out (Nat.le_refl _)).mono ?_
    rintro e w6 ⟨rfl, hb6⟩
    rw [HE.out]
    go_wp2
    go_ret
    exact ⟨rfl, h15.trans (hb6.mono h15.size)⟩


end Go.Proofs.Ytecfabhpjihcbaa
