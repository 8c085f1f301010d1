/-
  The walk of the law on SymmetriesOf.
-/
import Derived.Test.YtecfabhpjihcbaaLsi
import Derived.Test.YtecfabhpjihcbaaJsy
import Derived.Test.YtecfabhpjihcbaaLw3
namespace Go.Proofs.Ytecfabhpjihcbaa
open Go.RowKit

set_option maxHeartbeats 2000000 in
theorem law_SymmetriesOf (a : Option Addr) (n cap : Nat) (l : List Cl) (w : World) (hc : CellsAt w.heap.size w a n l) (hm : n ≤ maxLen) :
    Calls Try.prog 6 #[.slice a n cap] w fun e w' => e = .returned (.bool true) ∧ Below w.heap.size w w' := by
  have hm2 : n ≤ 9223372036854775807 := by unfold maxLen at hm; omega
  have HC := Lib.hid hc
  have HE := Lib.hid (eqb_refl l)
  have hs8 : (symS l).length ≤ 8 := by
    unfold symS
    split
    · exact symTo_len l 8
    · simp
  obtain ⟨zs, hzs⟩ : ∃ zs, symS l = zs := ⟨_, rfl⟩
  have HZ := Lib.hid hzs
  rw [hzs] at hs8
  clear hc hm hzs
  by_cases hs : (1048576 : Int) < n
  · go_enter Try.func6, Try.ntmps6
    go_wp2_with fail
    refine (lSz_big a n cap 1048576 _ (by omega) hs hm2).mono ?_
    rintro e w' ⟨rfl, rfl⟩
    go_wp2
    go_ret
    exact ⟨rfl, Below.refl _ _⟩
  · have hn : n ≤ 1048576 := by omega
    have hn4 : n ≤ 4194304 := by omega
    have hz4 : zs.length ≤ 4194304 := by omega
    have hk1 : ¬ ((1 : Int) + 2 * (n : Int) < 0) := by omega
    have hk2 : ¬ ((1 : Int) + (zs.length : Int) < 0) := by omega
    have hk3 : (((1 : Int) + (zs.length : Int)) != (1 + (zs.length : Int))) = false := by simp
    go_enter Try.func6, Try.ntmps6
    go_wp2_with fail
    refine (lSz_fits a n cap 1048576 _ (by omega) (by omega)).mono ?_
    rintro e w' ⟨rfl, rfl⟩
    go_wp2_with fail
    refine (lToCellS_any w.heap.size n cap a l w hn HC.out (Nat.le_refl _)).mono ?_
    rintro e w1 ⟨rfl, hown1, hb1⟩
    have HA1 := Lib.hid (CellsAt.of_own hown1 HC.out.2.1)
    clear hown1
    go_wp2_with fail
    refine (sSymm w1.heap.size n n _ l w1 hn HA1.out (Nat.le_refl _)).mono ?_
    rintro e w2 ⟨gw, cw, rfl, hown2, hb2⟩
    rw [HZ.out] at hown2 ⊢
    have h12 := hb1.trans (hb2.mono hb1.size)
    have HW2 := Lib.hid (IsRd.of_own hown2)
    clear hown2
    go_wp2_with fail
    refine (lToCellS_any w.heap.size n cap a l w2 hn (HC.out.on h12) h12.size).mono ?_
    rintro e w3 ⟨rfl, hown3, hb3⟩
    have h13 := h12.trans (hb3.mono h12.size)
    have HA3 := Lib.hid (CellsAt.of_own hown3 HC.out.2.1)
    have HX3 := Lib.hid hown3
    clear hown3
    go_wp2_with fail
    refine (iSymm w3.heap.size n n _ l w3 hn4 HA3.out (Nat.le_refl _)).mono ?_
    rintro e w4 ⟨v, rfl, hown4, hb4⟩
    rw [HZ.out] at hown4
    have h14 := h13.trans (hb4.mono h13.size)
    have b24 : Below w2.heap.size w2 w4 := hb3.trans (hb4.mono hb3.size)
    have HGC4 := Lib.hid (IsRd.of_own hown4)
    have HG4 := Lib.hid hown4
    have HW4 := Lib.hid (HW2.out.on b24)
    clear hown4
    go_wp2_with fail
    refine (lEqI w4.heap.size v _ zs w4 hz4 HGC4.out (HW4.out.more b24.size) (Nat.le_refl _)).mono ?_
    rintro e w5 ⟨rfl, hb5⟩
    have h15 := h14.trans (hb5.mono h14.size)
    go_wp2_with fail
    refine (lToCellS_any w.heap.size n cap a l w5 hn (HC.out.on h15) h15.size).mono ?_
    rintro e w6 ⟨rfl, hown6, hb6⟩
    have h16 := h15.trans (hb6.mono h15.size)
    have b46 : Below w4.heap.size w4 w6 := hb5.trans (hb6.mono hb5.size)
    have b36 : Below w3.heap.size w3 w6 := hb4.trans (b46.mono hb4.size)
    have HA6 := Lib.hid (CellsAt.of_own hown6 HC.out.2.1)
    have HA36 := Lib.hid ((HA3.out.on b36).more b36.size)
    clear hown6
    go_wp2_with fail
    refine (lEqCellS_any w6.heap.size n n n n _ _ l l w6 hn4 HA36.out HA6.out (Nat.le_refl _)).mono ?_
    rintro e w7 ⟨rfl, hb7⟩
    have h17 := h16.trans (hb7.mono h16.size)
    have b47 : Below w4.heap.size w4 w7 := b46.trans (hb7.mono b46.size)
    have b37 : Below w3.heap.size w3 w7 := b36.trans (hb7.mono b36.size)
    have b27 : Below w2.heap.size w2 w7 := b24.trans (b47.mono b24.size)
    have HX7 := Lib.hid (HX3.out.kept (grow_below b37 none) (none_row _))
    have HG7 := Lib.hid (HG4.out.kept (grow_below b47 none) (none_row _))
    rw [HE.out]
    go_wp2_with fail
    refine (lMark_any w2.heap.size n _ _ 1 l w7 hn4 (by omega) (by omega) HC.out.1 HX7.out).mono ?_
    rintro e w8 ⟨rfl, _, hg8⟩
    have b28 : Below w2.heap.size w2 w8 := b27.grown hg8 b27.size (fun k hk => (HX7.out.lt k hk).1)
    have h18 : Below w.heap.size w w8 := h12.trans (b28.mono h12.size)
    have HG8 := Lib.hid (HG7.out.kept hg8 (ne_row (HG7.out.lt) (fun k hk => by have := (HX3.out.lt k hk).2; omega)))
    have HGC8 := Lib.hid (IsRd.of_own HG8.out)
    have HW8 := Lib.hid (HW2.out.on b28)
    clear hg8
    go_wp2_with fail
    refine (lEqI w8.heap.size v _ zs w8 hz4 HGC8.out (HW8.out.more b28.size) (Nat.le_refl _)).mono ?_
    rintro e w9 ⟨rfl, hb9⟩
    have b29 : Below w2.heap.size w2 w9 := b28.trans (hb9.mono b28.size)
    have HG9 := Lib.hid (HG8.out.kept (grow_below hb9 none) (none_row _))
    go_wp2_with fail
    refine (lMarkI w3.heap.size v zs 1 w9 hz4 (by omega) (by omega) HG9.out).mono ?_
    rintro e w10 ⟨rfl, hx10, hg10⟩
    have b210 : Below w2.heap.size w2 w10 := b29.grown hg10 b29.size (fun k hk => Nat.le_trans hb3.size (HG9.out.lt k hk).1)
    have h110 : Below w.heap.size w w10 := h12.trans (b210.mono h12.size)
    have HM10 := Lib.hid (IsRd.of_own (zs := marksI 1 zs.length) (by rw [marksI_length]; exact hx10))
    clear hg10 hx10
    go_wp2_with fail
    refine (lHeldI w10.heap.size zs.length v 1 w10 hz4 (by omega) (by omega) HM10.out (Nat.le_refl _)).mono ?_
    rintro e w10' ⟨rfl, hb10⟩
    have b210' := b210.trans (hb10.mono b210.size)
    have h110' := h110.trans (hb10.mono h110.size)
    have HM10' := Lib.hid ((HM10.out.on hb10).more hb10.size)
    go_wp2_with fail
    refine (lToCellS_any w.heap.size n cap a l w10' hn (HC.out.on h110') h110'.size).mono ?_
    rintro e w11 ⟨rfl, hown11, hb11⟩
    have HA11 := Lib.hid (CellsAt.of_own hown11 HC.out.2.1)
    clear hown11
    go_wp2_with fail
    refine (iSymm w11.heap.size n n _ l w11 hn4 HA11.out (Nat.le_refl _)).mono ?_
    rintro e w12 ⟨v2, rfl, hown12, hb12⟩
    rw [HZ.out] at hown12
    have b1012 : Below w10'.heap.size w10' w12 := hb11.trans (hb12.mono hb11.size)
    have b212 : Below w2.heap.size w2 w12 := b210'.trans (b1012.mono b210'.size)
    have HH12 := Lib.hid (IsRd.of_own hown12)
    have HW12 := Lib.hid (HW2.out.on b212)
    clear hown12
    go_wp2_with fail
    refine (lEqI w12.heap.size v2 _ zs w12 hz4 HH12.out (HW12.out.more b212.size) (Nat.le_refl _)).mono ?_
    rintro e w13 ⟨rfl, hb13⟩
    have b1013 : Below w10'.heap.size w10' w13 := b1012.trans (hb13.mono b1012.size)
    have HM13 := Lib.hid ((HM10'.out.on b1013).more b1013.size)
    go_wp2_with fail
    refine (lHeldI w13.heap.size zs.length v 1 w13 hz4 (by omega) (by omega) HM13.out (Nat.le_refl _)).mono ?_
    rintro e w14 ⟨rfl, hb14⟩
    go_wp2
    go_ret
    exact ⟨rfl, h110'.trans ((b1013.trans (hb14.mono b1013.size)).mono h110'.size)⟩

end Go.Proofs.Ytecfabhpjihcbaa
