/-
  The walk of the law on PieceNamed.
-/
import Derived.Test.YtiopnldddgikiaaDoorPld
namespace Go.Proofs.YtiopnldddgikiaaDoor
open Go.RowKit

theorem fmB_size (s : ByteArray) : (fmB s).size ≤ 9 := by
  unfold fmB
  split
  · rename_i k h
    have := List.mem_of_find?_eq_some h
    exact txB_size k (List.mem_range.1 this)
  · decide

set_option maxHeartbeats 2000000 in
theorem law_PieceNamed (s : ByteArray) (hm : s.size ≤ maxLen) (w : World) (hN : Nmd w) (hM : Mx w) :
    Calls Tryd.prog 3 #[.string s] w fun e w' => e = .returned (.bool true) ∧ Below w.heap.size w w' := by
  by_cases hs : (1048576 : Int) < s.size
  · go_enter Tryd.func3, Tryd.ntmps3
    go_wp2
    go_ret
    exact ⟨rfl, Below.refl _ _⟩
  · have hn : s.size ≤ 1048576 := by omega
    have hn4 : s.size ≤ 4194304 := by omega
    have HMX := Lib.hid hM
    have hMl := hM.lt
    have HNM := Lib.hid hN
    have hNl := hN.lt
    have hf9 := fmB_size s
    have hrl := parS_le (fmB s)
    have HIN := Lib.hid (parS_in (fmB s) (by omega))
    obtain ⟨R, hR⟩ : ∃ R, parS (tx (fmB s)) = R := ⟨_, rfl⟩
    obtain ⟨b, hb⟩ : ∃ b, okP (tx (fmB s)) = b := ⟨_, rfl⟩
    have HR := Lib.hid hR
    have HBO := Lib.hid hb
    rw [hR] at hrl HIN
    have HF := Lib.hid (eqb_same R)
    have hr4 : R.length ≤ 4194304 := by omega
    have hk2 : ¬ ((1 : Int) + 2 * (R.length : Int) < 0) := by omega
    have hk3 : (((1 : Int) + 2 * (R.length : Int)) != (1 + 2 * (R.length : Int))) = false := by simp
    have hbb : (b != b) = false := by simp
    clear hM hN hR hb
    go_enter Tryd.func3, Tryd.ntmps3
    go_wp2_with fail
    refine (sNamed s w).mono ?_
    rintro e w2 ⟨gw, cw, rfl, hown2, hb2⟩
    rw [HR.out] at hown2 ⊢
    rw [HBO.out]
    have HW2 := Lib.hid (CellsAt.of_own hown2 HIN.out)
    clear hown2
    go_wp2_with fail
    refine (iNamed s w2 (HNM.out.on hb2 hNl) (HMX.out.on hb2 hMl)).mono ?_
    rintro e w4 ⟨v, rfl, hown4, hb4⟩
    rw [HR.out] at hown4
    rw [HBO.out]
    obtain ⟨ag, cg, rfl⟩ := own_sl hown4
    have h14 := hb2.trans (hb4.mono hb2.size)
    have HGC4 := Lib.hid (CellsAt.of_own hown4 HIN.out)
    have HG4 := Lib.hid hown4
    have HW4 := Lib.hid (HW2.out.on hb4)
    clear hown4
    go_wp2_with fail
    refine (lEqCellS_any w4.heap.size R.length R.length cg cw ag _ R R w4 hr4 HGC4.out (HW4.out.more hb4.size) (Nat.le_refl _)).mono ?_
    rintro e w9 ⟨rfl, hb9⟩
    have b29 : Below w2.heap.size w2 w9 := hb4.trans (hb9.mono hb4.size)
    have HG9 := Lib.hid (HG4.out.kept (grow_below hb9 none) (none_row2 _))
    rw [HF.out]
    go_wp2_with fail
    refine (lMark_any w2.heap.size R.length _ _ 1 R w9 hr4 (by omega) (by omega) rfl HG9.out).mono ?_
    rintro e w10 ⟨rfl, hx10, hg10⟩
    have b210 : Below w2.heap.size w2 w10 := b29.grown hg10 b29.size (fun k hk => (HG9.out.lt k hk).1)
    have h110 : Below w.heap.size w w10 := hb2.trans (b210.mono hb2.size)
    have HM10 := Lib.hid (CellsAt.of_own hx10 (marks_in 1 R.length (by omega) (by omega)))
    clear hg10 hx10
    go_wp2_with fail
    refine (lHeld w10.heap.size R.length cg ag 1 w10 hr4 (by omega) (by omega) HM10.out).mono ?_
    rintro e w' ⟨rfl, rfl⟩
    go_wp2_with fail
    refine (iNamed s w10 (HNM.out.on h110 hNl) (HMX.out.on h110 hMl)).mono ?_
    rintro e w12 ⟨v2, rfl, hown12, hb12⟩
    rw [HR.out] at hown12
    rw [HBO.out]
    obtain ⟨ah, ch, rfl⟩ := own_sl hown12
    have b212 : Below w2.heap.size w2 w12 := b210.trans (hb12.mono b210.size)
    have HH12 := Lib.hid (CellsAt.of_own hown12 HIN.out)
    have HW12 := Lib.hid (HW2.out.on b212)
    clear hown12
    go_wp2_with fail
    refine (lEqCellS_any w12.heap.size R.length R.length ch cw ah _ R R w12 hr4 HH12.out (HW12.out.more b212.size) (Nat.le_refl _)).mono ?_
    rintro e w13 ⟨rfl, hb13⟩
    have b1013 : Below w10.heap.size w10 w13 := hb12.trans (hb13.mono hb12.size)
    have HM13 := Lib.hid (HM10.out.on b1013)
    rw [HF.out]
    go_wp2_with fail
    refine (lHeld w10.heap.size R.length cg ag 1 w13 hr4 (by omega) (by omega) HM13.out).mono ?_
    rintro e w' ⟨rfl, rfl⟩
    go_wp2
    go_ret
    exact ⟨rfl, h110.trans (b1013.mono h110.size)⟩

end Go.Proofs.YtiopnldddgikiaaDoor
