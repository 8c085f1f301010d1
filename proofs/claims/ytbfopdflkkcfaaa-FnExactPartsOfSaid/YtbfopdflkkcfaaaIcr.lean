/-
  A shape moved to its corner, in the program: what the call gives.
-/
import Derived.Test.YtbfopdflkkcfaaaIsz
import Derived.Test.YtbfopdflkkcfaaaImv
namespace Go.Proofs.Ytbfopdflkkcfaaa
open Go.RowKit

theorem cornS_no {l : List Cl} (h : isShape l = false) : cornS l = [] := if_neg (by rw [h]; simp)

set_option maxHeartbeats 1000000 in
set_option maxRecDepth 100000 in
theorem iCorner (B n cap : Nat) (a : Option Addr) (l : List Cl) (w : World) (hn : n ≤ 4194304) (hc : CellsAt B w a n l) (hB : B ≤ w.heap.size) :
    Calls Try.prog 64 #[.slice a n cap] w fun e w' => ∃ v, e = .returned v ∧ Own w (cornS l) v w' := by
  have H := Lib.hid hc
  clear hc
  by_cases h : isShape l = true
  · have HM := Lib.hid (cornS_moveS h).2
    have hl := ((isShape_iff l).1 h).1
    have hlx : lstX l = minX l := lst_min _ _ (by omega)
    have hly : lstY l = minY l := lst_min _ _ (by omega)
    have HLX := Lib.hid hlx
    have HLY := Lib.hid hly
    have hbd := min_in h
    rw [H.out.1] at hl
    clear hlx hly
    go_enter Try.func64, Try.ntmps64
    go_wp2_with fail
    refine (iIsShape B n cap a l w hn H.out hB).mono ?_
    rintro e w1 ⟨rfl, hb1⟩
    go_wp2_with fail
    refine (iBounds B n cap a l w1 hn (by omega) (H.out.on (hb1.mono hB)) (Nat.le_trans hB hb1.size)).mono ?_
    rintro e w2 ⟨rfl, hb2⟩
    rw [HLX.out, HLY.out]
    have hb := hb1.trans (hb2.mono hb1.size)
    generalize minX l = a1 at *
    generalize minY l = a2 at *
    generalize grtX l = a3 at *
    generalize grtY l = a4 at *
    have j1 : IntKind.i64.wrap (-a1) = -a1 := IntWalk.i64_in _ (by omega)
    have j2 : IntKind.i64.wrap (-a2) = -a2 := IntWalk.i64_in _ (by omega)
    have hb3 := (hb.alloc hb.size (.cells #[.int .i64 a1, .int .i64 a2] 69)).alloc (hb.alloc hb.size (.cells #[.int .i64 a1, .int .i64 a2] 69)).size (.cells #[.int .i64 a3, .int .i64 a4] 69)
    go_wp2_with fail
    refine (iMoveShape B n cap a l (-a1) (-a2) _ hn (H.out.on (hb3.mono hB)) (Nat.le_trans hB hb3.size)).mono ?_
    rintro e w3 ⟨v, rfl, hown, hb4⟩
    have HO := Lib.hid (show Own w (cornS l) v w3 from ⟨by rw [← HM.out]; exact own_below hown hb3.size, hb3.trans (hb4.mono hb3.size)⟩)
    clear hown
    go_wp2
    go_ret
    exact ⟨_, rfl, HO.out⟩
  · have h' : isShape l = false := by simpa using h
    have HN := Lib.hid (cornS_no h')
    clear h
    go_enter Try.func64, Try.ntmps64
    go_wp2_with fail
    refine (iIsShape B n cap a l w hn H.out hB).mono ?_
    rintro e w1 ⟨rfl, hb1⟩
    go_wp2
    go_ret
    rw [HN.out]
    exact ⟨_, rfl, own_nil _ _, hb1⟩

end Go.Proofs.Ytbfopdflkkcfaaa
