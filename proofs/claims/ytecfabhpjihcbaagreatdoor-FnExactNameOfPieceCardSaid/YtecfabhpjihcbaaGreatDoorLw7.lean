/-
  The walk of the law on ParseShape.
-/
import Derived.Test.YtecfabhpjihcbaaGreatDoorIpr
import Derived.Test.YtecfabhpjihcbaaGreatDoorCmk
namespace Go.Proofs.YtecfabhpjihcbaaGreatDoor
open Go.RowKit

theorem parS_le (s : ByteArray) : (parS (tx s)).length ≤ s.size := by
  unfold parS
  split
  · have := (pcs_bd (tx s) 0 0 (by omega) (by omega)).1
    rw [tx_len] at this
    exact this
  · simp
theorem parS_in (s : ByteArray) (hs : s.size ≤ 4194304) : ∀ c ∈ parS (tx s), InC c := by
  unfold parS
  split
  · exact pcs_in s hs
  · intro c hc; cases hc
theorem eqb_same (l : List Cl) : eqb l l = true := by simp [eqb]

/-- The library's variable holds a number, by the shape of the world in which the call begins. -/
theorem mx_of_shape {W : World} (h : W.ShapedOpen Tryz.prog) : Mx W := Tryz.laysM146.s1_3 W h

end Go.Proofs.YtecfabhpjihcbaaGreatDoor
