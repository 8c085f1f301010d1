/-
  The library's table for the count of trailing zeros, out of the row's condition on the listed variables. Nothing of the program is claimed here.
-/
import Derived.Test.YtghpljoccclmkaaDoorBt1
import Derived.LaidMore
import Derived.MakeChecks
import Derived.Stop.LaidErr
import Derived.Lib.LaidTab
import Derived.Test.YtghpljoccclmkaaDoorRows
namespace Go.Proofs.YtghpljoccclmkaaDoor
open Go.RowKit

theorem datumDB : (Rows.laid_math_bits_deBruijn64tab : DataW Unit) = Lib.tabData .u8 (Lib.deBruijn64tab.map fun (x : Nat) => (x : Int)) := by kernel_rfl
theorem nDB : Tryd.prog.globalNamed "math/bits.deBruijn64tab" = some gDB := by kernel_rfl
theorem tDB : (Tryd.prog.globals[gDB]?).map (·.type) = some 59 := by kernel_rfl
theorem tab_of_laid {W : World} (h : laidMetH Tryd.prog [("math/bits.deBruijn32tab", Rows.laid_math_bits_deBruijn32tab), ("math/bits.deBruijn64tab", Rows.laid_math_bits_deBruijn64tab)] W) : Tz W := by
  rw [MakeChecks.laidMetH_plain _ _ _ (by kernel_rfl)] at h
  have h2 := h.tail
  rw [datumDB] at h2
  have h3 := Lib.tabIs_of_head nDB tDB Tryd.underlying59 Tryd.underlying5 (by kernel_rfl) (by kernel_rfl) h2
  have hc : ∀ j, j < Lib.deBruijn64tab.length → W.cell? ⟨gDB, j, none⟩ = some (.int .u8 (Lib.deBruijn64tab.getD j 0)) := fun j hj => by
    have := Lib.TabIs.cell h3 nDB j (by rw [List.length_map]; exact hj)
    rw [this]
    simp [List.getD, hj]
  exact ⟨hc, World.block_lt_of_cell? W ⟨gDB, 0, none⟩ (hc 0 (by decide))⟩

end Go.Proofs.YtghpljoccclmkaaDoor
