/-
  The laws on what is asked of a shape: the walk of each law, out of the contracts of the program's function and of its model.
-/
import Derived.Test.YtghpljoccclmkaaDoorIan
namespace Go.Proofs.YtghpljoccclmkaaDoor
open Go.RowKit

theorem eqb_refl (l : List Cl) : eqb l l = true := by simp [eqb]




end Go.Proofs.YtghpljoccclmkaaDoor
