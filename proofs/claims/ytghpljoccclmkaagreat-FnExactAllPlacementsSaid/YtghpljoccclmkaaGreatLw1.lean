/-
  The laws on what is asked of a shape: the walk of each law, out of the contracts of the program's function and of its model.
-/
import Derived.Test.YtghpljoccclmkaaGreatIan
namespace Go.Proofs.YtghpljoccclmkaaGreat
open Go.RowKit

theorem eqb_refl (l : List Cl) : eqb l l = true := by simp [eqb]




end Go.Proofs.YtghpljoccclmkaaGreat
