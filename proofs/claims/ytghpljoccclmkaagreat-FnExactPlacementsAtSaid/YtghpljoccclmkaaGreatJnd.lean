/-
  Three closed facts of the program's head that every law's frame wants: each costs 45 s and 8 GB, so they are paid once.
-/
import Derived.Test.YtghpljoccclmkaaGreatChecked
import Derived.Test.YtghpljoccclmkaaGreatRows
import Derived.ProofKit
import Derived.ChangeOld
namespace Go.Proofs.YtghpljoccclmkaaGreat
open Go.ChangeShapes Go.WideShapes Go.ChangeAt Go.RowKit

set_option maxRecDepth 100000 in
theorem jMayEnter : Tryz.pinned.checked.prog.mayEnter = true := by kernel_rfl
set_option maxRecDepth 100000 in
theorem jLifted : (Rows.fnExactPlacementsOfRow.lifted == Tryz.pinned.checked.prog.liftsFinal) = true := by kernel_rfl
set_option maxRecDepth 100000 in
theorem jMake : (Tryz.pinned.checked.prog.make == some Rows.fnExactPlacementsOfRow.make) = true := by kernel_rfl

end Go.Proofs.YtghpljoccclmkaaGreat
