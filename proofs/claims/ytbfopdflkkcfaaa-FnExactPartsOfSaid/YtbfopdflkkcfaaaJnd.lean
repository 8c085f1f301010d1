/-
  Three closed facts of the program's head that every law's frame wants: each costs 45 s and 8 GB, so they are paid once.
-/
import Derived.Test.YtbfopdflkkcfaaaChecked
import Derived.Test.YtbfopdflkkcfaaaRows
import Derived.ProofKit
import Derived.ChangeOld
namespace Go.Proofs.Ytbfopdflkkcfaaa
open Go.ChangeShapes Go.WideShapes Go.ChangeAt Go.RowKit

set_option maxRecDepth 100000 in
theorem jMayEnter : Try.pinned.checked.prog.mayEnter = true := by kernel_rfl
set_option maxRecDepth 100000 in
theorem jLifted : (Rows.fnExactIsRegionRow.lifted == Try.pinned.checked.prog.liftsFinal) = true := by kernel_rfl
set_option maxRecDepth 100000 in
theorem jMake : (Try.pinned.checked.prog.make == some Rows.fnExactIsRegionRow.make) = true := by kernel_rfl

end Go.Proofs.Ytbfopdflkkcfaaa
