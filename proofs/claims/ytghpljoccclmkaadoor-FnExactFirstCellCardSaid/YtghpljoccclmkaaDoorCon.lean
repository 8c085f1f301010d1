/-
  Do cells hang together, in the model: what the call gives.
-/
import Derived.Test.YtghpljoccclmkaaDoorShq
import Derived.Test.YtghpljoccclmkaaDoorCap
import Derived.Test.YtghpljoccclmkaaDoorSiz
import Derived.Shelf.SlSortCmp.QuietGrown
namespace Go.Proofs.YtghpljoccclmkaaDoor
open Go.RowKit

def Conn (l : List Cl) : Prop := isShape l = true ∧ AllRch l

end Go.Proofs.YtghpljoccclmkaaDoor
