/-
  Do cells hang together, in the model: what the call gives.
-/
import Derived.Test.YtbfopdflkkcfaaaDoorShq
import Derived.Test.YtbfopdflkkcfaaaDoorCap
import Derived.Test.YtbfopdflkkcfaaaDoorSiz
import Derived.Shelf.SlSortCmp.QuietGrown
namespace Go.Proofs.YtbfopdflkkcfaaaDoor
open Go.RowKit

def Conn (l : List Cl) : Prop := isShape l = true ∧ AllRch l

end Go.Proofs.YtbfopdflkkcfaaaDoor
