/-
  Do cells hang together, in the model: what the call gives.
-/
import Derived.Test.YtghpljoccclmkaaShq
import Derived.Test.YtghpljoccclmkaaCap
import Derived.Test.YtghpljoccclmkaaSiz
import Derived.Shelf.SlSortCmp.QuietGrown
namespace Go.Proofs.Ytghpljoccclmkaa
open Go.RowKit

def Conn (l : List Cl) : Prop := isShape l = true ∧ AllRch l

end Go.Proofs.Ytghpljoccclmkaa
