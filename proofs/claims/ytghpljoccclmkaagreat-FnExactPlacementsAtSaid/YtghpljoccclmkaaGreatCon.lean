/-
  Do cells hang together, in the model: what the call gives.
-/
import Derived.Test.YtghpljoccclmkaaGreatShq
import Derived.Test.YtghpljoccclmkaaGreatCap
import Derived.Test.YtghpljoccclmkaaGreatSiz
import Derived.Shelf.SlSortCmp.QuietGrown
namespace Go.Proofs.YtghpljoccclmkaaGreat
open Go.RowKit

def Conn (l : List Cl) : Prop := isShape l = true ∧ AllRch l

end Go.Proofs.YtghpljoccclmkaaGreat
