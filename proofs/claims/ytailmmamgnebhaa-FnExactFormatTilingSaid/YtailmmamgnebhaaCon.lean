/-
  Do cells hang together, in the model: what the call gives.
-/
import Derived.Test.YtailmmamgnebhaaShq
import Derived.Test.YtailmmamgnebhaaCap
import Derived.Test.YtailmmamgnebhaaSiz
import Derived.Shelf.SlSortCmp.QuietGrown
namespace Go.Proofs.Ytailmmamgnebhaa
open Go.RowKit

def Conn (l : List Cl) : Prop := isShape l = true ∧ AllRch l

end Go.Proofs.Ytailmmamgnebhaa
