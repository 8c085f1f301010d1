/-
  Do cells hang together, in the model: what the call gives.
-/
import Derived.Test.YtkjlmgkjcmebbaaShq
import Derived.Test.YtkjlmgkjcmebbaaCap
import Derived.Test.YtkjlmgkjcmebbaaSiz
import Derived.Shelf.SlSortCmp.QuietGrown
namespace Go.Proofs.Ytkjlmgkjcmebbaa
open Go.RowKit

def Conn (l : List Cl) : Prop := isShape l = true ∧ AllRch l

end Go.Proofs.Ytkjlmgkjcmebbaa
