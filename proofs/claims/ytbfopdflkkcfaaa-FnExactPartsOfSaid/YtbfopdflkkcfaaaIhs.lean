/-
  Looking for a cell, and equal lists of cells, in the program: what each call gives.
-/
import Derived.Test.YtbfopdflkkcfaaaIsh
import Derived.Test.YtbfopdflkkcfaaaShq
namespace Go.Proofs.Ytbfopdflkkcfaaa
open Go.RowKit

end Go.Proofs.Ytbfopdflkkcfaaa
