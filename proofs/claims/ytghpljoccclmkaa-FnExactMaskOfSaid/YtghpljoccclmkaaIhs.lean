/-
  Looking for a cell, and equal lists of cells, in the program: what each call gives.
-/
import Derived.Test.YtghpljoccclmkaaIsh
import Derived.Test.YtghpljoccclmkaaShq
namespace Go.Proofs.Ytghpljoccclmkaa
open Go.RowKit

end Go.Proofs.Ytghpljoccclmkaa
