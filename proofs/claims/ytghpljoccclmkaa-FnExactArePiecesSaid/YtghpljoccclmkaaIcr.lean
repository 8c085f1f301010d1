/-
  A shape moved to its corner, in the program: what the call gives.
-/
import Derived.Test.YtghpljoccclmkaaIsz
import Derived.Test.YtghpljoccclmkaaImv
namespace Go.Proofs.Ytghpljoccclmkaa
open Go.RowKit

theorem cornS_no {l : List Cl} (h : isShape l = false) : cornS l = [] := if_neg (by rw [h]; simp)

end Go.Proofs.Ytghpljoccclmkaa
