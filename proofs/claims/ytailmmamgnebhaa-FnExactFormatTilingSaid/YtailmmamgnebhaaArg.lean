/-
  A slice of cells that came in as an argument, out of its reading.
-/
import Derived.Test.YtailmmamgnebhaaCel
import Derived.Deep.SlicePairs
namespace Go.Proofs.Ytailmmamgnebhaa
open Go.RowKit Go.ChangeShapes Go.WideShapes

def valI : Value → Int
  | .int _ n => n
  | _ => 0

theorem wf_i64 {n : Int} (h : (Lit.int .i64 n).wf = true) : -9223372036854775808 ≤ n ∧ n ≤ 9223372036854775807 := by
  simp [Lit.wf] at h
  have e : IntKind.i64.min = -9223372036854775808 := by decide
  omega

end Go.Proofs.Ytailmmamgnebhaa
