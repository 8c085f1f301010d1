/-
  A shape as a text, in the model: what the call gives.
-/
import Derived.Test.YtcfioncnpfoccaaGreatDoorSiz
namespace Go.Proofs.YtcfioncnpfoccaaGreatDoor
open Go.RowKit

def xAt (i : Nat) (x0 : Int) : Int := if i = 0 then x0 else 0
theorem rep_snoc (t : List UInt8) (i : Nat) (b : UInt8) : t ++ List.replicate i b ++ [b] = t ++ List.replicate (i + 1) b := by
  rw [List.append_assoc, ← List.replicate_succ']

end Go.Proofs.YtcfioncnpfoccaaGreatDoor
