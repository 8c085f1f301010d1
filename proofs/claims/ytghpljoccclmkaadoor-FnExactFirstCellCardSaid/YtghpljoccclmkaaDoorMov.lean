/-
  Shapes moved to another place, in the model: what the call gives.
-/
import Derived.Test.YtghpljoccclmkaaDoorCor
namespace Go.Proofs.YtghpljoccclmkaaDoor
open Go.RowKit

theorem moveC_in {x y : Int} {l : List Cl} (hp : ∀ c ∈ l, inP c = true) (hx : inb x (-7) 7 = true) (hy : inb y (-7) 7 = true) : ∀ c ∈ moveC x y l, InC c := by
  intro c hc
  obtain ⟨d, hd, rfl⟩ := List.mem_map.1 hc
  have := inP_out (hp d hd)
  simp [inb] at hx hy
  unfold InC
  dsimp only
  omega

end Go.Proofs.YtghpljoccclmkaaDoor
