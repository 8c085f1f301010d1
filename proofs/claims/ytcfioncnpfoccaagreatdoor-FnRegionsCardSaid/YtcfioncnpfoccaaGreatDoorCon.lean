/-
  Do cells hang together, in the model: what the call gives.
-/
import Derived.Test.YtcfioncnpfoccaaGreatDoorShq
import Derived.Test.YtcfioncnpfoccaaGreatDoorCap
import Derived.Test.YtcfioncnpfoccaaGreatDoorSiz
import Derived.Shelf.SlSortCmp.QuietGrown
namespace Go.Proofs.YtcfioncnpfoccaaGreatDoor
open Go.RowKit

theorem sNearG (x y u v : Int) (w : World) (hx : inP (x, y) = true) (hu : inP (u, v) = true) : Calls Tryz.prog 55 #[.agg #[.int .i64 x, .int .i64 y], .agg #[.int .i64 u, .int .i64 v]] w fun e w' => e = .returned (.bool (nearC (x, y) (u, v))) ∧ ∃ q os', w' = Go.Sort.grow (w.drewN q) os' := by
  simp [inP, inb] at hx hu
  have h1 := sq_bd (x - u) (by omega) (by omega)
  have h2 := sq_bd (y - v) (by omega) (by omega)
  unfold nearC
  dsimp only
  go_enter Tryz.func55, Tryz.ntmps55
  go_wp2
  go_ret
  exact ⟨by rfl, 0, _, by rw [Go.Sort.alloc_eq_grow, Go.Sort.alloc_eq_grow, Go.Sort.grow_grow]; rfl⟩

def Conn (l : List Cl) : Prop := isShape l = true ∧ AllRch l

end Go.Proofs.YtcfioncnpfoccaaGreatDoor
