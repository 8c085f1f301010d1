/-
  Cells compared as structs: what the comparison gives.
-/
import Derived.Test.YtkjlmgkjcmebbaaCmk
import Derived.Laws.StructEq
namespace Go.Proofs.Ytkjlmgkjcmebbaa
open Go.RowKit

theorem int_plain : (Try.prog.underlying 3) = some (.int .i64) := Try.underlying3
def sameC (a b : Cl) : Bool := decide (a = b)
theorem sameC_eq (x y u v : Int) : sameC (x, y) (u, v) = ((x == u) && (y == v)) := by
  unfold sameC
  rw [Bool.eq_iff_iff]
  simp
theorem part_int (cs : Array Value) (off : Nat) (v : Value) (h : cs[off]? = some v) (w : World) : (part 3 cs off).run Try.prog w = .ok v w := by
  unfold part
  simp [go_sem, h]

theorem part_0 (a b : Value) (w : World) : (part 3 #[a, b] 0).run Try.prog w = .ok a w := part_int _ _ _ rfl w
theorem part_1 (a b : Value) (w : World) : (part 3 #[a, b] 1).run Try.prog w = .ok b w := part_int _ _ _ rfl w
end Go.Proofs.Ytkjlmgkjcmebbaa
