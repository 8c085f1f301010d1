/-
  Shapes moved, in the program: what the call gives.
-/
import Derived.Test.YtghpljoccclmkaaIsh
import Derived.Test.YtghpljoccclmkaaMov
namespace Go.Proofs.Ytghpljoccclmkaa
open Go.RowKit

/-- A slice of the call's own, or nil, that reads as l. -/
def Own (w : World) (l : List Cl) (v : Value) (w' : World) : Prop := w'.ownsRow w.heap.size 52 2 v l.length (cvs l) ∧ Below w.heap.size w w'
theorem own_nil (w : World) (B : Nat) : w.ownsRow B 52 2 (.slice none 0 0) 0 (cvs []) := ⟨rfl, .inl ⟨rfl, rfl⟩⟩
theorem moveS_no {p q : Int} {l : List Cl} (h : canMove p q l = false) : moveS p q l = [] := if_neg (by rw [h]; simp)

theorem move_fill (p q : Int) (l : List Cl) (k n : Nat) (h : k < n) (hl : l.length = n) : (moveC p q (l.take k) ++ List.replicate (n - k) ((0 : Int), (0 : Int))).set k ((l.getD k (0, 0)).1 + p, (l.getD k (0, 0)).2 + q) = moveC p q (l.take (k + 1)) ++ List.replicate (n - (k + 1)) (0, 0) := by
  have e : n - k = (n - (k + 1)) + 1 := by omega
  have el : (moveC p q (l.take k)).length = k := by rw [moveC_len]; simp; omega
  rw [e, List.replicate_succ, List.set_append_right _ _ (by omega), el, Nat.sub_self, List.set_cons_zero]
  have e2 : moveC p q (l.take (k + 1)) = moveC p q (l.take k) ++ [((l.getD k (0, 0)).1 + p, (l.getD k (0, 0)).2 + q)] := by
    rw [take_snoc l k (by omega)]
    simp [moveC]
  rw [e2, List.append_assoc]
  rfl

end Go.Proofs.Ytghpljoccclmkaa
