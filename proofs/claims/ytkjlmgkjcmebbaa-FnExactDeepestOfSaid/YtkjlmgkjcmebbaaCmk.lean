/-
  The laws' helpers that write marks into a slice of cells and look whether they still stand there.
-/
import Derived.Test.YtkjlmgkjcmebbaaCeq
namespace Go.Proofs.Ytkjlmgkjcmebbaa
open Go.RowKit

/-- The marks that are written into n cells, counted from k. -/
def marks (k : Int) (n : Nat) : List Cl := (List.range n).map fun (j : Nat) => (k + 2 * (j : Int), k + 2 * (j : Int) + 1)
theorem marks_length (k : Int) (n : Nat) : (marks k n).length = n := by simp [marks]
theorem marks_succ (k : Int) (n : Nat) : marks k (n + 1) = marks k n ++ [(k + 2 * n, k + 2 * n + 1)] := by simp [marks, List.range_succ]
theorem marks_get (k : Int) (n j : Nat) (h : j < n) : (marks k n).getD j (0, 0) = (k + 2 * j, k + 2 * j + 1) := by simp [marks, h]
theorem mark_step (k : Int) (j : Nat) (l : List Cl) (h : j < l.length) : (marks k j ++ l.drop j).set j (k + 2 * j, k + 2 * j + 1) = marks k (j + 1) ++ l.drop (j + 1) := by
  rw [List.set_append_right _ _ (by simp [marks_length]), marks_length, Nat.sub_self, List.drop_eq_getElem_cons h, List.set_cons_zero, marks_succ, List.append_assoc]
  rfl
theorem marks_in (k : Int) (n : Nat) (h0 : 0 ≤ k) (h : k + 2 * n ≤ 9223372036854775807) : ∀ c ∈ marks k n, InC c := by
  intro c hc
  obtain ⟨j, hj, rfl⟩ := List.mem_map.1 hc
  have := List.mem_range.1 hj
  unfold InC
  dsimp only
  omega

end Go.Proofs.Ytkjlmgkjcmebbaa
