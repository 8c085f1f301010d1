/-
  The laws' helpers that compare, mark and look at slices of cells.
  The laws' helpers that write marks into a slice of cells and look whether they still stand there.
-/
import Derived.Test.YtcfioncnpfoccaaGreatDoorCel
import Derived.Deep.RegionHeld3
import Derived.Deep.RegionWith
namespace Go.Proofs.YtcfioncnpfoccaaGreatDoor

section
open Go.RowKit

def eqb (l r : List Cl) : Bool := decide (l = r)

theorem eqb_no {l r : List Cl} {k : Nat} (h : l.getD k (0, 0) ≠ r.getD k (0, 0)) : eqb l r = false := by
  unfold eqb
  simp
  intro e
  rw [e] at h
  exact h rfl
theorem take_same (l r : List Cl) (k : Nat) (h1 : k < l.length) (h2 : k < r.length) (h : l.take k = r.take k) (hd : l.getD k (0, 0) = r.getD k (0, 0)) : l.take (k + 1) = r.take (k + 1) := by
  rw [List.take_succ_eq_append_getElem h1, List.take_succ_eq_append_getElem h2, h]
  have e1 : l.getD k (0, 0) = l[k] := by simp [List.getD, h1]
  have e2 : r.getD k (0, 0) = r[k] := by simp [List.getD, h2]
  rw [← e1, ← e2, hd]
end

section
open Go.RowKit

/-- The marks that are written into n cells, counted from k. -/
def marks (k : Int) (n : Nat) : List Cl := (List.range n).map fun (j : Nat) => (k + 2 * (j : Int), k + 2 * (j : Int) + 1)
theorem marks_length (k : Int) (n : Nat) : (marks k n).length = n := by simp [marks]
theorem marks_succ (k : Int) (n : Nat) : marks k (n + 1) = marks k n ++ [(k + 2 * n, k + 2 * n + 1)] := by simp [marks, List.range_succ]
theorem marks_get (k : Int) (n j : Nat) (h : j < n) : (marks k n).getD j (0, 0) = (k + 2 * j, k + 2 * j + 1) := by simp [marks, h]
theorem mark_step (k : Int) (j : Nat) (l : List Cl) (h : j < l.length) : (marks k j ++ l.drop j).set j (k + 2 * j, k + 2 * j + 1) = marks k (j + 1) ++ l.drop (j + 1) := by
  rw [List.set_append_right _ _ (by simp [marks_length]), marks_length, Nat.sub_self, List.drop_eq_getElem_cons h, List.set_cons_zero, marks_succ, List.append_assoc]
  rfl
theorem marks_in (k : Int) (n : Nat) (h0 : 0 ≤ k) (h : k + 2 * n ≤ 9223372036854775807) : ∀ c ∈ marks k n, InC c := by
  intro c hc
  obtain ⟨j, hj, rfl⟩ := List.mem_map.1 hc
  have := List.mem_range.1 hj
  unfold InC
  dsimp only
  omega
end

end Go.Proofs.YtcfioncnpfoccaaGreatDoor
