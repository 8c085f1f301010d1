/-
  The laws' helpers that compare, mark and look at slices of cells.
-/
import Derived.Test.YtkjlmgkjcmebbaaCel
import Derived.Deep.RegionHeld3
import Derived.Deep.RegionWith
namespace Go.Proofs.Ytkjlmgkjcmebbaa
open Go.RowKit

def eqb (l r : List Cl) : Bool := decide (l = r)

theorem eqb_no {l r : List Cl} {k : Nat} (h : l.getD k (0, 0) ≠ r.getD k (0, 0)) : eqb l r = false := by
  unfold eqb
  simp
  intro e
  rw [e] at h
  exact h rfl
theorem take_same (l r : List Cl) (k : Nat) (h1 : k < l.length) (h2 : k < r.length) (h : l.take k = r.take k) (hd : l.getD k (0, 0) = r.getD k (0, 0)) : l.take (k + 1) = r.take (k + 1) := by
  rw [List.take_succ_eq_append_getElem h1, List.take_succ_eq_append_getElem h2, h]
  have e1 : l.getD k (0, 0) = l[k] := by simp [List.getD, h1]
  have e2 : r.getD k (0, 0) = r[k] := by simp [List.getD, h2]
  rw [← e1, ← e2, hd]

end Go.Proofs.Ytkjlmgkjcmebbaa
