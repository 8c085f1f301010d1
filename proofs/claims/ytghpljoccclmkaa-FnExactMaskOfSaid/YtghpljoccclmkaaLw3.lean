/-
  The laws on what gives a row of cells: helpers, and the walk of the law on CornerShape.
-/
import Derived.Test.YtghpljoccclmkaaCmk
import Derived.Test.YtghpljoccclmkaaIcr
import Derived.Test.YtghpljoccclmkaaLw1
namespace Go.Proofs.Ytghpljoccclmkaa
open Go.RowKit

theorem own_slice {w : World} {base n : Nat} {v : Value} {xs : List Value} (h : w.ownsRow base 52 2 v n xs) : ∃ a cap, v = .slice a n cap := by
  rcases h.2 with ⟨rfl, rfl⟩ | ⟨g, cap, cur, rfl, _⟩
  · exact ⟨_, _, rfl⟩
  · exact ⟨_, _, rfl⟩
theorem none_row (v : Value) : v.ownBlock = none ∨ v.ownBlock ≠ none := by
  cases v.ownBlock with
  | none => exact .inl rfl
  | some k => exact .inr (by simp)
theorem ne_row {v u : Value} {B m : Nat} (h : ∀ k, v.ownBlock = some k → B ≤ k ∧ k < m) (h2 : ∀ k, u.ownBlock = some k → k < B) : v.ownBlock = none ∨ v.ownBlock ≠ u.ownBlock := by
  cases e : v.ownBlock with
  | none => exact .inl rfl
  | some k =>
    refine .inr fun e2 => ?_
    have := h k e
    have := h2 k e2.symm
    omega
theorem cornS_le (l : List Cl) : (cornS l).length ≤ l.length := by
  unfold cornS cornerC
  split
  · simp
  · simp


end Go.Proofs.Ytghpljoccclmkaa
