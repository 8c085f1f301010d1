/-
  Shapes moved, in the model: what each call gives.
-/
import Derived.Test.YtkcclhnligajeaaVaa
import Derived.Test.YtkcclhnligajeaaVab
namespace Go.Proofs.Ytkcclhnligajeaa
open Go.RowKit

theorem isShape_in {l : List Cl} (h : isShape l = true) : ∀ c ∈ l, inP c = true := by
  intro c hc
  unfold isShape okTo at h
  rw [Bool.and_eq_true, List.all_eq_true] at h
  obtain ⟨j, hj, rfl⟩ := List.getElem_of_mem hc
  have := h.1 j (List.mem_range.2 hj)
  unfold okAt at this
  rw [Bool.and_eq_true] at this
  have e : l.getD j (0, 0) = l[j] := by simp [List.getD, hj]
  rw [← e]
  exact this.1
theorem own_below {w : World} {b b' : Nat} {e : TypeId} {size : Nat} {v : Value} {n : Nat} {xs : List Value} (h : w.ownsRow b e size v n xs) (hb : b' ≤ b) : w.ownsRow b' e size v n xs :=
  ⟨h.1, h.2.imp id fun ⟨g, cap, cur, h1, h2, h3⟩ => ⟨g, cap, cur, h1, Nat.le_trans hb h2, h3⟩⟩
theorem map_step (f : Cl → Cl) (l : List Cl) (k : Nat) (h : k < l.length) : (l.take k).map f ++ [f (l.getD k (0, 0))] = (l.take (k + 1)).map f := by
  rw [List.take_succ_eq_append_getElem h, List.map_append]
  simp [List.getD, h]

/-- Within nine places of the corner, on any side. -/
def inW (c : Cl) : Prop := -9 ≤ c.1 ∧ c.1 ≤ 9 ∧ -9 ≤ c.2 ∧ c.2 ≤ 9
theorem inW_of_inP {c : Cl} (h : inP c = true) : inW c := by
  have := inP_out h
  unfold inW
  omega
theorem minTo_bdW (f : Cl → Int) (l : List Cl) (h : ∀ j, j < l.length → -9 ≤ f (l.getD j (0, 0)) ∧ f (l.getD j (0, 0)) ≤ 9) : ∀ k, k ≤ l.length → -9 ≤ minTo f l k ∧ minTo f l k ≤ 9
  | 0, _ => by simp [minTo]
  | k + 1, hk => by
    have h1 := minTo_bdW f l h k (by omega)
    have h2 := h k (by omega)
    unfold minTo
    split
    · exact h2
    · exact h1

end Go.Proofs.Ytkcclhnligajeaa
