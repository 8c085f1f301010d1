/-
  Orientations, the canonical one, congruence, in the program: what the calls give.
-/
import Derived.Test.YthnapikklolgcaaJor
import Derived.Test.YthnapikklolgcaaJtv
import Derived.Test.YthnapikklolgcaaPall
import Derived.Test.YthnapikklolgcaaMon
namespace Go.Proofs.Ythnapikklolgcaa
open Go.RowKit

theorem made_shps (n : Nat) : (madeCells #[Value.slice none 0 0] (n * 1)).toList = List.replicate n (.slice none 0 0) := by
  apply List.ext_getElem?
  intro j
  by_cases hj : j < n
  · simp [madeCells, hj, Nat.mod_one]
  · rw [List.getElem?_eq_none (by simp [madeCells]; omega), List.getElem?_eq_none (by simp; omega)]
theorem ss_fill (es : List Ent) (e : Ent) (k n : Nat) (hl : es.length = k) (h : k < n) : (es.map ev ++ List.replicate (n - k) (Value.slice none 0 0)).set k (ev e) = (es ++ [e]).map ev ++ List.replicate (n - (k + 1)) (.slice none 0 0) := by
  have e1 : n - k = (n - (k + 1)) + 1 := by omega
  rw [e1, List.replicate_succ, List.set_append_right _ _ (by simp; omega), List.length_map, hl, Nat.sub_self, List.set_cons_zero, List.map_append, List.append_assoc]
  rfl
/-- A slice of the call's own, not empty, written out. -/
theorem own_some {w : World} {B n : Nat} {t : TypeId} {size : Nat} {v : Value} {xs : List Value} (h : w.ownsRow B t size v n xs) (hn : 0 < n) : ∃ g cap, v = .slice (some ⟨g, 0, none⟩) n cap := by
  rcases h.2 with ⟨_, h0⟩ | ⟨g, cap, cur, rfl, _⟩
  · omega
  · exact ⟨g, cap, rfl⟩
/-- Shapes of the call's own. -/
def GivesS (w : World) (L : List (List Cl)) (e : Ending) (w' : World) : Prop := ∃ v es, e = .returned v ∧ es.map kE = L ∧ SmallS es ∧ OwnS w.heap.size w' v es ∧ Below w.heap.size w w'
theorem ownS_nil (B : Nat) (w : World) : OwnS B w (.slice none 0 0) [] := ⟨World.ownsRow_nil w B _ _, fun e he => (by cases he), List.Pairwise.nil, fun e he => (by cases he)⟩

end Go.Proofs.Ythnapikklolgcaa
