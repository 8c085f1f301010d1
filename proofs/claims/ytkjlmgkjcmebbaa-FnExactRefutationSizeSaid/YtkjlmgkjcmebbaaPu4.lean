/-
  Shapes turned: the order in which one moves and sorts does not matter; plain facts.
-/
import Derived.Test.YtkjlmgkjcmebbaaPu3
namespace Go.Proofs.Ytkjlmgkjcmebbaa

theorem sortU_move (x y : Int) (l : List Cl) : sortU (moveC x y l) = moveC x y (sortU l) := by
  refine (sortU_unique (srt_move (sortU_srt l)) fun c => ?_).symm
  unfold moveC
  simp only [List.mem_map, sortU_mem]
theorem minTo_same (f : Cl → Int) {A C : List Cl} (hA : 0 < A.length) (h : ∀ c, c ∈ A ↔ c ∈ C) : minTo f A A.length = minTo f C C.length := by
  have hC : 0 < C.length := List.length_pos_of_mem ((h _).1 (getD_mem hA))
  refine minTo_eq hA (fun j hj => ?_) ?_
  · obtain ⟨i, hi, e⟩ := mem_getD ((h _).1 (getD_mem hj))
    rw [← e]
    exact minTo_le f C C.length i hi
  · obtain ⟨i, hi, e⟩ := minTo_mem f C C.length hC
    obtain ⟨j, hj, e2⟩ := mem_getD ((h _).2 (getD_mem hi))
    exact ⟨j, hj, by rw [e2, e]⟩
theorem sortU_pos {l : List Cl} (h : 0 < l.length) : 0 < (sortU l).length := List.length_pos_of_mem ((sortU_mem l _).2 (getD_mem h))
theorem cornerC_sortU {l : List Cl} (h : 0 < l.length) : cornerC (sortU l) = sortU (cornerC l) := by
  have e1 : minX (sortU l) = minX l := minTo_same _ (sortU_pos h) (sortU_mem l)
  have e2 : minY (sortU l) = minY l := minTo_same _ (sortU_pos h) (sortU_mem l)
  rw [cornerC_move, cornerC_move, e1, e2, sortU_move]
/-- Turned, moved to the corner, put in order: the program's way. -/
theorem turnC_prog (m : Nat) {l : List Cl} (h : 0 < l.length) : turnC m l = sortU (cornerC (l.map (apM m))) := cornerC_sortU (by simpa using h)
theorem fill_map (f : Cl → Cl) (l : List Cl) (k n : Nat) (h : k < n) (hl : l.length = n) : ((l.take k).map f ++ List.replicate (n - k) ((0 : Int), (0 : Int))).set k (f (l.getD k (0, 0))) = (l.take (k + 1)).map f ++ List.replicate (n - (k + 1)) (0, 0) := by
  have e : n - k = (n - (k + 1)) + 1 := by omega
  have el : ((l.take k).map f).length = k := by simp; omega
  rw [e, List.replicate_succ, List.set_append_right _ _ (by omega), el, Nat.sub_self, List.set_cons_zero, take_snoc l k (by omega), List.map_append, List.append_assoc]
  rfl
theorem over_map (f : Cl → Cl) (l : List Cl) (k : Nat) (h : k < l.length) : ((l.take k).map f ++ l.drop k).set k (f (l.getD k (0, 0))) = (l.take (k + 1)).map f ++ l.drop (k + 1) := by
  have el : ((l.take k).map f).length = k := by simp; omega
  have ed : l.drop k = l.getD k (0, 0) :: l.drop (k + 1) := by rw [List.drop_eq_getElem_cons h]; simp [List.getD, h]
  rw [ed, List.set_append_right _ _ (by omega), el, Nat.sub_self, List.set_cons_zero, take_snoc l k h, List.map_append, List.append_assoc]
  rfl
theorem over_get (f : Cl → Cl) (l : List Cl) (k : Nat) (h : k < l.length) : ((l.take k).map f ++ l.drop k).getD k (0, 0) = l.getD k (0, 0) := by
  have el : ((l.take k).map f).length = k := by simp; omega
  simp only [List.getD_eq_getElem?_getD]
  rw [List.getElem?_append_right (by omega), el, Nat.sub_self, List.getElem?_drop, Nat.add_zero]

end Go.Proofs.Ytkjlmgkjcmebbaa
