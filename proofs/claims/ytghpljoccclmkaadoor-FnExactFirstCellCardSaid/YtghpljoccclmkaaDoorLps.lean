/-
  The laws' helpers that size, copy and compare slices of shapes; such an argument out of its reading.
-/
import Derived.Test.YtghpljoccclmkaaDoorSm4
import Derived.Test.YtghpljoccclmkaaDoorArg
import Derived.Test.YtghpljoccclmkaaDoorLss
namespace Go.Proofs.YtghpljoccclmkaaDoor
open Go.RowKit Go.ChangeShapes Go.WideShapes

def totL (L : List (List Cl)) : Nat := (L.map List.length).sum
theorem totL_take (L : List (List Cl)) (k : Nat) (h : k < L.length) : totL (L.take (k + 1)) = totL (L.take k) + (L.getD k []).length := by
  have e : L.getD k [] = L[k] := by simp [List.getD, h]
  rw [List.take_succ_eq_append_getElem h, e]
  unfold totL
  rw [List.map_append, List.sum_append]
  simp only [List.map_cons, List.map_nil, List.sum_cons, List.sum_nil, Nat.add_zero]
theorem totL_mono (L : List (List Cl)) (k : Nat) : totL (L.take k) ≤ totL L := by
  conv => rhs; rw [← List.take_append_drop k L]
  unfold totL
  rw [List.map_append, List.sum_append]
  omega
theorem totL_get (L : List (List Cl)) (k : Nat) (h : k < L.length) : (L.getD k []).length ≤ totL L := by
  have h1 := totL_take L k h
  have h2 := totL_mono L (k + 1)
  omega
theorem totL_ent (es : List Ent) : totE es = totL (es.map kE) := by
  unfold totE totL
  rw [List.map_map]
  rfl

theorem shp_size : ∃ i, Tryd.prog.info? 26 = some i ∧ i.zero = some (.slice none 0 0) ∧ i.size = 1 ∧ i.bytes = 24 := by
  obtain ⟨i0, hi, hz0, hz1, hz2⟩ := info_parts (show (Tryd.prog.info? 26).map (fun i => (i.zero, i.size, i.bytes)) = some (some (.slice none 0 0), 1, 24) by kernel_rfl)
  exact ⟨i0, hi, hz0, hz1, hz2⟩
theorem made_ps (n : Nat) : (madeCells #[Value.slice none 0 0] (n * 1)).toList = List.replicate n (.slice none 0 0) := by
  apply List.ext_getElem?
  intro j
  by_cases hj : j < n
  · simp [madeCells, hj, Nat.mod_one]
  · rw [List.getElem?_eq_none (by simp [madeCells]; omega), List.getElem?_eq_none (by simp; omega)]
theorem ps_fill (es : List Ent) (e : Ent) (k n : Nat) (hl : es.length = k) (h : k < n) : (es.map ev ++ List.replicate (n - k) (Value.slice none 0 0)).set k (ev e) = (es ++ [e]).map ev ++ List.replicate (n - (k + 1)) (.slice none 0 0) := by
  have e1 : n - k = (n - (k + 1)) + 1 := by omega
  rw [e1, List.replicate_succ, List.set_append_right _ _ (by simp; omega), List.length_map, hl, Nat.sub_self, List.set_cons_zero, List.map_append, List.append_assoc]
  rfl

end Go.Proofs.YtghpljoccclmkaaDoor
