/-
  Lists of shapes in the model: what is put in order.
  The size of a shape, in the program: what the call gives.
  Shapes moved, in the program: what the call gives.
  A shape moved to its corner, in the program: what the call gives.
  Looking for a cell, and equal lists of cells, in the program: what each call gives.
  The laws on what is asked of a shape: the walk of each law, out of the contracts of the program's function and of its model.
  The laws on what gives a row of cells: helpers, and the walk of the law on CornerShape.
-/
import Derived.Test.YtkcclhnligajeaaVaj
import Derived.Test.YtkcclhnligajeaaVah
import Derived.Test.YtkcclhnligajeaaVad
import Derived.Test.YtkcclhnligajeaaVaa
namespace Go.Proofs.Ytkcclhnligajeaa

section
open Go.RowKit

/-- A slice value that reads as a list of cells. -/
def SlAt (B : Nat) (w : World) (v : Value) (l : List Cl) : Prop := ∃ a cap, v = .slice a l.length cap ∧ CellsAt B w a l.length l ∧ l.length ≤ 4194304
theorem SlAt.on {B : Nat} {w w' : World} {v : Value} {l : List Cl} (h : SlAt B w v l) (hb : Below B w w') : SlAt B w' v l := by
  obtain ⟨a, cap, e, hc, hn⟩ := h
  exact ⟨a, cap, e, hc.on hb, hn⟩
theorem SlAt.more {B B' : Nat} {w : World} {v : Value} {l : List Cl} (h : SlAt B w v l) (hB : B ≤ B') : SlAt B' w v l := by
  obtain ⟨a, cap, e, hc, hn⟩ := h
  exact ⟨a, cap, e, hc.more hB, hn⟩
/-- The cells of a block that read as a list of shapes. -/
def SsAt (B : Nat) (w : World) (g : Nat) (vs : List Value) (L : List (List Cl)) : Prop := g < B ∧ vs.length = L.length ∧ (∀ k, k < L.length → w.cell? ⟨g, k, none⟩ = vs[k]?) ∧ ∀ (k : Nat) (v : Value) (l : List Cl), vs[k]? = some v → L[k]? = some l → SlAt B w v l
theorem SsAt.on {B g : Nat} {w w' : World} {vs : List Value} {L : List (List Cl)} (h : SsAt B w g vs L) (hb : Below B w w') : SsAt B w' g vs L :=
  ⟨h.1, h.2.1, fun k hk => (hb.cell (p := ⟨g, k, none⟩) h.1).trans (h.2.2.1 k hk), fun k v l hv hl => (h.2.2.2 k v l hv hl).on hb⟩
theorem SsAt.more {B B' g : Nat} {w : World} {vs : List Value} {L : List (List Cl)} (h : SsAt B w g vs L) (hB : B ≤ B') : SsAt B' w g vs L :=
  ⟨Nat.lt_of_lt_of_le h.1 hB, h.2.1, h.2.2.1, fun k v l hv hl => (h.2.2.2 k v l hv hl).more hB⟩
theorem SsAt.get {B g : Nat} {w : World} {vs : List Value} {L : List (List Cl)} (h : SsAt B w g vs L) {k : Nat} (hk : k < L.length) : ∃ a cap, w.cell? ⟨g, k, none⟩ = some (.slice a (L.getD k []).length cap) ∧ CellsAt B w a (L.getD k []).length (L.getD k []) ∧ (L.getD k []).length ≤ 4194304 := by
  have h1 := h.2.2.1 k hk
  have h2 : vs[k]? = some (vs[k]'(by rw [h.2.1]; exact hk)) := List.getElem?_eq_getElem _
  have h3 : L[k]? = some (L.getD k []) := by simp [List.getD, hk]
  obtain ⟨a, cap, e, hc, hn⟩ := h.2.2.2 k _ _ h2 h3
  exact ⟨a, cap, by rw [h1, h2, e], hc, hn⟩
theorem SsAt.one {B g : Nat} {w : World} {vs : List Value} {L : List (List Cl)} (h : SsAt B w g vs L) : ∀ u ∈ vs, u.oneCell' = true := by
  intro u hu
  obtain ⟨k, hk, rfl⟩ := List.getElem_of_mem hu
  have hk2 : k < L.length := by rw [← h.2.1]; exact hk
  obtain ⟨a, cap, e, _⟩ := h.2.2.2 k _ _ (List.getElem?_eq_getElem hk) (List.getElem?_eq_getElem hk2)
  rw [e]
  rfl
theorem get_ins {α : Type} (l : List α) (x : α) (j k : Nat) (hj : j ≤ l.length) : (l.take j ++ [x] ++ l.drop j)[k]? = if k < j then l[k]? else if k = j then some x else l[k - 1]? := by
  have hl : (l.take j).length = j := by rw [List.length_take]; omega
  by_cases h1 : k < j
  · rw [if_pos h1, List.append_assoc, List.getElem?_append_left (by omega), List.getElem?_take, if_pos h1]
  · rw [if_neg h1]
    by_cases h2 : k = j
    · subst h2
      rw [if_pos rfl, List.append_assoc, List.getElem?_append_right (by omega), hl]
      simp
    · rw [if_neg h2, List.getElem?_append_right (by simp; omega), List.getElem?_drop]
      congr 1
      simp
      omega
theorem LiesV.on {w w' : World} {b off B : Nat} {l : List Value} (h : LiesV w ⟨b, off, none⟩ l) (hb : Below B w w') (hlt : b < B) : LiesV w' ⟨b, off, none⟩ l := fun j u hj => by
  rw [add_at]
  have := h j u hj
  rw [add_at] at this
  exact (hb.cell (p := ⟨b, off + j, none⟩) hlt).trans this
theorem SsAt.lies {B g : Nat} {w : World} {vs : List Value} {L : List (List Cl)} (h : SsAt B w g vs L) (k m : Nat) : LiesV w ⟨g, k, none⟩ ((vs.drop k).take m) := by
  intro j u hj
  rw [add_at]
  rw [List.getElem?_take] at hj
  split at hj
  · rw [List.getElem?_drop] at hj
    have hlt := (List.getElem?_eq_some_iff.1 hj).1
    rw [h.2.2.1 (k + j) (by rw [← h.2.1]; exact hlt), hj]
  · cases hj
/-- A shape put between. -/
theorem ss_ins {B g g3 c3 j N : Nat} {w w3 : World} {vs : List Value} {sv : Value} {L : List (List Cl)} {s : List Cl} {t : TypeId} {b3 : Nat} (h : SsAt B w g vs L) (hs : SlAt B w sv s) (hj : j ≤ L.length) (hB : B ≤ w.heap.size) (hb : Below w.heap.size w w3)
    (hown : w3.ownsRow b3 t 1 (.slice (some ⟨g3, 0, none⟩) N c3) N (vs.take j ++ [sv] ++ vs.drop j)) : SsAt w3.heap.size w3 g3 (vs.take j ++ [sv] ++ vs.drop j) (L.take j ++ [s] ++ L.drop j) := by
  have hl : (vs.take j ++ [sv] ++ vs.drop j).length = (L.take j ++ [s] ++ L.drop j).length := by simp [h.2.1]
  refine ⟨(hown.lt g3 rfl).2, hl, fun k hk => ?_, fun k v l hv hl2 => ?_⟩
  · exact hown.cellAt k (by have h9 := hown.1; rw [hl] at h9; omega)
  · rw [get_ins _ _ _ _ (by rw [h.2.1]; exact hj)] at hv
    rw [get_ins _ _ _ _ hj] at hl2
    have hsz := hb.size
    split at hv
    · rename_i h1
      rw [if_pos h1] at hl2
      exact ((h.2.2.2 k v l hv hl2).on (hb.mono hB)).more (Nat.le_trans hB hsz)
    · rename_i h1
      rw [if_neg h1] at hl2
      split at hv
      · rename_i h2
        rw [if_pos h2] at hl2
        injection hv with hv
        injection hl2 with hl2
        subst hv hl2
        exact (hs.on (hb.mono hB)).more (Nat.le_trans hB hsz)
      · rename_i h2
        rw [if_neg h2] at hl2
        exact ((h.2.2.2 (k - 1) v l hv hl2).on (hb.mono hB)).more (Nat.le_trans hB hsz)
/-- A list of shapes comes back. -/
def GivesSs (w : World) (L : List (List Cl)) (e : Ending) (w' : World) : Prop := ∃ g cap vs, e = .returned (.slice (some ⟨g, 0, none⟩) L.length cap) ∧ L.length ≤ cap ∧ SsAt w'.heap.size w' g vs L ∧ Below w.heap.size w w'

theorem posG_step {x : List Cl} {o : List (List Cl)} {k : Nat} (h : ltS x (o.getD k []) = true) : posG ltS [] x o (k + 1) = posG ltS [] x o k := if_pos h
theorem posG_stop {x : List Cl} {o : List (List Cl)} {k : Nat} (h : ltS x (o.getD k []) = false) : posG ltS [] x o (k + 1) = k + 1 := if_neg (by rw [h]; simp)
theorem insG_yes {x : List Cl} {o : List (List Cl)} {k : Nat} (hp : posG ltS [] x o o.length = k) (h : 0 < k ∧ o.getD (k - 1) [] = x) : insG ltS [] o x = o := by
  unfold insG
  rw [hp, if_pos h]
theorem insG_no {x : List Cl} {o : List (List Cl)} {k : Nat} (hp : posG ltS [] x o o.length = k) (h : ¬ (0 < k ∧ o.getD (k - 1) [] = x)) : insG ltS [] o x = o.take k ++ [x] ++ o.drop k := by
  unfold insG
  rw [hp, if_neg h]

theorem own_cap_s {w : World} {B n g cap : Nat} {t : TypeId} {xs : List Value} (h : w.ownsRow B t 1 (.slice (some ⟨g, 0, none⟩) n cap) n xs) : n ≤ cap := by
  rcases h.2 with ⟨e, _⟩ | ⟨g', cap', cur, e, _, _, h1, _⟩
  · cases e
  · injection e with _ _ e3
    omega
end

section
open Go.RowKit

theorem size_no {l : List Cl} (h : isShape l = false) : wideC l = 0 ∧ highC l = 0 := by
  have e : cornS l = [] := if_neg (by rw [h]; simp)
  unfold wideC highC
  rw [e]
  exact ⟨rfl, rfl⟩
theorem size_yes {l : List Cl} (h : isShape l = true) : wideC l = grtX l - lstX l + 1 ∧ highC l = grtY l - lstY l + 1 := by
  have h1 := size_of h
  have h2 := ((isShape_iff l).1 h).1
  unfold grtX grtY lstX lstY
  rw [lst_min _ _ (by omega), lst_min _ _ (by omega)]
  exact h1
theorem bounds_in {l : List Cl} (h : isShape l = true) : (0 ≤ lstX l ∧ lstX l ≤ 7) ∧ (0 ≤ lstY l ∧ lstY l ≤ 7) ∧ (0 ≤ grtX l ∧ grtX l ≤ 7) ∧ (0 ≤ grtY l ∧ grtY l ≤ 7) := by
  obtain ⟨h1, h2, _⟩ := (isShape_iff l).1 h
  have hx : ∀ c ∈ l, 0 ≤ Prod.fst c ∧ Prod.fst c ≤ 7 := fun c hc => by have := inP_out (h2 c hc); omega
  have hy : ∀ c ∈ l, 0 ≤ Prod.snd c ∧ Prod.snd c ≤ 7 := fun c hc => by have := inP_out (h2 c hc); omega
  exact ⟨lstTo_bd _ l (by omega) hx _ (Nat.le_refl _), lstTo_bd _ l (by omega) hy _ (Nat.le_refl _), grtTo_bd _ l (by omega) hx _ (Nat.le_refl _), grtTo_bd _ l (by omega) hy _ (Nat.le_refl _)⟩
end

section
open Go.RowKit

theorem moveS_no {p q : Int} {l : List Cl} (h : canMove p q l = false) : moveS p q l = [] := if_neg (by rw [h]; simp)

theorem move_fill (p q : Int) (l : List Cl) (k n : Nat) (h : k < n) (hl : l.length = n) : (moveC p q (l.take k) ++ List.replicate (n - k) ((0 : Int), (0 : Int))).set k ((l.getD k (0, 0)).1 + p, (l.getD k (0, 0)).2 + q) = moveC p q (l.take (k + 1)) ++ List.replicate (n - (k + 1)) (0, 0) := by
  have e : n - k = (n - (k + 1)) + 1 := by omega
  have el : (moveC p q (l.take k)).length = k := by rw [moveC_len]; simp; omega
  rw [e, List.replicate_succ, List.set_append_right _ _ (by omega), el, Nat.sub_self, List.set_cons_zero]
  have e2 : moveC p q (l.take (k + 1)) = moveC p q (l.take k) ++ [((l.getD k (0, 0)).1 + p, (l.getD k (0, 0)).2 + q)] := by
    rw [take_snoc l k (by omega)]
    simp [moveC]
  rw [e2, List.append_assoc]
  rfl
end

section
open Go.RowKit

theorem cornS_no {l : List Cl} (h : isShape l = false) : cornS l = [] := if_neg (by rw [h]; simp)
end

section
open Go.RowKit
end

section
open Go.RowKit

theorem eqb_refl (l : List Cl) : eqb l l = true := by simp [eqb]
end

section
open Go.RowKit

theorem none_row (v : Value) : v.ownBlock = none ∨ v.ownBlock ≠ none := by
  cases v.ownBlock with
  | none => exact .inl rfl
  | some k => exact .inr (by simp)
theorem ne_row {v u : Value} {B m : Nat} (h : ∀ k, v.ownBlock = some k → B ≤ k ∧ k < m) (h2 : ∀ k, u.ownBlock = some k → k < B) : v.ownBlock = none ∨ v.ownBlock ≠ u.ownBlock := by
  cases e : v.ownBlock with
  | none => exact .inl rfl
  | some k =>
    refine .inr fun e2 => ?_
    have := h k e
    have := h2 k e2.symm
    omega
theorem cornS_le (l : List Cl) : (cornS l).length ≤ l.length := by
  unfold cornS cornerC
  split
  · simp
  · simp
end

end Go.Proofs.Ytkcclhnligajeaa
