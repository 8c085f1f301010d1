/-
  What a shape is, in the program: what the call gives.
  The bounds of a list of cells, in the program: what the call gives.
  The size of a shape, in the program: what the call gives.
  Shapes moved, in the program: what the call gives.
  A shape moved to its corner, in the program: what the call gives.
  Looking for a cell, and equal lists of cells, in the program: what each call gives.
-/
import Derived.Test.YtghpljoccclmkaaDoorIsm
import Derived.BigQuiet
import Derived.Test.YtghpljoccclmkaaDoorSiz
import Derived.Test.YtghpljoccclmkaaDoorMov
import Derived.Test.YtghpljoccclmkaaDoorShq
namespace Go.Proofs.YtghpljoccclmkaaDoor

section
open Go.RowKit

theorem isShape_few {l : List Cl} (h : l.length = 0 ∨ 8 < l.length) : isShape l = false := by
  unfold isShape inb
  rw [Bool.and_eq_false_iff]
  right
  rw [Bool.and_eq_false_iff, decide_eq_false_iff_not, decide_eq_false_iff_not]
  omega
end

section
open Go.RowKit

def lstX (l : List Cl) : Int := lstTo Prod.fst l l.length
def lstY (l : List Cl) : Int := lstTo Prod.snd l l.length
def grtX (l : List Cl) : Int := grtTo Prod.fst l l.length
def grtY (l : List Cl) : Int := grtTo Prod.snd l l.length

/-- A block of one cell. -/
def Two (w : World) (g : Nat) (x y : Int) : Prop := w.heap[g]? = some (.cells #[.int .i64 x, .int .i64 y] 41 (0, 0))
theorem Two.lt {w : World} {g : Nat} {x y : Int} (h : Two w g x y) : g < w.heap.size := (Array.getElem?_eq_some_iff.1 h).1
theorem Two.c0 {w : World} {g : Nat} {x y : Int} (h : Two w g x y) : w.cell? ⟨g, 0, none⟩ = some (.int .i64 x) := cell_of_row w g 0 _ _ _ h
theorem Two.c1 {w : World} {g : Nat} {x y : Int} (h : Two w g x y) : w.cell? ⟨g, 1, none⟩ = some (.int .i64 y) := cell_of_row w g 1 _ _ _ h
theorem Two.f0 {w : World} {g : Nat} {x y : Int} (h : Two w g x y) (j : Nat) : w.frozen? ⟨g, j, none⟩ = false := by unfold Two at h; simp [World.frozen?, h]
theorem Two.new {w : World} {N : Nat} (x y : Int) (h : w.heap.size = N) : Two (w.alloc (.cells #[.int .i64 x, .int .i64 y] 41)) N x y := by subst h; exact heap_alloc_new _ _
theorem Two.alloc {w : World} {g : Nat} {x y : Int} (h : Two w g x y) (o : Obj) : Two (w.alloc o) g x y := (Below.heap_alloc w o g h.lt).trans h
theorem Two.on {w w' : World} {g B : Nat} {x y : Int} (h : Two w g x y) (hb : Below B w w') (hlt : g < B) : Two w' g x y := (hb.block g hlt).trans h
theorem Two.set {w : World} {g : Nat} {x y : Int} (h : Two w g x y) (u v : Int) : Two ((w.setCell ⟨g, 0, none⟩ (.int .i64 u)).setCell ⟨g, 1, none⟩ (.int .i64 v)) g u v := by
  have := set_row (set_row h 0 (.int .i64 u)) 1 (.int .i64 v)
  unfold Two
  simpa using this
theorem Two.at2 {w : World} (a b : Obj) (x y : Int) : Two (((w.alloc a).alloc b).alloc (.cells #[.int .i64 x, .int .i64 y] 41)) (w.heap.size + 1 + 1) x y := Two.new x y (by simp)
theorem Two.at3 {w : World} (a b c : Obj) (x y : Int) : Two ((((w.alloc a).alloc b).alloc c).alloc (.cells #[.int .i64 x, .int .i64 y] 41)) (w.heap.size + 1 + 1 + 1) x y := Two.new x y (by simp)
theorem Two.far {w : World} {g g' j : Nat} {x y : Int} {v : Value} (h : Two w g x y) (hne : g' ≠ g) : Two (w.setCell ⟨g', j, none⟩ v) g x y := (Below.heap_setCell w ⟨g', j, none⟩ v g (fun e => hne e.symm)).trans h
end

section
open Go.RowKit

theorem size_no {l : List Cl} (h : isShape l = false) : wideC l = 0 ∧ highC l = 0 := by
  have e : cornS l = [] := if_neg (by rw [h]; simp)
  unfold wideC highC
  rw [e]
  exact ⟨rfl, rfl⟩
theorem size_yes {l : List Cl} (h : isShape l = true) : wideC l = grtX l - lstX l + 1 ∧ highC l = grtY l - lstY l + 1 := by
  have h1 := size_of h
  have h2 := ((isShape_iff l).1 h).1
  unfold grtX grtY lstX lstY
  rw [lst_min _ _ (by omega), lst_min _ _ (by omega)]
  exact h1
theorem bounds_in {l : List Cl} (h : isShape l = true) : (0 ≤ lstX l ∧ lstX l ≤ 7) ∧ (0 ≤ lstY l ∧ lstY l ≤ 7) ∧ (0 ≤ grtX l ∧ grtX l ≤ 7) ∧ (0 ≤ grtY l ∧ grtY l ≤ 7) := by
  obtain ⟨h1, h2, _⟩ := (isShape_iff l).1 h
  have hx : ∀ c ∈ l, 0 ≤ Prod.fst c ∧ Prod.fst c ≤ 7 := fun c hc => by have := inP_out (h2 c hc); omega
  have hy : ∀ c ∈ l, 0 ≤ Prod.snd c ∧ Prod.snd c ≤ 7 := fun c hc => by have := inP_out (h2 c hc); omega
  exact ⟨lstTo_bd _ l (by omega) hx _ (Nat.le_refl _), lstTo_bd _ l (by omega) hy _ (Nat.le_refl _), grtTo_bd _ l (by omega) hx _ (Nat.le_refl _), grtTo_bd _ l (by omega) hy _ (Nat.le_refl _)⟩
end

section
open Go.RowKit

/-- A slice of the call's own, or nil, that reads as l. -/
def Own (w : World) (l : List Cl) (v : Value) (w' : World) : Prop := w'.ownsRow w.heap.size 41 2 v l.length (cvs l) ∧ Below w.heap.size w w'
theorem own_nil (w : World) (B : Nat) : w.ownsRow B 41 2 (.slice none 0 0) 0 (cvs []) := ⟨rfl, .inl ⟨rfl, rfl⟩⟩
theorem moveS_no {p q : Int} {l : List Cl} (h : canMove p q l = false) : moveS p q l = [] := if_neg (by rw [h]; simp)

theorem move_fill (p q : Int) (l : List Cl) (k n : Nat) (h : k < n) (hl : l.length = n) : (moveC p q (l.take k) ++ List.replicate (n - k) ((0 : Int), (0 : Int))).set k ((l.getD k (0, 0)).1 + p, (l.getD k (0, 0)).2 + q) = moveC p q (l.take (k + 1)) ++ List.replicate (n - (k + 1)) (0, 0) := by
  have e : n - k = (n - (k + 1)) + 1 := by omega
  have el : (moveC p q (l.take k)).length = k := by rw [moveC_len]; simp; omega
  rw [e, List.replicate_succ, List.set_append_right _ _ (by omega), el, Nat.sub_self, List.set_cons_zero]
  have e2 : moveC p q (l.take (k + 1)) = moveC p q (l.take k) ++ [((l.getD k (0, 0)).1 + p, (l.getD k (0, 0)).2 + q)] := by
    rw [take_snoc l k (by omega)]
    simp [moveC]
  rw [e2, List.append_assoc]
  rfl
end

section
open Go.RowKit

theorem cornS_no {l : List Cl} (h : isShape l = false) : cornS l = [] := if_neg (by rw [h]; simp)
end

section
open Go.RowKit
end

end Go.Proofs.YtghpljoccclmkaaDoor
