/-
  The bounds of a list of cells, in the program: what the call gives.
-/
import Derived.Test.YtghpljoccclmkaaIsh
import Derived.Test.YtghpljoccclmkaaSiz
namespace Go.Proofs.Ytghpljoccclmkaa
open Go.RowKit

def lstX (l : List Cl) : Int := lstTo Prod.fst l l.length
def lstY (l : List Cl) : Int := lstTo Prod.snd l l.length
def grtX (l : List Cl) : Int := grtTo Prod.fst l l.length
def grtY (l : List Cl) : Int := grtTo Prod.snd l l.length

/-- A block of one cell. -/
def Two (w : World) (g : Nat) (x y : Int) : Prop := w.heap[g]? = some (.cells #[.int .i64 x, .int .i64 y] 52 (0, 0))
theorem Two.lt {w : World} {g : Nat} {x y : Int} (h : Two w g x y) : g < w.heap.size := (Array.getElem?_eq_some_iff.1 h).1
theorem Two.c0 {w : World} {g : Nat} {x y : Int} (h : Two w g x y) : w.cell? ⟨g, 0, none⟩ = some (.int .i64 x) := cell_of_row w g 0 _ _ _ h
theorem Two.c1 {w : World} {g : Nat} {x y : Int} (h : Two w g x y) : w.cell? ⟨g, 1, none⟩ = some (.int .i64 y) := cell_of_row w g 1 _ _ _ h
theorem Two.f0 {w : World} {g : Nat} {x y : Int} (h : Two w g x y) (j : Nat) : w.frozen? ⟨g, j, none⟩ = false := by unfold Two at h; simp [World.frozen?, h]
theorem Two.new {w : World} {N : Nat} (x y : Int) (h : w.heap.size = N) : Two (w.alloc (.cells #[.int .i64 x, .int .i64 y] 52)) N x y := by subst h; exact heap_alloc_new _ _
theorem Two.alloc {w : World} {g : Nat} {x y : Int} (h : Two w g x y) (o : Obj) : Two (w.alloc o) g x y := (Below.heap_alloc w o g h.lt).trans h
theorem Two.on {w w' : World} {g B : Nat} {x y : Int} (h : Two w g x y) (hb : Below B w w') (hlt : g < B) : Two w' g x y := (hb.block g hlt).trans h
theorem Two.set {w : World} {g : Nat} {x y : Int} (h : Two w g x y) (u v : Int) : Two ((w.setCell ⟨g, 0, none⟩ (.int .i64 u)).setCell ⟨g, 1, none⟩ (.int .i64 v)) g u v := by
  have := set_row (set_row h 0 (.int .i64 u)) 1 (.int .i64 v)
  unfold Two
  simpa using this
theorem Two.at2 {w : World} (a b : Obj) (x y : Int) : Two (((w.alloc a).alloc b).alloc (.cells #[.int .i64 x, .int .i64 y] 52)) (w.heap.size + 1 + 1) x y := Two.new x y (by simp)
theorem Two.at3 {w : World} (a b c : Obj) (x y : Int) : Two ((((w.alloc a).alloc b).alloc c).alloc (.cells #[.int .i64 x, .int .i64 y] 52)) (w.heap.size + 1 + 1 + 1) x y := Two.new x y (by simp)
theorem Two.far {w : World} {g g' j : Nat} {x y : Int} {v : Value} (h : Two w g x y) (hne : g' ≠ g) : Two (w.setCell ⟨g', j, none⟩ v) g x y := (Below.heap_setCell w ⟨g', j, none⟩ v g (fun e => hne e.symm)).trans h

end Go.Proofs.Ytghpljoccclmkaa
