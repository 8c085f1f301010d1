/-
  Cells put into order, in the model: what the call gives.
-/
import Derived.Test.YtghpljoccclmkaaDoorShq
import Derived.Test.YtghpljoccclmkaaDoorCor
namespace Go.Proofs.YtghpljoccclmkaaDoor
open Go.RowKit

theorem posOf_step (x : Cl) (o : List Cl) (k : Nat) (h : bef x (o.getD k (0, 0)) = true) : posOf x o (k + 1) = posOf x o k := if_pos h
theorem posOf_stop (x : Cl) (o : List Cl) (k : Nat) (h : bef x (o.getD k (0, 0)) = false) : posOf x o (k + 1) = k + 1 := if_neg (by rw [h]; simp)
theorem insU_yes {o : List Cl} {x : Cl} {k : Nat} (hk : posOf x o o.length = k) (h : 0 < k ∧ o.getD (k - 1) (0, 0) = x) : insU o x = o := by unfold insU; rw [hk, if_pos h]
theorem insU_no {o : List Cl} {x : Cl} {k : Nat} (hk : posOf x o o.length = k) (h : ¬ (0 < k ∧ o.getD (k - 1) (0, 0) = x)) : insU o x = o.take k ++ [x] ++ o.drop k := by unfold insU; rw [hk, if_neg h]
theorem sortU_in {l : List Cl} (h : ∀ c ∈ l, InC c) : ∀ c ∈ sortU l, InC c := fun c hc => h c ((sortU_mem l c).1 hc)

theorem own_cap {w : World} {B n g cap : Nat} {xs : List Value} (h : w.ownsRow B 41 2 (.slice (some ⟨g, 0, none⟩) n cap) n xs) : n ≤ cap := by
  rcases h.2 with ⟨e, _⟩ | ⟨g', cap', cur, e, _, _, h1, _⟩
  · cases e
  · injection e with _ _ e3
    omega
theorem new_at {w : World} {N : Nat} (o : Obj) (h : w.heap.size = N) : (w.alloc o).heap[N]? = some o := by subst h; exact heap_alloc_new _ _
theorem own_lit {w : World} {B N : Nat} (h : w.heap.size = N) (hB : B ≤ N) : (w.alloc (.cells #[] 41)).ownsRow B 41 2 (.slice (some ⟨N, 0, none⟩) 0 0) 0 (cvs []) := by subst h; exact World.ownsRow_lit (base := B) (e := 41) (size := 2) w #[] 0 hB (by simp [maxLen]) rfl
/-- What a region that makes blocks of its own keeps: all that lay there. -/
def Held (WW : World) (w' : World) : Prop := Below WW.heap.size WW w'
theorem keepS {WW w' : World} {b off : Nat} {x y : Int} (hlt : b < WW.heap.size) (e1 : WW.cell? ⟨b, off, none⟩ = some (.int .i64 x)) (e2 : WW.cell? ⟨b, off + 1, none⟩ = some (.int .i64 y)) (hb : Below WW.heap.size WW w') :
    w'.cell? ⟨b, off, none⟩ = some (.int .i64 x) ∧ w'.cell? ⟨b, off + 1, none⟩ = some (.int .i64 y) ∧ Held WW w' := ⟨(hb.cell hlt).trans e1, (hb.cell hlt).trans e2, hb⟩

end Go.Proofs.YtghpljoccclmkaaDoor
