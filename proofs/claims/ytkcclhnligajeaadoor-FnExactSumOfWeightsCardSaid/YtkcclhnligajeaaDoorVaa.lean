/-
  Slices of cells in memory, and what the laws' own helpers on them give.
  The laws' helpers that compare, mark and look at slices of cells.
  The laws' helpers that write marks into a slice of cells and look whether they still stand there.
  Order of cells and what a shape is, in the model: what each call gives.
-/
import Derived.Test.YtkcclhnligajeaaDoorKit
import Derived.Test.YtkcclhnligajeaaDoorPur
import Derived.Deep.RegionHeld3
import Derived.Deep.RegionWith
import Derived.IntWalk
import Derived.Laws.StructEq
namespace Go.Proofs.YtkcclhnligajeaaDoor

section
open Go.RowKit

/-- A cell as a value, as two cells of memory. -/
def cv (c : Cl) : List Value := [.int .i64 c.1, .int .i64 c.2]
def cvs (l : List Cl) : List Value := l.flatMap cv
def InC (c : Cl) : Prop := -9223372036854775808 ≤ c.1 ∧ c.1 ≤ 9223372036854775807 ∧ -9223372036854775808 ≤ c.2 ∧ c.2 ≤ 9223372036854775807

/-- A slice value that reads as the list of cells l, its memory below block B. -/
def CellsAt (B : Nat) (w : World) (a : Option Addr) (n : Nat) (l : List Cl) : Prop :=
  l.length = n ∧ (∀ c ∈ l, InC c) ∧ (0 < n → ∃ b off, a = some ⟨b, off, none⟩ ∧ b < B ∧ ∀ k, k < n → w.cell? ⟨b, off + k * 2, none⟩ = some (.int .i64 (l.getD k (0, 0)).1) ∧ w.cell? ⟨b, off + k * 2 + 1, none⟩ = some (.int .i64 (l.getD k (0, 0)).2))

theorem cvs_length : ∀ l : List Cl, (cvs l).length = l.length * 2
  | [] => rfl
  | c :: r => by rw [cvs, List.flatMap_cons, List.length_append]; have := cvs_length r; unfold cvs at this; simp [this, cv]; omega
theorem cvs_append (a b : List Cl) : cvs (a ++ b) = cvs a ++ cvs b := by simp [cvs]
theorem cvs_cons (c : Cl) (l : List Cl) : cvs (c :: l) = .int .i64 c.1 :: .int .i64 c.2 :: cvs l := by simp [cvs, cv]
theorem cvs_get : ∀ (l : List Cl) (k : Nat), k < l.length → (cvs l)[k * 2]? = some (.int .i64 (l.getD k (0, 0)).1) ∧ (cvs l)[k * 2 + 1]? = some (.int .i64 (l.getD k (0, 0)).2) := by
  intro l
  induction l with
  | nil => intro k h; simp at h
  | cons c r ih =>
    intro k h
    rw [cvs_cons]
    cases k with
    | zero => simp
    | succ k =>
      have := ih k (by simpa using h)
      have e : (k + 1) * 2 = k * 2 + 1 + 1 := by omega
      rw [e]
      simpa using this
theorem cvs_set : ∀ (l : List Cl) (k : Nat) (c : Cl), k < l.length → ((cvs l).set (k * 2) (.int .i64 c.1)).set (k * 2 + 1) (.int .i64 c.2) = cvs (l.set k c) := by
  intro l
  induction l with
  | nil => intro k c h; simp at h
  | cons d r ih =>
    intro k c h
    cases k with
    | zero => simp [cvs_cons]
    | succ k =>
      have e : (k + 1) * 2 = k * 2 + 1 + 1 := by omega
      rw [e, List.set_cons_succ, cvs_cons, cvs_cons]
      simp only [List.set_cons_succ]
      rw [ih k c (by simpa using h)]
theorem made_cells (n : Nat) : (madeCells #[Value.int .i64 0, .int .i64 0] (n * 2)).toList = cvs (List.replicate n (0, 0)) := by
  apply List.ext_getElem?
  intro j
  by_cases hj : j < n * 2
  · have h1 := cvs_get (List.replicate n (0, 0)) (j / 2) (by simp; omega)
    have h2 : j / 2 < n := by omega
    have e : (List.replicate n ((0 : Int), (0 : Int))).getD (j / 2) (0, 0) = (0, 0) := by simp [List.getD, h2]
    rw [e] at h1
    rcases Nat.mod_two_eq_zero_or_one j with h | h
    · have e2 : j / 2 * 2 = j := by omega
      rw [e2] at h1
      rw [h1.1]
      simp [madeCells, hj, h]
    · have e2 : j / 2 * 2 + 1 = j := by omega
      rw [e2] at h1
      rw [h1.2]
      simp [madeCells, hj, h]
  · rw [List.getElem?_eq_none (by simp [madeCells]; omega), List.getElem?_eq_none (by rw [cvs_length]; simp; omega)]
theorem fill_step (l : List Cl) (k n : Nat) (h : k < n) (hl : l.length = n) : (l.take k ++ List.replicate (n - k) ((0 : Int), (0 : Int))).set k (l.getD k (0, 0)) = l.take (k + 1) ++ List.replicate (n - (k + 1)) (0, 0) := by
  have e : n - k = (n - (k + 1)) + 1 := by omega
  rw [e, List.replicate_succ, List.set_append_right _ _ (by simp; omega)]
  have e2 : k - (l.take k).length = 0 := by simp; omega
  rw [e2, List.set_cons_zero, List.take_succ_eq_append_getElem (by omega)]
  have e3 : l.getD k (0, 0) = l[k]'(by omega) := by simp [List.getD, show k < l.length by omega]
  rw [e3, List.append_assoc]
  rfl
/-- What lies below the heap's old size is kept whole. -/
theorem grow_below {w w' : World} (h : Below w.heap.size w w') (r : Option Nat) : w.grownBy w' r := ⟨h.os, h.tape, h.output, h.size, fun k hk _ => h.block k hk⟩
theorem cvs_oneCell (l : List Cl) : ∀ u ∈ cvs l, u.oneCell' = true := by
  intro u hu
  obtain ⟨c, _, hc⟩ := List.mem_flatMap.1 hu
  simp [cv] at hc
  rcases hc with rfl | rfl <;> rfl
theorem cvs_one (c : Cl) : cvs [c] = [.int .i64 c.1, .int .i64 c.2] := by simp [cvs, cv]

theorem CellsAt.on {B n : Nat} {w w' : World} {a : Option Addr} {l : List Cl} (h : CellsAt B w a n l) (hb : Below B w w') : CellsAt B w' a n l :=
  ⟨h.1, h.2.1, fun hp => by
    obtain ⟨b, off, e, hlt, hc⟩ := h.2.2 hp
    exact ⟨b, off, e, hlt, fun k hk => ⟨(hb.cell (p := ⟨b, off + k * 2, none⟩) hlt).trans (hc k hk).1, (hb.cell (p := ⟨b, off + k * 2 + 1, none⟩) hlt).trans (hc k hk).2⟩⟩⟩
theorem CellsAt.more {B B' n : Nat} {w : World} {a : Option Addr} {l : List Cl} (h : CellsAt B w a n l) (hB : B ≤ B') : CellsAt B' w a n l :=
  ⟨h.1, h.2.1, fun hp => by
    obtain ⟨b, off, e, hlt, hc⟩ := h.2.2 hp
    exact ⟨b, off, e, by omega, hc⟩⟩
theorem set_row {w : World} {g : Nat} {cs : Array Value} {t : TypeId} (h : w.heap[g]? = some (.cells cs t (0, 0))) (j : Nat) (v : Value) : (w.setCell ⟨g, j, none⟩ v).heap[g]? = some (.cells (cs.setIfInBounds j v) t (0, 0)) := by
  simp [World.setCell, Array.getElem?_modify, h]
end

section
open Go.RowKit

def eqb (l r : List Cl) : Bool := decide (l = r)

theorem eqb_no {l r : List Cl} {k : Nat} (h : l.getD k (0, 0) ≠ r.getD k (0, 0)) : eqb l r = false := by
  unfold eqb
  simp
  intro e
  rw [e] at h
  exact h rfl
theorem take_same (l r : List Cl) (k : Nat) (h1 : k < l.length) (h2 : k < r.length) (h : l.take k = r.take k) (hd : l.getD k (0, 0) = r.getD k (0, 0)) : l.take (k + 1) = r.take (k + 1) := by
  rw [List.take_succ_eq_append_getElem h1, List.take_succ_eq_append_getElem h2, h]
  have e1 : l.getD k (0, 0) = l[k] := by simp [List.getD, h1]
  have e2 : r.getD k (0, 0) = r[k] := by simp [List.getD, h2]
  rw [← e1, ← e2, hd]
end

section
open Go.RowKit

/-- The marks that are written into n cells, counted from k. -/
def marks (k : Int) (n : Nat) : List Cl := (List.range n).map fun (j : Nat) => (k + 2 * (j : Int), k + 2 * (j : Int) + 1)
theorem marks_length (k : Int) (n : Nat) : (marks k n).length = n := by simp [marks]
theorem marks_succ (k : Int) (n : Nat) : marks k (n + 1) = marks k n ++ [(k + 2 * n, k + 2 * n + 1)] := by simp [marks, List.range_succ]
theorem marks_get (k : Int) (n j : Nat) (h : j < n) : (marks k n).getD j (0, 0) = (k + 2 * j, k + 2 * j + 1) := by simp [marks, h]
theorem mark_step (k : Int) (j : Nat) (l : List Cl) (h : j < l.length) : (marks k j ++ l.drop j).set j (k + 2 * j, k + 2 * j + 1) = marks k (j + 1) ++ l.drop (j + 1) := by
  rw [List.set_append_right _ _ (by simp [marks_length]), marks_length, Nat.sub_self, List.drop_eq_getElem_cons h, List.set_cons_zero, marks_succ, List.append_assoc]
  rfl
theorem marks_in (k : Int) (n : Nat) (h0 : 0 ≤ k) (h : k + 2 * n ≤ 9223372036854775807) : ∀ c ∈ marks k n, InC c := by
  intro c hc
  obtain ⟨j, hj, rfl⟩ := List.mem_map.1 hc
  have := List.mem_range.1 hj
  unfold InC
  dsimp only
  omega
end

section
open Go.RowKit

theorem quiet_same {P : Program} {f : FuncId} {args : Array Value} {w : World} {n : Nat} {v : Value} (h : Calls P f args (w.drewN n) fun e w' => e = .returned v ∧ w.drewN n = w') : Calls P f args (w.drewN n) fun e w'' => e = .returned v ∧ ∃ m, w'' = w.drewN m :=
  h.mono fun _ _ ⟨he, hm⟩ => ⟨he, n, hm.symm⟩
theorem below_drewn {B : Nat} {w w' : World} (h : Below B w w') (n : Nat) : Below B w (w'.drewN n) := ⟨h.os, h.tape, h.output, h.size, h.block⟩

theorem sIn (x lo hi : Int) (w : World) : Calls Tryd.prog 19 #[.int .i64 x, .int .i64 lo, .int .i64 hi] w fun e w' => e = .returned (.bool (inb x lo hi)) ∧ w = w' := by
  unfold inb
  by_cases h1 : lo ≤ x
  · go_enter Tryd.func19, Tryd.ntmps19
    go_wp2
    go_ret
    exact ⟨by simp [h1], rfl⟩
  · go_enter Tryd.func19, Tryd.ntmps19
    go_wp2
    go_ret
    exact ⟨by simp; omega, rfl⟩

theorem okTo_succ (l : List Cl) (k : Nat) : okTo l (k + 1) = (okTo l k && okAt l k) := by
  unfold okTo
  rw [List.range_succ, List.all_append]
  simp
theorem okTo_no {l : List Cl} {k n : Nat} (h : k < n) (hk : okAt l k = false) : okTo l n = false := by
  unfold okTo
  rw [List.all_eq_false]
  exact ⟨k, List.mem_range.2 h, by simp [hk]⟩
end

end Go.Proofs.YtkcclhnligajeaaDoor
