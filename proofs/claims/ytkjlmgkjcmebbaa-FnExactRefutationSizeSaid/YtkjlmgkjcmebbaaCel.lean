/-
  Slices of cells in memory, and what the laws' own helpers on them give.
-/
import Derived.Test.YtkjlmgkjcmebbaaKit
import Derived.Test.YtkjlmgkjcmebbaaPur
namespace Go.Proofs.Ytkjlmgkjcmebbaa
open Go.RowKit

/-- A cell as a value, as two cells of memory. -/
def cv (c : Cl) : List Value := [.int .i64 c.1, .int .i64 c.2]
def cvs (l : List Cl) : List Value := l.flatMap cv
def InC (c : Cl) : Prop := -9223372036854775808 ≤ c.1 ∧ c.1 ≤ 9223372036854775807 ∧ -9223372036854775808 ≤ c.2 ∧ c.2 ≤ 9223372036854775807

/-- A slice value that reads as the list of cells l, its memory below block B. -/
def CellsAt (B : Nat) (w : World) (a : Option Addr) (n : Nat) (l : List Cl) : Prop :=
  l.length = n ∧ (∀ c ∈ l, InC c) ∧ (0 < n → ∃ b off, a = some ⟨b, off, none⟩ ∧ b < B ∧ ∀ k, k < n → w.cell? ⟨b, off + k * 2, none⟩ = some (.int .i64 (l.getD k (0, 0)).1) ∧ w.cell? ⟨b, off + k * 2 + 1, none⟩ = some (.int .i64 (l.getD k (0, 0)).2))

theorem cvs_length : ∀ l : List Cl, (cvs l).length = l.length * 2
  | [] => rfl
  | c :: r => by rw [cvs, List.flatMap_cons, List.length_append]; have := cvs_length r; unfold cvs at this; simp [this, cv]; omega
theorem cvs_append (a b : List Cl) : cvs (a ++ b) = cvs a ++ cvs b := by simp [cvs]
theorem cvs_cons (c : Cl) (l : List Cl) : cvs (c :: l) = .int .i64 c.1 :: .int .i64 c.2 :: cvs l := by simp [cvs, cv]
theorem cvs_get : ∀ (l : List Cl) (k : Nat), k < l.length → (cvs l)[k * 2]? = some (.int .i64 (l.getD k (0, 0)).1) ∧ (cvs l)[k * 2 + 1]? = some (.int .i64 (l.getD k (0, 0)).2) := by
  intro l
  induction l with
  | nil => intro k h; simp at h
  | cons c r ih =>
    intro k h
    rw [cvs_cons]
    cases k with
    | zero => simp
    | succ k =>
      have := ih k (by simpa using h)
      have e : (k + 1) * 2 = k * 2 + 1 + 1 := by omega
      rw [e]
      simpa using this
theorem cvs_set : ∀ (l : List Cl) (k : Nat) (c : Cl), k < l.length → ((cvs l).set (k * 2) (.int .i64 c.1)).set (k * 2 + 1) (.int .i64 c.2) = cvs (l.set k c) := by
  intro l
  induction l with
  | nil => intro k c h; simp at h
  | cons d r ih =>
    intro k c h
    cases k with
    | zero => simp [cvs_cons]
    | succ k =>
      have e : (k + 1) * 2 = k * 2 + 1 + 1 := by omega
      rw [e, List.set_cons_succ, cvs_cons, cvs_cons]
      simp only [List.set_cons_succ]
      rw [ih k c (by simpa using h)]
theorem made_cells (n : Nat) : (madeCells #[Value.int .i64 0, .int .i64 0] (n * 2)).toList = cvs (List.replicate n (0, 0)) := by
  apply List.ext_getElem?
  intro j
  by_cases hj : j < n * 2
  · have h1 := cvs_get (List.replicate n (0, 0)) (j / 2) (by simp; omega)
    have h2 : j / 2 < n := by omega
    have e : (List.replicate n ((0 : Int), (0 : Int))).getD (j / 2) (0, 0) = (0, 0) := by simp [List.getD, h2]
    rw [e] at h1
    rcases Nat.mod_two_eq_zero_or_one j with h | h
    · have e2 : j / 2 * 2 = j := by omega
      rw [e2] at h1
      rw [h1.1]
      simp [madeCells, hj, h]
    · have e2 : j / 2 * 2 + 1 = j := by omega
      rw [e2] at h1
      rw [h1.2]
      simp [madeCells, hj, h]
  · rw [List.getElem?_eq_none (by simp [madeCells]; omega), List.getElem?_eq_none (by rw [cvs_length]; simp; omega)]
theorem fill_step (l : List Cl) (k n : Nat) (h : k < n) (hl : l.length = n) : (l.take k ++ List.replicate (n - k) ((0 : Int), (0 : Int))).set k (l.getD k (0, 0)) = l.take (k + 1) ++ List.replicate (n - (k + 1)) (0, 0) := by
  have e : n - k = (n - (k + 1)) + 1 := by omega
  rw [e, List.replicate_succ, List.set_append_right _ _ (by simp; omega)]
  have e2 : k - (l.take k).length = 0 := by simp; omega
  rw [e2, List.set_cons_zero, List.take_succ_eq_append_getElem (by omega)]
  have e3 : l.getD k (0, 0) = l[k]'(by omega) := by simp [List.getD, show k < l.length by omega]
  rw [e3, List.append_assoc]
  rfl
/-- What lies below the heap's old size is kept whole. -/
theorem grow_below {w w' : World} (h : Below w.heap.size w w') (r : Option Nat) : w.grownBy w' r := ⟨h.os, h.tape, h.output, h.size, fun k hk _ => h.block k hk⟩
theorem cvs_oneCell (l : List Cl) : ∀ u ∈ cvs l, u.oneCell' = true := by
  intro u hu
  obtain ⟨c, _, hc⟩ := List.mem_flatMap.1 hu
  simp [cv] at hc
  rcases hc with rfl | rfl <;> rfl
theorem cvs_one (c : Cl) : cvs [c] = [.int .i64 c.1, .int .i64 c.2] := by simp [cvs, cv]

theorem CellsAt.on {B n : Nat} {w w' : World} {a : Option Addr} {l : List Cl} (h : CellsAt B w a n l) (hb : Below B w w') : CellsAt B w' a n l :=
  ⟨h.1, h.2.1, fun hp => by
    obtain ⟨b, off, e, hlt, hc⟩ := h.2.2 hp
    exact ⟨b, off, e, hlt, fun k hk => ⟨(hb.cell (p := ⟨b, off + k * 2, none⟩) hlt).trans (hc k hk).1, (hb.cell (p := ⟨b, off + k * 2 + 1, none⟩) hlt).trans (hc k hk).2⟩⟩⟩
theorem CellsAt.more {B B' n : Nat} {w : World} {a : Option Addr} {l : List Cl} (h : CellsAt B w a n l) (hB : B ≤ B') : CellsAt B' w a n l :=
  ⟨h.1, h.2.1, fun hp => by
    obtain ⟨b, off, e, hlt, hc⟩ := h.2.2 hp
    exact ⟨b, off, e, by omega, hc⟩⟩
theorem set_row {w : World} {g : Nat} {cs : Array Value} {t : TypeId} (h : w.heap[g]? = some (.cells cs t (0, 0))) (j : Nat) (v : Value) : (w.setCell ⟨g, j, none⟩ v).heap[g]? = some (.cells (cs.setIfInBounds j v) t (0, 0)) := by
  simp [World.setCell, Array.getElem?_modify, h]


end Go.Proofs.Ytkjlmgkjcmebbaa
