/-
  Neighbouring shapes that are equal taken out of a slice of shapes, in the library's slices.CompactFunc: what the call gives.
-/
import Derived.Test.YthnapikklolgcaaPall
import Derived.Test.YthnapikklolgcaaOwn
import Derived.Test.YthnapikklolgcaaIan
import Derived.Shelf.Abstract
import Derived.BigQuiet
namespace Go.Proofs.Ythnapikklolgcaa
open Go.RowKit

def dedE (es : List Ent) : List Ent := dedK kE dE es es.length
theorem ev_map_set (L : List Ent) (k : Nat) (e : Ent) : (L.map ev).set k (ev e) = (L.set k e).map ev := by rw [List.map_set]
theorem zero_shps (n : Nat) : (Builtin.zeroCells (Value.slice none 0 0).cells n).toList = List.replicate n (.slice none 0 0) := by
  unfold Builtin.zeroCells
  apply List.ext_getElem?
  intro j
  by_cases hj : j < n
  · simp [Value.cells, hj, Nat.mod_one]
  · rw [List.getElem?_eq_none (by simp [Value.cells]; omega), List.getElem?_eq_none (by simp; omega)]
theorem run_clear_shps {w : World} {B n g cap kk c : Nat} {xs : List Value} (ty : TypeId) (h : w.ownsRow B 24 1 (.slice (some ⟨g, 0, none⟩) n cap) n xs) (hk : kk < n) :
    (Builtin.clear_ #[35] ty #[.slice (some ⟨g, kk, none⟩) (n - kk) c]).run Try.prog w = .ok (.tuple #[]) (w.setCells g kk (List.replicate (n - kk) (.slice none 0 0))) := by
  have hl : xs.length = n := by have := h.1; omega
  have hst := run_storeCells_cells (P := Try.prog) g kk (List.replicate (n - kk) (.slice none 0 0)) 0 w
    (fun j hj => by
      rw [List.length_replicate] at hj
      rw [Nat.add_zero, h.cellAt (kk + j) (by omega)]
      have : kk + j < xs.length := by omega
      simp [this])
    (fun j hj => by rw [Nat.add_zero]; exact h.frozenAt _) (fun u hu => by rw [List.eq_of_mem_replicate hu]; rfl)
  simp only [Nat.add_zero] at hst
  obtain ⟨m, hm⟩ : ∃ m, n - kk = m + 1 := ⟨n - kk - 1, by omega⟩
  rw [hm] at hst ⊢
  simp [Builtin.clear_, run_underlying Try.underlying35, Try.zeroValue24, zero_shps, hst]

theorem run_store_ev {w : World} {g kk : Nat} {u : Value} (e : Ent) (q2 : w.cell? ⟨g, kk, none⟩ = some u) (q3 : w.frozen? ⟨g, kk, none⟩ = false) :
    (storeCells ⟨g, kk, none⟩ [ev e]).run Try.prog w = .ok () (w.setCell ⟨g, kk, none⟩ (ev e)) := by
  have hst := run_storeCells_cells (P := Try.prog) g kk [ev e] 0 w
    (fun j hj => by
      have h0 : j = 0 := by simpa using hj
      subst h0
      simp [q2])
    (fun j hj => by
      have h0 : j = 0 := by simpa using hj
      subst h0
      simpa using q3) (fun u hu => by rw [List.mem_singleton] at hu; subst hu; rfl)
  simp only [Nat.add_zero] at hst
  exact hst
end Go.Proofs.Ythnapikklolgcaa
