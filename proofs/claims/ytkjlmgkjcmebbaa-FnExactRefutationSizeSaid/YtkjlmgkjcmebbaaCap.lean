/-
  Appending cells to a slice of cells that the call owns: the laws at an operation, the new block a letter.
-/
import Derived.Test.YtkjlmgkjcmebbaaCmk
import Derived.Deep.RegionHeld3
import Derived.Deep.AppendLies
namespace Go.Proofs.Ytkjlmgkjcmebbaa
open Go.RowKit

/-- Where l begins in memory at ad, cell for cell. -/
def Lies (w : World) (ad : Addr) (l : List Cl) : Prop := ∀ j u, (cvs l)[j]? = some u → w.cell? (ad.add j) = some u

theorem lies_block {w : World} {b : Nat} {l : List Cl} {t : TypeId} {fr : Nat × Nat} (h : w.heap[b]? = some (.cells (cvs l).toArray t fr)) : Lies w ⟨b, 0, none⟩ l := World.news_of_block (cs := (cvs l).toArray) h
theorem add_at (b o j : Nat) : (⟨b, o, none⟩ : Addr).add j = ⟨b, o + j, none⟩ := by unfold Addr.add; split <;> simp_all
/-- A part of a slice of cells. -/
theorem CellsAt.lies {B n b off k m : Nat} {w : World} {l : List Cl} (h : CellsAt B w (some ⟨b, off, none⟩) n l) (hk : k + m ≤ n) : Lies w ⟨b, off + k * 2, none⟩ ((l.drop k).take m) := by
  intro j u hj
  rw [add_at]
  have hjl : j < m * 2 := by
    have := (List.getElem?_eq_some_iff.1 hj).1
    rw [cvs_length, List.length_take, List.length_drop] at this
    omega
  obtain ⟨b', off', e, hlt, hc⟩ := h.2.2 (by omega)
  injection e with e
  injection e with e1 e2
  subst e1 e2
  have hcc := hc (k + j / 2) (by omega)
  have hl := h.1
  have hg := cvs_get ((l.drop k).take m) (j / 2) (by rw [List.length_take, List.length_drop]; omega)
  have e3 : ((l.drop k).take m).getD (j / 2) (0, 0) = l.getD (k + j / 2) (0, 0) := by
    simp [List.getD, List.getElem?_drop, show j / 2 < m by omega]
  rw [e3] at hg
  rcases Nat.mod_two_eq_zero_or_one j with h2 | h2
  · have e4 : j / 2 * 2 = j := by omega
    have e5 : off + (k + j / 2) * 2 = off + k * 2 + j := by omega
    rw [e4] at hg
    rw [e5] at hcc
    rw [hcc.1, ← hg.1, hj]
  · have e4 : j / 2 * 2 + 1 = j := by omega
    have e5 : off + (k + j / 2) * 2 + 1 = off + k * 2 + j := by omega
    rw [e4] at hg
    rw [e5] at hcc
    rw [hcc.2, ← hg.2, hj]
theorem Lies.on {w w' : World} {b off B : Nat} {l : List Cl} (h : Lies w ⟨b, off, none⟩ l) (hb : Below B w w') (hlt : b < B) : Lies w' ⟨b, off, none⟩ l := fun j u hj => by
  rw [add_at]
  have := h j u hj
  rw [add_at] at this
  exact (hb.cell (p := ⟨b, off + j, none⟩) hlt).trans this

end Go.Proofs.Ytkjlmgkjcmebbaa
