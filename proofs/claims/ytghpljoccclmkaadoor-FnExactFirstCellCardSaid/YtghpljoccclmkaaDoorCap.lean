/-
  Appending cells to a slice of cells that the call owns: the laws at an operation, the new block a letter.
-/
import Derived.Test.YtghpljoccclmkaaDoorCmk
import Derived.Deep.RegionHeld3
import Derived.Deep.AppendLies
namespace Go.Proofs.YtghpljoccclmkaaDoor
open Go.RowKit

theorem cell_size : ∃ i, Tryd.prog.info? 41 = some i ∧ i.zero = some (.agg #[.int .i64 0, .int .i64 0]) ∧ i.size = 2 ∧ i.bytes = 16 := by
  obtain ⟨i0, hi, hz0, hz1, hz2⟩ := info_parts info_cell
  exact ⟨i0, hi, hz0, hz1, hz2⟩

/-- Where l begins in memory at ad, cell for cell. -/
def Lies (w : World) (ad : Addr) (l : List Cl) : Prop := ∀ j u, (cvs l)[j]? = some u → w.cell? (ad.add j) = some u

theorem append_cells (base g n cap : Nat) (xs : List Cl) (ad : Addr) (m c : Nat) (ys : List Cl) (w : World)
    (hown : w.ownsRow base 41 2 (.slice (some ⟨g, 0, none⟩) n cap) n (cvs xs)) (hl : ys.length = m) (hnews : Lies w ad ys) (h63 : n + m ≤ 8388608) (hbase : base ≤ w.heap.size) (ty : TypeId) (H : Nat) (hH : w.heap.size = H) :
    ∃ g' cap' w', (Builtin.append_ #[26, 26] ty #[.slice (some ⟨g, 0, none⟩) n cap, .slice (some ad) m c]).run Tryd.prog w = .ok (.slice (some ⟨g', 0, none⟩) (n + m) cap') w' ∧
      w'.ownsRow base 41 2 (.slice (some ⟨g', 0, none⟩) (n + m) cap') (n + m) (cvs (xs ++ ys)) ∧ w.grownBy w' (some g) ∧ (g' = g ∨ g' = H) ∧ base ≤ g' ∧ g' < w'.heap.size := by
  obtain ⟨i, hi, hz, hs, hby⟩ := cell_size
  obtain ⟨v', w', hr, h2, h3, h4, h5⟩ := run_append_own_at (P := Tryd.prog) w base 26 ty 41 i _ 2 16 Tryd.underlying26 hi hz hs hby rfl (by omega) _ n (cvs xs) hown ad m c (cvs ys) (by rw [cvs_length, hl]) hnews (cvs_oneCell _) (by unfold maxLen; omega) (by omega) hbase
  rw [← cvs_append] at h2
  rcases h2.2 with ⟨rfl, _⟩ | ⟨g', cap', cur, rfl, hb, hg, _⟩
  · exact absurd (h4.1 rfl).1 (by intro e; cases e)
  · refine ⟨g', cap', w', hr, h2, h3, ?_, hb, (Array.getElem?_eq_some_iff.1 hg).1⟩
    rcases h5 with h5 | h5
    · exact .inl (by simpa [Value.ownBlock] using h5)
    · exact .inr (by rw [← hH]; simpa [Value.ownBlock] using h5)

theorem wp_cells {o : Oper} {a : Act} {w : World} {K : Act → World → Prop} {Q : Exit → Act → World → Prop} (s x : Operand)
    (ho : o.op = .call { callee := .builtin .append, args := #[s, x], argTypes := #[26, 26] })
    (base g n cap : Nat) (xs : List Cl) (ad : Addr) (m c : Nat) (ys : List Cl) (hs : a.eval s = .slice (some ⟨g, 0, none⟩) n cap) (hx : a.eval x = .slice (some ad) m c)
    (hown : w.ownsRow base 41 2 (.slice (some ⟨g, 0, none⟩) n cap) n (cvs xs)) (hl : ys.length = m) (hnews : Lies w ad ys) (h63 : n + m ≤ 8388608) (hbase : base ≤ w.heap.size) (H : Nat) (hH : w.heap.size = H)
    (h : ∀ g' cap' w', w'.ownsRow base 41 2 (.slice (some ⟨g', 0, none⟩) (n + m) cap') (n + m) (cvs (xs ++ ys)) → w.grownBy w' (some g) → (g' = g ∨ g' = H) → base ≤ g' → g' < w'.heap.size → K (a.put o.dst (.slice (some ⟨g', 0, none⟩) (n + m) cap')) w') : o.wp Tryd.prog a w K Q := by
  obtain ⟨g', cap', w', hr, h2, h3, h4, h5, h6⟩ := append_cells base g n cap xs ad m c ys w hown hl hnews h63 hbase o.type H hH
  unfold Oper.wp execOp
  simp only [ho, resolve, invoke, builtin, Sem.run_bind, Sem.run_pure, Result.andThen_ok, List.map_toArray, List.map_cons, List.map_nil, hs, hx, hr]
  exact h g' cap' w' h2 h3 h4 h5 h6

theorem wpList_cells {ops : Array Oper} {rest : List Oper} {o : Oper} {a : Act} {w : World} {Q : Exit → Act → World → Prop} (hgd : o.guard = none) (s x : Operand)
    (ho : o.op = .call { callee := .builtin .append, args := #[s, x], argTypes := #[26, 26] })
    (base g n cap : Nat) (xs : List Cl) (ad : Addr) (m c : Nat) (ys : List Cl) (hs : a.eval s = .slice (some ⟨g, 0, none⟩) n cap) (hx : a.eval x = .slice (some ad) m c)
    (hown : w.ownsRow base 41 2 (.slice (some ⟨g, 0, none⟩) n cap) n (cvs xs)) (hl : ys.length = m) (hnews : Lies w ad ys) (h63 : n + m ≤ 8388608) (hbase : base ≤ w.heap.size) (H : Nat) (hH : w.heap.size = H)
    (h : ∀ g' cap' w', w'.ownsRow base 41 2 (.slice (some ⟨g', 0, none⟩) (n + m) cap') (n + m) (cvs (xs ++ ys)) → w.grownBy w' (some g) → (g' = g ∨ g' = H) → base ≤ g' → g' < w'.heap.size → wpList Tryd.prog ops Q rest (a.put o.dst (.slice (some ⟨g', 0, none⟩) (n + m) cap')) w') : wpList Tryd.prog ops Q (o :: rest) a w :=
  wpList_plain hgd fun _ hK => wp_cells s x ho base g n cap xs ad m c ys hs hx hown hl hnews h63 hbase H hH fun g' cap' w' h2 h3 h4 h5 h6 => hK _ _ (h g' cap' w' h2 h3 h4 h5 h6)

theorem step_cells {ops : Array Oper} {o : Oper} {a : Act} {w : World} {K : Act → World → Prop} {Q : Exit → Act → World → Prop} {E : Prop} (hgd : o.guard = none) (s x : Operand)
    (ho : o.op = .call { callee := .builtin .append, args := #[s, x], argTypes := #[26, 26] })
    (base g n cap : Nat) (xs : List Cl) (ad : Addr) (m c : Nat) (ys : List Cl) (hs : a.eval s = .slice (some ⟨g, 0, none⟩) n cap) (hx : a.eval x = .slice (some ad) m c)
    (hown : w.ownsRow base 41 2 (.slice (some ⟨g, 0, none⟩) n cap) n (cvs xs)) (hl : ys.length = m) (hnews : Lies w ad ys) (h63 : n + m ≤ 8388608) (hbase : base ≤ w.heap.size) (H : Nat) (hH : w.heap.size = H)
    (h : ∀ g' cap' w', w'.ownsRow base 41 2 (.slice (some ⟨g', 0, none⟩) (n + m) cap') (n + m) (cvs (xs ++ ys)) → w.grownBy w' (some g) → (g' = g ∨ g' = H) → base ≤ g' → g' < w'.heap.size → K (a.put o.dst (.slice (some ⟨g', 0, none⟩) (n + m) cap')) w') :
    if Region.wanted o (yielded ops a.tmps) = true then Oper.wp Tryd.prog o a w K Q else E := by
  have hw : Region.wanted o (yielded ops a.tmps) = true := by simp [Region.wanted, hgd]
  rw [if_pos hw]
  exact wp_cells s x ho base g n cap xs ad m c ys hs hx hown hl hnews h63 hbase H hH h

/-! ### What lies where -/
theorem lies_block {w : World} {b : Nat} {l : List Cl} {t : TypeId} {fr : Nat × Nat} (h : w.heap[b]? = some (.cells (cvs l).toArray t fr)) : Lies w ⟨b, 0, none⟩ l := World.news_of_block (cs := (cvs l).toArray) h
theorem add_at (b o j : Nat) : (⟨b, o, none⟩ : Addr).add j = ⟨b, o + j, none⟩ := by unfold Addr.add; split <;> simp_all
/-- A part of a slice of cells. -/
theorem CellsAt.lies {B n b off k m : Nat} {w : World} {l : List Cl} (h : CellsAt B w (some ⟨b, off, none⟩) n l) (hk : k + m ≤ n) : Lies w ⟨b, off + k * 2, none⟩ ((l.drop k).take m) := by
  intro j u hj
  rw [add_at]
  have hjl : j < m * 2 := by
    have := (List.getElem?_eq_some_iff.1 hj).1
    rw [cvs_length, List.length_take, List.length_drop] at this
    omega
  obtain ⟨b', off', e, hlt, hc⟩ := h.2.2 (by omega)
  injection e with e
  injection e with e1 e2
  subst e1 e2
  have hcc := hc (k + j / 2) (by omega)
  have hl := h.1
  have hg := cvs_get ((l.drop k).take m) (j / 2) (by rw [List.length_take, List.length_drop]; omega)
  have e3 : ((l.drop k).take m).getD (j / 2) (0, 0) = l.getD (k + j / 2) (0, 0) := by
    simp [List.getD, List.getElem?_drop, show j / 2 < m by omega]
  rw [e3] at hg
  rcases Nat.mod_two_eq_zero_or_one j with h2 | h2
  · have e4 : j / 2 * 2 = j := by omega
    have e5 : off + (k + j / 2) * 2 = off + k * 2 + j := by omega
    rw [e4] at hg
    rw [e5] at hcc
    rw [hcc.1, ← hg.1, hj]
  · have e4 : j / 2 * 2 + 1 = j := by omega
    have e5 : off + (k + j / 2) * 2 + 1 = off + k * 2 + j := by omega
    rw [e4] at hg
    rw [e5] at hcc
    rw [hcc.2, ← hg.2, hj]
theorem Lies.on {w w' : World} {b off B : Nat} {l : List Cl} (h : Lies w ⟨b, off, none⟩ l) (hb : Below B w w') (hlt : b < B) : Lies w' ⟨b, off, none⟩ l := fun j u hj => by
  rw [add_at]
  have := h j u hj
  rw [add_at] at this
  exact (hb.cell (p := ⟨b, off + j, none⟩) hlt).trans this

end Go.Proofs.YtghpljoccclmkaaDoor
