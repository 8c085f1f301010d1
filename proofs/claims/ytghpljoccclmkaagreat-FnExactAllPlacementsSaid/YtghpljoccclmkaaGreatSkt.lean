/-
  Rows of cells of the call's own, before and behind a sort, and cut short.
-/
import Derived.Test.YtghpljoccclmkaaGreatShelf
import Derived.Test.YtghpljoccclmkaaGreatIan
namespace Go.Proofs.YtghpljoccclmkaaGreat
open Go.RowKit Go.Sort

theorem own_le {w : World} {B n g cap : Nat} {xs : List Value} (h : w.ownsRow B 53 2 (.slice (some ⟨g, 0, none⟩) n cap) n xs) : n ≤ cap := by
  rcases h.2 with ⟨e, _⟩ | ⟨g', cap', cur, e, _, _, h1, _⟩
  · cases e
  · injection e with _ _ e3
    omega
theorem flat_cvs (l : List Cl) : (flatK cv 2 l.toArray).toList = cvs l := by
  apply List.ext_getElem?
  intro t
  by_cases ht : t < l.length * 2
  · have hd : t / 2 < l.length := by omega
    have hg := cvs_get l (t / 2) hd
    have e : l.toArray[t / 2]! = l.getD (t / 2) (0, 0) := by simp [hd, List.getD]
    have h1 : (flatK cv 2 l.toArray).toList[t]? = some ((cv l.toArray[t / 2]!)[t % 2]!) := by
      simp [flatK, ht]
    rw [h1, e]
    rcases Nat.mod_two_eq_zero_or_one t with h | h
    · rw [show t = t / 2 * 2 by omega, hg.1, show (t / 2 * 2) / 2 = t / 2 by omega, show (t / 2 * 2) % 2 = 0 by omega]
      simp [cv]
    · rw [show t = t / 2 * 2 + 1 by omega, hg.2, show (t / 2 * 2 + 1) / 2 = t / 2 by omega, show (t / 2 * 2 + 1) % 2 = 1 by omega]
      simp [cv]
  · rw [List.getElem?_eq_none (by simp [flatK]; omega), List.getElem?_eq_none (by rw [cvs_length]; omega)]
theorem holdsK_own {w : World} {B n g cap : Nat} {l : List Cl} (h : w.ownsRow B 53 2 (.slice (some ⟨g, 0, none⟩) n cap) n (cvs l)) : HoldsK cv 2 w g 0 l.toArray := by
  intro j hj
  have hl : l.length = n := by have := h.1; rw [cvs_length] at this; omega
  have hj2 : j < n * 2 := by simpa [hl] using hj
  have hc := h.cellAt j hj2
  have hf := h.frozenAt j
  rw [Nat.zero_add]
  refine ⟨?_, hf⟩
  rw [hc]
  have e : (flatK cv 2 l.toArray)[j]! = (cvs l)[j]?.getD default := by
    rw [← flat_cvs]
    rw [getElem!_def]
    simp [Option.getD]
    rfl
  rw [e]
  have : j < (cvs l).length := by rw [cvs_length, hl]; exact hj2
  simp [this]
theorem own_sorted {w : World} {B n g cap m : Nat} {l d : List Cl} {os : Array Obj} (h : w.ownsRow B 53 2 (.slice (some ⟨g, 0, none⟩) n cap) n (cvs l)) (hd : d.length = n) :
    (sortWorldK cv 2 w g 0 m d.toArray os).ownsRow B 53 2 (.slice (some ⟨g, 0, none⟩) n cap) n (cvs d) ∧ w.grownBy (sortWorldK cv 2 w g 0 m d.toArray os) (some g) := by
  rcases h.2 with ⟨e, _⟩ | ⟨g', cap', cur, e, hb, hg, h1, h2, h3, h4⟩
  · cases e
  · injection e with e1 e2 e3
    injection e1 with e1
    injection e1 with e1 _
    subst e1 e3
    have hgl : g < w.heap.size := (Array.getElem?_eq_some_iff.1 hg).1
    have hheap : (sortWorldK cv 2 w g 0 m d.toArray os).heap[g]? = some (.cells (putCells id 0 (flatK cv 2 d.toArray) cur) 53 (0, 0)) := by
      unfold sortWorldK putRowK
      rw [heap_grow_old _ _ (by simpa using hgl)]
      simp [putRow, mapBlock, Sort.ahead, Array.getElem?_modify, hg, onCells]
    have hfs : (flatK cv 2 d.toArray).size = n * 2 := by simp [hd]
    refine ⟨⟨by rw [cvs_length, hd], .inr ⟨g, cap, _, rfl, hb, hheap, h1, h2, by simp [putCells, h3], ?_⟩⟩, rfl, rfl, rfl, ?_, ?_⟩
    · apply List.ext_getElem?
      intro j
      by_cases hj : j < n * 2
      · rw [List.getElem?_take_of_lt hj, Array.getElem?_toList, ← flat_cvs]
        have hjc : j < cur.size := by rw [h3]; omega
        simp [putCells, hjc, hfs, hd, hj]
      · rw [List.getElem?_take_eq_none (by omega), List.getElem?_eq_none (by rw [cvs_length]; omega)]
    · unfold sortWorldK putRowK
      simp [putRow, mapBlock, Sort.ahead]
    · intro k hk hne
      unfold sortWorldK putRowK
      rw [heap_grow_old _ _ (by simpa using hk)]
      have : g ≠ k := fun e => hne (by rw [e])
      simp [putRow, mapBlock, Sort.ahead, Array.getElem?_modify, this]
theorem own_take {w : World} {B n g cap k : Nat} {l : List Cl} (h : w.ownsRow B 53 2 (.slice (some ⟨g, 0, none⟩) n cap) n (cvs l)) (hk : k ≤ n) : w.ownsRow B 53 2 (.slice (some ⟨g, 0, none⟩) k cap) k (cvs (l.take k)) := by
  have hl : l.length = n := by have := h.1; rw [cvs_length] at this; omega
  rcases h.2 with ⟨e, _⟩ | ⟨g', cap', cur, e, hb, hg, h1, h2, h3, h4⟩
  · cases e
  · injection e with e1 e2 e3
    injection e1 with e1
    injection e1 with e1 _
    subst e1 e3
    refine ⟨by rw [cvs_length, List.length_take]; congr 1; omega, .inr ⟨g, cap, cur, rfl, hb, hg, by omega, h2, h3, ?_⟩⟩
    have e5 : cvs l = cvs (l.take k) ++ cvs (l.drop k) := by rw [← cvs_append, List.take_append_drop]
    have e6 : (cvs (l.take k)).length = k * 2 := by rw [cvs_length, List.length_take]; congr 1; omega
    have e7 : cur.toList.take (k * 2) = (cur.toList.take (n * 2)).take (k * 2) := by rw [List.take_take]; congr 1; omega
    rw [e7, h4, e5, ← e6, List.take_left']
    rfl
theorem own_setCell_far {w : World} {B n g cap o : Nat} {xs : List Value} {v : Value} (h : w.ownsRow B 53 2 (.slice (some ⟨g, 0, none⟩) n cap) n xs) (ho : n * 2 ≤ o) : (w.setCell ⟨g, o, none⟩ v).ownsRow B 53 2 (.slice (some ⟨g, 0, none⟩) n cap) n xs := by
  rcases h.2 with ⟨e, _⟩ | ⟨g', cap', cur, e, hb, hg, h1, h2, h3, h4⟩
  · cases e
  · injection e with e1 e2 e3
    injection e1 with e1
    injection e1 with e1 _
    subst e1 e3
    refine ⟨h.1, .inr ⟨g, cap, cur.setIfInBounds o v, rfl, hb, set_row hg o v, h1, h2, by simpa using h3, ?_⟩⟩
    rw [← h4]
    apply List.ext_getElem?
    intro j
    by_cases hj : j < n * 2
    · rw [List.getElem?_take_of_lt hj, List.getElem?_take_of_lt hj, Array.getElem?_toList, Array.getElem?_toList, Array.getElem?_setIfInBounds]
      rw [if_neg (by omega)]
    · rw [List.getElem?_take_eq_none (by omega), List.getElem?_take_eq_none (by omega)]
theorem own_setCells_far {B n g cap : Nat} {xs : List Value} : ∀ (vs : List Value) (o : Nat) (w : World), w.ownsRow B 53 2 (.slice (some ⟨g, 0, none⟩) n cap) n xs → n * 2 ≤ o → (w.setCells g o vs).ownsRow B 53 2 (.slice (some ⟨g, 0, none⟩) n cap) n xs
  | [], _, _, h, _ => h
  | v :: r, o, w, h, ho => own_setCells_far r (o + 1) _ (own_setCell_far (v := v) h ho) (by omega)
theorem below_sets {B g : Nat} {a : World} (hg : B ≤ g) : ∀ (vs : List Value) (o : Nat) (w : World), Below B a w → Below B a (w.setCells g o vs)
  | [], _, _, h => h
  | v :: r, o, w, h => below_sets hg r (o + 1) _ (h.setCell (p := ⟨g, o, none⟩) hg v)
theorem zero_cells (n : Nat) : (Builtin.zeroCells (Value.agg #[.int .i64 0, .int .i64 0]).cells n).toList = cvs (List.replicate n (0, 0)) := by
  rw [← made_cells n]
  unfold Builtin.zeroCells madeCells
  simp [Value.cells]
theorem run_clear_cells {w : World} {B n g cap kk c : Nat} {l : List Cl} (ty : TypeId) (h : w.ownsRow B 53 2 (.slice (some ⟨g, 0, none⟩) n cap) n (cvs l)) (hk : kk < n) :
    (Builtin.clear_ #[31] ty #[.slice (some ⟨g, kk * 2, none⟩) (n - kk) c]).run Tryz.prog w = .ok (.tuple #[]) (w.setCells g (kk * 2) (cvs (List.replicate (n - kk) (0, 0)))) := by
  have hlen : (cvs (List.replicate (n - kk) ((0 : Int), (0 : Int)))).length = (n - kk) * 2 := by rw [cvs_length]; simp
  have hl : l.length = n := by have := h.1; rw [cvs_length] at this; omega
  have hst := run_storeCells_cells (P := Tryz.prog) g (kk * 2) (cvs (List.replicate (n - kk) (0, 0))) 0 w
    (fun j hj => by
      rw [hlen] at hj
      rw [Nat.add_zero, h.cellAt (kk * 2 + j) (by omega)]
      have : kk * 2 + j < (cvs l).length := by rw [cvs_length, hl]; omega
      simp [this])
    (fun j hj => by rw [Nat.add_zero]; exact h.frozenAt _) (cvs_oneCell _)
  simp only [Nat.add_zero] at hst
  obtain ⟨m, hm⟩ : ∃ m, n - kk = m + 1 := ⟨n - kk - 1, by omega⟩
  rw [hm] at hst ⊢
  simp [Builtin.clear_, run_underlying Tryz.underlying31, Tryz.zeroValue53, zero_cells, hst]

end Go.Proofs.YtghpljoccclmkaaGreat
