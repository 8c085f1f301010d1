/-
  Rows of cells of the call's own, before and behind a sort, and cut short.
  Neighbours that are equal taken out of a slice of cells, in the library's slices.Compact: what the call gives.
  Cells put into order, in the program: what the call gives.
  A shape moved to its corner, in the program: what the call gives.
  Shapes turned, in the program: what the call gives.
-/
import Derived.Test.YtkcclhnligajeaaGreatDoorShelf
import Derived.Test.YtkcclhnligajeaaGreatDoorVaz
import Derived.Test.YtkcclhnligajeaaGreatDoorVad
import Derived.Test.YtkcclhnligajeaaGreatDoorVax
import Derived.Test.YtkcclhnligajeaaGreatDoorVae
namespace Go.Proofs.YtkcclhnligajeaaGreatDoor

section
open Go.RowKit Go.Sort

theorem own_le {w : World} {B n g cap : Nat} {xs : List Value} (h : w.ownsRow B 126 2 (.slice (some ⟨g, 0, none⟩) n cap) n xs) : n ≤ cap := by
  rcases h.2 with ⟨e, _⟩ | ⟨g', cap', cur, e, _, _, h1, _⟩
  · cases e
  · injection e with _ _ e3
    omega
theorem flat_cvs (l : List Cl) : (flatK cv 2 l.toArray).toList = cvs l := by
  apply List.ext_getElem?
  intro t
  by_cases ht : t < l.length * 2
  · have hd : t / 2 < l.length := by omega
    have hg := cvs_get l (t / 2) hd
    have e : l.toArray[t / 2]! = l.getD (t / 2) (0, 0) := by simp [hd, List.getD]
    have h1 : (flatK cv 2 l.toArray).toList[t]? = some ((cv l.toArray[t / 2]!)[t % 2]!) := by
      simp [flatK, ht]
    rw [h1, e]
    rcases Nat.mod_two_eq_zero_or_one t with h | h
    · rw [show t = t / 2 * 2 by omega, hg.1, show (t / 2 * 2) / 2 = t / 2 by omega, show (t / 2 * 2) % 2 = 0 by omega]
      simp [cv]
    · rw [show t = t / 2 * 2 + 1 by omega, hg.2, show (t / 2 * 2 + 1) / 2 = t / 2 by omega, show (t / 2 * 2 + 1) % 2 = 1 by omega]
      simp [cv]
  · rw [List.getElem?_eq_none (by simp [flatK]; omega), List.getElem?_eq_none (by rw [cvs_length]; omega)]
theorem holdsK_own {w : World} {B n g cap : Nat} {l : List Cl} (h : w.ownsRow B 126 2 (.slice (some ⟨g, 0, none⟩) n cap) n (cvs l)) : HoldsK cv 2 w g 0 l.toArray := by
  intro j hj
  have hl : l.length = n := by have := h.1; rw [cvs_length] at this; omega
  have hj2 : j < n * 2 := by simpa [hl] using hj
  have hc := h.cellAt j hj2
  have hf := h.frozenAt j
  rw [Nat.zero_add]
  refine ⟨?_, hf⟩
  rw [hc]
  have e : (flatK cv 2 l.toArray)[j]! = (cvs l)[j]?.getD default := by
    rw [← flat_cvs]
    rw [getElem!_def]
    simp [Option.getD]
    rfl
  rw [e]
  have : j < (cvs l).length := by rw [cvs_length, hl]; exact hj2
  simp [this]
theorem own_sorted {w : World} {B n g cap m : Nat} {l d : List Cl} {os : Array Obj} (h : w.ownsRow B 126 2 (.slice (some ⟨g, 0, none⟩) n cap) n (cvs l)) (hd : d.length = n) :
    (sortWorldK cv 2 w g 0 m d.toArray os).ownsRow B 126 2 (.slice (some ⟨g, 0, none⟩) n cap) n (cvs d) ∧ w.grownBy (sortWorldK cv 2 w g 0 m d.toArray os) (some g) := by
  rcases h.2 with ⟨e, _⟩ | ⟨g', cap', cur, e, hb, hg, h1, h2, h3, h4⟩
  · cases e
  · injection e with e1 e2 e3
    injection e1 with e1
    injection e1 with e1 _
    subst e1 e3
    have hgl : g < w.heap.size := (Array.getElem?_eq_some_iff.1 hg).1
    have hheap : (sortWorldK cv 2 w g 0 m d.toArray os).heap[g]? = some (.cells (putCells id 0 (flatK cv 2 d.toArray) cur) 126 (0, 0)) := by
      unfold sortWorldK putRowK
      rw [heap_grow_old _ _ (by simpa using hgl)]
      simp [putRow, mapBlock, Sort.ahead, Array.getElem?_modify, hg, onCells]
    have hfs : (flatK cv 2 d.toArray).size = n * 2 := by simp [hd]
    refine ⟨⟨by rw [cvs_length, hd], .inr ⟨g, cap, _, rfl, hb, hheap, h1, h2, by simp [putCells, h3], ?_⟩⟩, rfl, rfl, rfl, ?_, ?_⟩
    · apply List.ext_getElem?
      intro j
      by_cases hj : j < n * 2
      · rw [List.getElem?_take_of_lt hj, Array.getElem?_toList, ← flat_cvs]
        have hjc : j < cur.size := by rw [h3]; omega
        simp [putCells, hjc, hfs, hj]
      · rw [List.getElem?_take_eq_none (by omega), List.getElem?_eq_none (by rw [cvs_length]; omega)]
    · unfold sortWorldK putRowK
      simp [putRow, mapBlock, Sort.ahead]
    · intro k hk hne
      unfold sortWorldK putRowK
      rw [heap_grow_old _ _ (by simpa using hk)]
      have : g ≠ k := fun e => hne (by rw [e])
      simp [putRow, mapBlock, Sort.ahead, Array.getElem?_modify, this]
theorem own_take {w : World} {B n g cap k : Nat} {l : List Cl} (h : w.ownsRow B 126 2 (.slice (some ⟨g, 0, none⟩) n cap) n (cvs l)) (hk : k ≤ n) : w.ownsRow B 126 2 (.slice (some ⟨g, 0, none⟩) k cap) k (cvs (l.take k)) := by
  have hl : l.length = n := by have := h.1; rw [cvs_length] at this; omega
  rcases h.2 with ⟨e, _⟩ | ⟨g', cap', cur, e, hb, hg, h1, h2, h3, h4⟩
  · cases e
  · injection e with e1 e2 e3
    injection e1 with e1
    injection e1 with e1 _
    subst e1 e3
    refine ⟨by rw [cvs_length, List.length_take]; congr 1; omega, .inr ⟨g, cap, cur, rfl, hb, hg, by omega, h2, h3, ?_⟩⟩
    have e5 : cvs l = cvs (l.take k) ++ cvs (l.drop k) := by rw [← cvs_append, List.take_append_drop]
    have e6 : (cvs (l.take k)).length = k * 2 := by rw [cvs_length, List.length_take]; congr 1; omega
    have e7 : cur.toList.take (k * 2) = (cur.toList.take (n * 2)).take (k * 2) := by rw [List.take_take]; congr 1; omega
    rw [e7, h4, e5, ← e6, List.take_left']
    rfl
theorem own_setCell_far {w : World} {B n g cap o : Nat} {xs : List Value} {v : Value} (h : w.ownsRow B 126 2 (.slice (some ⟨g, 0, none⟩) n cap) n xs) (ho : n * 2 ≤ o) : (w.setCell ⟨g, o, none⟩ v).ownsRow B 126 2 (.slice (some ⟨g, 0, none⟩) n cap) n xs := by
  rcases h.2 with ⟨e, _⟩ | ⟨g', cap', cur, e, hb, hg, h1, h2, h3, h4⟩
  · cases e
  · injection e with e1 e2 e3
    injection e1 with e1
    injection e1 with e1 _
    subst e1 e3
    refine ⟨h.1, .inr ⟨g, cap, cur.setIfInBounds o v, rfl, hb, set_row hg o v, h1, h2, by simpa using h3, ?_⟩⟩
    rw [← h4]
    apply List.ext_getElem?
    intro j
    by_cases hj : j < n * 2
    · rw [List.getElem?_take_of_lt hj, List.getElem?_take_of_lt hj, Array.getElem?_toList, Array.getElem?_toList, Array.getElem?_setIfInBounds]
      rw [if_neg (by omega)]
    · rw [List.getElem?_take_eq_none (by omega), List.getElem?_take_eq_none (by omega)]
theorem own_setCells_far {B n g cap : Nat} {xs : List Value} : ∀ (vs : List Value) (o : Nat) (w : World), w.ownsRow B 126 2 (.slice (some ⟨g, 0, none⟩) n cap) n xs → n * 2 ≤ o → (w.setCells g o vs).ownsRow B 126 2 (.slice (some ⟨g, 0, none⟩) n cap) n xs
  | [], _, _, h, _ => h
  | v :: r, o, w, h, ho => own_setCells_far r (o + 1) _ (own_setCell_far (v := v) h ho) (by omega)
theorem below_sets {B g : Nat} {a : World} (hg : B ≤ g) : ∀ (vs : List Value) (o : Nat) (w : World), Below B a w → Below B a (w.setCells g o vs)
  | [], _, _, h => h
  | v :: r, o, _w, h => below_sets hg r (o + 1) _ (h.setCell (p := ⟨g, o, none⟩) hg v)
theorem zero_cells (n : Nat) : (Builtin.zeroCells (Value.agg #[.int .i64 0, .int .i64 0]).cells n).toList = cvs (List.replicate n (0, 0)) := by
  rw [← made_cells n]
  unfold Builtin.zeroCells madeCells
  simp [Value.cells]
theorem run_clear_cells {w : World} {B n g cap kk c : Nat} {l : List Cl} (ty : TypeId) (h : w.ownsRow B 126 2 (.slice (some ⟨g, 0, none⟩) n cap) n (cvs l)) (hk : kk < n) :
    (Builtin.clear_ #[76] ty #[.slice (some ⟨g, kk * 2, none⟩) (n - kk) c]).run Tryz.prog w = .ok (.tuple #[]) (w.setCells g (kk * 2) (cvs (List.replicate (n - kk) (0, 0)))) := by
  have hlen : (cvs (List.replicate (n - kk) ((0 : Int), (0 : Int)))).length = (n - kk) * 2 := by rw [cvs_length]; simp
  have hl : l.length = n := by have := h.1; rw [cvs_length] at this; omega
  have hst := run_storeCells_cells (P := Tryz.prog) g (kk * 2) (cvs (List.replicate (n - kk) (0, 0))) 0 w
    (fun j hj => by
      rw [hlen] at hj
      rw [Nat.add_zero, h.cellAt (kk * 2 + j) (by omega)]
      have : kk * 2 + j < (cvs l).length := by rw [cvs_length, hl]; omega
      simp [this])
    (fun j hj => by rw [Nat.add_zero]; exact h.frozenAt _) (cvs_oneCell _)
  simp only [Nat.add_zero] at hst
  obtain ⟨m, hm⟩ : ∃ m, n - kk = m + 1 := ⟨n - kk - 1, by omega⟩
  rw [hm] at hst ⊢
  simp [Builtin.clear_, run_underlying Tryz.underlying76, Tryz.zeroValue126, zero_cells, hst]
end

section
open Go.RowKit

theorem dedTo_skip {m : List Cl} {k : Nat} (h : 0 < k ∧ m.getD k (0, 0) = m.getD (k - 1) (0, 0)) : dedTo m (k + 1) = dedTo m k := if_pos h
theorem dedTo_keep {m : List Cl} {k : Nat} (h : ¬ (0 < k ∧ m.getD k (0, 0) = m.getD (k - 1) (0, 0))) : dedTo m (k + 1) = dedTo m k ++ [m.getD k (0, 0)] := if_neg h
theorem dedTo_all {m : List Cl} (h : ∀ j, 0 < j → j < m.length → m.getD j (0, 0) ≠ m.getD (j - 1) (0, 0)) : ∀ k, k ≤ m.length → dedTo m k = m.take k
  | 0, _ => by simp [dedTo]
  | k + 1, hk => by
    rw [dedTo_keep (fun hh => h k hh.1 (by omega) hh.2), dedTo_all h k (by omega), take_snoc m k (by omega)]
theorem dedTo_upto {m : List Cl} {n : Nat} (hn : n ≤ m.length) (h : ∀ j, 0 < j → j < n → m.getD j (0, 0) ≠ m.getD (j - 1) (0, 0)) : ∀ k, k ≤ n → dedTo m k = m.take k
  | 0, _ => by simp [dedTo]
  | k + 1, hk => by
    rw [dedTo_keep (fun hh => h k hh.1 (by omega) hh.2), dedTo_upto hn h k (by omega), take_snoc m k (by omega)]
theorem dedTo_le (m : List Cl) : ∀ k, (dedTo m k).length ≤ k
  | 0 => by simp [dedTo]
  | k + 1 => by
    have := dedTo_le m k
    unfold dedTo
    split
    · omega
    · simp; omega
/-- The row while equal neighbours are taken out: p cells looked at, the first kk of them left. -/
structure Cpt (m L : List Cl) (p kk : Nat) : Prop where
  len : L.length = m.length
  kept : L.take kk = dedTo m p
  size : kk = (dedTo m p).length
  lt : kk < p
  rest : ∀ j, p - 1 ≤ j → L.getD j (0, 0) = m.getD j (0, 0)
theorem Cpt.skip {m L : List Cl} {p kk : Nat} (h : Cpt m L p kk) (he : 0 < p ∧ m.getD p (0, 0) = m.getD (p - 1) (0, 0)) : Cpt m L (p + 1) kk :=
  ⟨h.len, by rw [dedTo_skip he]; exact h.kept, by rw [dedTo_skip he]; exact h.size, by have := h.lt; omega, fun j hj => h.rest j (by omega)⟩
theorem Cpt.keep {m L : List Cl} {p kk : Nat} (h : Cpt m L p kk) (hp : p < m.length) (he : ¬ (0 < p ∧ m.getD p (0, 0) = m.getD (p - 1) (0, 0))) : Cpt m (L.set kk (m.getD p (0, 0))) (p + 1) (kk + 1) := by
  have hl := h.lt
  have hkl : kk < L.length := by have := h.len; omega
  refine ⟨by rw [List.length_set]; exact h.len, ?_, by rw [dedTo_keep he, List.length_append, ← h.size]; rfl, by omega, fun j hj => ?_⟩
  · have e : (L.set kk (m.getD p (0, 0))).getD kk (0, 0) = m.getD p (0, 0) := by
      rw [List.getD_eq_getElem?_getD, List.getElem?_set_self hkl]
      rfl
    rw [take_snoc _ _ (by rw [List.length_set]; exact hkl), dedTo_keep he, List.take_set_of_le (Nat.le_refl _), h.kept, e]
  · have hne : kk ≠ j := by omega
    have := h.rest j (by omega)
    rw [List.getD_eq_getElem?_getD] at this ⊢
    rw [List.getElem?_set_ne hne]
    exact this

set_option maxHeartbeats 1500000 in
set_option maxRecDepth 100000 in
theorem iCompact (B n g cap : Nat) (l : List Cl) (w : World) (hn : n ≤ 4194304) (_hB : B ≤ w.heap.size) (hown : w.ownsRow B 126 2 (.slice (some ⟨g, 0, none⟩) n cap) n (cvs l)) :
    Calls Tryz.prog 231 #[.slice (some ⟨g, 0, none⟩) n cap] w fun e w' => ∃ k, e = .returned (.slice (some ⟨g, 0, none⟩) k cap) ∧ k = (dedU l).length ∧ w'.ownsRow B 126 2 (.slice (some ⟨g, 0, none⟩) k cap) k (cvs (dedU l)) ∧ Below B w w' := by
  have hl : l.length = n := by have := hown.1; rw [cvs_length] at this; omega
  have hgB := hown.lt g rfl
  have HL := Lib.hid hl
  by_cases h2 : n < 2
  · have hd : dedU l = l := by
      unfold dedU
      rw [dedTo_all (fun j h3 h4 => by omega) l.length (Nat.le_refl _), List.take_length]
    have HO := Lib.hid hown
    have HD := Lib.hid hd
    have h2i : (n : Int) < 2 := by omega
    clear hown hl hd
    go_enter Tryz.func231, Tryz.ntmps231
    go_wp2
    go_ret
    rw [HD.out]
    exact ⟨n, rfl, HL.out.symm, HO.out, Below.refl _ _⟩
  · have h2i : ¬ (n : Int) < 2 := by omega
    have HO := Lib.hid hown
    have hcapn := own_le hown
    clear hown hl
    go_enter Tryz.func231, Tryz.ntmps231
    go_wp2
    go_loopw [3] (fun i wr => ∃ k q : Nat, 1 ≤ k ∧ k ≤ n ∧ i = .int .i64 k ∧ Hid (∀ j, 0 < j → j < k → l.getD j (0, 0) ≠ l.getD (j - 1) (0, 0)) ∧ wr = w.drewN q) (fun i _ => n - (intOf i).toNat)
    case atStart => exact ⟨1, 0, by omega, by omega, rfl, fun j h3 h4 => by omega, rfl⟩
    case round =>
      obtain ⟨k, q, hk1, hk, rfl, hall, rfl⟩ := hrel
      by_cases hlt : k < n
      · obtain ⟨x, y, hxy⟩ : ∃ x y, l.getD k (0, 0) = (x, y) := ⟨_, _, rfl⟩
        obtain ⟨u, v, huv⟩ : ∃ u v, l.getD (k - 1) (0, 0) = (u, v) := ⟨_, _, rfl⟩
        have hcx := cvs_get l k (by rw [HL.out]; exact hlt)
        have hcu := cvs_get l (k - 1) (by rw [HL.out]; omega)
        rw [hxy] at hcx
        rw [huv] at hcu
        have p1 := HO.out.cellAt (k * 2) (by omega)
        have p2 := HO.out.cellAt (k * 2 + 1) (by omega)
        have q1 := HO.out.cellAt ((k - 1) * 2) (by omega)
        have q2 := HO.out.cellAt ((k - 1) * 2 + 1) (by omega)
        rw [hcx.1] at p1
        rw [hcx.2] at p2
        rw [hcu.1] at q1
        rw [hcu.2] at q2
        have HX := Lib.hid hxy
        have HU := Lib.hid huv
        have hk0 : (0 : Int) ≤ (k : Int) := by omega
        have hk1i : (k : Int) < (n : Int) := by omega
        have hj0 : (1 : Int) ≤ (k : Int) := by omega
        have hj2 : (k : Int) - 1 < (n : Int) := by omega
        have hj3 : (0 : Int) ≤ (k : Int) - 1 := by omega
        have hj4 : ((k : Int) - 1).toNat = k - 1 := by omega
        have hjw : IntKind.i64.wrap ((k : Int) - 1) = (k : Int) - 1 := IntWalk.i64_in _ (by omega)
        have hkc : (k : Int) ≤ (cap : Int) := by omega
        have hck : ¬ cap = k := by omega
        have hE := eql_cell x y u v
        have hG := cell_guard
        clear hxy huv hcx hcu
        cases hcs : sameC (x, y) (u, v) with
        | true =>
          rw [hcs] at hE
          go_wp2_with fail
          go_quiet (fail)
          go_wp2
          have hdup : l.getD k (0, 0) = l.getD (k - 1) (0, 0) := by rw [HX.out, HU.out]; simpa [sameC] using hcs
          have hstart : Cpt l l (k + 1) k := by
            have e1 : dedTo l (k + 1) = l.take k := by
              rw [dedTo_skip ⟨by omega, hdup⟩]
              exact dedTo_upto (by rw [HL.out]; omega) hall.out k (Nat.le_refl _)
            exact ⟨rfl, e1.symm, by rw [e1, List.length_take, HL.out]; omega, by omega, fun j _ => rfl⟩
          have HST := Lib.hid hstart
          clear hE hG hcs hdup hstart p1 p2 q1 q2 hall hj0 hj2 hj3 hj4 hjw
          go_loopw [3, 5] (fun s3 s5 wr => ∃ (kk k2 : Nat) (L : List Cl), s3 = .int .i64 kk ∧ s5 = .int .i64 k2 ∧ 1 ≤ k2 ∧ k + k2 ≤ n ∧ Hid (Cpt l L (k + k2) kk) ∧ Hid (wr.ownsRow B 126 2 (.slice (some ⟨g, 0, none⟩) n cap) n (cvs L)) ∧ Below B w wr) (fun _ s5 _ => n - (k + (intOf s5).toNat))
          case atStart => exact ⟨k, 1, l, rfl, rfl, by omega, by omega, HST.out, HO.out, below_drewn (Below.refl _ _) _⟩
          case round =>
            obtain ⟨kk, k2, L, rfl, rfl, h1, hle, hcp, hown, hb⟩ := hrel
            have hkk := hcp.out.lt
            have hLl : L.length = n := by rw [hcp.out.len]; exact HL.out
            by_cases hlt2 : k + k2 < n
            · obtain ⟨x2, y2, hxy⟩ : ∃ x y, L.getD (k + k2) (0, 0) = (x, y) := ⟨_, _, rfl⟩
              obtain ⟨u2, v2, huv⟩ : ∃ u v, L.getD (k + (k2 - 1)) (0, 0) = (u, v) := ⟨_, _, rfl⟩
              have hcx := cvs_get L (k + k2) (by omega)
              have hcu := cvs_get L (k + (k2 - 1)) (by omega)
              rw [hxy] at hcx
              rw [huv] at hcu
              have p1 := hown.out.cellAt ((k + k2) * 2) (by omega)
              have p2 := hown.out.cellAt ((k + k2) * 2 + 1) (by omega)
              have q1 := hown.out.cellAt ((k + (k2 - 1)) * 2) (by omega)
              have q2 := hown.out.cellAt ((k + (k2 - 1)) * 2 + 1) (by omega)
              rw [hcx.1, Nat.add_mul] at p1
              rw [hcx.2, Nat.add_mul] at p2
              rw [hcu.1, Nat.add_mul] at q1
              rw [hcu.2, Nat.add_mul] at q2
              have r1 : l.getD (k + k2) (0, 0) = (x2, y2) := by rw [← hcp.out.rest (k + k2) (by omega)]; exact hxy
              have r2 : l.getD (k + k2 - 1) (0, 0) = (u2, v2) := by rw [← hcp.out.rest (k + k2 - 1) (by omega), show k + k2 - 1 = k + (k2 - 1) by omega]; exact huv
              have HR := Lib.hid (show _ ∧ _ from ⟨r1, r2⟩)
              have hj0 : (1 : Int) ≤ (k2 : Int) := by omega
              have hj1 : (k2 : Int) < ((n - k : Nat) : Int) := by omega
              have hj2 : (k2 : Int) - 1 < ((n - k : Nat) : Int) := by omega
              have hj3 : (0 : Int) ≤ (k2 : Int) - 1 := by omega
              have hj4 : ((k2 : Int) - 1).toNat = k2 - 1 := by omega
              have hj5 : (0 : Int) ≤ (k2 : Int) := by omega
              have hjw : IntKind.i64.wrap ((k2 : Int) - 1) = (k2 : Int) - 1 := IntWalk.i64_in _ (by omega)
              have hk20 : (0 : Int) ≤ (kk : Int) := by omega
              have hk2n : (kk : Int) < (n : Int) := by omega
              have hck := cvs_get L kk (by omega)
              have o1 := hown.out.cellAt (kk * 2) (by omega)
              have o2 := hown.out.cellAt (kk * 2 + 1) (by omega)
              rw [hck.1] at o1
              rw [hck.2] at o2
              have f1 := hown.out.frozenAt (kk * 2)
              have f2 := hown.out.frozenAt (kk * 2 + 1)
              have hN := neq_cell x2 y2 u2 v2
              have hG := cell_guard
              generalize (L.getD kk (0, 0)).1 = w1 at o1
              generalize (L.getD kk (0, 0)).2 = w2 at o2
              clear hxy huv hcx hcu hck r1 r2
              cases hcs2 : sameC (x2, y2) (u2, v2) with
              | false =>
                rw [hcs2] at hN
                go_wp2_with fail
                go_quiet (fail)
                go_wp2
                have hne : ¬ (0 < k + k2 ∧ l.getD (k + k2) (0, 0) = l.getD (k + k2 - 1) (0, 0)) := by
                  rw [HR.out.1, HR.out.2]
                  rintro ⟨_, h9⟩
                  rw [h9] at hcs2
                  simp [sameC] at hcs2
                have hkeep := hcp.out.keep (by rw [HL.out]; exact hlt2) hne
                rw [HR.out.1] at hkeep
                have hown9 : (wr.drewN nq).ownsRow B 126 2 (.slice (some ⟨g, 0, none⟩) n cap) n (cvs L) := hown.out
                have hs1 := hown9.stored (kk * 2) (.int .i64 x2)
                have hs2 := hs1.1.stored (kk * 2 + 1) (.int .i64 y2)
                have hO := hs2.1
                rw [cvs_set L kk (x2, y2) (by omega)] at hO
                have HK := Lib.hid hkeep
                have HOO := Lib.hid hO
                have HBB := Lib.hid (((below_drewn hb nq).setCell (p := ⟨g, kk * 2, none⟩) hgB.1 (.int .i64 x2)).setCell (p := ⟨g, kk * 2 + 1, none⟩) hgB.1 (.int .i64 y2))
                clear hN hG hcs2 hne hkeep hs1 hs2 hO p1 p2 q1 q2 o1 o2 f1 f2
                go_roundw
                case rel => first | exact ⟨kk + 1, k2 + 1, _, by go_num, by go_num, by omega, by omega, HK.out, HOO.out, HBB.out⟩ | ((repeat apply Exists.intro); exact ⟨⟨kk + 1, k2 + 1, _, by go_num, by go_num, by omega, by omega, HK.out, HOO.out, HBB.out⟩, rfl⟩)
                case measure => simp [intOf]; omega
              | true =>
                rw [hcs2] at hN
                go_wp2_with fail
                go_quiet (fail)
                go_wp2
                have he : 0 < k + k2 ∧ l.getD (k + k2) (0, 0) = l.getD (k + k2 - 1) (0, 0) := by
                  rw [HR.out.1, HR.out.2]
                  refine ⟨by omega, ?_⟩
                  simpa [sameC] using hcs2
                have HK := Lib.hid (hcp.out.skip he)
                clear hN hG hcs2 he p1 p2 q1 q2 o1 o2 f1 f2
                go_roundw
                case rel => first | exact ⟨kk, k2 + 1, L, rfl, by go_num, by omega, by omega, HK.out, hown.out, below_drewn hb _⟩ | exact ⟨_, _, _, _, _, _, _, _, _, _, _, _, _, _, _, _, _, _, _, _, _, _, _, _, _, ⟨kk, k2 + 1, L, rfl, by go_num, by omega, by omega, HK.out, hown.out, below_drewn hb _⟩, rfl⟩ | ((repeat apply Exists.intro); exact ⟨⟨kk, k2 + 1, L, rfl, by go_num, by omega, by omega, HK.out, hown.out, below_drewn hb _⟩, rfl⟩)
                case measure => simp [intOf]; omega
            · have hend : k + k2 = n := by omega
              have hcl : ∀ ty, (Builtin.clear_ #[76] ty #[.slice (some ⟨g, kk * 2, none⟩) (n - kk) (cap - kk)]).run Tryz.prog wr = .ok (.tuple #[]) (wr.setCells g (kk * 2) (cvs (List.replicate (n - kk) (0, 0)))) := fun ty => run_clear_cells ty hown.out (by omega)
              have hck : ¬ cap = kk := by omega
              have hkn : (kk : Int) ≤ (n : Int) := by omega
              have hkc2 : (kk : Int) ≤ (cap : Int) := by omega
              have hkk0 : (0 : Int) ≤ (kk : Int) := by omega
              have hd : dedU l = L.take kk := by
                rw [hcp.out.kept, hend, ← HL.out]
                rfl
              have hks : kk = (dedU l).length := by
                rw [hd, List.length_take]
                omega
              have hO := own_setCells_far (cvs (List.replicate (n - kk) (0, 0))) (kk * 2) wr (own_take hown.out (k := kk) (by omega)) (Nat.le_refl _)
              rw [← hd] at hO
              have HOO := Lib.hid hO
              have HKS := Lib.hid hks
              have HBB := Lib.hid (below_sets hgB.1 (cvs (List.replicate (n - kk) (0, 0))) (kk * 2) wr hb)
              clear hO hks hd hend
              go_wp2
              go_ret
              exact ⟨kk, rfl, HKS.out, HOO.out, HBB.out⟩
        | false =>
          rw [hcs] at hE
          go_wp2_with fail
          go_quiet (fail)
          go_wp2
          have hnd : l.getD k (0, 0) ≠ l.getD (k - 1) (0, 0) := by
            rw [HX.out, HU.out]
            unfold sameC at hcs
            rw [decide_eq_false_iff_not] at hcs
            exact hcs
          go_roundw
          case rel =>
            refine ⟨k + 1, q + nq, by omega, by omega, by go_num, fun j h3 h4 => ?_, rfl⟩
            by_cases e : j = k
            · rw [e]; exact hnd
            · exact hall.out j h3 (by omega)
          case measure => simp [intOf]; omega
      · obtain rfl : k = n := by omega
        have hd : dedU l = l := by
          unfold dedU
          rw [dedTo_all (fun j h3 h4 => hall.out j h3 (by rw [← HL.out]; exact h4)) l.length (Nat.le_refl _), List.take_length]
        have HD := Lib.hid hd
        clear hd
        go_wp2
        go_ret
        rw [HD.out]
        exact ⟨k, rfl, HL.out.symm, HO.out, below_drewn (Below.refl _ _) _⟩
end

section
open Go.RowKit Go.Sort

theorem ltOf_cmpC : ltOf cmpC = bef := by
  funext x y
  unfold ltOf
  exact cmpC_neg x y
theorem bef_swo : SWO (ltOf cmpC) := by
  rw [ltOf_cmpC]
  exact ⟨bef_irr, fun x y z h k => bef_trans h k, fun x y z h k => by rw [bef_not] at *; omega⟩
theorem isAgg_cell : ∀ w, (isAgg 126).run Tryz.prog w = .ok true w := Tryz.isAgg126
theorem sizeOf_cell : ∀ w, (Go.sizeOf 126).run Tryz.prog w = .ok 2 w := Tryz.sizeOf126

theorem iSortFunc (B n g cap : Nat) (l : List Cl) (w : World) (hn : n ≤ 4194304) (hown : w.ownsRow B 126 2 (.slice (some ⟨g, 0, none⟩) n cap) n (cvs l)) :
    Calls Tryz.prog 230 #[.slice (some ⟨g, 0, none⟩) n cap, .func (.func 162) #[] #[]] w fun e w' => e = .returned (.tuple #[]) ∧ w'.ownsRow B 126 2 (.slice (some ⟨g, 0, none⟩) n cap) n (cvs (l.mergeSort fun x y => !bef y x)) ∧ w.grownBy w' (some g) := by
  have hl : l.length = n := by have := hown.1; rw [cvs_length] at this; omega
  have eg : ∀ args w, (callFunc 162 args).run Tryz.prog w = .ok (.enter 162 args) w := enters_of Tryz.func162 (by kernel_rfl) rfl
  have hcmp : CmpLays Tryz.prog 162 #[] cv 2 cmpC g 0 l.toArray.size w := fun _ _ _ _ x y => (iCompare x.1 x.2 y.1 y.2 _).mono fun _ _ ⟨he, hw, _⟩ => ⟨he, hw⟩
  have h := AnyQ.slices_SortFunc_total Tryz.sortCells 2 isAgg_cell sizeOf_cell cv (fun _ => rfl) (fun x v hv => by simp [cv] at hv; rcases hv with rfl | rfl <;> rfl) cmpC bef_swo 162 #[] g 0 cap l.toArray w eg hcmp (holdsK_own hown) (hown.lt g rfl).2 (by simp; omega) (fun x y h1 h2 => by rw [ltOf_cmpC] at h1 h2; exact bef_total h1 h2)
  rw [ltOf_cmpC] at h
  rw [show l.toArray.size = n by simpa using hl] at h
  refine h.mono ?_
  rintro e w' ⟨rfl, m, os, rfl⟩
  have hd : (l.mergeSort fun x y => !bef y x).length = n := by rw [List.length_mergeSort, hl]
  have hs := own_sorted (m := m) (os := os) hown hd
  exact ⟨rfl, by simpa using hs.1, by simpa using hs.2⟩
theorem merge_sortU (l : List Cl) : dedU (l.mergeSort fun x y => !bef y x) = sortU l := by
  refine dedU_sortU ?_ (fun x => List.mem_mergeSort)
  have h := List.pairwise_mergeSort (le := fun x y => !bef y x)
    (fun a b c h1 h2 => by
      simp only [Bool.not_eq_true'] at *
      rw [bef_not] at *
      omega)
    (fun a b => by
      simp only [Bool.or_eq_true, Bool.not_eq_true']
      cases h : bef b a with
      | false => exact .inl rfl
      | true => exact .inr (bef_asym h)) l
  exact h.imp fun h => by simpa using h

set_option maxHeartbeats 1000000 in
set_option maxRecDepth 100000 in
theorem iSort (_B n cap b off : Nat) (l : List Cl) (w : World) (hn : n ≤ 1048576) (_hb : b < w.heap.size) (hl : l.length = n)
    (hc : ∀ k, k < n → w.cell? ⟨b, off + k * 2, none⟩ = some (.int .i64 (l.getD k (0, 0)).1) ∧ w.cell? ⟨b, off + k * 2 + 1, none⟩ = some (.int .i64 (l.getD k (0, 0)).2)) :
    Calls Tryz.prog 224 #[.slice (some ⟨b, off, none⟩) n cap] w fun e w' => ∃ v, e = .returned v ∧ Own w (sortU l) v w' := by
  obtain ⟨i0, hi, hz0, hz1, hz2⟩ := info_parts info_cell
  have hclone := AnyE.slices_Clone Tryz.cloneCells i0 (.agg #[.int .i64 0, .int .i64 0]) 2 16 hi hz0 hz1 hz2 rfl (by omega) sizeOf_cell b off n cap (cvs l) w (by rw [cvs_length, hl]) (by unfold maxLen; omega) (by omega)
    (fun j u hj => by
      have hjl : j < n * 2 := by
        have := (List.getElem?_eq_some_iff.1 hj).1
        rw [cvs_length, hl] at this
        exact this
      have hcc := hc (j / 2) (by omega)
      have hg := cvs_get l (j / 2) (by omega)
      rcases Nat.mod_two_eq_zero_or_one j with h2 | h2
      · have e4 : j / 2 * 2 = j := by omega
        rw [e4] at hg hcc
        rw [hcc.1, ← hg.1, hj]
      · have e4 : j / 2 * 2 + 1 = j := by omega
        have e5 : off + j / 2 * 2 + 1 = off + j := by omega
        rw [e4] at hg
        rw [e5] at hcc
        rw [hcc.2, ← hg.2, hj])
    (cvs_oneCell _)
  change Calls Tryz.prog 229 _ _ _ at hclone
  have HM := Lib.hid (merge_sortU l)
  clear hc
  go_enter Tryz.func224, Tryz.ntmps224
  go_wp2_with fail
  refine hclone.mono ?_
  rintro e w1 ⟨v, rfl, hown, hnn, hb1⟩
  obtain ⟨g, cc, rfl⟩ : ∃ g cc, v = .slice (some ⟨g, 0, none⟩) n cc := by
    rcases hown.2 with ⟨rfl, _⟩ | ⟨g, cc, cur, rfl, _⟩
    · exact absurd rfl hnn
    · exact ⟨g, cc, rfl⟩
  have hgl := hown.lt g rfl
  have hown1 : w1.ownsRow w.heap.size 126 2 (.slice (some ⟨g, 0, none⟩) n cc) n (cvs l) := hown
  clear hclone hnn hown
  go_wp2_with fail
  refine (iSortFunc w.heap.size n g cc l w1 (by omega) hown1).mono ?_
  rintro e w2 ⟨rfl, hown2, hg2⟩
  have hb2 := hb1.grown hg2 hb1.size (fun k hk => by cases hk; exact hgl.1)
  clear hown1 hg2
  go_wp2_with fail
  refine (iCompact w.heap.size n g cc _ w2 (by omega) hb2.size hown2).mono ?_
  rintro e w3 ⟨k, rfl, hk, hown3, hb3⟩
  rw [HM.out] at hk hown3
  have HO := Lib.hid (show Own w (sortU l) (.slice (some ⟨g, 0, none⟩) k cc) w3 from ⟨by rw [← hk]; exact hown3, hb2.trans hb3⟩)
  clear hown3 hk
  go_wp2
  go_ret
  exact ⟨_, rfl, HO.out⟩
end

section
open Go.RowKit

theorem cornS_no {l : List Cl} (h : isShape l = false) : cornS l = [] := if_neg (by rw [h]; simp)
end

section
open Go.RowKit

def twoBox (w : World) (x y : Int) : World := (w.alloc (.cells #[.int .i64 x, .int .i64 y] 126)).alloc (.cells #[.int .i64 0, .int .i64 0] 126)

set_option maxHeartbeats 1000000 in
set_option maxRecDepth 100000 in
theorem iCarry (x y : Int) (m : Nat) (w : World) (hm : m ≤ 7) (hx : inR 1000 (x, y)) :
    Calls Tryz.prog 188 #[.int .i64 m, .agg #[.int .i64 x, .int .i64 y]] w fun e w' => e = .returned (.agg #[.int .i64 (apM m (x, y)).1, .int .i64 (apM m (x, y)).2]) ∧ (∃ q os', w' = Go.Sort.grow (w.drewN q) os') ∧ Below w.heap.size w w' := by
  have HF := Lib.hid (flipC_in m hx)
  have hx' := hx
  unfold inR at hx'
  dsimp only at hx'
  obtain ⟨X0, Y0, hfl⟩ : ∃ X0 Y0, flipC m (x, y) = (X0, Y0) := ⟨_, _, rfl⟩
  have HM : Hid (apM m (x, y) = rotN (m % 4) (X0, Y0)) := by unfold apM; rw [hfl]; exact rfl
  rw [hfl] at HF
  rw [HM.out]
  have hfl2 := hfl
  unfold flipC at hfl2
  clear hfl
  by_cases h4 : 4 ≤ m
  focus
    have d4 : decide (4 ≤ (m : Int)) = true := decide_eq_true (by omega)
    rw [if_pos h4] at hfl2
    injection hfl2 with e1 e2
    subst e1 e2
    go_enter Tryz.func188, Tryz.ntmps188
    go_wp2_with fail
    refine (iReflects (m : Int) _).mono ?_
    rintro e w' ⟨rfl, rfl⟩
    rw [d4]
    go_wp2_with fail
    refine (iTurns m _ hm).mono ?_
    rintro e w' ⟨rfl, rfl⟩
    go_wp2
    go_loopw [13] (fun i wr => ∃ (k : Nat) (X Y : Int), k ≤ m % 4 ∧ i = .int .i64 k ∧ (X, Y) = rotN k (-x, y) ∧ wr = twoBox w X Y) (fun i _ => 4 - (intOf i).toNat)
  rotate_left 2
  focus
    have d4 : decide (4 ≤ (m : Int)) = false := decide_eq_false (by omega)
    rw [if_neg h4] at hfl2
    injection hfl2 with e1 e2
    subst e1 e2
    go_enter Tryz.func188, Tryz.ntmps188
    go_wp2_with fail
    refine (iReflects (m : Int) _).mono ?_
    rintro e w' ⟨rfl, rfl⟩
    rw [d4]
    go_wp2_with fail
    refine (iTurns m _ hm).mono ?_
    rintro e w' ⟨rfl, rfl⟩
    go_wp2
    go_loopw [13] (fun i wr => ∃ (k : Nat) (X Y : Int), k ≤ m % 4 ∧ i = .int .i64 k ∧ (X, Y) = rotN k (x, y) ∧ wr = twoBox w X Y) (fun i _ => 4 - (intOf i).toNat)
  case atStart => exact ⟨0, x, y, by omega, rfl, rfl, rfl⟩
  case atStart => exact ⟨0, -x, y, by omega, rfl, rfl, rfl⟩
  all_goals
    obtain ⟨k, X, Y, hk, rfl, hXY, rfl⟩ := hrel
    unfold twoBox
    have hb := rotN_in k HF.out
    rw [← hXY] at hb
    unfold inR at hb
    dsimp only at hb
    by_cases hlt : k < m % 4
  all_goals first | (
    have hi : (k : Int) < ((m % 4 : Nat) : Int) := by omega
    have hnext := congrArg rotC hXY
    simp only [rotC] at hnext
    go_wp2
    go_roundw
    case rel => exact ⟨k + 1, -Y, X, by omega, by go_num, hnext, rfl⟩
    case measure => simp [intOf]; omega) | (
    obtain rfl : k = m % 4 := by omega
    go_wp2
    (try simp only [Exit.inBlock, Exit.then])
    refine bodyPost_ret (v := .agg #[.int .i64 X, .int .i64 Y]) (by simp [results, Tryz.results188, go_sem]) rfl ?_
    exact ⟨by rw [← hXY], ⟨0, _, by rw [Go.Sort.alloc_eq_grow, Go.Sort.alloc_eq_grow, Go.Sort.grow_grow]; rfl⟩, ((Below.refl _ _).alloc (Nat.le_refl _) _).alloc (by simp) _⟩)

theorem iSortO (base g n cap : Nat) (l : List Cl) (w : World) (hn : n ≤ 1048576) (hi : ∀ c ∈ l, InC c) (hown : w.ownsRow base 126 2 (.slice (some ⟨g, 0, none⟩) n cap) n (cvs l)) :
    Calls Tryz.prog 224 #[.slice (some ⟨g, 0, none⟩) n cap] w fun e w' => ∃ v, e = .returned v ∧ Own w (sortU l) v w' := by
  have C := CellsAt.of_own hown hi
  refine iSort n n cap g 0 l w hn (hown.lt g rfl).2 C.1 fun k hk => ?_
  obtain ⟨b, off, e, _, hcell⟩ := C.2.2 (by omega)
  injection e with e1
  injection e1 with e2 e3 _
  subst e2 e3
  exact hcell k hk
end

end Go.Proofs.YtkcclhnligajeaaGreatDoor
