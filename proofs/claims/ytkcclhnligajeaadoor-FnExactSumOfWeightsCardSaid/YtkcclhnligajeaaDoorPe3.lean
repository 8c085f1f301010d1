/-
  Cells read back from rows of marks; rows put in order: plain facts.
-/
import Derived.Test.YtkcclhnligajeaaDoorVae
import Derived.Test.YtkcclhnligajeaaDoorPu6
namespace Go.Proofs.YtkcclhnligajeaaDoor

/-- The cells of a row, up to place x. -/
def cellsRow (r y : Nat) : Nat → List Cl
  | 0 => []
  | x + 1 => cellsRow r y x ++ (if r.testBit x = true then [((x : Int), (y : Int))] else [])
/-- The cells of the first rows. -/
def cellsTo (R : Nat → Nat) : Nat → List Cl
  | 0 => []
  | y + 1 => cellsTo R y ++ cellsRow (R y) y 8
theorem cellsRow_yes {r y x : Nat} (h : r.testBit x = true) : cellsRow r y (x + 1) = cellsRow r y x ++ [((x : Int), (y : Int))] := by simp [cellsRow, h]
theorem cellsRow_no {r y x : Nat} (h : r.testBit x = false) : cellsRow r y (x + 1) = cellsRow r y x := by simp [cellsRow, h]
theorem mem_cellsRow (r y : Nat) (c : Cl) : ∀ n, c ∈ cellsRow r y n ↔ ∃ x, x < n ∧ r.testBit x = true ∧ c = ((x : Int), (y : Int))
  | 0 => by simp [cellsRow]
  | n + 1 => by
    cases h : r.testBit n with
    | true =>
      rw [cellsRow_yes h, List.mem_append, mem_cellsRow r y c n, List.mem_singleton]
      constructor
      · rintro (⟨x, hx, h2, h3⟩ | h2)
        · exact ⟨x, by omega, h2, h3⟩
        · exact ⟨n, by omega, h, h2⟩
      · rintro ⟨x, hx, h2, h3⟩
        by_cases e : x = n
        · subst e; exact .inr h3
        · exact .inl ⟨x, by omega, h2, h3⟩
    | false =>
      rw [cellsRow_no h, mem_cellsRow r y c n]
      constructor
      · rintro ⟨x, hx, h2, h3⟩
        exact ⟨x, by omega, h2, h3⟩
      · rintro ⟨x, hx, h2, h3⟩
        by_cases e : x = n
        · subst e; rw [h] at h2; cases h2
        · exact ⟨x, by omega, h2, h3⟩
theorem mem_cellsTo (R : Nat → Nat) (c : Cl) : ∀ n, c ∈ cellsTo R n ↔ ∃ y, y < n ∧ ∃ x, x < 8 ∧ (R y).testBit x = true ∧ c = ((x : Int), (y : Int))
  | 0 => by simp [cellsTo]
  | n + 1 => by
    simp only [cellsTo]
    rw [List.mem_append, mem_cellsTo R c n, mem_cellsRow]
    constructor
    · rintro (⟨y, hy, h⟩ | h)
      · exact ⟨y, by omega, h⟩
      · exact ⟨n, by omega, h⟩
    · rintro ⟨y, hy, h⟩
      by_cases e : y = n
      · subst e; exact .inr h
      · exact .inl ⟨y, by omega, h⟩
theorem srt_cellsRow (r y : Nat) : ∀ n, Srt (cellsRow r y n)
  | 0 => List.Pairwise.nil
  | n + 1 => by
    cases h : r.testBit n with
    | true =>
      rw [cellsRow_yes h]
      unfold Srt
      rw [List.pairwise_append]
      refine ⟨srt_cellsRow r y n, by simp, fun a ha b hb => ?_⟩
      rw [List.mem_singleton] at hb
      subst hb
      obtain ⟨x, hx, _, rfl⟩ := (mem_cellsRow r y a n).1 ha
      rw [bef_iff]
      dsimp only
      omega
    | false =>
      rw [cellsRow_no h]
      exact srt_cellsRow r y n
theorem srt_cellsTo (R : Nat → Nat) : ∀ n, Srt (cellsTo R n)
  | 0 => List.Pairwise.nil
  | n + 1 => by
    simp only [cellsTo]
    unfold Srt
    rw [List.pairwise_append]
    refine ⟨srt_cellsTo R n, srt_cellsRow _ _ _, fun a ha b hb => ?_⟩
    obtain ⟨y, hy, x, _, _, rfl⟩ := (mem_cellsTo R a n).1 ha
    obtain ⟨x2, _, _, rfl⟩ := (mem_cellsRow _ _ b 8).1 hb
    rw [bef_iff]
    dsimp only
    omega
theorem cellsRow_le (r y : Nat) : ∀ n, (cellsRow r y n).length ≤ n
  | 0 => by simp [cellsRow]
  | n + 1 => by
    have := cellsRow_le r y n
    cases h : r.testBit n with
    | true => rw [cellsRow_yes h]; simp; omega
    | false => rw [cellsRow_no h]; omega
theorem cellsTo_le (R : Nat → Nat) : ∀ n, (cellsTo R n).length ≤ 8 * n
  | 0 => by simp [cellsTo]
  | n + 1 => by
    have := cellsTo_le R n
    have := cellsRow_le (R n) n 8
    simp only [cellsTo, List.length_append]
    omega
theorem cellsRow_in (r y n : Nat) (hy : y < 8) (hn : n ≤ 8) : ∀ c ∈ cellsRow r y n, inP c = true := fun c hc => by
  obtain ⟨x, hx, _, rfl⟩ := (mem_cellsRow r y c n).1 hc
  exact inP_mk (by dsimp only; omega) (by dsimp only; omega)
theorem cellsTo_in (R : Nat → Nat) (n : Nat) (hn : n ≤ 8) : ∀ c ∈ cellsTo R n, inP c = true := fun c hc => by
  obtain ⟨y, hy, x, hx, _, rfl⟩ := (mem_cellsTo R c n).1 hc
  exact inP_mk (by dsimp only; omega) (by dsimp only; omega)
/-- A shape is read back from its marks. -/
theorem cells_marks {l : List Cl} (h : isShape l = true) : cellsTo (allR l) 8 = l := by
  obtain ⟨_, hin, hs⟩ := (isShape_iff l).1 h
  refine srt_unique (srt_cellsTo _ 8) hs fun c => ?_
  rw [mem_cellsTo]
  constructor
  · rintro ⟨y, _, x, _, hb, rfl⟩
    exact (allR_bit hin x y).1 hb
  · intro hc
    have hp := inP_out (hin c hc)
    obtain ⟨a, b⟩ := c
    dsimp only at hp
    refine ⟨b.toNat, by omega, a.toNat, by omega, (allR_bit hin _ _).2 ?_, ?_⟩
    · have e1 : ((a.toNat : Nat) : Int) = a := by omega
      have e2 : ((b.toNat : Nat) : Int) = b := by omega
      rw [e1, e2]
      exact hc
    · have e1 : ((a.toNat : Nat) : Int) = a := by omega
      have e2 : ((b.toNat : Nat) : Int) = b := by omega
      rw [e1, e2]
theorem marks_inj {l r : List Cl} (h : isShape l = true) (k : isShape r = true) (e : ∀ y, y < 8 → allR l y = allR r y) : l = r := by
  have h1 := cells_marks h
  have h2 := cells_marks k
  have key : ∀ n, n ≤ 8 → cellsTo (allR l) n = cellsTo (allR r) n := by
    intro n
    induction n with
    | zero => intro _; rfl
    | succ n ih => intro hn; simp only [cellsTo]; rw [ih (by omega), e n (by omega)]
  rw [← h1, ← h2]
  exact key 8 (by omega)
theorem allR_lt {l : List Cl} (h : ∀ c ∈ l, inP c = true) (y : Nat) : allR l y < 256 := rowTo_lt l h y l.length (Nat.le_refl _)

/-! ### A list in order, all different -/
theorem srt_of_sorted {α β : Type} {lt : β → β → Bool} (O : OrdG lt) (key : α → β) {fs : List α} (h : fs.Pairwise fun a b => lt (key b) (key a) = false) (hn : (fs.map key).Nodup) : SrtG lt (fs.map key) := by
  unfold SrtG
  rw [List.pairwise_map]
  have h2 : fs.Pairwise fun a b => key a ≠ key b := List.pairwise_map.1 hn
  refine (h.and h2).imp fun {a b} hab => ?_
  cases hl : lt (key a) (key b) with
  | true => rfl
  | false => exact absurd (O.total hl hab.1) hab.2

/-! ### One cell more, as the program does it -/
theorem moreC_prog (l : List Cl) (x : Cl) : moreC l x = sortU (cornerC (l ++ [x])) := cornerC_sortU (by simp)
theorem nb0 (x y : Int) : nbC (x, y) 0 = (x + 1, y) := by simp [nbC]
theorem nb1 (x y : Int) : nbC (x, y) 1 = (x, y + 1) := by simp [nbC]
theorem nb2 (x y : Int) : nbC (x, y) 2 = (x - 1, y) := by
  unfold nbC
  have e1 : ((1 : Int) - ((2 : Nat) : Int)).tmod 2 = -1 := by decide
  have e2 : ((2 : Int) - ((2 : Nat) : Int)).tmod 2 = 0 := by decide
  rw [e1, e2, Int.add_zero]
  rfl
theorem nb3 (x y : Int) : nbC (x, y) 3 = (x, y - 1) := by
  unfold nbC
  have e1 : ((1 : Int) - ((3 : Nat) : Int)).tmod 2 = 0 := by decide
  have e2 : ((2 : Int) - ((3 : Nat) : Int)).tmod 2 = -1 := by decide
  rw [e1, e2, Int.add_zero]
  rfl
/-- The four cells beside one, in turn. -/
def nbsC (c : Cl) : List Cl := [nbC c 0, nbC c 1, nbC c 2, nbC c 3]
theorem extS_of {l : List Cl} (h : isShape l = true) (h8 : l.length ≠ 8) : extS l = sortG ltS [] (extTo l l.length) := if_pos (by simp [h, h8])
theorem extS_not {l : List Cl} (h : isShape l = false) : extS l = [] := if_neg (by simp [h])
theorem extS_full {l : List Cl} (h : l.length = 8) : extS l = [] := if_neg (by simp [h])
theorem extTo_shape {l x : List Cl} {n : Nat} (h : x ∈ extTo l n) : isShape x = true := by
  obtain ⟨i, _, d, _, hx⟩ := (mem_extTo l x n).1 h
  obtain ⟨_, h2, rfl⟩ := (mem_extAt l i d x).1 hx
  exact h2
theorem extRow_shape {l x : List Cl} {i n : Nat} (h : x ∈ extRow l i n) : isShape x = true := by
  obtain ⟨d, _, hx⟩ := (mem_extRow l i x n).1 h
  obtain ⟨_, h2, rfl⟩ := (mem_extAt l i d x).1 hx
  exact h2
/-- All that the shapes before the k-th become. -/
def extAll (L : List (List Cl)) (k : Nat) : List (List Cl) := (L.take k).flatMap fun x => extTo x x.length
theorem extAll_succ (L : List (List Cl)) (k : Nat) (h : k < L.length) : extAll L (k + 1) = extAll L k ++ extTo (L.getD k []) (L.getD k []).length := by
  unfold extAll
  rw [List.take_succ_eq_append_getElem h, List.flatMap_append]
  simp [List.getD, h]
theorem fixT_next (k : Nat) (hk : k < 7) : fixT (k + 1) = sortG ltS [] (extAll (fixT k) (fixT k).length) := by
  refine sortG_unique ordS [] (fixT_srt (k + 1)) fun x => ?_
  simp only [fixT, sortG_mem ordS, extAll, List.take_length, List.mem_flatMap]
  constructor
  · rintro ⟨y, hy, hx⟩
    have h := fixT_shape k hy
    rw [extS_of h.1 (by omega), sortG_mem ordS] at hx
    exact ⟨y, hy, hx⟩
  · rintro ⟨y, hy, hx⟩
    have h := fixT_shape k hy
    refine ⟨y, hy, ?_⟩
    rw [extS_of h.1 (by omega), sortG_mem ordS]
    exact hx
theorem extAll_le (L : List (List Cl)) (h : ∀ x ∈ L, x.length ≤ 8) : ∀ k, k ≤ L.length → (extAll L k).length ≤ 32 * k
  | 0, _ => by simp [extAll]
  | k + 1, hk => by
    rw [extAll_succ L k (by omega), List.length_append]
    have := extAll_le L h k (by omega)
    have h1 := h (L.getD k []) (by simp [List.getD, show k < L.length by omega])
    have := extTo_le (L.getD k []) (L.getD k []).length
    omega
/-! ### One cell less, as the program does it -/
def parAt (l : List Cl) (i : Nat) (b : Bool) : List (List Cl) := if b = true then [cornerC (delC l i)] else []
noncomputable def parTo (l : List Cl) : Nat → List (List Cl)
  | 0 => []
  | i + 1 => parTo l i ++ parAt l i (@decide (Conn (delC l i)) (Classical.propDecidable _))
theorem parTo_yes {l : List Cl} {i : Nat} (h : Conn (delC l i)) : parTo l (i + 1) = parTo l i ++ [cornerC (delC l i)] := by simp [parTo, parAt, h]
theorem parTo_no {l : List Cl} {i : Nat} (h : ¬ Conn (delC l i)) : parTo l (i + 1) = parTo l i := by simp [parTo, parAt, h]
theorem mem_parTo (l : List Cl) (x : List Cl) : ∀ k, x ∈ parTo l k ↔ ∃ i, i < k ∧ Conn (delC l i) ∧ x = cornerC (delC l i)
  | 0 => by simp [parTo]
  | k + 1 => by
    rcases Classical.em (Conn (delC l k)) with h | h
    · rw [parTo_yes h, List.mem_append, mem_parTo l x k, List.mem_singleton]
      constructor
      · rintro (⟨i, hi, h2⟩ | h2)
        · exact ⟨i, by omega, h2⟩
        · exact ⟨k, by omega, h, h2⟩
      · rintro ⟨i, hi, h2, h3⟩
        by_cases e : i = k
        · subst e; exact .inr h3
        · exact .inl ⟨i, by omega, h2, h3⟩
    · rw [parTo_no h, mem_parTo l x k]
      constructor
      · rintro ⟨i, hi, h2⟩
        exact ⟨i, by omega, h2⟩
      · rintro ⟨i, hi, h2, h3⟩
        by_cases e : i = k
        · subst e; exact absurd h2 h
        · exact ⟨i, by omega, h2, h3⟩
theorem parTo_shape {l x : List Cl} {k : Nat} (h : x ∈ parTo l k) : isShape x = true := by
  obtain ⟨i, _, hc, rfl⟩ := (mem_parTo l x k).1 h
  exact isShape_corner hc.1
theorem isPar_parTo {l : List Cl} (h : isShape l = true) : IsPar l (sortG ltS [] (parTo l l.length)) :=
  ⟨sortG_srt ordS [] _, fun x => by
    rw [sortG_mem ordS, mem_parTo]
    exact ⟨fun h2 => ⟨h, h2⟩, fun h2 => h2.2⟩⟩
theorem parToL_le (l : List Cl) : ∀ k, (parTo l k).length ≤ k
  | 0 => by simp [parTo]
  | k + 1 => by
    have := parToL_le l k
    rcases Classical.em (Conn (delC l k)) with h | h
    · rw [parTo_yes h]; simp; omega
    · rw [parTo_no h]; omega

end Go.Proofs.YtkcclhnligajeaaDoor
