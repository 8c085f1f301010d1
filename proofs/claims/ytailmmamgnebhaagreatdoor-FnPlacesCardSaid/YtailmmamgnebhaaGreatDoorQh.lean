/-
  Cells read back from rows of marks; rows put in order: plain facts.
  Outlines: common sides, places around, perimeter, rows, squares: plain facts, nothing of the program.
  Holes: how the places around a shape hang together: plain facts, nothing of the program.
  Regions as a width and a list of rows, each row a number whose bits are cells: plain facts, nothing of the program.
-/
import Derived.Test.YtailmmamgnebhaaGreatDoorQg
namespace Go.Proofs.YtailmmamgnebhaaGreatDoor

section
/-- The cells of a row, up to place x. -/
def cellsRow (r y : Nat) : Nat → List Cl
  | 0 => []
  | x + 1 => cellsRow r y x ++ (if r.testBit x = true then [((x : Int), (y : Int))] else [])
/-- The cells of the first rows. -/
def cellsTo (R : Nat → Nat) : Nat → List Cl
  | 0 => []
  | y + 1 => cellsTo R y ++ cellsRow (R y) y 8
theorem cellsRow_yes {r y x : Nat} (h : r.testBit x = true) : cellsRow r y (x + 1) = cellsRow r y x ++ [((x : Int), (y : Int))] := by simp [cellsRow, h]
theorem cellsRow_no {r y x : Nat} (h : r.testBit x = false) : cellsRow r y (x + 1) = cellsRow r y x := by simp [cellsRow, h]
theorem mem_cellsRow (r y : Nat) (c : Cl) : ∀ n, c ∈ cellsRow r y n ↔ ∃ x, x < n ∧ r.testBit x = true ∧ c = ((x : Int), (y : Int))
  | 0 => by simp [cellsRow]
  | n + 1 => by
    cases h : r.testBit n with
    | true =>
      rw [cellsRow_yes h, List.mem_append, mem_cellsRow r y c n, List.mem_singleton]
      constructor
      · rintro (⟨x, hx, h2, h3⟩ | h2)
        · exact ⟨x, by omega, h2, h3⟩
        · exact ⟨n, by omega, h, h2⟩
      · rintro ⟨x, hx, h2, h3⟩
        by_cases e : x = n
        · subst e; exact .inr h3
        · exact .inl ⟨x, by omega, h2, h3⟩
    | false =>
      rw [cellsRow_no h, mem_cellsRow r y c n]
      constructor
      · rintro ⟨x, hx, h2, h3⟩
        exact ⟨x, by omega, h2, h3⟩
      · rintro ⟨x, hx, h2, h3⟩
        by_cases e : x = n
        · subst e; rw [h] at h2; cases h2
        · exact ⟨x, by omega, h2, h3⟩
theorem mem_cellsTo (R : Nat → Nat) (c : Cl) : ∀ n, c ∈ cellsTo R n ↔ ∃ y, y < n ∧ ∃ x, x < 8 ∧ (R y).testBit x = true ∧ c = ((x : Int), (y : Int))
  | 0 => by simp [cellsTo]
  | n + 1 => by
    simp only [cellsTo]
    rw [List.mem_append, mem_cellsTo R c n, mem_cellsRow]
    constructor
    · rintro (⟨y, hy, h⟩ | h)
      · exact ⟨y, by omega, h⟩
      · exact ⟨n, by omega, h⟩
    · rintro ⟨y, hy, h⟩
      by_cases e : y = n
      · subst e; exact .inr h
      · exact .inl ⟨y, by omega, h⟩
theorem srt_cellsRow (r y : Nat) : ∀ n, Srt (cellsRow r y n)
  | 0 => List.Pairwise.nil
  | n + 1 => by
    cases h : r.testBit n with
    | true =>
      rw [cellsRow_yes h]
      unfold Srt
      rw [List.pairwise_append]
      refine ⟨srt_cellsRow r y n, by simp, fun a ha b hb => ?_⟩
      rw [List.mem_singleton] at hb
      subst hb
      obtain ⟨x, hx, _, rfl⟩ := (mem_cellsRow r y a n).1 ha
      rw [bef_iff]
      dsimp only
      omega
    | false =>
      rw [cellsRow_no h]
      exact srt_cellsRow r y n
theorem srt_cellsTo (R : Nat → Nat) : ∀ n, Srt (cellsTo R n)
  | 0 => List.Pairwise.nil
  | n + 1 => by
    simp only [cellsTo]
    unfold Srt
    rw [List.pairwise_append]
    refine ⟨srt_cellsTo R n, srt_cellsRow _ _ _, fun a ha b hb => ?_⟩
    obtain ⟨y, hy, x, _, _, rfl⟩ := (mem_cellsTo R a n).1 ha
    obtain ⟨x2, _, _, rfl⟩ := (mem_cellsRow _ _ b 8).1 hb
    rw [bef_iff]
    dsimp only
    omega
theorem cellsRow_le (r y : Nat) : ∀ n, (cellsRow r y n).length ≤ n
  | 0 => by simp [cellsRow]
  | n + 1 => by
    have := cellsRow_le r y n
    cases h : r.testBit n with
    | true => rw [cellsRow_yes h]; simp; omega
    | false => rw [cellsRow_no h]; omega
theorem cellsTo_le (R : Nat → Nat) : ∀ n, (cellsTo R n).length ≤ 8 * n
  | 0 => by simp [cellsTo]
  | n + 1 => by
    have := cellsTo_le R n
    have := cellsRow_le (R n) n 8
    simp only [cellsTo, List.length_append]
    omega
theorem cellsRow_in (r y n : Nat) (hy : y < 8) (hn : n ≤ 8) : ∀ c ∈ cellsRow r y n, inP c = true := fun c hc => by
  obtain ⟨x, hx, _, rfl⟩ := (mem_cellsRow r y c n).1 hc
  exact inP_mk (by dsimp only; omega) (by dsimp only; omega)
theorem cellsTo_in (R : Nat → Nat) (n : Nat) (hn : n ≤ 8) : ∀ c ∈ cellsTo R n, inP c = true := fun c hc => by
  obtain ⟨y, hy, x, hx, _, rfl⟩ := (mem_cellsTo R c n).1 hc
  exact inP_mk (by dsimp only; omega) (by dsimp only; omega)
/-- A shape is read back from its marks. -/
theorem cells_marks {l : List Cl} (h : isShape l = true) : cellsTo (allR l) 8 = l := by
  obtain ⟨_, hin, hs⟩ := (isShape_iff l).1 h
  refine srt_unique (srt_cellsTo _ 8) hs fun c => ?_
  rw [mem_cellsTo]
  constructor
  · rintro ⟨y, _, x, _, hb, rfl⟩
    exact (allR_bit hin x y).1 hb
  · intro hc
    have hp := inP_out (hin c hc)
    obtain ⟨a, b⟩ := c
    dsimp only at hp
    refine ⟨b.toNat, by omega, a.toNat, by omega, (allR_bit hin _ _).2 ?_, ?_⟩
    · have e1 : ((a.toNat : Nat) : Int) = a := by omega
      have e2 : ((b.toNat : Nat) : Int) = b := by omega
      rw [e1, e2]
      exact hc
    · have e1 : ((a.toNat : Nat) : Int) = a := by omega
      have e2 : ((b.toNat : Nat) : Int) = b := by omega
      rw [e1, e2]
theorem marks_inj {l r : List Cl} (h : isShape l = true) (k : isShape r = true) (e : ∀ y, y < 8 → allR l y = allR r y) : l = r := by
  have h1 := cells_marks h
  have h2 := cells_marks k
  have key : ∀ n, n ≤ 8 → cellsTo (allR l) n = cellsTo (allR r) n := by
    intro n
    induction n with
    | zero => intro _; rfl
    | succ n ih => intro hn; simp only [cellsTo]; rw [ih (by omega), e n (by omega)]
  rw [← h1, ← h2]
  exact key 8 (by omega)
theorem allR_lt {l : List Cl} (h : ∀ c ∈ l, inP c = true) (y : Nat) : allR l y < 256 := rowTo_lt l h y l.length (Nat.le_refl _)

/-! ### A list in order, all different -/
theorem srt_of_sorted {α β : Type} {lt : β → β → Bool} (O : OrdG lt) (key : α → β) {fs : List α} (h : fs.Pairwise fun a b => lt (key b) (key a) = false) (hn : (fs.map key).Nodup) : SrtG lt (fs.map key) := by
  unfold SrtG
  rw [List.pairwise_map]
  have h2 : fs.Pairwise fun a b => key a ≠ key b := List.pairwise_map.1 hn
  refine (h.and h2).imp fun {a b} hab => ?_
  cases hl : lt (key a) (key b) with
  | true => rfl
  | false => exact absurd (O.total hl hab.1) hab.2

/-! ### One cell more, as the program does it -/
theorem moreC_prog (l : List Cl) (x : Cl) : moreC l x = sortU (cornerC (l ++ [x])) := cornerC_sortU (by simp)
theorem nb0 (x y : Int) : nbC (x, y) 0 = (x + 1, y) := by simp [nbC]
theorem nb1 (x y : Int) : nbC (x, y) 1 = (x, y + 1) := by simp [nbC]
theorem nb2 (x y : Int) : nbC (x, y) 2 = (x - 1, y) := by
  unfold nbC
  have e1 : ((1 : Int) - ((2 : Nat) : Int)).tmod 2 = -1 := by decide
  have e2 : ((2 : Int) - ((2 : Nat) : Int)).tmod 2 = 0 := by decide
  rw [e1, e2, Int.add_zero]
  rfl
theorem nb3 (x y : Int) : nbC (x, y) 3 = (x, y - 1) := by
  unfold nbC
  have e1 : ((1 : Int) - ((3 : Nat) : Int)).tmod 2 = 0 := by decide
  have e2 : ((2 : Int) - ((3 : Nat) : Int)).tmod 2 = -1 := by decide
  rw [e1, e2, Int.add_zero]
  rfl
/-- The four cells beside one, in turn. -/
def nbsC (c : Cl) : List Cl := [nbC c 0, nbC c 1, nbC c 2, nbC c 3]
theorem extS_of {l : List Cl} (h : isShape l = true) (h8 : l.length ≠ 8) : extS l = sortG ltS [] (extTo l l.length) := if_pos (by simp [h, h8])
theorem extS_not {l : List Cl} (h : isShape l = false) : extS l = [] := if_neg (by simp [h])
theorem extS_full {l : List Cl} (h : l.length = 8) : extS l = [] := if_neg (by simp [h])
theorem extTo_shape {l x : List Cl} {n : Nat} (h : x ∈ extTo l n) : isShape x = true := by
  obtain ⟨i, _, d, _, hx⟩ := (mem_extTo l x n).1 h
  obtain ⟨_, h2, rfl⟩ := (mem_extAt l i d x).1 hx
  exact h2
theorem extRow_shape {l x : List Cl} {i n : Nat} (h : x ∈ extRow l i n) : isShape x = true := by
  obtain ⟨d, _, hx⟩ := (mem_extRow l i x n).1 h
  obtain ⟨_, h2, rfl⟩ := (mem_extAt l i d x).1 hx
  exact h2
/-- All that the shapes before the k-th become. -/
def extAll (L : List (List Cl)) (k : Nat) : List (List Cl) := (L.take k).flatMap fun x => extTo x x.length
theorem extAll_succ (L : List (List Cl)) (k : Nat) (h : k < L.length) : extAll L (k + 1) = extAll L k ++ extTo (L.getD k []) (L.getD k []).length := by
  unfold extAll
  rw [List.take_succ_eq_append_getElem h, List.flatMap_append]
  simp [List.getD, h]
theorem fixT_next (k : Nat) (hk : k < 7) : fixT (k + 1) = sortG ltS [] (extAll (fixT k) (fixT k).length) := by
  refine sortG_unique ordS [] (fixT_srt (k + 1)) fun x => ?_
  simp only [fixT, sortG_mem ordS, extAll, List.take_length, List.mem_flatMap]
  constructor
  · rintro ⟨y, hy, hx⟩
    have h := fixT_shape k hy
    rw [extS_of h.1 (by omega), sortG_mem ordS] at hx
    exact ⟨y, hy, hx⟩
  · rintro ⟨y, hy, hx⟩
    have h := fixT_shape k hy
    refine ⟨y, hy, ?_⟩
    rw [extS_of h.1 (by omega), sortG_mem ordS]
    exact hx
theorem extAll_le (L : List (List Cl)) (h : ∀ x ∈ L, x.length ≤ 8) : ∀ k, k ≤ L.length → (extAll L k).length ≤ 32 * k
  | 0, _ => by simp [extAll]
  | k + 1, hk => by
    rw [extAll_succ L k (by omega), List.length_append]
    have := extAll_le L h k (by omega)
    have h1 := h (L.getD k []) (by simp [List.getD, show k < L.length by omega])
    have := extTo_le (L.getD k []) (L.getD k []).length
    omega
/-! ### One cell less, as the program does it -/
def parAt (l : List Cl) (i : Nat) (b : Bool) : List (List Cl) := if b = true then [cornerC (delC l i)] else []
noncomputable def parTo (l : List Cl) : Nat → List (List Cl)
  | 0 => []
  | i + 1 => parTo l i ++ parAt l i (@decide (Conn (delC l i)) (Classical.propDecidable _))
theorem parTo_yes {l : List Cl} {i : Nat} (h : Conn (delC l i)) : parTo l (i + 1) = parTo l i ++ [cornerC (delC l i)] := by simp [parTo, parAt, h]
theorem parTo_no {l : List Cl} {i : Nat} (h : ¬ Conn (delC l i)) : parTo l (i + 1) = parTo l i := by simp [parTo, parAt, h]
theorem mem_parTo (l : List Cl) (x : List Cl) : ∀ k, x ∈ parTo l k ↔ ∃ i, i < k ∧ Conn (delC l i) ∧ x = cornerC (delC l i)
  | 0 => by simp [parTo]
  | k + 1 => by
    rcases Classical.em (Conn (delC l k)) with h | h
    · rw [parTo_yes h, List.mem_append, mem_parTo l x k, List.mem_singleton]
      constructor
      · rintro (⟨i, hi, h2⟩ | h2)
        · exact ⟨i, by omega, h2⟩
        · exact ⟨k, by omega, h, h2⟩
      · rintro ⟨i, hi, h2, h3⟩
        by_cases e : i = k
        · subst e; exact .inr h3
        · exact .inl ⟨i, by omega, h2, h3⟩
    · rw [parTo_no h, mem_parTo l x k]
      constructor
      · rintro ⟨i, hi, h2⟩
        exact ⟨i, by omega, h2⟩
      · rintro ⟨i, hi, h2, h3⟩
        by_cases e : i = k
        · subst e; exact absurd h2 h
        · exact ⟨i, by omega, h2, h3⟩
theorem parTo_shape {l x : List Cl} {k : Nat} (h : x ∈ parTo l k) : isShape x = true := by
  obtain ⟨i, _, hc, rfl⟩ := (mem_parTo l x k).1 h
  exact isShape_corner hc.1
theorem isPar_parTo {l : List Cl} (h : isShape l = true) : IsPar l (sortG ltS [] (parTo l l.length)) :=
  ⟨sortG_srt ordS [] _, fun x => by
    rw [sortG_mem ordS, mem_parTo]
    exact ⟨fun h2 => ⟨h, h2⟩, fun h2 => h2.2⟩⟩
theorem parToL_le (l : List Cl) : ∀ k, (parTo l k).length ≤ k
  | 0 => by simp [parTo]
  | k + 1 => by
    have := parToL_le l k
    rcases Classical.em (Conn (delC l k)) with h | h
    · rw [parTo_yes h]; simp; omega
    · rw [parTo_no h]; omega
end

section
def sumF (f : Nat → Nat) : Nat → Nat
  | 0 => 0
  | k + 1 => sumF f k + f k
theorem sumF_congr {f g : Nat → Nat} : ∀ {n : Nat}, (∀ k, k < n → f k = g k) → sumF f n = sumF g n
  | 0, _ => rfl
  | n + 1, h => by rw [sumF, sumF, sumF_congr fun k hk => h k (by omega), h n (by omega)]
theorem sumF_add (f g : Nat → Nat) : ∀ n, sumF (fun k => f k + g k) n = sumF f n + sumF g n
  | 0 => rfl
  | n + 1 => by rw [sumF, sumF, sumF, sumF_add f g n]; omega
theorem sumF_le {f : Nat → Nat} {b : Nat} (h : ∀ k, f k ≤ b) : ∀ n, sumF f n ≤ b * n
  | 0 => by simp [sumF]
  | n + 1 => by
    have := sumF_le h n
    have := h n
    rw [sumF, Nat.mul_succ]
    omega
theorem toNat_le1 (b : Bool) : b.toNat ≤ 1 := by cases b <;> simp
theorem filter_one (p : Cl → Bool) (c : Cl) : ([c].filter p).length = (p c).toNat := by
  cases h : p c <;> simp [h]
theorem sumF_filter (p : Cl → Bool) (l : List Cl) : ∀ k, k ≤ l.length → sumF (fun j => (p (l.getD j (0, 0))).toNat) k = ((l.take k).filter p).length
  | 0, _ => by simp [sumF]
  | k + 1, h => by
    rw [sumF, sumF_filter p l k (by omega), take_snoc l k (by omega), List.filter_append, List.length_append, filter_one]

/-! ### Sides -/
theorem nb_back02 (c : Cl) : nbC (nbC c 0) 2 = c ∧ nbC (nbC c 2) 0 = c ∧ nbC (nbC c 1) 3 = c ∧ nbC (nbC c 3) 1 = c := by
  obtain ⟨x, y⟩ := c
  refine ⟨?_, ?_, ?_, ?_⟩
  · rw [nb0, nb2]; congr 1; omega
  · rw [nb2, nb0]; congr 1; omega
  · rw [nb1, nb3]; congr 1; omega
  · rw [nb3, nb1]; congr 1; omega
def nbI (l : List Cl) (d j : Nat) : Nat := (hasC l (nbC (l.getD j (0, 0)) d).1 (nbC (l.getD j (0, 0)) d).2).toNat
theorem nbI_le (l : List Cl) (d j : Nat) : nbI l d j ≤ 1 := toNat_le1 _
theorem nb_fil_le {l : List Cl} (hn : l.Nodup) (d e : Nat) (h : ∀ c, nbC (nbC c d) e = c) : (l.filter fun c => hasC l (nbC c d).1 (nbC c d).2).length ≤ (l.filter fun c => hasC l (nbC c e).1 (nbC c e).2).length := by
  have h2 := nodup_sub_len ((l.filter fun c => hasC l (nbC c d).1 (nbC c d).2).map fun c => nbC c d) (l.filter fun c => hasC l (nbC c e).1 (nbC c e).2) (by
    refine List.Pairwise.map _ (fun a b hab => ?_) (List.Pairwise.filter _ hn)
    intro he
    have h3 : nbC (nbC a d) e = nbC (nbC b d) e := congrArg (fun c => nbC c e) he
    rw [h, h] at h3
    exact hab h3) (fun x hx => by
    obtain ⟨c, hc, rfl⟩ := List.mem_map.1 hx
    rw [List.mem_filter] at hc ⊢
    exact ⟨(hasC_iff l _).1 hc.2, by rw [h]; exact (hasC_iff l c).2 hc.1⟩)
  rw [List.length_map] at h2
  exact h2
theorem nb_sum {l : List Cl} (hn : l.Nodup) (d e : Nat) (h1 : ∀ c, nbC (nbC c d) e = c) (h2 : ∀ c, nbC (nbC c e) d = c) : sumF (nbI l d) l.length = sumF (nbI l e) l.length := by
  have e1 := sumF_filter (fun c => hasC l (nbC c d).1 (nbC c d).2) l l.length (Nat.le_refl _)
  have e2 := sumF_filter (fun c => hasC l (nbC c e).1 (nbC c e).2) l l.length (Nat.le_refl _)
  rw [List.take_of_length_le (Nat.le_refl _)] at e1 e2
  have h3 := nb_fil_le hn d e h1
  have h4 := nb_fil_le hn e d h2
  unfold nbI
  rw [e1, e2]
  omega
/-- The common sides, as the program counts them: to the right and down. -/
def innI (l : List Cl) (k : Nat) : Nat := sumF (fun j => nbI l 0 j + nbI l 1 j) k
/-- The pairs of cells that are near, as the model counts them. -/
def prR (l : List Cl) (i m : Nat) : Nat := sumF (fun j => (nearC (l.getD i (0, 0)) (l.getD j (0, 0))).toNat) m
def prTo (l : List Cl) (k : Nat) : Nat := sumF (fun i => prR l i i) k
theorem hasC_snoc (l : List Cl) (a c : Cl) : hasC (l ++ [a]) c.1 c.2 = (hasC l c.1 c.2 || decide (a = c)) := by
  rw [Bool.eq_iff_iff, hasC_iff, Bool.or_eq_true, hasC_iff, decide_eq_true_eq, List.mem_append, List.mem_singleton]
  exact or_congr Iff.rfl eq_comm
theorem near_bef {a x : Cl} (h : bef x a = true) : nearC a x = true ↔ x = nbC a 2 ∨ x = nbC a 3 := by
  obtain ⟨p, q⟩ := a
  obtain ⟨u, v⟩ := x
  rw [nearC_iff, nb2, nb3]
  rw [bef_iff] at h
  dsimp only at h ⊢
  constructor
  · rintro (⟨h1, h2 | h2⟩ | ⟨h1, h2 | h2⟩)
    · exact .inr (by congr 1 <;> omega)
    · omega
    · exact .inl (by congr 1 <;> omega)
    · omega
  · rintro (h1 | h1) <;> (injection h1 with h2 h3; omega)
theorem prR_eq {l : List Cl} (hs : Srt l) {i : Nat} (hi : i < l.length) : ∀ m, m ≤ i → prR l i m = (hasC (l.take m) (nbC (l.getD i (0, 0)) 2).1 (nbC (l.getD i (0, 0)) 2).2).toNat + (hasC (l.take m) (nbC (l.getD i (0, 0)) 3).1 (nbC (l.getD i (0, 0)) 3).2).toNat
  | 0, _ => by simp [prR, sumF, hasC]
  | m + 1, h => by
    have ih := prR_eq hs hi m (by omega)
    have hb := srt_getD hs (i := m) (j := i) (by omega) hi
    have hno : l.getD m (0, 0) ∉ l.take m := fun hc => by
      obtain ⟨j, hj, hj2, e⟩ := mem_take_getD hc
      have := srt_getD hs (i := j) (j := m) hj (by omega)
      rw [e, bef_irr] at this
      cases this
    have hnr := near_bef hb
    have hstep : prR l i (m + 1) = prR l i m + (nearC (l.getD i (0, 0)) (l.getD m (0, 0))).toNat := rfl
    rw [hstep, ih, take_snoc l m (by omega), hasC_snoc, hasC_snoc]
    generalize l.getD m (0, 0) = x at *
    generalize l.getD i (0, 0) = c at *
    have hne : nbC c 2 ≠ nbC c 3 := by
      obtain ⟨p, q⟩ := c
      rw [nb2, nb3]
      intro e
      injection e with e1 e2
      omega
    by_cases h1 : x = nbC c 2
    · have e1 : hasC (l.take m) (nbC c 2).1 (nbC c 2).2 = false := by
        rw [← h1, ← Bool.not_eq_true, hasC_iff]
        exact hno
      have e2 : nearC c x = true := hnr.2 (.inl h1)
      have e3 : decide (x = nbC c 3) = false := by rw [decide_eq_false_iff_not, h1]; exact hne
      rw [e1, e2, e3, decide_eq_true h1]
      simp
      omega
    · by_cases h2 : x = nbC c 3
      · have e1 : hasC (l.take m) (nbC c 3).1 (nbC c 3).2 = false := by
          rw [← h2, ← Bool.not_eq_true, hasC_iff]
          exact hno
        have e2 : nearC c x = true := hnr.2 (.inr h2)
        rw [e1, e2, decide_eq_false h1, decide_eq_true h2]
        simp
      · have e2 : nearC c x = false := by
          rw [← Bool.not_eq_true, hnr]
          rintro (h3 | h3)
          · exact h1 h3
          · exact h2 h3
        rw [e2, decide_eq_false h1, decide_eq_false h2]
        simp
theorem bef_nb (c : Cl) : bef (nbC c 2) c = true ∧ bef (nbC c 3) c = true := by
  obtain ⟨x, y⟩ := c
  rw [nb2, nb3, bef_iff, bef_iff]
  dsimp only
  omega
theorem hasC_take {l : List Cl} (hs : Srt l) {i : Nat} (hi : i < l.length) {c : Cl} (hb : bef c (l.getD i (0, 0)) = true) : hasC (l.take i) c.1 c.2 = hasC l c.1 c.2 := by
  rw [Bool.eq_iff_iff, hasC_iff, hasC_iff]
  refine ⟨fun h => List.mem_of_mem_take h, fun h => ?_⟩
  obtain ⟨j, hj, rfl⟩ := mem_getD h
  by_cases hji : j < i
  · rw [List.mem_take_iff_getElem]
    exact ⟨j, by omega, by simp [List.getD, hj]⟩
  · by_cases e : j = i
    · subst e
      rw [bef_irr] at hb
      cases hb
    · have := bef_asym (srt_getD hs (i := i) (j := j) (by omega) hj)
      rw [hb] at this
      cases this
/-- The two ways to count common sides agree. -/
theorem inn_eq {l : List Cl} (hs : Srt l) : prTo l l.length = innI l l.length := by
  have hb := nb_back02
  have e1 : prTo l l.length = sumF (fun j => nbI l 2 j + nbI l 3 j) l.length := by
    unfold prTo
    refine sumF_congr fun i hi => ?_
    rw [prR_eq hs hi i (Nat.le_refl _), hasC_take hs hi (bef_nb _).1, hasC_take hs hi (bef_nb _).2]
    rfl
  unfold innI
  rw [e1, sumF_add, sumF_add, nb_sum (srt_nodup hs) 2 0 (fun c => (hb c).2.1) (fun c => (hb c).1), nb_sum (srt_nodup hs) 3 1 (fun c => (hb c).2.2.2) (fun c => (hb c).2.2.1)]
theorem innI_le (l : List Cl) (k : Nat) : innI l k ≤ 2 * k := sumF_le (fun j => by have := nbI_le l 0 j; have := nbI_le l 1 j; omega) k
theorem innI_step (l : List Cl) (k : Nat) : innI l (k + 1) = innI l k + (nbI l 0 k + nbI l 1 k) := rfl
theorem prR_le (l : List Cl) (i m : Nat) : prR l i m ≤ m := by
  have := sumF_le (f := fun j => (nearC (l.getD i (0, 0)) (l.getD j (0, 0))).toNat) (b := 1) (fun j => toNat_le1 _) m
  unfold prR
  omega

/-! ### The places around -/
def arRow (l : List Cl) (c : Cl) : Nat → List Cl
  | 0 => []
  | d + 1 => if hasC l (nbC c d).1 (nbC c d).2 = true then arRow l c d else arRow l c d ++ [nbC c d]
def arTo (l : List Cl) : Nat → List Cl
  | 0 => []
  | k + 1 => arTo l k ++ arRow l (l.getD k (0, 0)) 4
theorem arRow_yes {l : List Cl} {c : Cl} {d : Nat} (h : hasC l (nbC c d).1 (nbC c d).2 = true) : arRow l c (d + 1) = arRow l c d := if_pos h
theorem arRow_no {l : List Cl} {c : Cl} {d : Nat} (h : hasC l (nbC c d).1 (nbC c d).2 = false) : arRow l c (d + 1) = arRow l c d ++ [nbC c d] := if_neg (by rw [h]; simp)
theorem arRow_len (l : List Cl) (c : Cl) : ∀ d, (arRow l c d).length + sumF (fun e => (hasC l (nbC c e).1 (nbC c e).2).toNat) d = d
  | 0 => rfl
  | d + 1 => by
    have ih := arRow_len l c d
    rw [sumF]
    cases h : hasC l (nbC c d).1 (nbC c d).2 with
    | true => rw [arRow_yes h, Bool.toNat_true]; omega
    | false => rw [arRow_no h, Bool.toNat_false, List.length_append, List.length_singleton]; omega
theorem arTo_len (l : List Cl) : ∀ k, (arTo l k).length + (sumF (nbI l 0) k + sumF (nbI l 1) k + sumF (nbI l 2) k + sumF (nbI l 3) k) = 4 * k
  | 0 => rfl
  | k + 1 => by
    have ih := arTo_len l k
    have h4 := arRow_len l (l.getD k (0, 0)) 4
    rw [arTo, List.length_append]
    simp only [sumF] at h4 ⊢
    unfold nbI at ih ⊢
    omega
theorem arTo_le (l : List Cl) (k : Nat) : (arTo l k).length ≤ 4 * k := by have := arTo_len l k; omega
theorem arRow_le (l : List Cl) (c : Cl) (d : Nat) : (arRow l c d).length ≤ d := by have := arRow_len l c d; omega
/-- The perimeter by the places around and by the common sides. -/
theorem perim {l : List Cl} (hs : Srt l) : (arTo l l.length).length + 2 * innI l l.length = 4 * l.length := by
  have h := arTo_len l l.length
  have hb := nb_back02
  have e2 := nb_sum (srt_nodup hs) 2 0 (fun c => (hb c).2.1) (fun c => (hb c).1)
  have e3 := nb_sum (srt_nodup hs) 3 1 (fun c => (hb c).2.2.2) (fun c => (hb c).2.2.1)
  unfold innI
  rw [sumF_add]
  omega
theorem mem_arRow (l : List Cl) (c x : Cl) : ∀ d, x ∈ arRow l c d ↔ ∃ e, e < d ∧ x = nbC c e ∧ x ∉ l
  | 0 => by simp [arRow]
  | d + 1 => by
    have ih := mem_arRow l c x d
    cases h : hasC l (nbC c d).1 (nbC c d).2 with
    | true =>
      rw [arRow_yes h, ih]
      constructor
      · rintro ⟨e, he, h1⟩; exact ⟨e, by omega, h1⟩
      · rintro ⟨e, he, h1, h2⟩
        by_cases e9 : e = d
        · subst e9; exact absurd ((hasC_iff l _).1 h) (h1 ▸ h2)
        · exact ⟨e, by omega, h1, h2⟩
    | false =>
      rw [arRow_no h, List.mem_append, List.mem_singleton, ih]
      constructor
      · rintro (⟨e, he, h1⟩ | h1)
        · exact ⟨e, by omega, h1⟩
        · exact ⟨d, by omega, h1, by rw [h1, ← hasC_iff, h]; simp⟩
      · rintro ⟨e, he, h1, h2⟩
        by_cases e9 : e = d
        · subst e9; exact .inr h1
        · exact .inl ⟨e, by omega, h1, h2⟩
theorem mem_arTo (l : List Cl) (x : Cl) : ∀ k, k ≤ l.length → (x ∈ arTo l k → ∃ c ∈ l, ∃ d, d < 4 ∧ x = nbC c d ∧ x ∉ l)
  | 0, _ => by simp [arTo]
  | k + 1, hk => by
    rw [arTo, List.mem_append, mem_arRow]
    rintro (h | ⟨d, hd, h1, h2⟩)
    · exact mem_arTo l x k (by omega) h
    · exact ⟨_, getD_mem (l := l) (j := k) (by omega), d, hd, h1, h2⟩

/-! ### The places around, each once, as the model lists them -/
def neRow (l acc : List Cl) (c : Cl) : Nat → List Cl
  | 0 => acc
  | d + 1 => if hasC l (nbC c d).1 (nbC c d).2 = true ∨ hasC (neRow l acc c d) (nbC c d).1 (nbC c d).2 = true then neRow l acc c d else neRow l acc c d ++ [nbC c d]
def neTo (l : List Cl) : Nat → List Cl
  | 0 => []
  | k + 1 => neRow l (neTo l k) (l.getD k (0, 0)) 4
theorem neRow_yes {l acc : List Cl} {c : Cl} {d : Nat} (h : hasC l (nbC c d).1 (nbC c d).2 = true ∨ hasC (neRow l acc c d) (nbC c d).1 (nbC c d).2 = true) : neRow l acc c (d + 1) = neRow l acc c d := if_pos h
theorem neRow_no {l acc : List Cl} {c : Cl} {d : Nat} (h1 : hasC l (nbC c d).1 (nbC c d).2 = false) (h2 : hasC (neRow l acc c d) (nbC c d).1 (nbC c d).2 = false) : neRow l acc c (d + 1) = neRow l acc c d ++ [nbC c d] := if_neg (by rw [h1, h2]; simp)
theorem neRow_facts {l acc : List Cl} (c : Cl) (ha : acc.Nodup) : ∀ d, (neRow l acc c d).Nodup ∧ (∀ x, x ∈ neRow l acc c d ↔ x ∈ acc ∨ x ∈ arRow l c d) ∧ (neRow l acc c d).length ≤ acc.length + d
  | 0 => ⟨ha, by simp [neRow, arRow], by simp [neRow]⟩
  | d + 1 => by
    obtain ⟨i1, i2, i3⟩ := neRow_facts (l := l) c ha d
    cases h : hasC l (nbC c d).1 (nbC c d).2 with
    | true =>
      rw [neRow_yes (.inl h), arRow_yes h]
      exact ⟨i1, i2, by omega⟩
    | false =>
      rw [arRow_no h]
      cases h2 : hasC (neRow l acc c d) (nbC c d).1 (nbC c d).2 with
      | true =>
        rw [neRow_yes (.inr h2)]
        refine ⟨i1, fun x => ?_, by omega⟩
        rw [i2, List.mem_append, List.mem_singleton]
        constructor
        · rintro (h3 | h3)
          · exact .inl h3
          · exact .inr (.inl h3)
        · rintro (h3 | h3 | h3)
          · exact .inl h3
          · exact .inr h3
          · exact (i2 x).1 (h3 ▸ (hasC_iff _ _).1 h2)
      | false =>
        rw [neRow_no h h2]
        have hno : nbC c d ∉ neRow l acc c d := by rw [← hasC_iff, h2]; simp
        refine ⟨?_, fun x => ?_, by rw [List.length_append, List.length_singleton]; omega⟩
        · rw [List.nodup_append]
          exact ⟨i1, by simp, fun p hp q hq e => by rw [List.mem_singleton] at hq; subst hq; exact hno (e ▸ hp)⟩
        · rw [List.mem_append, i2, List.mem_append, List.mem_singleton]
          exact or_assoc
theorem neTo_facts (l : List Cl) : ∀ k, (neTo l k).Nodup ∧ (∀ x, x ∈ neTo l k ↔ x ∈ arTo l k) ∧ (neTo l k).length ≤ 4 * k
  | 0 => ⟨by simp [neTo], by simp [neTo, arTo], by simp [neTo]⟩
  | k + 1 => by
    obtain ⟨i1, i2, i3⟩ := neTo_facts l k
    obtain ⟨j1, j2, j3⟩ := neRow_facts (l := l) (l.getD k (0, 0)) i1 4
    rw [neTo, arTo]
    refine ⟨j1, fun x => ?_, by omega⟩
    rw [j2, i2, List.mem_append]
theorem ne_len (l : List Cl) (k : Nat) : (neTo l k).length = (sortU (arTo l k)).length := by
  obtain ⟨i1, i2, _⟩ := neTo_facts l k
  refine Nat.le_antisymm (nodup_sub_len _ _ i1 fun x hx => (sortU_mem _ x).2 ((i2 x).1 hx)) (nodup_sub_len _ _ (srt_nodup (sortU_srt _)) fun x hx => (i2 x).2 ((sortU_mem _ x).1 hx))

/-! ### Rows and squares -/
def rcAt (l : List Cl) (i : Nat) : Bool := !(decide ((l.getD (i + 1) (0, 0)).2 = (l.getD i (0, 0)).2) && !decide ((l.getD (i + 1) (0, 0)).1 = (l.getD i (0, 0)).1 + 1))
def rcTo (l : List Cl) (k : Nat) : Bool := (List.range k).all (rcAt l)
def rowC (l : List Cl) : Bool := isShape l && rcTo l (l.length - 1)
theorem rcTo_step (l : List Cl) (k : Nat) : rcTo l (k + 1) = (rcTo l k && rcAt l k) := by
  unfold rcTo
  rw [List.range_succ, List.all_append]
  simp
theorem rcTo_false {l : List Cl} {k n : Nat} (h : rcAt l k = false) (hk : k < n) : rcTo l n = false := by
  unfold rcTo
  rw [← Bool.not_eq_true, List.all_eq_true]
  intro h2
  have := h2 k (List.mem_range.2 hk)
  rw [h] at this
  cases this
def sqAt (l : List Cl) (j : Nat) : Bool := hasC l ((l.getD j (0, 0)).1 + 1) (l.getD j (0, 0)).2 && hasC l (l.getD j (0, 0)).1 ((l.getD j (0, 0)).2 + 1) && hasC l ((l.getD j (0, 0)).1 + 1) ((l.getD j (0, 0)).2 + 1)
def sqTo (l : List Cl) (k : Nat) : Nat := sumF (fun j => (sqAt l j).toNat) k
theorem sqTo_le (l : List Cl) (k : Nat) : sqTo l k ≤ k := by
  have := sumF_le (f := fun j => (sqAt l j).toNat) (b := 1) (fun j => toNat_le1 _) k
  unfold sqTo
  omega
theorem sqTo_step (l : List Cl) (k : Nat) : sqTo l (k + 1) = sqTo l k + (sqAt l k).toNat := rfl

/-! ### One cell more, at the places around -/
def extOv (ps l : List Cl) : List (List Cl) := ps.flatMap fun p => if isShape (moreC l p) = true then [moreC l p] else []
theorem extOv_snoc (ps l : List Cl) (p : Cl) : extOv (ps ++ [p]) l = extOv ps l ++ (if isShape (moreC l p) = true then [moreC l p] else []) := by simp [extOv]
theorem extRow_ov (l : List Cl) (i : Nat) : ∀ d, extRow l i d = extOv (arRow l (l.getD i (0, 0)) d) l
  | 0 => rfl
  | d + 1 => by
    have ih := extRow_ov l i d
    rw [extRow, ih, extAt]
    cases h : hasC l (nbC (l.getD i (0, 0)) d).1 (nbC (l.getD i (0, 0)) d).2 with
    | true => rw [arRow_yes h, if_pos rfl, List.append_nil]
    | false => rw [arRow_no h, extOv_snoc, if_neg (by simp)]
theorem extTo_ov (l : List Cl) : ∀ k, extTo l k = extOv (arTo l k) l
  | 0 => rfl
  | k + 1 => by
    rw [extTo, arTo, extTo_ov l k, extRow_ov]
    unfold extOv
    rw [List.flatMap_append]
theorem extOv_step {ps l : List Cl} {k : Nat} (hk : k < ps.length) : extOv (ps.take (k + 1)) l = extOv (ps.take k) l ++ (if isShape (moreC l (ps.getD k (0, 0))) = true then [moreC l (ps.getD k (0, 0))] else []) := by
  rw [take_snoc ps k hk, extOv_snoc]
theorem extOv_yes {ps l : List Cl} {k : Nat} {p : Cl} (hk : k < ps.length) (hp : ps.getD k (0, 0) = p) (h : isShape (moreC l p) = true) : extOv (ps.take (k + 1)) l = extOv (ps.take k) l ++ [moreC l p] := by
  rw [extOv_step hk, hp, if_pos h]
theorem extOv_no {ps l : List Cl} {k : Nat} {p : Cl} (hk : k < ps.length) (hp : ps.getD k (0, 0) = p) (h : isShape (moreC l p) = false) : extOv (ps.take (k + 1)) l = extOv (ps.take k) l := by
  rw [extOv_step hk, hp, if_neg (by rw [h]; simp), List.append_nil]
end

section
/-- A way from p to q by sides over places that are no cells. -/
inductive Pth (l : List Cl) (p : Cl) : Cl → Prop
  | base : p ∉ l → Pth l p p
  | step {q : Cl} (d : Nat) : Pth l p q → d < 4 → nbC q d ∉ l → Pth l p (nbC q d)
theorem Pth.fst {l : List Cl} {p q : Cl} (h : Pth l p q) : p ∉ l := by
  induction h with
  | base h => exact h
  | step _ _ _ _ ih => exact ih
theorem Pth.snd {l : List Cl} {p q : Cl} (h : Pth l p q) : q ∉ l := by
  cases h with
  | base h => exact h
  | step _ _ _ h => exact h
theorem Pth.trans {l : List Cl} {p q r : Cl} (h : Pth l p q) (k : Pth l q r) : Pth l p r := by
  induction k with
  | base _ => exact h
  | step d _ hd hn ih => exact .step d ih hd hn
theorem nb_opp (c : Cl) {d : Nat} (hd : d < 4) : ∃ e, e < 4 ∧ nbC (nbC c d) e = c := by
  have h := nb_back02 c
  have : d = 0 ∨ d = 1 ∨ d = 2 ∨ d = 3 := by omega
  rcases this with rfl | rfl | rfl | rfl
  · exact ⟨2, by omega, h.1⟩
  · exact ⟨3, by omega, h.2.2.1⟩
  · exact ⟨0, by omega, h.2.1⟩
  · exact ⟨1, by omega, h.2.2.2⟩
theorem Pth.back {l : List Cl} {q : Cl} {d : Nat} (hq : q ∉ l) (hd : d < 4) (hn : nbC q d ∉ l) : Pth l (nbC q d) q := by
  obtain ⟨e, he, h⟩ := nb_opp q hd
  have := Pth.step (l := l) (p := nbC q d) e (.base hn) he (by rw [h]; exact hq)
  rw [h] at this
  exact this
theorem Pth.symm {l : List Cl} {p q : Cl} (h : Pth l p q) : Pth l q p := by
  induction h with
  | base h => exact .base h
  | step d hp hd hn ih => exact (Pth.back hp.snd hd hn).trans ih
theorem Pth.one {l : List Cl} {q : Cl} {d : Nat} (hq : q ∉ l) (hd : d < 4) (hn : nbC q d ∉ l) : Pth l q (nbC q d) := .step d (.base hq) hd hn

/-- What is reached from somewhere left of all cells. -/
def OutP (l : List Cl) (q : Cl) : Prop := ∃ p : Cl, (∀ c ∈ l, p.1 < c.1) ∧ Pth l p q
theorem OutP.free {l : List Cl} {q : Cl} (h : OutP l q) : q ∉ l := by obtain ⟨_, _, h⟩ := h; exact h.snd
theorem OutP.pth {l : List Cl} {p q : Cl} (h : OutP l p) (k : Pth l p q) : OutP l q := by obtain ⟨r, h1, h2⟩ := h; exact ⟨r, h1, h2.trans k⟩
theorem out_left {l : List Cl} {q : Cl} (h : ∀ c ∈ l, q.1 < c.1) : OutP l q := ⟨q, h, .base fun hc => by have := h q hc; omega⟩
theorem bd_low (f : Cl → Int) : ∀ l : List Cl, ∃ m : Int, ∀ c ∈ l, m < f c
  | [] => ⟨0, fun c h => by cases h⟩
  | a :: l => by
    obtain ⟨m, h⟩ := bd_low f l
    refine ⟨min m (f a - 1), fun c hc => ?_⟩
    rcases List.mem_cons.1 hc with rfl | hc
    · omega
    · have := h c hc; omega
theorem bd_high (f : Cl → Int) : ∀ l : List Cl, ∃ m : Int, ∀ c ∈ l, f c < m
  | [] => ⟨0, fun c h => by cases h⟩
  | a :: l => by
    obtain ⟨m, h⟩ := bd_high f l
    refine ⟨max m (f a + 1), fun c hc => ?_⟩
    rcases List.mem_cons.1 hc with rfl | hc
    · omega
    · have := h c hc; omega
/-- A place with no cell to the left in its row. -/
theorem out_ray {l : List Cl} {q : Cl} (h : ∀ c ∈ l, c.2 = q.2 → q.1 < c.1) : OutP l q := by
  obtain ⟨m, hm⟩ := bd_low Prod.fst l
  have key : ∀ (n : Nat) (q : Cl), q.1 ≤ m + n → (∀ c ∈ l, c.2 = q.2 → q.1 < c.1) → OutP l q := by
    intro n
    induction n with
    | zero => intro q hq _; exact out_left fun c hc => by have := hm c hc; omega
    | succ n ih =>
      intro q hq hr
      obtain ⟨x, y⟩ := q
      dsimp only at hq hr
      have hs := nb2 x y
      have h1 := ih (nbC (x, y) 2) (by rw [hs]; dsimp only; omega) (by rw [hs]; intro c hc e; dsimp only at e ⊢; have := hr c hc e; omega)
      have hf : (x, y) ∉ l := fun hc => by have := hr _ hc rfl; dsimp only at this; omega
      have h0 : nbC (nbC (x, y) 2) 0 = (x, y) := (nb_back02 (x, y)).2.1
      have := Pth.one (l := l) (q := nbC (x, y) 2) (d := 0) h1.free (by omega) (by rw [h0]; exact hf)
      rw [h0] at this
      exact h1.pth this
  exact key (q.1 - m).toNat q (by omega) h
theorem out_up {l : List Cl} {q : Cl} (h : ∀ c ∈ l, q.2 < c.2) : OutP l q := out_ray fun c hc e => by have := h c hc; omega
theorem out_down {l : List Cl} {q : Cl} (h : ∀ c ∈ l, c.2 < q.2) : OutP l q := out_ray fun c hc e => by have := h c hc; omega
theorem out_right {l : List Cl} {q : Cl} (h : ∀ c ∈ l, c.1 < q.1) : OutP l q := by
  obtain ⟨m, hm⟩ := bd_low Prod.snd l
  have key : ∀ (n : Nat) (q : Cl), q.2 ≤ m + n → (∀ c ∈ l, c.1 < q.1) → OutP l q := by
    intro n
    induction n with
    | zero => intro q hq _; exact out_up fun c hc => by have := hm c hc; omega
    | succ n ih =>
      intro q hq hr
      obtain ⟨x, y⟩ := q
      dsimp only at hq hr
      have hs := nb3 x y
      have h1 := ih (nbC (x, y) 3) (by rw [hs]; dsimp only; omega) (by rw [hs]; intro c hc; dsimp only; exact hr c hc)
      have hf : (x, y) ∉ l := fun hc => by have := hr _ hc; dsimp only at this; omega
      have h0 : nbC (nbC (x, y) 3) 1 = (x, y) := (nb_back02 (x, y)).2.2.2
      have := Pth.one (l := l) (q := nbC (x, y) 3) (d := 1) h1.free (by omega) (by rw [h0]; exact hf)
      rw [h0] at this
      exact h1.pth this
  exact key (q.2 - m).toNat q (by omega) h
/-- A place with no cell to the right in its row. -/
theorem out_rayr {l : List Cl} {q : Cl} (h : ∀ c ∈ l, c.2 = q.2 → c.1 < q.1) : OutP l q := by
  obtain ⟨m, hm⟩ := bd_high Prod.fst l
  have key : ∀ (n : Nat) (q : Cl), m ≤ q.1 + n → (∀ c ∈ l, c.2 = q.2 → c.1 < q.1) → OutP l q := by
    intro n
    induction n with
    | zero => intro q hq _; exact out_right fun c hc => by have := hm c hc; omega
    | succ n ih =>
      intro q hq hr
      obtain ⟨x, y⟩ := q
      dsimp only at hq hr
      have hs := nb0 x y
      have h1 := ih (nbC (x, y) 0) (by rw [hs]; dsimp only; omega) (by rw [hs]; intro c hc e; dsimp only at e ⊢; have := hr c hc e; omega)
      have hf : (x, y) ∉ l := fun hc => by have := hr _ hc rfl; dsimp only at this; omega
      have h0 : nbC (nbC (x, y) 0) 2 = (x, y) := (nb_back02 (x, y)).1
      have := Pth.one (l := l) (q := nbC (x, y) 0) (d := 2) h1.free (by omega) (by rw [h0]; exact hf)
      rw [h0] at this
      exact h1.pth this
  exact key (m - q.1).toNat q (by omega) h
/-- All cells lie strictly inside of a frame. -/
def InsF (l : List Cl) (a b u v : Int) : Prop := ∀ c ∈ l, a < c.1 ∧ c.1 < b ∧ u < c.2 ∧ c.2 < v
def inFr (a b u v : Int) (q : Cl) : Prop := a ≤ q.1 ∧ q.1 ≤ b ∧ u ≤ q.2 ∧ q.2 ≤ v
theorem inner_of {l : List Cl} {a b u v : Int} (h : InsF l a b u v) {q : Cl} (hq : ¬ OutP l q) : a < q.1 ∧ q.1 < b ∧ u < q.2 ∧ q.2 < v := by
  refine ⟨?_, ?_, ?_, ?_⟩
  · exact Classical.byContradiction fun h9 => hq (out_left fun c hc => by have := h c hc; omega)
  · exact Classical.byContradiction fun h9 => hq (out_right fun c hc => by have := h c hc; omega)
  · exact Classical.byContradiction fun h9 => hq (out_up fun c hc => by have := h c hc; omega)
  · exact Classical.byContradiction fun h9 => hq (out_down fun c hc => by have := h c hc; omega)
/-- Marks that hold a corner of the frame and are closed in it hold all that is outside. -/
theorem frame_all {l : List Cl} {a b u v : Int} (hl : InsF l a b u v) (hab : a < b) (huv : u < v) (G : Cl → Prop) (h0 : G (a, u)) (hG : ∀ q, G q → ∀ d, d < 4 → inFr a b u v (nbC q d) → nbC q d ∉ l → G (nbC q d)) : ∀ q, inFr a b u v q → OutP l q → G q := by
  have hf : ∀ q : Cl, (q.1 = a ∨ q.1 = b ∨ q.2 = u ∨ q.2 = v) → q ∉ l := fun q hq hc => by have := hl q hc; omega
  have g0 : ∀ x y : Int, G (x, y) → inFr a b u v (x + 1, y) → (x + 1, y) ∉ l → G (x + 1, y) := fun x y h1 h2 h3 => by
    have := hG (x, y) h1 0 (by omega)
    rw [nb0] at this
    exact this h2 h3
  have g1 : ∀ x y : Int, G (x, y) → inFr a b u v (x, y + 1) → (x, y + 1) ∉ l → G (x, y + 1) := fun x y h1 h2 h3 => by
    have := hG (x, y) h1 1 (by omega)
    rw [nb1] at this
    exact this h2 h3
  have top : ∀ n : Nat, a + n ≤ b → G (a + n, u) := by
    intro n
    induction n with
    | zero => intro _; simpa using h0
    | succ n ih =>
      intro hn
      have e : a + ((n + 1 : Nat) : Int) = a + n + 1 := by omega
      rw [e]
      exact g0 _ _ (ih (by omega)) (by unfold inFr; dsimp only; omega) (hf _ (.inr (.inr (.inl rfl))))
  have left : ∀ n : Nat, u + n ≤ v → G (a, u + n) := by
    intro n
    induction n with
    | zero => intro _; simpa using h0
    | succ n ih =>
      intro hn
      have e : u + ((n + 1 : Nat) : Int) = u + n + 1 := by omega
      rw [e]
      exact g1 _ _ (ih (by omega)) (by unfold inFr; dsimp only; omega) (hf _ (.inl rfl))
  have right : ∀ n : Nat, u + n ≤ v → G (b, u + n) := by
    intro n
    induction n with
    | zero =>
      intro _
      have := top (b - a).toNat (by omega)
      rw [show a + ((b - a).toNat : Int) = b by omega] at this
      simpa using this
    | succ n ih =>
      intro hn
      have e : u + ((n + 1 : Nat) : Int) = u + n + 1 := by omega
      rw [e]
      exact g1 _ _ (ih (by omega)) (by unfold inFr; dsimp only; omega) (hf _ (.inr (.inl rfl)))
  have bot : ∀ n : Nat, a + n ≤ b → G (a + n, v) := by
    intro n
    induction n with
    | zero =>
      intro _
      have := left (v - u).toNat (by omega)
      rw [show u + ((v - u).toNat : Int) = v by omega] at this
      simpa using this
    | succ n ih =>
      intro hn
      have e : a + ((n + 1 : Nat) : Int) = a + n + 1 := by omega
      rw [e]
      exact g0 _ _ (ih (by omega)) (by unfold inFr; dsimp only; omega) (hf _ (.inr (.inr (.inr rfl))))
  have border : ∀ q : Cl, inFr a b u v q → (q.1 = a ∨ q.1 = b ∨ q.2 = u ∨ q.2 = v) → G q := by
    rintro ⟨x, y⟩ hq hb
    unfold inFr at hq
    dsimp only at hq hb
    rcases hb with rfl | rfl | rfl | rfl
    · have := left (y - u).toNat (by omega)
      rw [show u + ((y - u).toNat : Int) = y by omega] at this
      exact this
    · have := right (y - u).toNat (by omega)
      rw [show u + ((y - u).toNat : Int) = y by omega] at this
      exact this
    · have := top (x - a).toNat (by omega)
      rw [show a + ((x - a).toNat : Int) = x by omega] at this
      exact this
    · have := bot (x - a).toNat (by omega)
      rw [show a + ((x - a).toNat : Int) = x by omega] at this
      exact this
  have row : ∀ (y : Int) (n : Nat), inFr a b u v (a + n, y) → (∀ c ∈ l, a + n < c.1) → G (a + n, y) := by
    intro y n
    induction n with
    | zero => intro h1 _; exact border _ h1 (.inl (by simp))
    | succ n ih =>
      intro h1 h2
      have e : a + ((n + 1 : Nat) : Int) = a + n + 1 := by omega
      rw [e] at h1 h2 ⊢
      unfold inFr at h1
      dsimp only at h1
      exact g0 _ _ (ih (by unfold inFr; dsimp only; omega) (fun c hc => by have := h2 c hc; omega)) (by unfold inFr; dsimp only; omega) (fun hc => by have := h2 _ hc; dsimp only at this; omega)
  rintro q hq ⟨p, hp, hpth⟩
  induction hpth with
  | base _ =>
    obtain ⟨x, y⟩ := p
    have hq' := hq
    unfold inFr at hq'
    dsimp only at hq' hp
    have := row y (x - a).toNat
    rw [show a + ((x - a).toNat : Int) = x by omega] at this
    exact this hq hp
  | step d hpr hd hn ih =>
    rename_i q0
    by_cases hin : inFr a b u v q0
    · exact hG _ (ih hin) d hd hq hn
    · refine border _ hq ?_
      obtain ⟨x, y⟩ := q0
      have : d = 0 ∨ d = 1 ∨ d = 2 ∨ d = 3 := by omega
      unfold inFr at hin hq
      rcases this with rfl | rfl | rfl | rfl
      · rw [nb0] at hq ⊢; dsimp only at *; omega
      · rw [nb1] at hq ⊢; dsimp only at *; omega
      · rw [nb2] at hq ⊢; dsimp only at *; omega
      · rw [nb3] at hq ⊢; dsimp only at *; omega

/-! ### Holes: the first place of each -/
def Lead (l : List Cl) (q : Cl) : Prop := q ∉ l ∧ ¬ OutP l q ∧ ∀ p, Pth l p q → bef p q = false
/-- What is outside, or in a hole with a place ahead of c. -/
def Seen (l : List Cl) (c q : Cl) : Prop := OutP l q ∨ ∃ p, bef p c = true ∧ Pth l p q
theorem Seen.free {l : List Cl} {c q : Cl} (h : Seen l c q) : q ∉ l := by
  rcases h with h | ⟨p, _, h⟩
  · exact h.free
  · exact h.snd
theorem Seen.pth {l : List Cl} {c p q : Cl} (h : Seen l c p) (k : Pth l p q) : Seen l c q := by
  rcases h with h | ⟨r, h1, h2⟩
  · exact .inl (h.pth k)
  · exact .inr ⟨r, h1, h2.trans k⟩
theorem lead_iff (l : List Cl) (q : Cl) : Lead l q ↔ q ∉ l ∧ ¬ Seen l q q := by
  unfold Lead Seen
  constructor
  · rintro ⟨h1, h2, h3⟩
    refine ⟨h1, ?_⟩
    rintro (h | ⟨p, hp, hq⟩)
    · exact h2 h
    · rw [h3 p hq] at hp; cases hp
  · rintro ⟨h1, h2⟩
    refine ⟨h1, fun h => h2 (.inl h), fun p hp => ?_⟩
    cases h : bef p q with
    | false => rfl
    | true => exact absurd (.inr ⟨p, h, hp⟩) h2
theorem Seen.of {l : List Cl} {a b q : Cl} (h : ∀ p, bef p a = true → bef p b = false → OutP l p) (hs : Seen l a q) : Seen l b q := by
  rcases hs with hs | ⟨p, h1, h2⟩
  · exact .inl hs
  · cases h3 : bef p b with
    | true => exact .inr ⟨p, h3, h2⟩
    | false => exact .inl ((h p h1 h3).pth h2)
/-- The next place in a row: not the first of a hole, or the first of one. -/
theorem bef_next (p : Cl) (x y : Int) : bef p (x + 1, y) = true ↔ bef p (x, y) = true ∨ p = (x, y) := by
  obtain ⟨a, b⟩ := p
  rw [bef_iff, bef_iff]
  dsimp only
  constructor
  · intro h
    by_cases h1 : b < y
    · exact .inl (.inl h1)
    · by_cases h2 : a < x
      · exact .inl (.inr ⟨by omega, h2⟩)
      · refine .inr ?_
        congr 1 <;> omega
  · rintro (h | h)
    · omega
    · injection h with h1 h2
      omega
theorem seen_next {l : List Cl} {x y : Int} (q : Cl) : Seen l (x + 1, y) q ↔ Seen l (x, y) q ∨ Pth l (x, y) q := by
  unfold Seen
  constructor
  · rintro (h | ⟨p, h1, h2⟩)
    · exact .inl (.inl h)
    · rcases (bef_next p x y).1 h1 with h3 | rfl
      · exact .inl (.inr ⟨p, h3, h2⟩)
      · exact .inr h2
  · rintro ((h | ⟨p, h1, h2⟩) | h)
    · exact .inl h
    · exact .inr ⟨p, (bef_next p x y).2 (.inl h1), h2⟩
    · exact .inr ⟨_, (bef_next _ x y).2 (.inr rfl), h⟩
theorem seen_next_no {l : List Cl} {x y : Int} (h : ¬ Lead l (x, y)) (q : Cl) : Seen l (x + 1, y) q ↔ Seen l (x, y) q := by
  rw [seen_next]
  refine ⟨?_, .inl⟩
  rintro (h1 | h1)
  · exact h1
  · rw [lead_iff] at h
    have h2 : Seen l (x, y) (x, y) := Classical.byContradiction fun h3 => h ⟨h1.fst, h3⟩
    exact h2.pth h1
/-- From the end of a row to the next one; ahead of the first. -/
theorem seen_row {l : List Cl} {a b u v : Int} (h : InsF l a b u v) {w o : Int} (hw : b ≤ w) (ho : o ≤ a + 1) (y : Int) (q : Cl) : Seen l (w, y) q ↔ Seen l (o, y + 1) q := by
  constructor
  · refine fun h1 => h1.of fun p h2 h3 => ?_
    rw [bef_iff] at h2
    rw [bef_not] at h3
    dsimp only at h2 h3
    omega
  · refine fun h1 => h1.of fun p h2 h3 => ?_
    rw [bef_iff] at h2
    rw [bef_not] at h3
    dsimp only at h2 h3
    by_cases h4 : p.2 = y
    · exact out_right fun c hc => by have := h c hc; omega
    · exact out_left fun c hc => by have := h c hc; omega
theorem seen_start {l : List Cl} {a b u v : Int} (h : InsF l a b u v) {o t : Int} (ho : o ≤ a + 1) (ht : t ≤ u + 1) (q : Cl) : Seen l (o, t) q ↔ OutP l q := by
  refine ⟨?_, .inl⟩
  rintro (h1 | ⟨p, h1, h2⟩)
  · exact h1
  · refine OutP.pth ?_ h2
    rw [bef_iff] at h1
    dsimp only at h1
    by_cases h4 : p.2 < t
    · exact out_up fun c hc => by have := h c hc; omega
    · exact out_left fun c hc => by have := h c hc; omega
theorem lead_in {l : List Cl} {a b u v : Int} (h : InsF l a b u v) {q : Cl} (hq : Lead l q) : a < q.1 ∧ q.1 < b ∧ u < q.2 ∧ q.2 < v := inner_of h hq.2.1

/-! ### Counting them -/
noncomputable def leadB (l : List Cl) (q : Cl) : Bool := @decide (Lead l q) (Classical.propDecidable _)
theorem leadB_iff (l : List Cl) (q : Cl) : leadB l q = true ↔ Lead l q := by unfold leadB; simp
noncomputable def cntL (l : List Cl) (L : List Cl) : Nat := (L.filter (leadB l)).length
theorem cntL_snoc (l L : List Cl) (q : Cl) : cntL l (L ++ [q]) = cntL l L + (leadB l q).toNat := by unfold cntL; rw [List.filter_append, List.length_append, filter_one]
theorem cntL_yes {l : List Cl} (L : List Cl) {q : Cl} (h : Lead l q) : cntL l (L ++ [q]) = cntL l L + 1 := by rw [cntL_snoc, (leadB_iff l q).2 h]; rfl
theorem cntL_no {l : List Cl} (L : List Cl) {q : Cl} (h : ¬ Lead l q) : cntL l (L ++ [q]) = cntL l L := by
  have : leadB l q = false := by rw [← Bool.not_eq_true, leadB_iff]; exact h
  rw [cntL_snoc, this]
  rfl
theorem cntL_le (l L : List Cl) : cntL l L ≤ L.length := List.length_filter_le _ _
def gRow (y : Int) : Nat → List Cl
  | 0 => []
  | x + 1 => gRow y x ++ [((x : Int), y)]
def gTo (w : Nat) : Nat → List Cl
  | 0 => []
  | y + 1 => gTo w y ++ gRow y w
theorem mem_gRow (y : Int) (c : Cl) : ∀ n, c ∈ gRow y n ↔ c.2 = y ∧ 0 ≤ c.1 ∧ c.1 < n
  | 0 => by simp only [gRow, List.not_mem_nil, false_iff]; omega
  | n + 1 => by
    rw [gRow, List.mem_append, List.mem_singleton, mem_gRow y c n]
    obtain ⟨a, b⟩ := c
    dsimp only
    constructor
    · rintro (h | h)
      · omega
      · injection h with h1 h2; omega
    · intro h
      by_cases e : a = n
      · exact .inr (by congr 1 <;> omega)
      · exact .inl (by omega)
theorem mem_gTo (w : Nat) (c : Cl) : ∀ n, c ∈ gTo w n ↔ (0 ≤ c.2 ∧ c.2 < n) ∧ 0 ≤ c.1 ∧ c.1 < w
  | 0 => by simp [gTo]; omega
  | n + 1 => by
    rw [gTo, List.mem_append, mem_gTo w c n, mem_gRow]
    omega
theorem gRow_srt (y : Int) : ∀ n, Srt (gRow y n)
  | 0 => List.Pairwise.nil
  | n + 1 => by
    unfold Srt
    rw [gRow, List.pairwise_append]
    refine ⟨gRow_srt y n, by simp, fun a ha b hb => ?_⟩
    rw [List.mem_singleton] at hb
    subst hb
    have := (mem_gRow y a n).1 ha
    rw [bef_iff]
    dsimp only
    omega
theorem gTo_srt (w : Nat) : ∀ n, Srt (gTo w n)
  | 0 => List.Pairwise.nil
  | n + 1 => by
    unfold Srt
    rw [gTo, List.pairwise_append]
    refine ⟨gTo_srt w n, gRow_srt _ _, fun a ha b hb => ?_⟩
    have h1 := (mem_gTo w a n).1 ha
    have h2 := (mem_gRow _ b w).1 hb
    rw [bef_iff]
    omega
theorem gRow_len (y : Int) : ∀ n, (gRow y n).length = n
  | 0 => rfl
  | n + 1 => by rw [gRow, List.length_append, gRow_len y n]; rfl
theorem gTo_len (w : Nat) : ∀ n, (gTo w n).length = w * n
  | 0 => rfl
  | n + 1 => by rw [gTo, List.length_append, gTo_len w n, gRow_len, Nat.mul_succ]

/-! ### Moved -/
theorem nb_shift (c : Cl) (x y : Int) (d : Nat) : nbC (c.1 + x, c.2 + y) d = ((nbC c d).1 + x, (nbC c d).2 + y) := by
  unfold nbC
  dsimp only
  congr 1 <;> omega
theorem mem_moved (l : List Cl) (x y : Int) (q : Cl) : (q.1 + x, q.2 + y) ∈ moveC x y l ↔ q ∈ l := by
  unfold moveC
  constructor
  · intro h
    obtain ⟨d, hd, e⟩ := List.mem_map.1 h
    injection e with e1 e2
    have : d = q := by
      obtain ⟨a, b⟩ := d
      obtain ⟨u, v⟩ := q
      dsimp only at e1 e2
      congr 1 <;> omega
    exact this ▸ hd
  · intro h
    exact List.mem_map.2 ⟨q, h, rfl⟩
theorem Pth.moved {l : List Cl} {p q : Cl} (x y : Int) (h : Pth l p q) : Pth (moveC x y l) (p.1 + x, p.2 + y) (q.1 + x, q.2 + y) := by
  induction h with
  | base h => exact .base (by rw [mem_moved]; exact h)
  | step d _ hd hn ih =>
    rename_i q0
    have := Pth.step d ih hd (by rw [nb_shift, mem_moved]; exact hn)
    rw [nb_shift] at this
    exact this
theorem OutP.moved {l : List Cl} {q : Cl} (x y : Int) (h : OutP l q) : OutP (moveC x y l) (q.1 + x, q.2 + y) := by
  obtain ⟨p, h1, h2⟩ := h
  refine ⟨_, fun c hc => ?_, h2.moved x y⟩
  obtain ⟨d, hd, rfl⟩ := List.mem_map.1 hc
  have := h1 d hd
  dsimp only
  omega
theorem back_cell (q : Cl) (x y : Int) : ((q.1 + x + -x, q.2 + y + -y) : Cl) = q := by
  obtain ⟨a, b⟩ := q
  dsimp only
  congr 1 <;> omega
theorem Lead.moved {l : List Cl} {q : Cl} (x y : Int) (h : Lead l q) : Lead (moveC x y l) (q.1 + x, q.2 + y) := by
  obtain ⟨h1, h2, h3⟩ := h
  refine ⟨by rw [mem_moved]; exact h1, fun ho => h2 ?_, fun p hp => ?_⟩
  · have := ho.moved (-x) (-y)
    rw [moveC_back] at this
    dsimp only at this
    rw [back_cell] at this
    exact this
  · have := hp.moved (-x) (-y)
    rw [moveC_back] at this
    dsimp only at this
    rw [back_cell] at this
    have h4 := h3 _ this
    rw [bef_not] at h4 ⊢
    dsimp only at h4 ⊢
    omega
theorem cntL_moved_le {l L L2 : List Cl} (x y : Int) (hL : L.Nodup) (h2 : ∀ q, Lead (moveC x y l) q → q ∈ L2) : cntL l L ≤ cntL (moveC x y l) L2 := by
  have h := nodup_sub_len ((L.filter (leadB l)).map fun q => (q.1 + x, q.2 + y)) (L2.filter (leadB (moveC x y l))) (by
    refine List.Pairwise.map _ (fun a b hab => ?_) (List.Pairwise.filter _ hL)
    intro he
    injection he with e1 e2
    refine hab ?_
    obtain ⟨a1, a2⟩ := a
    obtain ⟨b1, b2⟩ := b
    dsimp only at e1 e2
    congr 1 <;> omega) (fun c hc => by
    obtain ⟨q, hq, rfl⟩ := List.mem_map.1 hc
    rw [List.mem_filter, leadB_iff] at hq ⊢
    have := hq.2.moved x y
    exact ⟨h2 _ this, this⟩)
  rw [List.length_map] at h
  exact h
theorem cntL_moved {l L L2 : List Cl} (x y : Int) (hL : L.Nodup) (hL2 : L2.Nodup) (h1 : ∀ q, Lead l q → q ∈ L) (h2 : ∀ q, Lead (moveC x y l) q → q ∈ L2) : cntL l L = cntL (moveC x y l) L2 := by
  refine Nat.le_antisymm (cntL_moved_le x y hL h2) ?_
  have := cntL_moved_le (l := moveC x y l) (L := L2) (L2 := L) (-x) (-y) hL2 (by rw [moveC_back]; exact h1)
  rw [moveC_back] at this
  exact this
/-- The number of holes: first places in a grid that holds all cells. -/
noncomputable def holesN (l : List Cl) : Nat := cntL (moveC 1 1 l) (gTo 10 10)
theorem holes_corner {l : List Cl} (hl : InsF l (-1) 8 (-1) 8) (w h : Nat) (hc : InsF (cornerC l) (-1) w (-1) h) : cntL (cornerC l) (gTo w h) = holesN l := by
  have e : moveC 1 1 l = moveC (1 + minX l) (1 + minY l) (cornerC l) := by
    rw [cornerC_move, moveC_move]
    congr 1 <;> omega
  unfold holesN
  rw [e]
  refine cntL_moved _ _ (srt_nodup (gTo_srt _ _)) (srt_nodup (gTo_srt _ _)) (fun q hq => ?_) (fun q hq => ?_)
  · have := lead_in hc hq
    rw [mem_gTo]
    omega
  · rw [← e] at hq
    have hm : InsF (moveC 1 1 l) 0 9 0 9 := fun c hc => by
      obtain ⟨d, hd, rfl⟩ := List.mem_map.1 hc
      have := hl d hd
      dsimp only
      omega
    have := lead_in hm hq
    rw [mem_gTo]
    omega

/-! ### A queue of places -/
structure Bq (A R : Cl → Prop) (old sn : List Cl) (i k : Nat) : Prop where
  nodup : sn.Nodup
  pre : ∃ new, sn = old ++ new
  all : ∀ j, old.length ≤ j → j < sn.length → R (sn.getD j (0, 0))
  done : ∀ j, old.length ≤ j → j < i → ∀ d, d < 4 → A (nbC (sn.getD j (0, 0)) d) → nbC (sn.getD j (0, 0)) d ∈ sn
  part : ∀ d, d < k → A (nbC (sn.getD i (0, 0)) d) → nbC (sn.getD i (0, 0)) d ∈ sn
theorem Bq.start (A R : Cl → Prop) (old : List Cl) (p : Cl) (ho : old.Nodup) (hp : p ∉ old) (hr : R p) : Bq A R old (old ++ [p]) old.length 0 where
  nodup := by
    rw [List.nodup_append]
    exact ⟨ho, by simp, fun a ha b hb e => by rw [List.mem_singleton] at hb; subst hb; exact hp (e ▸ ha)⟩
  pre := ⟨_, rfl⟩
  all := fun j h1 h2 => by
    rw [List.length_append, List.length_singleton] at h2
    obtain rfl : j = old.length := by omega
    have : (old ++ [p]).getD old.length (0, 0) = p := by simp [List.getD]
    rw [this]
    exact hr
  done := fun j h1 h2 => by omega
  part := fun d hd => by omega
theorem Bq.skip {A R : Cl → Prop} {old sn : List Cl} {i k : Nat} (h : Bq A R old sn i k) (hn : A (nbC (sn.getD i (0, 0)) k) → nbC (sn.getD i (0, 0)) k ∈ sn) : Bq A R old sn i (k + 1) :=
  ⟨h.nodup, h.pre, h.all, h.done, fun d hd ha => by
    by_cases e : d = k
    · subst e; exact hn ha
    · exact h.part d (by omega) ha⟩
theorem Bq.add {A R : Cl → Prop} {old sn : List Cl} {i k : Nat} (h : Bq A R old sn i k) (hi : i < sn.length) {q : Cl} (e : nbC (sn.getD i (0, 0)) k = q) (hno : q ∉ sn) (hr : R q) : Bq A R old (sn ++ [q]) i (k + 1) where
  nodup := by
    rw [List.nodup_append]
    exact ⟨h.nodup, by simp, fun a ha b hb e9 => by rw [List.mem_singleton] at hb; subst hb; exact hno (e9 ▸ ha)⟩
  pre := by obtain ⟨new, hnew⟩ := h.pre; exact ⟨new ++ [q], by rw [hnew, List.append_assoc]⟩
  all := fun j h1 h2 => by
    rw [List.length_append, List.length_singleton] at h2
    by_cases e9 : j < sn.length
    · rw [getD_app e9]; exact h.all j h1 e9
    · obtain rfl : j = sn.length := by omega
      have : (sn ++ [q]).getD sn.length (0, 0) = q := by simp [List.getD]
      rw [this]
      exact hr
  done := fun j h1 h2 d hd ha => by
    rw [getD_app (by omega)] at ha ⊢
    exact List.mem_append_left _ (h.done j h1 h2 d hd ha)
  part := fun d hd ha => by
    rw [getD_app hi] at ha ⊢
    by_cases e9 : d = k
    · subst e9; rw [e]; exact List.mem_append_right _ (List.mem_singleton.2 rfl)
    · exact List.mem_append_left _ (h.part d (by omega) ha)
theorem Bq.next {A R : Cl → Prop} {old sn : List Cl} {i : Nat} (h : Bq A R old sn i 4) : Bq A R old sn (i + 1) 0 :=
  ⟨h.nodup, h.pre, h.all, fun j h1 h2 d hd ha => by
    by_cases e : j = i
    · subst e; exact h.part d hd ha
    · exact h.done j h1 (by omega) d hd ha, fun d hd => by omega⟩
theorem in_grid {sn : List Cl} (hn : sn.Nodup) {w h : Nat} (hw : w ≤ 8) (hh : h ≤ 8) (hi : ∀ q ∈ sn, inFr (-1) w (-1) h q) : sn.length ≤ 100 := by
  have h2 := nodup_sub_len (sn.map fun q => ((q.1 + 1, q.2 + 1) : Cl)) (gTo 10 10) (by
    refine List.Pairwise.map _ (fun a b hab => ?_) hn
    intro he
    injection he with e1 e2
    refine hab ?_
    obtain ⟨a1, a2⟩ := a
    obtain ⟨b1, b2⟩ := b
    dsimp only at e1 e2
    congr 1 <;> omega) (fun c hc => by
    obtain ⟨q, hq, rfl⟩ := List.mem_map.1 hc
    have := hi q hq
    unfold inFr at this
    rw [mem_gTo]
    dsimp only
    omega)
  rw [List.length_map, gTo_len] at h2
  exact h2
/-- The queue over all that is outside, in a frame. -/
theorem Bq.outside {l sn : List Cl} {w h : Int} (hl : InsF l (-1) w (-1) h) (hw : 0 ≤ w) (hh : 0 ≤ h) (hs : (-1, -1) ∈ sn) (hq : Bq (fun q => inFr (-1) w (-1) h q ∧ q ∉ l) (fun q => inFr (-1) w (-1) h q ∧ OutP l q) [] sn sn.length 0) (q : Cl) : q ∈ sn ↔ inFr (-1) w (-1) h q ∧ OutP l q := by
  constructor
  · intro hm
    obtain ⟨j, hj, rfl⟩ := mem_getD hm
    exact hq.all j (by simp) hj
  · rintro ⟨h1, h2⟩
    refine frame_all hl (by omega) (by omega) (fun q => q ∈ sn) hs (fun q hm d hd hi hn => ?_) q h1 h2
    obtain ⟨j, hj, rfl⟩ := mem_getD hm
    exact hq.done j (by simp) hj d hd ⟨hi, hn⟩
/-- The queue over a hole. -/
theorem Bq.hole {l old sn : List Cl} {w h x y : Int} (hl : InsF l (-1) w (-1) h) (hold : ∀ q, q ∈ old ↔ inFr (-1) w (-1) h q ∧ Seen l (x, y) q) (hp : Lead l (x, y)) (hps : (x, y) ∈ sn) (hq : Bq (fun q => q ∉ l) (Pth l (x, y)) old sn sn.length 0) (q : Cl) : q ∈ sn ↔ inFr (-1) w (-1) h q ∧ Seen l (x + 1, y) q := by
  have hin : ∀ q, Pth l (x, y) q → inFr (-1) w (-1) h q := fun q hq => by
    have := inner_of hl (q := q) (fun ho => hp.2.1 (ho.pth hq.symm))
    unfold inFr
    omega
  have hno := (lead_iff l (x, y)).1 hp
  obtain ⟨new, hnew⟩ := hq.pre
  rw [seen_next]
  constructor
  · intro hm
    obtain ⟨j, hj, rfl⟩ := mem_getD hm
    by_cases h1 : j < old.length
    · have : sn.getD j (0, 0) ∈ old := by rw [hnew, getD_app h1]; exact getD_mem h1
      have h2 := (hold _).1 this
      exact ⟨h2.1, .inl h2.2⟩
    · have h2 := hq.all j (by omega) hj
      exact ⟨hin _ h2, .inr h2⟩
  · rintro ⟨h1, h2 | h2⟩
    · rw [hnew]
      exact List.mem_append_left _ ((hold q).2 ⟨h1, h2⟩)
    · clear h1
      induction h2 with
      | base _ => exact hps
      | step d hpq hd hn ih =>
        obtain ⟨j, hj, e⟩ := mem_getD ih
        by_cases h1 : j < old.length
        · exfalso
          have h3 : sn.getD j (0, 0) ∈ old := by rw [hnew, getD_app h1]; exact getD_mem h1
          rw [e] at h3
          exact hno.2 (((hold _).1 h3).2.pth hpq.symm)
        · have := hq.done j (by omega) hj d hd (by rw [e]; exact hn)
          rw [e] at this
          exact this
end

section
def okRow (W : Int) (r : Int) : Bool := decide (0 ≤ r) && decide (r < 2 ^ W.toNat)
def rowsTo (W : Int) (l : List Int) (k : Nat) : Bool := (List.range k).all fun j => okRow W (l.getD j 0)
def isReg (W : Int) (l : List Int) : Bool := inb W 1 6 && inb l.length 1 6 && rowsTo W l l.length
theorem rowsTo_step (W : Int) (l : List Int) (k : Nat) : rowsTo W l (k + 1) = (rowsTo W l k && okRow W (l.getD k 0)) := by
  unfold rowsTo; rw [List.range_succ, List.all_append]; simp
theorem rowsTo_iff (W : Int) (l : List Int) (k : Nat) : rowsTo W l k = true ↔ ∀ j, j < k → okRow W (l.getD j 0) = true := by
  unfold rowsTo; rw [List.all_eq_true]; simp
theorem rowsTo_false {W : Int} {l : List Int} {k n : Nat} (h : okRow W (l.getD k 0) = false) (hk : k < n) : rowsTo W l n = false := by
  cases h2 : rowsTo W l n with
  | false => rfl
  | true => have := (rowsTo_iff W l n).1 h2 k hk; rw [h] at this; cases this
/-- Rows of a grid that is right. -/
structure Rg (W H : Nat) (l : List Int) : Prop where
  w0 : 1 ≤ W
  w6 : W ≤ 6
  h0 : 1 ≤ H
  h6 : H ≤ 6
  len : l.length = H
  row : ∀ j, j < H → 0 ≤ l.getD j 0 ∧ l.getD j 0 < 2 ^ W
theorem isReg_out {W : Int} {l : List Int} (h : isReg W l = true) : ∃ n : Nat, W = n ∧ Rg n l.length l := by
  unfold isReg at h
  rw [Bool.and_eq_true, Bool.and_eq_true, rowsTo_iff] at h
  obtain ⟨⟨h1, h2⟩, h3⟩ := h
  simp [inb] at h1 h2
  refine ⟨W.toNat, by omega, by omega, by omega, by omega, by omega, rfl, fun j hj => ?_⟩
  have := h3 j hj
  simp [okRow] at this
  exact this
theorem isReg_of {W H : Nat} {l : List Int} (h : Rg W H l) : isReg W l = true := by
  unfold isReg
  rw [Bool.and_eq_true, Bool.and_eq_true, rowsTo_iff]
  have := h.w0
  have := h.w6
  have := h.h0
  have := h.h6
  have hl := h.len
  refine ⟨⟨by simp [inb]; omega, by simp [inb]; omega⟩, fun j hj => ?_⟩
  have := h.row j (by omega)
  simp [okRow]
  exact this
def rN (l : List Int) (y : Nat) : Nat := (l.getD y 0).toNat
theorem pow6 {W : Nat} (h : W ≤ 6) : 2 ^ W ≤ 64 := by
  have := Nat.pow_le_pow_right (show 0 < 2 by omega) h
  omega
theorem Rg.nat {W H : Nat} {l : List Int} (h : Rg W H l) {y : Nat} (hy : y < H) : l.getD y 0 = (rN l y : Int) ∧ rN l y < 2 ^ W ∧ rN l y < 64 := by
  have h1 := h.row y hy
  have h2 := pow6 h.w6
  unfold rN
  have e : ((2 ^ W : Nat) : Int) = (2 : Int) ^ W := by simp
  rw [← e] at h1
  omega
/-- Is a place a cell. -/
def bt (l : List Int) (q : Cl) : Bool := decide (0 ≤ q.1) && (decide (0 ≤ q.2) && (rN l q.2.toNat).testBit q.1.toNat)
theorem bt_iff (l : List Int) (q : Cl) : bt l q = true ↔ 0 ≤ q.1 ∧ 0 ≤ q.2 ∧ (rN l q.2.toNat).testBit q.1.toNat = true := by unfold bt; simp
theorem bt_nat (l : List Int) (x y : Nat) : bt l ((x : Int), (y : Int)) = (rN l y).testBit x := by unfold bt; simp
theorem rN_out {l : List Int} {y : Nat} (h : l.length ≤ y) : rN l y = 0 := by unfold rN; simp [List.getD, List.getElem?_eq_none h]
theorem tb_lt {n W x : Nat} (h : n < 2 ^ W) (hx : n.testBit x = true) : x < W := by
  by_cases h1 : x < W
  · exact h1
  · have h2 : n < 2 ^ x := Nat.lt_of_lt_of_le h (Nat.pow_le_pow_right (by omega) (by omega))
    rw [Nat.testBit_lt_two_pow h2] at hx
    cases hx
theorem Rg.bt_in {W H : Nat} {l : List Int} (h : Rg W H l) {q : Cl} (hq : bt l q = true) : (0 ≤ q.1 ∧ q.1 < W) ∧ 0 ≤ q.2 ∧ q.2 < H := by
  obtain ⟨h1, h2, h3⟩ := (bt_iff l q).1 hq
  have hy : q.2.toNat < H := by
    by_cases hy : q.2.toNat < H
    · exact hy
    · rw [rN_out (by have := h.len; omega)] at h3
      simp at h3
  have := tb_lt (h.nat hy).2.1 h3
  omega
theorem Rg.ext {W H : Nat} {a b : List Int} (ha : Rg W H a) (hb : Rg W H b) (h : ∀ q, bt a q = true ↔ bt b q = true) : a = b := by
  apply List.ext_getElem?
  intro y
  by_cases hy : y < H
  · have e : rN a y = rN b y := by
      apply Nat.eq_of_testBit_eq
      intro x
      have := h ((x : Int), (y : Int))
      rw [bt_nat, bt_nat] at this
      rw [Bool.eq_iff_iff]
      exact this
    have h1 := (ha.nat hy).1
    have h2 := (hb.nat hy).1
    rw [e, ← h2] at h1
    have ya : y < a.length := by rw [ha.len]; exact hy
    have yb : y < b.length := by rw [hb.len]; exact hy
    rw [List.getElem?_eq_getElem ya, List.getElem?_eq_getElem yb]
    simpa [List.getD, ya, yb] using h1
  · rw [List.getElem?_eq_none (by have := ha.len; omega), List.getElem?_eq_none (by have := hb.len; omega)]
def zerosR (H : Nat) : List Int := List.replicate H 0
theorem rN_zeros (H y : Nat) : rN (zerosR H) y = 0 := by unfold rN zerosR; by_cases h : y < H <;> simp [List.getD, h]
theorem bt_zeros (H : Nat) (q : Cl) : bt (zerosR H) q = false := by unfold bt; rw [rN_zeros]; simp
theorem zeros_get (H y : Nat) : (zerosR H).getD y 0 = 0 := by unfold zerosR; by_cases h : y < H <;> simp [List.getD, h]
theorem Rg.zeros {W H : Nat} (h1 : 1 ≤ W) (h2 : W ≤ 6) (h3 : 1 ≤ H) (h4 : H ≤ 6) : Rg W H (zerosR H) :=
  ⟨h1, h2, h3, h4, by simp [zerosR], fun j _ => by rw [zeros_get]; exact ⟨Int.le_refl _, Int.pow_pos (by omega)⟩⟩
/-- One cell more, one cell less. -/
def setB (l : List Int) (q : Cl) : List Int := l.set q.2.toNat ((rN l q.2.toNat ||| 2 ^ q.1.toNat : Nat) : Int)
def clrN (n x : Nat) : Nat := if n.testBit x = true then n - 2 ^ x else n
def clrB (l : List Int) (q : Cl) : List Int := l.set q.2.toNat ((clrN (rN l q.2.toNat) q.1.toNat : Nat) : Int)
theorem rN_set (l : List Int) {y : Nat} (hy : y < l.length) (n j : Nat) : rN (l.set y (n : Int)) j = if j = y then n else rN l j := by
  unfold rN
  by_cases e : j = y
  · subst e; simp [List.getD, hy]
  · have e2 : ¬ y = j := fun h => e h.symm
    simp [List.getD, e, e2]
theorem clr_bits : ∀ n, n < 64 → ∀ x, x < 6 → ∀ y, y < 6 → (clrN n x).testBit y = (n.testBit y && !decide (y = x)) := by decide +kernel
theorem clrN_le (n x : Nat) : clrN n x ≤ n := by
  unfold clrN
  split
  · exact Nat.sub_le _ _
  · exact Nat.le_refl _
theorem clr_bit {n x : Nat} (hn : n < 64) (hx : x < 6) (y : Nat) : (clrN n x).testBit y = (n.testBit y && !decide (y = x)) := by
  by_cases hy : y < 6
  · exact clr_bits n hn x hx y hy
  · have h1 : 64 ≤ 2 ^ y := Nat.pow_le_pow_right (show 0 < 2 by omega) (show 6 ≤ y by omega)
    have := clrN_le n x
    rw [Nat.testBit_lt_two_pow (show clrN n x < 2 ^ y by omega), Nat.testBit_lt_two_pow (show n < 2 ^ y by omega)]
    rfl
theorem set_bit (n x y : Nat) : (n ||| 2 ^ x).testBit y = (n.testBit y || decide (y = x)) := by
  rw [Nat.testBit_or, Nat.testBit_two_pow]
  congr 1
  rw [Bool.eq_iff_iff]
  simp [eq_comm]
def inG (W H : Nat) (q : Cl) : Prop := (0 ≤ q.1 ∧ q.1 < W) ∧ 0 ≤ q.2 ∧ q.2 < H
theorem Rg.rows {W H : Nat} {l : List Int} (h : Rg W H l) {y n : Nat} (hy : y < H) (hn : n < 2 ^ W) : Rg W H (l.set y (n : Int)) :=
  ⟨h.w0, h.w6, h.h0, h.h6, by rw [List.length_set]; exact h.len, fun j hj => by
    by_cases e : j = y
    · subst e
      have : (l.set j (n : Int)).getD j 0 = (n : Int) := by simp [List.getD, h.len, hj]
      rw [this]
      have e : ((2 ^ W : Nat) : Int) = (2 : Int) ^ W := by simp
      rw [← e]
      omega
    · have e2 : ¬ y = j := fun h => e h.symm
      have : (l.set y (n : Int)).getD j 0 = l.getD j 0 := by simp [List.getD, e2]
      rw [this]
      exact h.row j hj⟩
theorem Rg.set {W H : Nat} {l : List Int} (h : Rg W H l) {q : Cl} (hq : inG W H q) : Rg W H (setB l q) := by
  have hy : q.2.toNat < H := by have := hq.2; omega
  have hx : q.1.toNat < W := by have := hq.1; omega
  exact h.rows hy (Nat.or_lt_two_pow (h.nat hy).2.1 (Nat.pow_lt_pow_right (by omega) hx))
theorem Rg.clr {W H : Nat} {l : List Int} (h : Rg W H l) {q : Cl} (hq : inG W H q) : Rg W H (clrB l q) := by
  have hy : q.2.toNat < H := by have := hq.2; omega
  exact h.rows hy (Nat.lt_of_le_of_lt (clrN_le _ _) (h.nat hy).2.1)
theorem cl_eq {p q : Cl} (hp : 0 ≤ p.1 ∧ 0 ≤ p.2) (hq : 0 ≤ q.1 ∧ 0 ≤ q.2) : p = q ↔ p.2.toNat = q.2.toNat ∧ p.1.toNat = q.1.toNat := by
  constructor
  · rintro rfl; exact ⟨rfl, rfl⟩
  · rintro ⟨h1, h2⟩
    obtain ⟨a, b⟩ := p
    obtain ⟨c, d⟩ := q
    dsimp only at *
    congr 1 <;> omega
theorem Rg.bt_set {W H : Nat} {l : List Int} (h : Rg W H l) {q : Cl} (hq : inG W H q) (p : Cl) : bt (setB l q) p = true ↔ bt l p = true ∨ p = q := by
  have hy : q.2.toNat < l.length := by have := hq.2; have := h.len; omega
  rw [bt_iff, bt_iff]
  unfold setB
  rw [rN_set l hy]
  have hq0 : 0 ≤ q.1 ∧ 0 ≤ q.2 := ⟨hq.1.1, hq.2.1⟩
  by_cases e : p.2.toNat = q.2.toNat
  · rw [if_pos e, set_bit, Bool.or_eq_true, decide_eq_true_eq, ← e]
    constructor
    · rintro ⟨h1, h2, h3 | h3⟩
      · exact .inl ⟨h1, h2, h3⟩
      · exact .inr ((cl_eq ⟨h1, h2⟩ hq0).2 ⟨e, h3⟩)
    · rintro (⟨h1, h2, h3⟩ | rfl)
      · exact ⟨h1, h2, .inl h3⟩
      · exact ⟨hq0.1, hq0.2, .inr rfl⟩
  · rw [if_neg e]
    constructor
    · exact fun h => .inl h
    · rintro (h | rfl)
      · exact h
      · exact absurd rfl e
theorem Rg.bt_clr {W H : Nat} {l : List Int} (h : Rg W H l) {q : Cl} (hq : inG W H q) (p : Cl) : bt (clrB l q) p = true ↔ bt l p = true ∧ p ≠ q := by
  have hyH : q.2.toNat < H := by have := hq.2; omega
  have hy : q.2.toNat < l.length := by have := h.len; omega
  have hx6 : q.1.toNat < 6 := by have := hq.1; have := h.w6; omega
  rw [bt_iff, bt_iff]
  unfold clrB
  rw [rN_set l hy]
  have hq0 : 0 ≤ q.1 ∧ 0 ≤ q.2 := ⟨hq.1.1, hq.2.1⟩
  by_cases e : p.2.toNat = q.2.toNat
  · rw [if_pos e, clr_bit (h.nat hyH).2.2 hx6, Bool.and_eq_true, ← e]
    constructor
    · rintro ⟨h1, h2, h3, h4⟩
      refine ⟨⟨h1, h2, h3⟩, ?_⟩
      rintro rfl
      simp at h4
    · rintro ⟨⟨h1, h2, h3⟩, h4⟩
      refine ⟨h1, h2, h3, ?_⟩
      simp only [Bool.not_eq_true', decide_eq_false_iff_not]
      exact fun h5 => h4 ((cl_eq ⟨h1, h2⟩ hq0).2 ⟨e, h5⟩)
  · rw [if_neg e]
    constructor
    · intro h5
      refine ⟨h5, ?_⟩
      rintro rfl
      exact e rfl
    · exact fun h => h.1
theorem add_bit : ∀ n, n < 64 → ∀ x, x < 6 → n.testBit x = false → n + 2 ^ x = n ||| 2 ^ x := by decide +kernel
theorem shr_bit : ∀ n, n < 64 → ∀ x, x < 6 → n / 2 ^ x &&& 1 = (n.testBit x).toNat := by decide +kernel

/-! ### The cells in order -/
def cellsB (W H : Nat) (l : List Int) : List Cl := (gTo W H).filter (bt l)
theorem mem_cellsB {W H : Nat} {l : List Int} (h : Rg W H l) (q : Cl) : q ∈ cellsB W H l ↔ bt l q = true := by
  unfold cellsB
  rw [List.mem_filter, mem_gTo]
  constructor
  · exact fun h => h.2
  · intro hq
    have := h.bt_in hq
    exact ⟨⟨this.2, this.1⟩, hq⟩
theorem cellsB_srt (W H : Nat) (l : List Int) : Srt (cellsB W H l) := List.Pairwise.sublist List.filter_sublist (gTo_srt W H)
theorem cellsB_len (W H : Nat) (l : List Int) (hW : W ≤ 6) (hH : H ≤ 6) : (cellsB W H l).length ≤ 36 := by
  have h1 := List.length_filter_le (bt l) (gTo W H)
  rw [gTo_len] at h1
  have := Nat.mul_le_mul hW hH
  unfold cellsB
  omega
theorem cellsB_in {W H : Nat} {l : List Int} (hW : W ≤ 6) (hH : H ≤ 6) : ∀ c ∈ cellsB W H l, (0 ≤ c.1 ∧ c.1 < 6) ∧ 0 ≤ c.2 ∧ c.2 < 6 := fun c hc => by
  have := (mem_gTo W c H).1 (List.mem_filter.1 hc).1
  omega
def cellsR (W : Int) (l : List Int) : List Cl := if isReg W l = true then cellsB W.toNat l.length l else []
theorem cellsR_yes {W H : Nat} {l : List Int} (h : Rg W H l) : cellsR W l = cellsB W H l := by
  unfold cellsR
  rw [if_pos (isReg_of h), h.len]
  rfl
theorem cellsR_no {W : Int} {l : List Int} (h : isReg W l = false) : cellsR W l = [] := if_neg (by rw [h]; simp)
theorem cellsR_in (W : Int) (l : List Int) : ∀ c ∈ cellsR W l, (0 ≤ c.1 ∧ c.1 < 6) ∧ 0 ≤ c.2 ∧ c.2 < 6 := by
  cases h : isReg W l with
  | false => rw [cellsR_no h]; intro c hc; cases hc
  | true =>
    obtain ⟨n, rfl, hr⟩ := isReg_out h
    rw [cellsR_yes hr]
    exact cellsB_in hr.w6 hr.h6
theorem cellsR_len (W : Int) (l : List Int) : (cellsR W l).length ≤ 36 := by
  cases h : isReg W l with
  | false => rw [cellsR_no h]; simp
  | true =>
    obtain ⟨n, rfl, hr⟩ := isReg_out h
    rw [cellsR_yes hr]
    exact cellsB_len _ _ _ hr.w6 hr.h6
theorem cellsR_inC (W : Int) (l : List Int) : ∀ c ∈ cellsR W l, InC c := fun c hc => by
  have := cellsR_in W l c hc
  unfold InC
  omega
/-! ### How many -/
def areaR (W : Int) (l : List Int) : Int := if isReg W l = true then ((cellsR W l).length : Int) else -1
def popc (n : Nat) : Nat := ((List.range 6).filter n.testBit).length
theorem pop_row : ∀ n, n < 64 → ∀ W, W ≤ 6 → n < 2 ^ W → ((List.range W).filter n.testBit).length = popc n := by decide +kernel
theorem gRow_bits (l : List Int) (y : Nat) : ∀ x, ((gRow (y : Int) x).filter (bt l)).length = ((List.range x).filter (rN l y).testBit).length
  | 0 => rfl
  | x + 1 => by
    rw [gRow, List.filter_append, List.length_append, gRow_bits l y x, List.range_succ, List.filter_append, List.length_append]
    congr 1
    have := bt_nat l x y
    cases h : (rN l y).testBit x <;> rw [h] at this <;> simp [this, h]
theorem area_step {W H : Nat} {l : List Int} (h : Rg W H l) {y : Nat} (hy : y < H) : (cellsB W (y + 1) l).length = (cellsB W y l).length + popc (rN l y) := by
  unfold cellsB
  rw [gTo, List.filter_append, List.length_append, gRow_bits, pop_row _ (h.nat hy).2.2 _ h.w6 (h.nat hy).2.1]
theorem popc_le (n : Nat) : popc n ≤ 6 := by
  have := List.length_filter_le n.testBit (List.range 6)
  rw [List.length_range] at this
  exact this
theorem areaR_yes {W H : Nat} {l : List Int} (h : Rg W H l) : areaR W l = ((cellsB W H l).length : Int) := by
  unfold areaR
  rw [if_pos (isReg_of h), cellsR_yes h]
theorem areaR_no {W : Int} {l : List Int} (h : isReg W l = false) : areaR W l = -1 := if_neg (by rw [h]; simp)
/-! ### Colours -/
def colTo (k : Nat) (cs : List Cl) : Nat → List Int
  | 0 => List.replicate k 0
  | j + 1 => (colTo k cs j).set (((cs.getD j (0, 0)).1 + (cs.getD j (0, 0)).2).toNat % k) ((colTo k cs j).getD (((cs.getD j (0, 0)).1 + (cs.getD j (0, 0)).2).toNat % k) 0 + 1)
theorem colTo_len (k : Nat) (cs : List Cl) : ∀ j, (colTo k cs j).length = k
  | 0 => by simp [colTo]
  | j + 1 => by rw [colTo, List.length_set, colTo_len k cs j]
theorem colTo_bd (k : Nat) (cs : List Cl) : ∀ j i, 0 ≤ (colTo k cs j).getD i 0 ∧ (colTo k cs j).getD i 0 ≤ j
  | 0, i => by by_cases h : i < k <;> simp [colTo, List.getD, h]
  | j + 1, i => by
    rw [colTo]
    have h1 := colTo_bd k cs j i
    generalize ((cs.getD j (0, 0)).1 + (cs.getD j (0, 0)).2).toNat % k = m
    have h2 := colTo_bd k cs j m
    by_cases e : m = i
    · subst e
      by_cases hm : m < (colTo k cs j).length
      · have e2 : ((colTo k cs j).set m ((colTo k cs j).getD m 0 + 1)).getD m 0 = (colTo k cs j).getD m 0 + 1 := by
          generalize (colTo k cs j).getD m 0 + 1 = v
          simp [List.getD, hm]
        rw [e2]
        omega
      · have e2 : ((colTo k cs j).set m ((colTo k cs j).getD m 0 + 1)).getD m 0 = 0 := by
          rw [List.getD, List.getElem?_eq_none (by rw [List.length_set]; omega)]
          rfl
        rw [e2]
        omega
    · have e2 : ((colTo k cs j).set m ((colTo k cs j).getD m 0 + 1)).getD i 0 = (colTo k cs j).getD i 0 := by
        generalize (colTo k cs j).getD m 0 + 1 = v
        simp [List.getD, e]
      rw [e2]
      omega
def colR (W : Int) (l : List Int) (k : Int) : List Int := if (isReg W l && inb k 1 6) = true then colTo k.toNat (cellsR W l) (cellsR W l).length else []
/-! ### As text -/
def rowB (l : List Int) (y x : Nat) : List UInt8 := (List.range x).map fun (j : Nat) => if bt l ((j : Int), (y : Int)) = true then 35 else 46
def fmtT (W : Nat) (l : List Int) : Nat → List UInt8
  | 0 => []
  | y + 1 => fmtT W l y ++ ((if y = 0 then [] else [47]) ++ rowB l y W)
def fmtR (W : Int) (l : List Int) : List UInt8 := if isReg W l = true then fmtT W.toNat l l.length else []
theorem rowB_step (l : List Int) (y x : Nat) : rowB l y (x + 1) = rowB l y x ++ [if bt l ((x : Int), (y : Int)) = true then 35 else 46] := by
  unfold rowB
  rw [List.range_succ, List.map_append]
  rfl
theorem rowB_ln (l : List Int) (y x : Nat) : (rowB l y x).length = x := by simp [rowB]
theorem fmtT_le (W : Nat) (l : List Int) : ∀ y, (fmtT W l y).length ≤ (W + 1) * y
  | 0 => by simp [fmtT]
  | y + 1 => by
    have := fmtT_le W l y
    rw [fmtT, List.length_append, List.length_append, rowB_ln, Nat.mul_succ]
    split
    · simp; omega
    · simp; omega
theorem fmtR_yes {W H : Nat} {l : List Int} (h : Rg W H l) : fmtR W l = fmtT W l H := by
  unfold fmtR
  rw [if_pos (isReg_of h), h.len]
  rfl
theorem fmtR_no {W : Int} {l : List Int} (h : isReg W l = false) : fmtR W l = [] := if_neg (by rw [h]; simp)
end

end Go.Proofs.YtailmmamgnebhaaGreatDoor
