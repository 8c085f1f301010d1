/-
  Cells read back from rows of marks; rows put in order: plain facts.
  Outlines: common sides, places around, perimeter, rows, squares: plain facts, nothing of the program.
-/
import Derived.Test.YtkcclhnligajeaaGreatDoorVae
namespace Go.Proofs.YtkcclhnligajeaaGreatDoor

section
/-- The cells of a row, up to place x. -/
def cellsRow (r y : Nat) : Nat → List Cl
  | 0 => []
  | x + 1 => cellsRow r y x ++ (if r.testBit x = true then [((x : Int), (y : Int))] else [])
/-- The cells of the first rows. -/
def cellsTo (R : Nat → Nat) : Nat → List Cl
  | 0 => []
  | y + 1 => cellsTo R y ++ cellsRow (R y) y 8
theorem cellsRow_yes {r y x : Nat} (h : r.testBit x = true) : cellsRow r y (x + 1) = cellsRow r y x ++ [((x : Int), (y : Int))] := by simp [cellsRow, h]
theorem cellsRow_no {r y x : Nat} (h : r.testBit x = false) : cellsRow r y (x + 1) = cellsRow r y x := by simp [cellsRow, h]
theorem mem_cellsRow (r y : Nat) (c : Cl) : ∀ n, c ∈ cellsRow r y n ↔ ∃ x, x < n ∧ r.testBit x = true ∧ c = ((x : Int), (y : Int))
  | 0 => by simp [cellsRow]
  | n + 1 => by
    cases h : r.testBit n with
    | true =>
      rw [cellsRow_yes h, List.mem_append, mem_cellsRow r y c n, List.mem_singleton]
      constructor
      · rintro (⟨x, hx, h2, h3⟩ | h2)
        · exact ⟨x, by omega, h2, h3⟩
        · exact ⟨n, by omega, h, h2⟩
      · rintro ⟨x, hx, h2, h3⟩
        by_cases e : x = n
        · subst e; exact .inr h3
        · exact .inl ⟨x, by omega, h2, h3⟩
    | false =>
      rw [cellsRow_no h, mem_cellsRow r y c n]
      constructor
      · rintro ⟨x, hx, h2, h3⟩
        exact ⟨x, by omega, h2, h3⟩
      · rintro ⟨x, hx, h2, h3⟩
        by_cases e : x = n
        · subst e; rw [h] at h2; cases h2
        · exact ⟨x, by omega, h2, h3⟩
theorem mem_cellsTo (R : Nat → Nat) (c : Cl) : ∀ n, c ∈ cellsTo R n ↔ ∃ y, y < n ∧ ∃ x, x < 8 ∧ (R y).testBit x = true ∧ c = ((x : Int), (y : Int))
  | 0 => by simp [cellsTo]
  | n + 1 => by
    simp only [cellsTo]
    rw [List.mem_append, mem_cellsTo R c n, mem_cellsRow]
    constructor
    · rintro (⟨y, hy, h⟩ | h)
      · exact ⟨y, by omega, h⟩
      · exact ⟨n, by omega, h⟩
    · rintro ⟨y, hy, h⟩
      by_cases e : y = n
      · subst e; exact .inr h
      · exact .inl ⟨y, by omega, h⟩
theorem srt_cellsRow (r y : Nat) : ∀ n, Srt (cellsRow r y n)
  | 0 => List.Pairwise.nil
  | n + 1 => by
    cases h : r.testBit n with
    | true =>
      rw [cellsRow_yes h]
      unfold Srt
      rw [List.pairwise_append]
      refine ⟨srt_cellsRow r y n, by simp, fun a ha b hb => ?_⟩
      rw [List.mem_singleton] at hb
      subst hb
      obtain ⟨x, hx, _, rfl⟩ := (mem_cellsRow r y a n).1 ha
      rw [bef_iff]
      dsimp only
      omega
    | false =>
      rw [cellsRow_no h]
      exact srt_cellsRow r y n
theorem srt_cellsTo (R : Nat → Nat) : ∀ n, Srt (cellsTo R n)
  | 0 => List.Pairwise.nil
  | n + 1 => by
    simp only [cellsTo]
    unfold Srt
    rw [List.pairwise_append]
    refine ⟨srt_cellsTo R n, srt_cellsRow _ _ _, fun a ha b hb => ?_⟩
    obtain ⟨y, hy, x, _, _, rfl⟩ := (mem_cellsTo R a n).1 ha
    obtain ⟨x2, _, _, rfl⟩ := (mem_cellsRow _ _ b 8).1 hb
    rw [bef_iff]
    dsimp only
    omega
theorem cellsRow_le (r y : Nat) : ∀ n, (cellsRow r y n).length ≤ n
  | 0 => by simp [cellsRow]
  | n + 1 => by
    have := cellsRow_le r y n
    cases h : r.testBit n with
    | true => rw [cellsRow_yes h]; simp; omega
    | false => rw [cellsRow_no h]; omega
theorem cellsTo_le (R : Nat → Nat) : ∀ n, (cellsTo R n).length ≤ 8 * n
  | 0 => by simp [cellsTo]
  | n + 1 => by
    have := cellsTo_le R n
    have := cellsRow_le (R n) n 8
    simp only [cellsTo, List.length_append]
    omega
theorem cellsRow_in (r y n : Nat) (hy : y < 8) (hn : n ≤ 8) : ∀ c ∈ cellsRow r y n, inP c = true := fun c hc => by
  obtain ⟨x, hx, _, rfl⟩ := (mem_cellsRow r y c n).1 hc
  exact inP_mk (by dsimp only; omega) (by dsimp only; omega)
theorem cellsTo_in (R : Nat → Nat) (n : Nat) (hn : n ≤ 8) : ∀ c ∈ cellsTo R n, inP c = true := fun c hc => by
  obtain ⟨y, hy, x, hx, _, rfl⟩ := (mem_cellsTo R c n).1 hc
  exact inP_mk (by dsimp only; omega) (by dsimp only; omega)
/-- A shape is read back from its marks. -/
theorem cells_marks {l : List Cl} (h : isShape l = true) : cellsTo (allR l) 8 = l := by
  obtain ⟨_, hin, hs⟩ := (isShape_iff l).1 h
  refine srt_unique (srt_cellsTo _ 8) hs fun c => ?_
  rw [mem_cellsTo]
  constructor
  · rintro ⟨y, _, x, _, hb, rfl⟩
    exact (allR_bit hin x y).1 hb
  · intro hc
    have hp := inP_out (hin c hc)
    obtain ⟨a, b⟩ := c
    dsimp only at hp
    refine ⟨b.toNat, by omega, a.toNat, by omega, (allR_bit hin _ _).2 ?_, ?_⟩
    · have e1 : ((a.toNat : Nat) : Int) = a := by omega
      have e2 : ((b.toNat : Nat) : Int) = b := by omega
      rw [e1, e2]
      exact hc
    · have e1 : ((a.toNat : Nat) : Int) = a := by omega
      have e2 : ((b.toNat : Nat) : Int) = b := by omega
      rw [e1, e2]
theorem marks_inj {l r : List Cl} (h : isShape l = true) (k : isShape r = true) (e : ∀ y, y < 8 → allR l y = allR r y) : l = r := by
  have h1 := cells_marks h
  have h2 := cells_marks k
  have key : ∀ n, n ≤ 8 → cellsTo (allR l) n = cellsTo (allR r) n := by
    intro n
    induction n with
    | zero => intro _; rfl
    | succ n ih => intro hn; simp only [cellsTo]; rw [ih (by omega), e n (by omega)]
  rw [← h1, ← h2]
  exact key 8 (by omega)
theorem allR_lt {l : List Cl} (h : ∀ c ∈ l, inP c = true) (y : Nat) : allR l y < 256 := rowTo_lt l h y l.length (Nat.le_refl _)

/-! ### A list in order, all different -/
theorem srt_of_sorted {α β : Type} {lt : β → β → Bool} (O : OrdG lt) (key : α → β) {fs : List α} (h : fs.Pairwise fun a b => lt (key b) (key a) = false) (hn : (fs.map key).Nodup) : SrtG lt (fs.map key) := by
  unfold SrtG
  rw [List.pairwise_map]
  have h2 : fs.Pairwise fun a b => key a ≠ key b := List.pairwise_map.1 hn
  refine (h.and h2).imp fun {a b} hab => ?_
  cases hl : lt (key a) (key b) with
  | true => rfl
  | false => exact absurd (O.total hl hab.1) hab.2

/-! ### One cell more, as the program does it -/
theorem moreC_prog (l : List Cl) (x : Cl) : moreC l x = sortU (cornerC (l ++ [x])) := cornerC_sortU (by simp)
theorem nb0 (x y : Int) : nbC (x, y) 0 = (x + 1, y) := by simp [nbC]
theorem nb1 (x y : Int) : nbC (x, y) 1 = (x, y + 1) := by simp [nbC]
theorem nb2 (x y : Int) : nbC (x, y) 2 = (x - 1, y) := by
  unfold nbC
  have e1 : ((1 : Int) - ((2 : Nat) : Int)).tmod 2 = -1 := by decide
  have e2 : ((2 : Int) - ((2 : Nat) : Int)).tmod 2 = 0 := by decide
  rw [e1, e2, Int.add_zero]
  rfl
theorem nb3 (x y : Int) : nbC (x, y) 3 = (x, y - 1) := by
  unfold nbC
  have e1 : ((1 : Int) - ((3 : Nat) : Int)).tmod 2 = 0 := by decide
  have e2 : ((2 : Int) - ((3 : Nat) : Int)).tmod 2 = -1 := by decide
  rw [e1, e2, Int.add_zero]
  rfl
/-- The four cells beside one, in turn. -/
def nbsC (c : Cl) : List Cl := [nbC c 0, nbC c 1, nbC c 2, nbC c 3]
theorem extS_of {l : List Cl} (h : isShape l = true) (h8 : l.length ≠ 8) : extS l = sortG ltS [] (extTo l l.length) := if_pos (by simp [h, h8])
theorem extS_not {l : List Cl} (h : isShape l = false) : extS l = [] := if_neg (by simp [h])
theorem extS_full {l : List Cl} (h : l.length = 8) : extS l = [] := if_neg (by simp [h])
theorem extTo_shape {l x : List Cl} {n : Nat} (h : x ∈ extTo l n) : isShape x = true := by
  obtain ⟨i, _, d, _, hx⟩ := (mem_extTo l x n).1 h
  obtain ⟨_, h2, rfl⟩ := (mem_extAt l i d x).1 hx
  exact h2
theorem extRow_shape {l x : List Cl} {i n : Nat} (h : x ∈ extRow l i n) : isShape x = true := by
  obtain ⟨d, _, hx⟩ := (mem_extRow l i x n).1 h
  obtain ⟨_, h2, rfl⟩ := (mem_extAt l i d x).1 hx
  exact h2
/-- All that the shapes before the k-th become. -/
def extAll (L : List (List Cl)) (k : Nat) : List (List Cl) := (L.take k).flatMap fun x => extTo x x.length
theorem extAll_succ (L : List (List Cl)) (k : Nat) (h : k < L.length) : extAll L (k + 1) = extAll L k ++ extTo (L.getD k []) (L.getD k []).length := by
  unfold extAll
  rw [List.take_succ_eq_append_getElem h, List.flatMap_append]
  simp [List.getD, h]
theorem fixT_next (k : Nat) (hk : k < 7) : fixT (k + 1) = sortG ltS [] (extAll (fixT k) (fixT k).length) := by
  refine sortG_unique ordS [] (fixT_srt (k + 1)) fun x => ?_
  simp only [fixT, sortG_mem ordS, extAll, List.take_length, List.mem_flatMap]
  constructor
  · rintro ⟨y, hy, hx⟩
    have h := fixT_shape k hy
    rw [extS_of h.1 (by omega), sortG_mem ordS] at hx
    exact ⟨y, hy, hx⟩
  · rintro ⟨y, hy, hx⟩
    have h := fixT_shape k hy
    refine ⟨y, hy, ?_⟩
    rw [extS_of h.1 (by omega), sortG_mem ordS]
    exact hx
theorem extAll_le (L : List (List Cl)) (h : ∀ x ∈ L, x.length ≤ 8) : ∀ k, k ≤ L.length → (extAll L k).length ≤ 32 * k
  | 0, _ => by simp [extAll]
  | k + 1, hk => by
    rw [extAll_succ L k (by omega), List.length_append]
    have := extAll_le L h k (by omega)
    have h1 := h (L.getD k []) (by simp [List.getD, show k < L.length by omega])
    have := extTo_le (L.getD k []) (L.getD k []).length
    omega
/-! ### One cell less, as the program does it -/
def parAt (l : List Cl) (i : Nat) (b : Bool) : List (List Cl) := if b = true then [cornerC (delC l i)] else []
noncomputable def parTo (l : List Cl) : Nat → List (List Cl)
  | 0 => []
  | i + 1 => parTo l i ++ parAt l i (@decide (Conn (delC l i)) (Classical.propDecidable _))
theorem parTo_yes {l : List Cl} {i : Nat} (h : Conn (delC l i)) : parTo l (i + 1) = parTo l i ++ [cornerC (delC l i)] := by simp [parTo, parAt, h]
theorem parTo_no {l : List Cl} {i : Nat} (h : ¬ Conn (delC l i)) : parTo l (i + 1) = parTo l i := by simp [parTo, parAt, h]
theorem mem_parTo (l : List Cl) (x : List Cl) : ∀ k, x ∈ parTo l k ↔ ∃ i, i < k ∧ Conn (delC l i) ∧ x = cornerC (delC l i)
  | 0 => by simp [parTo]
  | k + 1 => by
    rcases Classical.em (Conn (delC l k)) with h | h
    · rw [parTo_yes h, List.mem_append, mem_parTo l x k, List.mem_singleton]
      constructor
      · rintro (⟨i, hi, h2⟩ | h2)
        · exact ⟨i, by omega, h2⟩
        · exact ⟨k, by omega, h, h2⟩
      · rintro ⟨i, hi, h2, h3⟩
        by_cases e : i = k
        · subst e; exact .inr h3
        · exact .inl ⟨i, by omega, h2, h3⟩
    · rw [parTo_no h, mem_parTo l x k]
      constructor
      · rintro ⟨i, hi, h2⟩
        exact ⟨i, by omega, h2⟩
      · rintro ⟨i, hi, h2, h3⟩
        by_cases e : i = k
        · subst e; exact absurd h2 h
        · exact ⟨i, by omega, h2, h3⟩
theorem parTo_shape {l x : List Cl} {k : Nat} (h : x ∈ parTo l k) : isShape x = true := by
  obtain ⟨i, _, hc, rfl⟩ := (mem_parTo l x k).1 h
  exact isShape_corner hc.1
theorem isPar_parTo {l : List Cl} (h : isShape l = true) : IsPar l (sortG ltS [] (parTo l l.length)) :=
  ⟨sortG_srt ordS [] _, fun x => by
    rw [sortG_mem ordS, mem_parTo]
    exact ⟨fun h2 => ⟨h, h2⟩, fun h2 => h2.2⟩⟩
theorem parToL_le (l : List Cl) : ∀ k, (parTo l k).length ≤ k
  | 0 => by simp [parTo]
  | k + 1 => by
    have := parToL_le l k
    rcases Classical.em (Conn (delC l k)) with h | h
    · rw [parTo_yes h]; simp; omega
    · rw [parTo_no h]; omega
end

section
def sumF (f : Nat → Nat) : Nat → Nat
  | 0 => 0
  | k + 1 => sumF f k + f k
theorem sumF_congr {f g : Nat → Nat} : ∀ {n : Nat}, (∀ k, k < n → f k = g k) → sumF f n = sumF g n
  | 0, _ => rfl
  | n + 1, h => by rw [sumF, sumF, sumF_congr fun k hk => h k (by omega), h n (by omega)]
theorem sumF_add (f g : Nat → Nat) : ∀ n, sumF (fun k => f k + g k) n = sumF f n + sumF g n
  | 0 => rfl
  | n + 1 => by rw [sumF, sumF, sumF, sumF_add f g n]; omega
theorem sumF_le {f : Nat → Nat} {b : Nat} (h : ∀ k, f k ≤ b) : ∀ n, sumF f n ≤ b * n
  | 0 => by simp [sumF]
  | n + 1 => by
    have := sumF_le h n
    have := h n
    rw [sumF, Nat.mul_succ]
    omega
theorem toNat_le1 (b : Bool) : b.toNat ≤ 1 := by cases b <;> simp
theorem filter_one (p : Cl → Bool) (c : Cl) : ([c].filter p).length = (p c).toNat := by
  cases h : p c <;> simp [h]
theorem sumF_filter (p : Cl → Bool) (l : List Cl) : ∀ k, k ≤ l.length → sumF (fun j => (p (l.getD j (0, 0))).toNat) k = ((l.take k).filter p).length
  | 0, _ => by simp [sumF]
  | k + 1, h => by
    rw [sumF, sumF_filter p l k (by omega), take_snoc l k (by omega), List.filter_append, List.length_append, filter_one]

/-! ### Sides -/
theorem nb_back02 (c : Cl) : nbC (nbC c 0) 2 = c ∧ nbC (nbC c 2) 0 = c ∧ nbC (nbC c 1) 3 = c ∧ nbC (nbC c 3) 1 = c := by
  obtain ⟨x, y⟩ := c
  refine ⟨?_, ?_, ?_, ?_⟩
  · rw [nb0, nb2]; congr 1; omega
  · rw [nb2, nb0]; congr 1; omega
  · rw [nb1, nb3]; congr 1; omega
  · rw [nb3, nb1]; congr 1; omega
def nbI (l : List Cl) (d j : Nat) : Nat := (hasC l (nbC (l.getD j (0, 0)) d).1 (nbC (l.getD j (0, 0)) d).2).toNat
theorem nbI_le (l : List Cl) (d j : Nat) : nbI l d j ≤ 1 := toNat_le1 _
theorem nb_fil_le {l : List Cl} (hn : l.Nodup) (d e : Nat) (h : ∀ c, nbC (nbC c d) e = c) : (l.filter fun c => hasC l (nbC c d).1 (nbC c d).2).length ≤ (l.filter fun c => hasC l (nbC c e).1 (nbC c e).2).length := by
  have h2 := nodup_sub_len ((l.filter fun c => hasC l (nbC c d).1 (nbC c d).2).map fun c => nbC c d) (l.filter fun c => hasC l (nbC c e).1 (nbC c e).2) (by
    refine List.Pairwise.map _ (fun a b hab => ?_) (List.Pairwise.filter _ hn)
    intro he
    have h3 : nbC (nbC a d) e = nbC (nbC b d) e := congrArg (fun c => nbC c e) he
    rw [h, h] at h3
    exact hab h3) (fun x hx => by
    obtain ⟨c, hc, rfl⟩ := List.mem_map.1 hx
    rw [List.mem_filter] at hc ⊢
    exact ⟨(hasC_iff l _).1 hc.2, by rw [h]; exact (hasC_iff l c).2 hc.1⟩)
  rw [List.length_map] at h2
  exact h2
theorem nb_sum {l : List Cl} (hn : l.Nodup) (d e : Nat) (h1 : ∀ c, nbC (nbC c d) e = c) (h2 : ∀ c, nbC (nbC c e) d = c) : sumF (nbI l d) l.length = sumF (nbI l e) l.length := by
  have e1 := sumF_filter (fun c => hasC l (nbC c d).1 (nbC c d).2) l l.length (Nat.le_refl _)
  have e2 := sumF_filter (fun c => hasC l (nbC c e).1 (nbC c e).2) l l.length (Nat.le_refl _)
  rw [List.take_of_length_le (Nat.le_refl _)] at e1 e2
  have h3 := nb_fil_le hn d e h1
  have h4 := nb_fil_le hn e d h2
  unfold nbI
  rw [e1, e2]
  omega
/-- The common sides, as the program counts them: to the right and down. -/
def innI (l : List Cl) (k : Nat) : Nat := sumF (fun j => nbI l 0 j + nbI l 1 j) k
/-- The pairs of cells that are near, as the model counts them. -/
def prR (l : List Cl) (i m : Nat) : Nat := sumF (fun j => (nearC (l.getD i (0, 0)) (l.getD j (0, 0))).toNat) m
def prTo (l : List Cl) (k : Nat) : Nat := sumF (fun i => prR l i i) k
theorem hasC_snoc (l : List Cl) (a c : Cl) : hasC (l ++ [a]) c.1 c.2 = (hasC l c.1 c.2 || decide (a = c)) := by
  rw [Bool.eq_iff_iff, hasC_iff, Bool.or_eq_true, hasC_iff, decide_eq_true_eq, List.mem_append, List.mem_singleton]
  exact or_congr Iff.rfl eq_comm
theorem near_bef {a x : Cl} (h : bef x a = true) : nearC a x = true ↔ x = nbC a 2 ∨ x = nbC a 3 := by
  obtain ⟨p, q⟩ := a
  obtain ⟨u, v⟩ := x
  rw [nearC_iff, nb2, nb3]
  rw [bef_iff] at h
  dsimp only at h ⊢
  constructor
  · rintro (⟨h1, h2 | h2⟩ | ⟨h1, h2 | h2⟩)
    · exact .inr (by congr 1 <;> omega)
    · omega
    · exact .inl (by congr 1 <;> omega)
    · omega
  · rintro (h1 | h1) <;> (injection h1 with h2 h3; omega)
theorem prR_eq {l : List Cl} (hs : Srt l) {i : Nat} (hi : i < l.length) : ∀ m, m ≤ i → prR l i m = (hasC (l.take m) (nbC (l.getD i (0, 0)) 2).1 (nbC (l.getD i (0, 0)) 2).2).toNat + (hasC (l.take m) (nbC (l.getD i (0, 0)) 3).1 (nbC (l.getD i (0, 0)) 3).2).toNat
  | 0, _ => by simp [prR, sumF, hasC]
  | m + 1, h => by
    have ih := prR_eq hs hi m (by omega)
    have hb := srt_getD hs (i := m) (j := i) (by omega) hi
    have hno : l.getD m (0, 0) ∉ l.take m := fun hc => by
      obtain ⟨j, hj, hj2, e⟩ := mem_take_getD hc
      have := srt_getD hs (i := j) (j := m) hj (by omega)
      rw [e, bef_irr] at this
      cases this
    have hnr := near_bef hb
    have hstep : prR l i (m + 1) = prR l i m + (nearC (l.getD i (0, 0)) (l.getD m (0, 0))).toNat := rfl
    rw [hstep, ih, take_snoc l m (by omega), hasC_snoc, hasC_snoc]
    generalize l.getD m (0, 0) = x at *
    generalize l.getD i (0, 0) = c at *
    have hne : nbC c 2 ≠ nbC c 3 := by
      obtain ⟨p, q⟩ := c
      rw [nb2, nb3]
      intro e
      injection e with e1 e2
      omega
    by_cases h1 : x = nbC c 2
    · have e1 : hasC (l.take m) (nbC c 2).1 (nbC c 2).2 = false := by
        rw [← h1, ← Bool.not_eq_true, hasC_iff]
        exact hno
      have e2 : nearC c x = true := hnr.2 (.inl h1)
      have e3 : decide (x = nbC c 3) = false := by rw [decide_eq_false_iff_not, h1]; exact hne
      rw [e1, e2, e3, decide_eq_true h1]
      simp
      omega
    · by_cases h2 : x = nbC c 3
      · have e1 : hasC (l.take m) (nbC c 3).1 (nbC c 3).2 = false := by
          rw [← h2, ← Bool.not_eq_true, hasC_iff]
          exact hno
        have e2 : nearC c x = true := hnr.2 (.inr h2)
        rw [e1, e2, decide_eq_false h1, decide_eq_true h2]
        simp
      · have e2 : nearC c x = false := by
          rw [← Bool.not_eq_true, hnr]
          rintro (h3 | h3)
          · exact h1 h3
          · exact h2 h3
        rw [e2, decide_eq_false h1, decide_eq_false h2]
        simp
theorem bef_nb (c : Cl) : bef (nbC c 2) c = true ∧ bef (nbC c 3) c = true := by
  obtain ⟨x, y⟩ := c
  rw [nb2, nb3, bef_iff, bef_iff]
  dsimp only
  omega
theorem hasC_take {l : List Cl} (hs : Srt l) {i : Nat} (hi : i < l.length) {c : Cl} (hb : bef c (l.getD i (0, 0)) = true) : hasC (l.take i) c.1 c.2 = hasC l c.1 c.2 := by
  rw [Bool.eq_iff_iff, hasC_iff, hasC_iff]
  refine ⟨fun h => List.mem_of_mem_take h, fun h => ?_⟩
  obtain ⟨j, hj, rfl⟩ := mem_getD h
  by_cases hji : j < i
  · rw [List.mem_take_iff_getElem]
    exact ⟨j, by omega, by simp [List.getD, hj]⟩
  · by_cases e : j = i
    · subst e
      rw [bef_irr] at hb
      cases hb
    · have := bef_asym (srt_getD hs (i := i) (j := j) (by omega) hj)
      rw [hb] at this
      cases this
/-- The two ways to count common sides agree. -/
theorem inn_eq {l : List Cl} (hs : Srt l) : prTo l l.length = innI l l.length := by
  have hb := nb_back02
  have e1 : prTo l l.length = sumF (fun j => nbI l 2 j + nbI l 3 j) l.length := by
    unfold prTo
    refine sumF_congr fun i hi => ?_
    rw [prR_eq hs hi i (Nat.le_refl _), hasC_take hs hi (bef_nb _).1, hasC_take hs hi (bef_nb _).2]
    rfl
  unfold innI
  rw [e1, sumF_add, sumF_add, nb_sum (srt_nodup hs) 2 0 (fun c => (hb c).2.1) (fun c => (hb c).1), nb_sum (srt_nodup hs) 3 1 (fun c => (hb c).2.2.2) (fun c => (hb c).2.2.1)]
theorem innI_le (l : List Cl) (k : Nat) : innI l k ≤ 2 * k := sumF_le (fun j => by have := nbI_le l 0 j; have := nbI_le l 1 j; omega) k
theorem innI_step (l : List Cl) (k : Nat) : innI l (k + 1) = innI l k + (nbI l 0 k + nbI l 1 k) := rfl
theorem prR_le (l : List Cl) (i m : Nat) : prR l i m ≤ m := by
  have := sumF_le (f := fun j => (nearC (l.getD i (0, 0)) (l.getD j (0, 0))).toNat) (b := 1) (fun j => toNat_le1 _) m
  unfold prR
  omega

/-! ### The places around -/
def arRow (l : List Cl) (c : Cl) : Nat → List Cl
  | 0 => []
  | d + 1 => if hasC l (nbC c d).1 (nbC c d).2 = true then arRow l c d else arRow l c d ++ [nbC c d]
def arTo (l : List Cl) : Nat → List Cl
  | 0 => []
  | k + 1 => arTo l k ++ arRow l (l.getD k (0, 0)) 4
theorem arRow_yes {l : List Cl} {c : Cl} {d : Nat} (h : hasC l (nbC c d).1 (nbC c d).2 = true) : arRow l c (d + 1) = arRow l c d := if_pos h
theorem arRow_no {l : List Cl} {c : Cl} {d : Nat} (h : hasC l (nbC c d).1 (nbC c d).2 = false) : arRow l c (d + 1) = arRow l c d ++ [nbC c d] := if_neg (by rw [h]; simp)
theorem arRow_len (l : List Cl) (c : Cl) : ∀ d, (arRow l c d).length + sumF (fun e => (hasC l (nbC c e).1 (nbC c e).2).toNat) d = d
  | 0 => rfl
  | d + 1 => by
    have ih := arRow_len l c d
    rw [sumF]
    cases h : hasC l (nbC c d).1 (nbC c d).2 with
    | true => rw [arRow_yes h, Bool.toNat_true]; omega
    | false => rw [arRow_no h, Bool.toNat_false, List.length_append, List.length_singleton]; omega
theorem arTo_len (l : List Cl) : ∀ k, (arTo l k).length + (sumF (nbI l 0) k + sumF (nbI l 1) k + sumF (nbI l 2) k + sumF (nbI l 3) k) = 4 * k
  | 0 => rfl
  | k + 1 => by
    have ih := arTo_len l k
    have h4 := arRow_len l (l.getD k (0, 0)) 4
    rw [arTo, List.length_append]
    simp only [sumF] at h4 ⊢
    unfold nbI at ih ⊢
    omega
theorem arTo_le (l : List Cl) (k : Nat) : (arTo l k).length ≤ 4 * k := by have := arTo_len l k; omega
theorem arRow_le (l : List Cl) (c : Cl) (d : Nat) : (arRow l c d).length ≤ d := by have := arRow_len l c d; omega
/-- The perimeter by the places around and by the common sides. -/
theorem perim {l : List Cl} (hs : Srt l) : (arTo l l.length).length + 2 * innI l l.length = 4 * l.length := by
  have h := arTo_len l l.length
  have hb := nb_back02
  have e2 := nb_sum (srt_nodup hs) 2 0 (fun c => (hb c).2.1) (fun c => (hb c).1)
  have e3 := nb_sum (srt_nodup hs) 3 1 (fun c => (hb c).2.2.2) (fun c => (hb c).2.2.1)
  unfold innI
  rw [sumF_add]
  omega
theorem mem_arRow (l : List Cl) (c x : Cl) : ∀ d, x ∈ arRow l c d ↔ ∃ e, e < d ∧ x = nbC c e ∧ x ∉ l
  | 0 => by simp [arRow]
  | d + 1 => by
    have ih := mem_arRow l c x d
    cases h : hasC l (nbC c d).1 (nbC c d).2 with
    | true =>
      rw [arRow_yes h, ih]
      constructor
      · rintro ⟨e, he, h1⟩; exact ⟨e, by omega, h1⟩
      · rintro ⟨e, he, h1, h2⟩
        by_cases e9 : e = d
        · subst e9; exact absurd ((hasC_iff l _).1 h) (h1 ▸ h2)
        · exact ⟨e, by omega, h1, h2⟩
    | false =>
      rw [arRow_no h, List.mem_append, List.mem_singleton, ih]
      constructor
      · rintro (⟨e, he, h1⟩ | h1)
        · exact ⟨e, by omega, h1⟩
        · exact ⟨d, by omega, h1, by rw [h1, ← hasC_iff, h]; simp⟩
      · rintro ⟨e, he, h1, h2⟩
        by_cases e9 : e = d
        · subst e9; exact .inr h1
        · exact .inl ⟨e, by omega, h1, h2⟩
theorem mem_arTo (l : List Cl) (x : Cl) : ∀ k, k ≤ l.length → (x ∈ arTo l k → ∃ c ∈ l, ∃ d, d < 4 ∧ x = nbC c d ∧ x ∉ l)
  | 0, _ => by simp [arTo]
  | k + 1, hk => by
    rw [arTo, List.mem_append, mem_arRow]
    rintro (h | ⟨d, hd, h1, h2⟩)
    · exact mem_arTo l x k (by omega) h
    · exact ⟨_, getD_mem (l := l) (j := k) (by omega), d, hd, h1, h2⟩

/-! ### The places around, each once, as the model lists them -/
def neRow (l acc : List Cl) (c : Cl) : Nat → List Cl
  | 0 => acc
  | d + 1 => if hasC l (nbC c d).1 (nbC c d).2 = true ∨ hasC (neRow l acc c d) (nbC c d).1 (nbC c d).2 = true then neRow l acc c d else neRow l acc c d ++ [nbC c d]
def neTo (l : List Cl) : Nat → List Cl
  | 0 => []
  | k + 1 => neRow l (neTo l k) (l.getD k (0, 0)) 4
theorem neRow_yes {l acc : List Cl} {c : Cl} {d : Nat} (h : hasC l (nbC c d).1 (nbC c d).2 = true ∨ hasC (neRow l acc c d) (nbC c d).1 (nbC c d).2 = true) : neRow l acc c (d + 1) = neRow l acc c d := if_pos h
theorem neRow_no {l acc : List Cl} {c : Cl} {d : Nat} (h1 : hasC l (nbC c d).1 (nbC c d).2 = false) (h2 : hasC (neRow l acc c d) (nbC c d).1 (nbC c d).2 = false) : neRow l acc c (d + 1) = neRow l acc c d ++ [nbC c d] := if_neg (by rw [h1, h2]; simp)
theorem neRow_facts {l acc : List Cl} (c : Cl) (ha : acc.Nodup) : ∀ d, (neRow l acc c d).Nodup ∧ (∀ x, x ∈ neRow l acc c d ↔ x ∈ acc ∨ x ∈ arRow l c d) ∧ (neRow l acc c d).length ≤ acc.length + d
  | 0 => ⟨ha, by simp [neRow, arRow], by simp [neRow]⟩
  | d + 1 => by
    obtain ⟨i1, i2, i3⟩ := neRow_facts (l := l) c ha d
    cases h : hasC l (nbC c d).1 (nbC c d).2 with
    | true =>
      rw [neRow_yes (.inl h), arRow_yes h]
      exact ⟨i1, i2, by omega⟩
    | false =>
      rw [arRow_no h]
      cases h2 : hasC (neRow l acc c d) (nbC c d).1 (nbC c d).2 with
      | true =>
        rw [neRow_yes (.inr h2)]
        refine ⟨i1, fun x => ?_, by omega⟩
        rw [i2, List.mem_append, List.mem_singleton]
        constructor
        · rintro (h3 | h3)
          · exact .inl h3
          · exact .inr (.inl h3)
        · rintro (h3 | h3 | h3)
          · exact .inl h3
          · exact .inr h3
          · exact (i2 x).1 (h3 ▸ (hasC_iff _ _).1 h2)
      | false =>
        rw [neRow_no h h2]
        have hno : nbC c d ∉ neRow l acc c d := by rw [← hasC_iff, h2]; simp
        refine ⟨?_, fun x => ?_, by rw [List.length_append, List.length_singleton]; omega⟩
        · rw [List.nodup_append]
          exact ⟨i1, by simp, fun p hp q hq e => by rw [List.mem_singleton] at hq; subst hq; exact hno (e ▸ hp)⟩
        · rw [List.mem_append, i2, List.mem_append, List.mem_singleton]
          exact or_assoc
theorem neTo_facts (l : List Cl) : ∀ k, (neTo l k).Nodup ∧ (∀ x, x ∈ neTo l k ↔ x ∈ arTo l k) ∧ (neTo l k).length ≤ 4 * k
  | 0 => ⟨by simp [neTo], by simp [neTo, arTo], by simp [neTo]⟩
  | k + 1 => by
    obtain ⟨i1, i2, i3⟩ := neTo_facts l k
    obtain ⟨j1, j2, j3⟩ := neRow_facts (l := l) (l.getD k (0, 0)) i1 4
    rw [neTo, arTo]
    refine ⟨j1, fun x => ?_, by omega⟩
    rw [j2, i2, List.mem_append]
theorem ne_len (l : List Cl) (k : Nat) : (neTo l k).length = (sortU (arTo l k)).length := by
  obtain ⟨i1, i2, _⟩ := neTo_facts l k
  refine Nat.le_antisymm (nodup_sub_len _ _ i1 fun x hx => (sortU_mem _ x).2 ((i2 x).1 hx)) (nodup_sub_len _ _ (srt_nodup (sortU_srt _)) fun x hx => (i2 x).2 ((sortU_mem _ x).1 hx))

/-! ### Rows and squares -/
def rcAt (l : List Cl) (i : Nat) : Bool := !(decide ((l.getD (i + 1) (0, 0)).2 = (l.getD i (0, 0)).2) && !decide ((l.getD (i + 1) (0, 0)).1 = (l.getD i (0, 0)).1 + 1))
def rcTo (l : List Cl) (k : Nat) : Bool := (List.range k).all (rcAt l)
def rowC (l : List Cl) : Bool := isShape l && rcTo l (l.length - 1)
theorem rcTo_step (l : List Cl) (k : Nat) : rcTo l (k + 1) = (rcTo l k && rcAt l k) := by
  unfold rcTo
  rw [List.range_succ, List.all_append]
  simp
theorem rcTo_false {l : List Cl} {k n : Nat} (h : rcAt l k = false) (hk : k < n) : rcTo l n = false := by
  unfold rcTo
  rw [← Bool.not_eq_true, List.all_eq_true]
  intro h2
  have := h2 k (List.mem_range.2 hk)
  rw [h] at this
  cases this
def sqAt (l : List Cl) (j : Nat) : Bool := hasC l ((l.getD j (0, 0)).1 + 1) (l.getD j (0, 0)).2 && hasC l (l.getD j (0, 0)).1 ((l.getD j (0, 0)).2 + 1) && hasC l ((l.getD j (0, 0)).1 + 1) ((l.getD j (0, 0)).2 + 1)
def sqTo (l : List Cl) (k : Nat) : Nat := sumF (fun j => (sqAt l j).toNat) k
theorem sqTo_le (l : List Cl) (k : Nat) : sqTo l k ≤ k := by
  have := sumF_le (f := fun j => (sqAt l j).toNat) (b := 1) (fun j => toNat_le1 _) k
  unfold sqTo
  omega
theorem sqTo_step (l : List Cl) (k : Nat) : sqTo l (k + 1) = sqTo l k + (sqAt l k).toNat := rfl

/-! ### One cell more, at the places around -/
def extOv (ps l : List Cl) : List (List Cl) := ps.flatMap fun p => if isShape (moreC l p) = true then [moreC l p] else []
theorem extOv_snoc (ps l : List Cl) (p : Cl) : extOv (ps ++ [p]) l = extOv ps l ++ (if isShape (moreC l p) = true then [moreC l p] else []) := by simp [extOv]
theorem extRow_ov (l : List Cl) (i : Nat) : ∀ d, extRow l i d = extOv (arRow l (l.getD i (0, 0)) d) l
  | 0 => rfl
  | d + 1 => by
    have ih := extRow_ov l i d
    rw [extRow, ih, extAt]
    cases h : hasC l (nbC (l.getD i (0, 0)) d).1 (nbC (l.getD i (0, 0)) d).2 with
    | true => rw [arRow_yes h, if_pos rfl, List.append_nil]
    | false => rw [arRow_no h, extOv_snoc, if_neg (by simp)]
theorem extTo_ov (l : List Cl) : ∀ k, extTo l k = extOv (arTo l k) l
  | 0 => rfl
  | k + 1 => by
    rw [extTo, arTo, extTo_ov l k, extRow_ov]
    unfold extOv
    rw [List.flatMap_append]
theorem extOv_step {ps l : List Cl} {k : Nat} (hk : k < ps.length) : extOv (ps.take (k + 1)) l = extOv (ps.take k) l ++ (if isShape (moreC l (ps.getD k (0, 0))) = true then [moreC l (ps.getD k (0, 0))] else []) := by
  rw [take_snoc ps k hk, extOv_snoc]
theorem extOv_yes {ps l : List Cl} {k : Nat} {p : Cl} (hk : k < ps.length) (hp : ps.getD k (0, 0) = p) (h : isShape (moreC l p) = true) : extOv (ps.take (k + 1)) l = extOv (ps.take k) l ++ [moreC l p] := by
  rw [extOv_step hk, hp, if_pos h]
theorem extOv_no {ps l : List Cl} {k : Nat} {p : Cl} (hk : k < ps.length) (hp : ps.getD k (0, 0) = p) (h : isShape (moreC l p) = false) : extOv (ps.take (k + 1)) l = extOv (ps.take k) l := by
  rw [extOv_step hk, hp, if_neg (by rw [h]; simp), List.append_nil]
end

end Go.Proofs.YtkcclhnligajeaaGreatDoor
