/-
  Outlines: common sides, places around, perimeter, rows, squares: plain facts, nothing of the program.
-/
import Derived.Test.YtkcclhnligajeaaDoorPe3
namespace Go.Proofs.YtkcclhnligajeaaDoor

def sumF (f : Nat → Nat) : Nat → Nat
  | 0 => 0
  | k + 1 => sumF f k + f k
theorem sumF_congr {f g : Nat → Nat} : ∀ {n : Nat}, (∀ k, k < n → f k = g k) → sumF f n = sumF g n
  | 0, _ => rfl
  | n + 1, h => by rw [sumF, sumF, sumF_congr fun k hk => h k (by omega), h n (by omega)]
theorem sumF_add (f g : Nat → Nat) : ∀ n, sumF (fun k => f k + g k) n = sumF f n + sumF g n
  | 0 => rfl
  | n + 1 => by rw [sumF, sumF, sumF, sumF_add f g n]; omega
theorem sumF_le {f : Nat → Nat} {b : Nat} (h : ∀ k, f k ≤ b) : ∀ n, sumF f n ≤ b * n
  | 0 => by simp [sumF]
  | n + 1 => by
    have := sumF_le h n
    have := h n
    rw [sumF, Nat.mul_succ]
    omega
theorem toNat_le1 (b : Bool) : b.toNat ≤ 1 := by cases b <;> simp
theorem filter_one (p : Cl → Bool) (c : Cl) : ([c].filter p).length = (p c).toNat := by
  cases h : p c <;> simp [h]
theorem sumF_filter (p : Cl → Bool) (l : List Cl) : ∀ k, k ≤ l.length → sumF (fun j => (p (l.getD j (0, 0))).toNat) k = ((l.take k).filter p).length
  | 0, _ => by simp [sumF]
  | k + 1, h => by
    rw [sumF, sumF_filter p l k (by omega), take_snoc l k (by omega), List.filter_append, List.length_append, filter_one]

/-! ### Sides -/
theorem nb_back02 (c : Cl) : nbC (nbC c 0) 2 = c ∧ nbC (nbC c 2) 0 = c ∧ nbC (nbC c 1) 3 = c ∧ nbC (nbC c 3) 1 = c := by
  obtain ⟨x, y⟩ := c
  refine ⟨?_, ?_, ?_, ?_⟩
  · rw [nb0, nb2]; congr 1; omega
  · rw [nb2, nb0]; congr 1; omega
  · rw [nb1, nb3]; congr 1; omega
  · rw [nb3, nb1]; congr 1; omega
def nbI (l : List Cl) (d j : Nat) : Nat := (hasC l (nbC (l.getD j (0, 0)) d).1 (nbC (l.getD j (0, 0)) d).2).toNat
theorem nbI_le (l : List Cl) (d j : Nat) : nbI l d j ≤ 1 := toNat_le1 _
theorem nb_fil_le {l : List Cl} (hn : l.Nodup) (d e : Nat) (h : ∀ c, nbC (nbC c d) e = c) : (l.filter fun c => hasC l (nbC c d).1 (nbC c d).2).length ≤ (l.filter fun c => hasC l (nbC c e).1 (nbC c e).2).length := by
  have h2 := nodup_sub_len ((l.filter fun c => hasC l (nbC c d).1 (nbC c d).2).map fun c => nbC c d) (l.filter fun c => hasC l (nbC c e).1 (nbC c e).2) (by
    refine List.Pairwise.map _ (fun a b hab => ?_) (List.Pairwise.filter _ hn)
    intro he
    have h3 : nbC (nbC a d) e = nbC (nbC b d) e := congrArg (fun c => nbC c e) he
    rw [h, h] at h3
    exact hab h3) (fun x hx => by
    obtain ⟨c, hc, rfl⟩ := List.mem_map.1 hx
    rw [List.mem_filter] at hc ⊢
    exact ⟨(hasC_iff l _).1 hc.2, by rw [h]; exact (hasC_iff l c).2 hc.1⟩)
  rw [List.length_map] at h2
  exact h2
theorem nb_sum {l : List Cl} (hn : l.Nodup) (d e : Nat) (h1 : ∀ c, nbC (nbC c d) e = c) (h2 : ∀ c, nbC (nbC c e) d = c) : sumF (nbI l d) l.length = sumF (nbI l e) l.length := by
  have e1 := sumF_filter (fun c => hasC l (nbC c d).1 (nbC c d).2) l l.length (Nat.le_refl _)
  have e2 := sumF_filter (fun c => hasC l (nbC c e).1 (nbC c e).2) l l.length (Nat.le_refl _)
  rw [List.take_of_length_le (Nat.le_refl _)] at e1 e2
  have h3 := nb_fil_le hn d e h1
  have h4 := nb_fil_le hn e d h2
  unfold nbI
  rw [e1, e2]
  omega
/-- The common sides, as the program counts them: to the right and down. -/
def innI (l : List Cl) (k : Nat) : Nat := sumF (fun j => nbI l 0 j + nbI l 1 j) k
/-- The pairs of cells that are near, as the model counts them. -/
def prR (l : List Cl) (i m : Nat) : Nat := sumF (fun j => (nearC (l.getD i (0, 0)) (l.getD j (0, 0))).toNat) m
def prTo (l : List Cl) (k : Nat) : Nat := sumF (fun i => prR l i i) k
theorem hasC_snoc (l : List Cl) (a c : Cl) : hasC (l ++ [a]) c.1 c.2 = (hasC l c.1 c.2 || decide (a = c)) := by
  rw [Bool.eq_iff_iff, hasC_iff, Bool.or_eq_true, hasC_iff, decide_eq_true_eq, List.mem_append, List.mem_singleton]
  exact or_congr Iff.rfl eq_comm
theorem near_bef {a x : Cl} (h : bef x a = true) : nearC a x = true ↔ x = nbC a 2 ∨ x = nbC a 3 := by
  obtain ⟨p, q⟩ := a
  obtain ⟨u, v⟩ := x
  rw [nearC_iff, nb2, nb3]
  rw [bef_iff] at h
  dsimp only at h ⊢
  constructor
  · rintro (⟨h1, h2 | h2⟩ | ⟨h1, h2 | h2⟩)
    · exact .inr (by congr 1 <;> omega)
    · omega
    · exact .inl (by congr 1 <;> omega)
    · omega
  · rintro (h1 | h1) <;> (injection h1 with h2 h3; omega)
theorem prR_eq {l : List Cl} (hs : Srt l) {i : Nat} (hi : i < l.length) : ∀ m, m ≤ i → prR l i m = (hasC (l.take m) (nbC (l.getD i (0, 0)) 2).1 (nbC (l.getD i (0, 0)) 2).2).toNat + (hasC (l.take m) (nbC (l.getD i (0, 0)) 3).1 (nbC (l.getD i (0, 0)) 3).2).toNat
  | 0, _ => by simp [prR, sumF, hasC]
  | m + 1, h => by
    have ih := prR_eq hs hi m (by omega)
    have hb := srt_getD hs (i := m) (j := i) (by omega) hi
    have hno : l.getD m (0, 0) ∉ l.take m := fun hc => by
      obtain ⟨j, hj, hj2, e⟩ := mem_take_getD hc
      have := srt_getD hs (i := j) (j := m) hj (by omega)
      rw [e, bef_irr] at this
      cases this
    have hnr := near_bef hb
    have hstep : prR l i (m + 1) = prR l i m + (nearC (l.getD i (0, 0)) (l.getD m (0, 0))).toNat := rfl
    rw [hstep, ih, take_snoc l m (by omega), hasC_snoc, hasC_snoc]
    generalize l.getD m (0, 0) = x at *
    generalize l.getD i (0, 0) = c at *
    have hne : nbC c 2 ≠ nbC c 3 := by
      obtain ⟨p, q⟩ := c
      rw [nb2, nb3]
      intro e
      injection e with e1 e2
      omega
    by_cases h1 : x = nbC c 2
    · have e1 : hasC (l.take m) (nbC c 2).1 (nbC c 2).2 = false := by
        rw [← h1, ← Bool.not_eq_true, hasC_iff]
        exact hno
      have e2 : nearC c x = true := hnr.2 (.inl h1)
      have e3 : decide (x = nbC c 3) = false := by rw [decide_eq_false_iff_not, h1]; exact hne
      rw [e1, e2, e3, decide_eq_true h1]
      simp
      omega
    · by_cases h2 : x = nbC c 3
      · have e1 : hasC (l.take m) (nbC c 3).1 (nbC c 3).2 = false := by
          rw [← h2, ← Bool.not_eq_true, hasC_iff]
          exact hno
        have e2 : nearC c x = true := hnr.2 (.inr h2)
        rw [e1, e2, decide_eq_false h1, decide_eq_true h2]
        simp
      · have e2 : nearC c x = false := by
          rw [← Bool.not_eq_true, hnr]
          rintro (h3 | h3)
          · exact h1 h3
          · exact h2 h3
        rw [e2, decide_eq_false h1, decide_eq_false h2]
        simp
theorem bef_nb (c : Cl) : bef (nbC c 2) c = true ∧ bef (nbC c 3) c = true := by
  obtain ⟨x, y⟩ := c
  rw [nb2, nb3, bef_iff, bef_iff]
  dsimp only
  omega
theorem hasC_take {l : List Cl} (hs : Srt l) {i : Nat} (hi : i < l.length) {c : Cl} (hb : bef c (l.getD i (0, 0)) = true) : hasC (l.take i) c.1 c.2 = hasC l c.1 c.2 := by
  rw [Bool.eq_iff_iff, hasC_iff, hasC_iff]
  refine ⟨fun h => List.mem_of_mem_take h, fun h => ?_⟩
  obtain ⟨j, hj, rfl⟩ := mem_getD h
  by_cases hji : j < i
  · rw [List.mem_take_iff_getElem]
    exact ⟨j, by omega, by simp [List.getD, hj]⟩
  · by_cases e : j = i
    · subst e
      rw [bef_irr] at hb
      cases hb
    · have := bef_asym (srt_getD hs (i := i) (j := j) (by omega) hj)
      rw [hb] at this
      cases this
/-- The two ways to count common sides agree. -/
theorem inn_eq {l : List Cl} (hs : Srt l) : prTo l l.length = innI l l.length := by
  have hb := nb_back02
  have e1 : prTo l l.length = sumF (fun j => nbI l 2 j + nbI l 3 j) l.length := by
    unfold prTo
    refine sumF_congr fun i hi => ?_
    rw [prR_eq hs hi i (Nat.le_refl _), hasC_take hs hi (bef_nb _).1, hasC_take hs hi (bef_nb _).2]
    rfl
  unfold innI
  rw [e1, sumF_add, sumF_add, nb_sum (srt_nodup hs) 2 0 (fun c => (hb c).2.1) (fun c => (hb c).1), nb_sum (srt_nodup hs) 3 1 (fun c => (hb c).2.2.2) (fun c => (hb c).2.2.1)]
theorem innI_le (l : List Cl) (k : Nat) : innI l k ≤ 2 * k := sumF_le (fun j => by have := nbI_le l 0 j; have := nbI_le l 1 j; omega) k
theorem innI_step (l : List Cl) (k : Nat) : innI l (k + 1) = innI l k + (nbI l 0 k + nbI l 1 k) := rfl
theorem prR_le (l : List Cl) (i m : Nat) : prR l i m ≤ m := by
  have := sumF_le (f := fun j => (nearC (l.getD i (0, 0)) (l.getD j (0, 0))).toNat) (b := 1) (fun j => toNat_le1 _) m
  unfold prR
  omega

/-! ### The places around -/
def arRow (l : List Cl) (c : Cl) : Nat → List Cl
  | 0 => []
  | d + 1 => if hasC l (nbC c d).1 (nbC c d).2 = true then arRow l c d else arRow l c d ++ [nbC c d]
def arTo (l : List Cl) : Nat → List Cl
  | 0 => []
  | k + 1 => arTo l k ++ arRow l (l.getD k (0, 0)) 4
theorem arRow_yes {l : List Cl} {c : Cl} {d : Nat} (h : hasC l (nbC c d).1 (nbC c d).2 = true) : arRow l c (d + 1) = arRow l c d := if_pos h
theorem arRow_no {l : List Cl} {c : Cl} {d : Nat} (h : hasC l (nbC c d).1 (nbC c d).2 = false) : arRow l c (d + 1) = arRow l c d ++ [nbC c d] := if_neg (by rw [h]; simp)
theorem arRow_len (l : List Cl) (c : Cl) : ∀ d, (arRow l c d).length + sumF (fun e => (hasC l (nbC c e).1 (nbC c e).2).toNat) d = d
  | 0 => rfl
  | d + 1 => by
    have ih := arRow_len l c d
    rw [sumF]
    cases h : hasC l (nbC c d).1 (nbC c d).2 with
    | true => rw [arRow_yes h, Bool.toNat_true]; omega
    | false => rw [arRow_no h, Bool.toNat_false, List.length_append, List.length_singleton]; omega
theorem arTo_len (l : List Cl) : ∀ k, (arTo l k).length + (sumF (nbI l 0) k + sumF (nbI l 1) k + sumF (nbI l 2) k + sumF (nbI l 3) k) = 4 * k
  | 0 => rfl
  | k + 1 => by
    have ih := arTo_len l k
    have h4 := arRow_len l (l.getD k (0, 0)) 4
    rw [arTo, List.length_append]
    simp only [sumF] at h4 ⊢
    unfold nbI at ih ⊢
    omega
theorem arTo_le (l : List Cl) (k : Nat) : (arTo l k).length ≤ 4 * k := by have := arTo_len l k; omega
theorem arRow_le (l : List Cl) (c : Cl) (d : Nat) : (arRow l c d).length ≤ d := by have := arRow_len l c d; omega
/-- The perimeter by the places around and by the common sides. -/
theorem perim {l : List Cl} (hs : Srt l) : (arTo l l.length).length + 2 * innI l l.length = 4 * l.length := by
  have h := arTo_len l l.length
  have hb := nb_back02
  have e2 := nb_sum (srt_nodup hs) 2 0 (fun c => (hb c).2.1) (fun c => (hb c).1)
  have e3 := nb_sum (srt_nodup hs) 3 1 (fun c => (hb c).2.2.2) (fun c => (hb c).2.2.1)
  unfold innI
  rw [sumF_add]
  omega
theorem mem_arRow (l : List Cl) (c x : Cl) : ∀ d, x ∈ arRow l c d ↔ ∃ e, e < d ∧ x = nbC c e ∧ x ∉ l
  | 0 => by simp [arRow]
  | d + 1 => by
    have ih := mem_arRow l c x d
    cases h : hasC l (nbC c d).1 (nbC c d).2 with
    | true =>
      rw [arRow_yes h, ih]
      constructor
      · rintro ⟨e, he, h1⟩; exact ⟨e, by omega, h1⟩
      · rintro ⟨e, he, h1, h2⟩
        by_cases e9 : e = d
        · subst e9; exact absurd ((hasC_iff l _).1 h) (h1 ▸ h2)
        · exact ⟨e, by omega, h1, h2⟩
    | false =>
      rw [arRow_no h, List.mem_append, List.mem_singleton, ih]
      constructor
      · rintro (⟨e, he, h1⟩ | h1)
        · exact ⟨e, by omega, h1⟩
        · exact ⟨d, by omega, h1, by rw [h1, ← hasC_iff, h]; simp⟩
      · rintro ⟨e, he, h1, h2⟩
        by_cases e9 : e = d
        · subst e9; exact .inr h1
        · exact .inl ⟨e, by omega, h1, h2⟩
theorem mem_arTo (l : List Cl) (x : Cl) : ∀ k, k ≤ l.length → (x ∈ arTo l k → ∃ c ∈ l, ∃ d, d < 4 ∧ x = nbC c d ∧ x ∉ l)
  | 0, _ => by simp [arTo]
  | k + 1, hk => by
    rw [arTo, List.mem_append, mem_arRow]
    rintro (h | ⟨d, hd, h1, h2⟩)
    · exact mem_arTo l x k (by omega) h
    · exact ⟨_, getD_mem (l := l) (j := k) (by omega), d, hd, h1, h2⟩

/-! ### The places around, each once, as the model lists them -/
def neRow (l acc : List Cl) (c : Cl) : Nat → List Cl
  | 0 => acc
  | d + 1 => if hasC l (nbC c d).1 (nbC c d).2 = true ∨ hasC (neRow l acc c d) (nbC c d).1 (nbC c d).2 = true then neRow l acc c d else neRow l acc c d ++ [nbC c d]
def neTo (l : List Cl) : Nat → List Cl
  | 0 => []
  | k + 1 => neRow l (neTo l k) (l.getD k (0, 0)) 4
theorem neRow_yes {l acc : List Cl} {c : Cl} {d : Nat} (h : hasC l (nbC c d).1 (nbC c d).2 = true ∨ hasC (neRow l acc c d) (nbC c d).1 (nbC c d).2 = true) : neRow l acc c (d + 1) = neRow l acc c d := if_pos h
theorem neRow_no {l acc : List Cl} {c : Cl} {d : Nat} (h1 : hasC l (nbC c d).1 (nbC c d).2 = false) (h2 : hasC (neRow l acc c d) (nbC c d).1 (nbC c d).2 = false) : neRow l acc c (d + 1) = neRow l acc c d ++ [nbC c d] := if_neg (by rw [h1, h2]; simp)
theorem neRow_facts {l acc : List Cl} (c : Cl) (ha : acc.Nodup) : ∀ d, (neRow l acc c d).Nodup ∧ (∀ x, x ∈ neRow l acc c d ↔ x ∈ acc ∨ x ∈ arRow l c d) ∧ (neRow l acc c d).length ≤ acc.length + d
  | 0 => ⟨ha, by simp [neRow, arRow], by simp [neRow]⟩
  | d + 1 => by
    obtain ⟨i1, i2, i3⟩ := neRow_facts (l := l) c ha d
    cases h : hasC l (nbC c d).1 (nbC c d).2 with
    | true =>
      rw [neRow_yes (.inl h), arRow_yes h]
      exact ⟨i1, i2, by omega⟩
    | false =>
      rw [arRow_no h]
      cases h2 : hasC (neRow l acc c d) (nbC c d).1 (nbC c d).2 with
      | true =>
        rw [neRow_yes (.inr h2)]
        refine ⟨i1, fun x => ?_, by omega⟩
        rw [i2, List.mem_append, List.mem_singleton]
        constructor
        · rintro (h3 | h3)
          · exact .inl h3
          · exact .inr (.inl h3)
        · rintro (h3 | h3 | h3)
          · exact .inl h3
          · exact .inr h3
          · exact (i2 x).1 (h3 ▸ (hasC_iff _ _).1 h2)
      | false =>
        rw [neRow_no h h2]
        have hno : nbC c d ∉ neRow l acc c d := by rw [← hasC_iff, h2]; simp
        refine ⟨?_, fun x => ?_, by rw [List.length_append, List.length_singleton]; omega⟩
        · rw [List.nodup_append]
          exact ⟨i1, by simp, fun p hp q hq e => by rw [List.mem_singleton] at hq; subst hq; exact hno (e ▸ hp)⟩
        · rw [List.mem_append, i2, List.mem_append, List.mem_singleton]
          exact or_assoc
theorem neTo_facts (l : List Cl) : ∀ k, (neTo l k).Nodup ∧ (∀ x, x ∈ neTo l k ↔ x ∈ arTo l k) ∧ (neTo l k).length ≤ 4 * k
  | 0 => ⟨by simp [neTo], by simp [neTo, arTo], by simp [neTo]⟩
  | k + 1 => by
    obtain ⟨i1, i2, i3⟩ := neTo_facts l k
    obtain ⟨j1, j2, j3⟩ := neRow_facts (l := l) (l.getD k (0, 0)) i1 4
    rw [neTo, arTo]
    refine ⟨j1, fun x => ?_, by omega⟩
    rw [j2, i2, List.mem_append]
theorem ne_len (l : List Cl) (k : Nat) : (neTo l k).length = (sortU (arTo l k)).length := by
  obtain ⟨i1, i2, _⟩ := neTo_facts l k
  refine Nat.le_antisymm (nodup_sub_len _ _ i1 fun x hx => (sortU_mem _ x).2 ((i2 x).1 hx)) (nodup_sub_len _ _ (srt_nodup (sortU_srt _)) fun x hx => (i2 x).2 ((sortU_mem _ x).1 hx))

/-! ### Rows and squares -/
def rcAt (l : List Cl) (i : Nat) : Bool := !(decide ((l.getD (i + 1) (0, 0)).2 = (l.getD i (0, 0)).2) && !decide ((l.getD (i + 1) (0, 0)).1 = (l.getD i (0, 0)).1 + 1))
def rcTo (l : List Cl) (k : Nat) : Bool := (List.range k).all (rcAt l)
def rowC (l : List Cl) : Bool := isShape l && rcTo l (l.length - 1)
theorem rcTo_step (l : List Cl) (k : Nat) : rcTo l (k + 1) = (rcTo l k && rcAt l k) := by
  unfold rcTo
  rw [List.range_succ, List.all_append]
  simp
theorem rcTo_false {l : List Cl} {k n : Nat} (h : rcAt l k = false) (hk : k < n) : rcTo l n = false := by
  unfold rcTo
  rw [← Bool.not_eq_true, List.all_eq_true]
  intro h2
  have := h2 k (List.mem_range.2 hk)
  rw [h] at this
  cases this
def sqAt (l : List Cl) (j : Nat) : Bool := hasC l ((l.getD j (0, 0)).1 + 1) (l.getD j (0, 0)).2 && hasC l (l.getD j (0, 0)).1 ((l.getD j (0, 0)).2 + 1) && hasC l ((l.getD j (0, 0)).1 + 1) ((l.getD j (0, 0)).2 + 1)
def sqTo (l : List Cl) (k : Nat) : Nat := sumF (fun j => (sqAt l j).toNat) k
theorem sqTo_le (l : List Cl) (k : Nat) : sqTo l k ≤ k := by
  have := sumF_le (f := fun j => (sqAt l j).toNat) (b := 1) (fun j => toNat_le1 _) k
  unfold sqTo
  omega
theorem sqTo_step (l : List Cl) (k : Nat) : sqTo l (k + 1) = sqTo l k + (sqAt l k).toNat := rfl

/-! ### One cell more, at the places around -/
def extOv (ps l : List Cl) : List (List Cl) := ps.flatMap fun p => if isShape (moreC l p) = true then [moreC l p] else []
theorem extOv_snoc (ps l : List Cl) (p : Cl) : extOv (ps ++ [p]) l = extOv ps l ++ (if isShape (moreC l p) = true then [moreC l p] else []) := by simp [extOv]
theorem extRow_ov (l : List Cl) (i : Nat) : ∀ d, extRow l i d = extOv (arRow l (l.getD i (0, 0)) d) l
  | 0 => rfl
  | d + 1 => by
    have ih := extRow_ov l i d
    rw [extRow, ih, extAt]
    cases h : hasC l (nbC (l.getD i (0, 0)) d).1 (nbC (l.getD i (0, 0)) d).2 with
    | true => rw [arRow_yes h, if_pos rfl, List.append_nil]
    | false => rw [arRow_no h, extOv_snoc, if_neg (by simp)]
theorem extTo_ov (l : List Cl) : ∀ k, extTo l k = extOv (arTo l k) l
  | 0 => rfl
  | k + 1 => by
    rw [extTo, arTo, extTo_ov l k, extRow_ov]
    unfold extOv
    rw [List.flatMap_append]
theorem extOv_step {ps l : List Cl} {k : Nat} (hk : k < ps.length) : extOv (ps.take (k + 1)) l = extOv (ps.take k) l ++ (if isShape (moreC l (ps.getD k (0, 0))) = true then [moreC l (ps.getD k (0, 0))] else []) := by
  rw [take_snoc ps k hk, extOv_snoc]
theorem extOv_yes {ps l : List Cl} {k : Nat} {p : Cl} (hk : k < ps.length) (hp : ps.getD k (0, 0) = p) (h : isShape (moreC l p) = true) : extOv (ps.take (k + 1)) l = extOv (ps.take k) l ++ [moreC l p] := by
  rw [extOv_step hk, hp, if_pos h]
theorem extOv_no {ps l : List Cl} {k : Nat} {p : Cl} (hk : k < ps.length) (hp : ps.getD k (0, 0) = p) (h : isShape (moreC l p) = false) : extOv (ps.take (k + 1)) l = extOv (ps.take k) l := by
  rw [extOv_step hk, hp, if_neg (by rw [h]; simp), List.append_nil]

end Go.Proofs.YtkcclhnligajeaaDoor
