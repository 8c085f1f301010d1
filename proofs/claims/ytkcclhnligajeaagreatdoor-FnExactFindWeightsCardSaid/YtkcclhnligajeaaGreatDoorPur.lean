/-
  Cells, shapes, texts of shapes and what hangs together, as lists: plain facts, nothing of the program.
-/
namespace Go.Proofs.YtkcclhnligajeaaGreatDoor

abbrev Cl := Int × Int
def bef (a b : Cl) : Bool := decide (a.2 < b.2) || (decide (a.2 = b.2) && decide (a.1 < b.1))
theorem bef_irr (a : Cl) : bef a a = false := by simp [bef]
theorem bef_iff (a b : Cl) : bef a b = true ↔ a.2 < b.2 ∨ (a.2 = b.2 ∧ a.1 < b.1) := by simp [bef]
theorem bef_not (a b : Cl) : bef a b = false ↔ ¬ (a.2 < b.2 ∨ (a.2 = b.2 ∧ a.1 < b.1)) := by rw [← bef_iff]; simp
theorem bef_trans {a b c : Cl} (h : bef a b = true) (k : bef b c = true) : bef a c = true := by
  rw [bef_iff] at *; omega
theorem bef_asym {a b : Cl} (h : bef a b = true) : bef b a = false := by
  rw [bef_iff] at h; rw [bef_not]; omega
theorem bef_total {a b : Cl} (h : bef a b = false) (k : bef b a = false) : a = b := by
  rw [bef_not] at *
  exact Prod.ext (by omega) (by omega)
/-- In order, each once. -/
def Srt (l : List Cl) : Prop := l.Pairwise fun a b => bef a b = true
theorem srt_unique : ∀ {a b : List Cl}, Srt a → Srt b → (∀ x, x ∈ a ↔ x ∈ b) → a = b := by
  intro a
  induction a with
  | nil => intro b _ _ h; cases b with
    | nil => rfl
    | cons y b => have := (h y).2 (by simp); cases this
  | cons x a ih =>
    intro b ha hb h
    cases b with
    | nil => have := (h x).1 (by simp); cases this
    | cons y b =>
      unfold Srt at ha hb
      rw [List.pairwise_cons] at ha hb
      have hxy : x = y := by
        have h1 := (h x).1 (by simp)
        have h2 := (h y).2 (by simp)
        rw [List.mem_cons] at h1 h2
        rcases h1 with h1 | h1
        · exact h1
        · rcases h2 with h2 | h2
          · exact h2.symm
          · have k1 := hb.1 x h1
            have k2 := ha.1 y h2
            rw [bef_asym k1] at k2
            cases k2
      subst hxy
      congr 1
      apply ih ha.2 hb.2
      intro z
      constructor
      · intro hz
        have h1 := (h z).1 (by simp [hz])
        rw [List.mem_cons] at h1
        rcases h1 with h1 | h1
        · subst h1; have := ha.1 z hz; rw [bef_irr] at this; cases this
        · exact h1
      · intro hz
        have h1 := (h z).2 (by simp [hz])
        rw [List.mem_cons] at h1
        rcases h1 with h1 | h1
        · subst h1; have := hb.1 z hz; rw [bef_irr] at this; cases this
        · exact h1

/-- Where x goes among the first k of o. -/
def posOf (x : Cl) (o : List Cl) : Nat → Nat
  | 0 => 0
  | k + 1 => if bef x (o.getD k (0, 0)) = true then posOf x o k else k + 1
def insU (o : List Cl) (x : Cl) : List Cl := if 0 < posOf x o o.length ∧ o.getD (posOf x o o.length - 1) (0, 0) = x then o else o.take (posOf x o o.length) ++ [x] ++ o.drop (posOf x o o.length)
/-- The cells in order, each once. -/
def sortU (l : List Cl) : List Cl := l.foldl insU []
theorem posOf_le (x : Cl) (o : List Cl) : ∀ k, posOf x o k ≤ k
  | 0 => Nat.le_refl _
  | k + 1 => by unfold posOf; split; exact Nat.le_succ_of_le (posOf_le x o k); exact Nat.le_refl _
theorem posOf_after (x : Cl) (o : List Cl) : ∀ k j, posOf x o k ≤ j → j < k → bef x (o.getD j (0, 0)) = true
  | 0, j, _, h => by omega
  | k + 1, j, h1, h2 => by
    unfold posOf at h1
    split at h1
    · rename_i hb
      by_cases hj : j = k
      · rw [hj]; exact hb
      · exact posOf_after x o k j h1 (by omega)
    · omega
theorem posOf_at (x : Cl) (o : List Cl) : ∀ k, 0 < posOf x o k → bef x (o.getD (posOf x o k - 1) (0, 0)) = false
  | 0, h => by simp [posOf] at h
  | k + 1, h => by
    unfold posOf at h ⊢
    split
    · rename_i hb; rw [if_pos hb] at h; exact posOf_at x o k h
    · rename_i hb; simpa using hb
theorem srt_getD {o : List Cl} (h : Srt o) {i j : Nat} (hij : i < j) (hj : j < o.length) : bef (o.getD i (0, 0)) (o.getD j (0, 0)) = true := by
  have h2 := List.pairwise_iff_getElem.1 h i j (by omega) hj hij
  simpa [List.getD, hj, show i < o.length by omega] using h2
theorem mem_getD {o : List Cl} {x : Cl} (h : x ∈ o) : ∃ j, j < o.length ∧ o.getD j (0, 0) = x := by
  obtain ⟨j, hj, rfl⟩ := List.getElem_of_mem h
  exact ⟨j, hj, by simp [List.getD, hj]⟩
theorem mem_take_getD {o : List Cl} {x : Cl} {k : Nat} (h : x ∈ o.take k) : ∃ j, j < k ∧ j < o.length ∧ o.getD j (0, 0) = x := by
  obtain ⟨j, hj, rfl⟩ := List.getElem_of_mem h
  rw [List.length_take] at hj
  exact ⟨j, by omega, by omega, by simp [List.getD, show j < o.length by omega]⟩
theorem mem_drop_getD {o : List Cl} {x : Cl} {k : Nat} (h : x ∈ o.drop k) : ∃ j, k ≤ j ∧ j < o.length ∧ o.getD j (0, 0) = x := by
  obtain ⟨j, hj, rfl⟩ := List.getElem_of_mem h
  rw [List.length_drop] at hj
  exact ⟨k + j, by omega, by omega, by simp [List.getD, show k + j < o.length by omega]⟩
theorem insU_srt {o : List Cl} (h : Srt o) (x : Cl) : Srt (insU o x) := by
  unfold insU
  split
  · exact h
  · rename_i hne
    have hle := posOf_le x o o.length
    obtain ⟨k, hk⟩ : ∃ k, posOf x o o.length = k := ⟨_, rfl⟩
    have haft := posOf_after x o o.length
    have hat := posOf_at x o o.length
    rw [hk] at hne hle haft hat ⊢
    have hbefore : ∀ a, a ∈ o.take k → bef a x = true := by
      intro a ha
      obtain ⟨j, hj1, hj2, rfl⟩ := mem_take_getD ha
      have h1 := hat (by omega)
      have h2 : bef (o.getD (k - 1) (0, 0)) x = true := by
        cases h3 : bef (o.getD (k - 1) (0, 0)) x with
        | true => rfl
        | false => exact absurd ⟨by omega, bef_total h3 h1⟩ hne
      by_cases hj : j = k - 1
      · rw [hj]; exact h2
      · exact bef_trans (srt_getD h (show j < k - 1 by omega) (by omega)) h2
    unfold Srt
    rw [List.append_assoc, List.pairwise_append]
    refine ⟨h.sublist (List.take_sublist _ _), ?_, ?_⟩
    · rw [List.singleton_append, List.pairwise_cons]
      refine ⟨fun b hb => ?_, h.sublist (List.drop_sublist _ _)⟩
      obtain ⟨j, hj1, hj2, rfl⟩ := mem_drop_getD hb
      exact haft j hj1 hj2
    · intro a ha b hb
      rw [List.singleton_append, List.mem_cons] at hb
      rcases hb with rfl | hb
      · exact hbefore a ha
      · obtain ⟨j, hj1, hj2, rfl⟩ := mem_drop_getD hb
        exact bef_trans (hbefore a ha) (haft j hj1 hj2)
theorem insU_mem {o : List Cl} (x y : Cl) : y ∈ insU o x ↔ y ∈ o ∨ y = x := by
  unfold insU
  split
  · rename_i h
    constructor
    · exact .inl
    · rintro (h1 | rfl)
      · exact h1
      · have hle := posOf_le y o o.length
        obtain ⟨k, hk⟩ : ∃ k, posOf y o o.length = k := ⟨_, rfl⟩
        rw [hk] at h hle
        rw [← h.2]
        simp [List.getD, show k - 1 < o.length by omega]
  · have e : y ∈ o ↔ y ∈ o.take (posOf x o o.length) ∨ y ∈ o.drop (posOf x o o.length) := by
      rw [← List.mem_append, List.take_append_drop]
    rw [e, List.append_assoc]
    simp only [List.mem_append, List.mem_singleton]
    constructor
    · rintro (h | h | h)
      · exact .inl (.inl h)
      · exact .inr h
      · exact .inl (.inr h)
    · rintro ((h | h) | h)
      · exact .inl h
      · exact .inr (.inr h)
      · exact .inr (.inl h)
theorem foldU (l : List Cl) : ∀ o, Srt o → Srt (l.foldl insU o) ∧ ∀ x, x ∈ l.foldl insU o ↔ x ∈ o ∨ x ∈ l := by
  induction l with
  | nil => intro o h; exact ⟨h, by simp⟩
  | cons c l ih =>
    intro o h
    rw [List.foldl_cons]
    have := ih _ (insU_srt h c)
    refine ⟨this.1, fun x => ?_⟩
    rw [this.2 x, insU_mem, List.mem_cons, or_assoc]
theorem sortU_srt (l : List Cl) : Srt (sortU l) := (foldU l [] List.Pairwise.nil).1
theorem sortU_mem (l : List Cl) (x : Cl) : x ∈ sortU l ↔ x ∈ l := by have := (foldU l [] List.Pairwise.nil).2 x; simpa [sortU] using this
theorem sortU_unique {l r : List Cl} (h : Srt r) (hm : ∀ x, x ∈ r ↔ x ∈ l) : r = sortU l := srt_unique h (sortU_srt l) fun x => (hm x).trans (sortU_mem l x).symm
theorem sortU_take (l : List Cl) (k : Nat) (h : k < l.length) : sortU (l.take (k + 1)) = insU (sortU (l.take k)) (l.getD k (0, 0)) := by
  rw [List.take_succ_eq_append_getElem h, sortU, List.foldl_append]
  simp [sortU, List.getD, h]
theorem insU_len (o : List Cl) (x : Cl) : (insU o x).length ≤ o.length + 1 := by
  unfold insU
  split
  · omega
  · simp; omega
theorem sortU_len (l : List Cl) : (sortU l).length ≤ l.length := by
  have : ∀ (l o : List Cl), (l.foldl insU o).length ≤ o.length + l.length := by
    intro l
    induction l with
    | nil => intro o; simp
    | cons c l ih => intro o; have h1 := ih (insU o c); have h2 := insU_len o c; rw [List.foldl_cons, List.length_cons]; omega
  simpa [sortU] using this l []

/-! ### Neighbours that are equal taken out -/
/-- What is left of the first k of m. -/
def dedTo (m : List Cl) : Nat → List Cl
  | 0 => []
  | k + 1 => if 0 < k ∧ m.getD k (0, 0) = m.getD (k - 1) (0, 0) then dedTo m k else dedTo m k ++ [m.getD k (0, 0)]
theorem dedTo_spec (m : List Cl) (h : m.Pairwise fun a b => bef b a = false) : ∀ k, k ≤ m.length → Srt (dedTo m k) ∧ (∀ x, x ∈ dedTo m k ↔ ∃ j, j < k ∧ m.getD j (0, 0) = x) ∧ (dedTo m k).length ≤ k
  | 0, _ => ⟨List.Pairwise.nil, fun x => by simp [dedTo], by simp [dedTo]⟩
  | k + 1, hk => by
    obtain ⟨h1, h2, h3⟩ := dedTo_spec m h k (by omega)
    unfold dedTo
    split
    · rename_i he
      refine ⟨h1, fun x => ?_, by omega⟩
      rw [h2]
      constructor
      · rintro ⟨j, hj, e⟩; exact ⟨j, by omega, e⟩
      · rintro ⟨j, hj, e⟩
        by_cases hjk : j = k
        · exact ⟨k - 1, by omega, by rw [← he.2, ← hjk]; exact e⟩
        · exact ⟨j, by omega, e⟩
    · rename_i hne
      refine ⟨?_, fun x => ?_, by simp; omega⟩
      · unfold Srt
        rw [List.pairwise_append]
        refine ⟨h1, by simp, ?_⟩
        intro a ha b hb
        rw [List.mem_singleton] at hb
        subst hb
        obtain ⟨j, hj, rfl⟩ := (h2 a).1 ha
        have hle : ∀ i, i < k → bef (m.getD k (0, 0)) (m.getD i (0, 0)) = false := fun i hi => by
          have := List.pairwise_iff_getElem.1 h i k (by omega) (by omega) hi
          simpa [List.getD, show i < m.length by omega, show k < m.length by omega] using this
        have hlt : bef (m.getD (k - 1) (0, 0)) (m.getD k (0, 0)) = true := by
          cases h5 : bef (m.getD (k - 1) (0, 0)) (m.getD k (0, 0)) with
          | true => rfl
          | false => exact absurd ⟨by omega, bef_total (hle (k - 1) (by omega)) h5⟩ hne
        by_cases hj2 : j = k - 1
        · rw [hj2]; exact hlt
        · have h6 := List.pairwise_iff_getElem.1 h j (k - 1) (by omega) (by omega) (by omega)
          have h7 : bef (m.getD (k - 1) (0, 0)) (m.getD j (0, 0)) = false := by simpa [List.getD, show j < m.length by omega, show k - 1 < m.length by omega] using h6
          cases h8 : bef (m.getD j (0, 0)) (m.getD k (0, 0)) with
          | true => rfl
          | false =>
            have e1 := bef_total h8 (hle j (by omega))
            rw [e1] at h7
            rw [h7] at hlt
            cases hlt
      · rw [List.mem_append, h2, List.mem_singleton]
        constructor
        · rintro (⟨j, hj, e⟩ | e)
          · exact ⟨j, by omega, e⟩
          · exact ⟨k, by omega, e.symm⟩
        · rintro ⟨j, hj, e⟩
          by_cases hjk : j = k
          · exact .inr (by rw [← e, hjk])
          · exact .inl ⟨j, by omega, e⟩
def dedU (m : List Cl) : List Cl := dedTo m m.length
theorem dedU_sortU {m l : List Cl} (h : m.Pairwise fun a b => bef b a = false) (hm : ∀ x, x ∈ m ↔ x ∈ l) : dedU m = sortU l := by
  obtain ⟨h1, h2, _⟩ := dedTo_spec m h m.length (Nat.le_refl _)
  refine sortU_unique h1 fun x => ?_
  rw [dedU, h2, ← hm]
  constructor
  · rintro ⟨j, hj, rfl⟩; simp [List.getD, hj]
  · exact mem_getD
def inb (x lo hi : Int) : Bool := decide (lo ≤ x) && decide (x ≤ hi)
def inP (c : Cl) : Bool := inb c.1 0 7 && inb c.2 0 7
def okAt (l : List Cl) (j : Nat) : Bool := inP (l.getD j (0, 0)) && (decide (j = 0) || bef (l.getD (j - 1) (0, 0)) (l.getD j (0, 0)))
def okTo (l : List Cl) (k : Nat) : Bool := (List.range k).all (okAt l)
def isShape (l : List Cl) : Bool := okTo l l.length && inb l.length 1 8
def minTo (f : Cl → Int) (l : List Cl) : Nat → Int
  | 0 => 0
  | k + 1 => if k = 0 ∨ f (l.getD k (0, 0)) < minTo f l k then f (l.getD k (0, 0)) else minTo f l k
def minX (l : List Cl) : Int := minTo Prod.fst l l.length
def minY (l : List Cl) : Int := minTo Prod.snd l l.length
def moveC (x y : Int) (l : List Cl) : List Cl := l.map fun c => (c.1 + x, c.2 + y)
def cornerC (l : List Cl) : List Cl := l.map fun c => (c.1 - minX l, c.2 - minY l)
def cornS (l : List Cl) : List Cl := if isShape l = true then cornerC l else []
theorem minTo_bd (f : Cl → Int) (l : List Cl) (hi : Int) (h0 : 0 ≤ hi) (h : ∀ j, j < l.length → 0 ≤ f (l.getD j (0, 0)) ∧ f (l.getD j (0, 0)) ≤ hi) : ∀ k, k ≤ l.length → 0 ≤ minTo f l k ∧ minTo f l k ≤ hi
  | 0, _ => by simp [minTo]; exact h0
  | k + 1, hk => by
    unfold minTo
    split
    · exact h k (by omega)
    · exact minTo_bd f l hi h0 h k (by omega)
theorem minTo_yes {f : Cl → Int} {l : List Cl} {k : Nat} (h : k = 0 ∨ f (l.getD k (0, 0)) < minTo f l k) : minTo f l (k + 1) = f (l.getD k (0, 0)) := if_pos h
theorem minTo_no {f : Cl → Int} {l : List Cl} {k : Nat} (h : ¬ (k = 0 ∨ f (l.getD k (0, 0)) < minTo f l k)) : minTo f l (k + 1) = minTo f l k := if_neg h
theorem inP_out {c : Cl} (h : inP c = true) : 0 ≤ c.1 ∧ c.1 ≤ 7 ∧ 0 ≤ c.2 ∧ c.2 ≤ 7 := by
  simp [inP, inb] at h
  omega
theorem getD_mem {l : List Cl} {j : Nat} (h : j < l.length) : l.getD j (0, 0) ∈ l := by
  simp [List.getD, h]
def canMove (x y : Int) (l : List Cl) : Bool := isShape l && inb x (-7) 7 && inb y (-7) 7 && isShape (moveC x y l)
def moveS (x y : Int) (l : List Cl) : List Cl := if canMove x y l = true then moveC x y l else []
def maxTo (f : Cl → Int) (l : List Cl) : Nat → Int
  | 0 => 0
  | k + 1 => if maxTo f l k < f (l.getD k (0, 0)) + 1 then f (l.getD k (0, 0)) + 1 else maxTo f l k
def wideC (l : List Cl) : Int := maxTo Prod.fst (cornS l) (cornS l).length
def highC (l : List Cl) : Int := maxTo Prod.snd (cornS l) (cornS l).length
theorem minTo_le (f : Cl → Int) (l : List Cl) : ∀ (k j : Nat), j < k → minTo f l k ≤ f (l.getD j (0, 0)) := by
  intro k
  induction k with
  | zero => intro j h; omega
  | succ k ih =>
    intro j h
    by_cases hc : k = 0 ∨ f (l.getD k (0, 0)) < minTo f l k
    · rw [minTo_yes hc]
      by_cases hj : j = k
      · rw [hj]; exact Int.le_refl _
      · have := ih j (by omega)
        rcases hc with hc | hc
        · omega
        · omega
    · rw [minTo_no hc]
      by_cases hj : j = k
      · subst hj; omega
      · exact ih j (by omega)
def fmtTo (l : List Cl) : Nat → List UInt8 × Int × Int
  | 0 => ([], 0, 0)
  | k + 1 =>
    let s := fmtTo l k
    let c := l.getD k (0, 0)
    let x := if s.2.2 < c.2 then 0 else s.2.1
    (s.1 ++ List.replicate (c.2 - s.2.2).toNat 47 ++ List.replicate (c.1 - x).toNat 46 ++ [35], (if x < c.1 then c.1 else x) + 1, if s.2.2 < c.2 then c.2 else s.2.2)
def fmtC (l : List Cl) : List UInt8 := (fmtTo (cornS l) (cornS l).length).1
theorem okTo_adj {l : List Cl} {n : Nat} (h : okTo l n = true) : ∀ j, j < n → inP (l.getD j (0, 0)) = true ∧ (0 < j → bef (l.getD (j - 1) (0, 0)) (l.getD j (0, 0)) = true) := by
  intro j hj
  unfold okTo at h
  rw [List.all_eq_true] at h
  have := h j (List.mem_range.2 hj)
  unfold okAt at this
  rw [Bool.and_eq_true, Bool.or_eq_true] at this
  refine ⟨this.1, fun h0 => ?_⟩
  rcases this.2 with h1 | h1
  · simp at h1; omega
  · exact h1
theorem adj_srt {l : List Cl} (h : ∀ j, 0 < j → j < l.length → bef (l.getD (j - 1) (0, 0)) (l.getD j (0, 0)) = true) : Srt l := by
  unfold Srt
  rw [List.pairwise_iff_getElem]
  have key : ∀ j i, i < j → j < l.length → bef (l.getD i (0, 0)) (l.getD j (0, 0)) = true := by
    intro j
    induction j with
    | zero => intro i h1; omega
    | succ j ih =>
      intro i h1 h2
      have h3 := h (j + 1) (by omega) h2
      rw [Nat.add_sub_cancel] at h3
      by_cases hij : i = j
      · rw [hij]; exact h3
      · exact bef_trans (ih i (by omega) (by omega)) h3
  intro i j hi hj hij
  have := key j i hij hj
  simpa [List.getD, hi, hj] using this
theorem isShape_iff (l : List Cl) : isShape l = true ↔ (1 ≤ l.length ∧ l.length ≤ 8) ∧ (∀ c ∈ l, inP c = true) ∧ Srt l := by
  constructor
  · intro h
    unfold isShape at h
    rw [Bool.and_eq_true] at h
    have h1 := okTo_adj h.1
    refine ⟨?_, ?_, ?_⟩
    · have := h.2; simp [inb] at this; omega
    · intro c hc
      obtain ⟨j, hj, rfl⟩ := mem_getD hc
      exact (h1 j hj).1
    · exact adj_srt fun j h0 hj => (h1 j hj).2 h0
  · rintro ⟨⟨h1, h2⟩, h3, h4⟩
    unfold isShape
    rw [Bool.and_eq_true]
    constructor
    · unfold okTo
      rw [List.all_eq_true]
      intro j hj
      rw [List.mem_range] at hj
      unfold okAt
      rw [Bool.and_eq_true, Bool.or_eq_true]
      refine ⟨h3 _ (getD_mem hj), ?_⟩
      by_cases h0 : j = 0
      · exact .inl (by simp [h0])
      · exact .inr (srt_getD h4 (show j - 1 < j by omega) hj)
    · simp [inb]; omega
theorem moveC_len (x y : Int) (l : List Cl) : (moveC x y l).length = l.length := by simp [moveC]
theorem cornerC_move (l : List Cl) : cornerC l = moveC (-minX l) (-minY l) l := by
  unfold cornerC moveC
  apply List.map_congr_left
  intro c _
  rw [Int.sub_eq_add_neg, Int.sub_eq_add_neg]
theorem srt_move {x y : Int} {l : List Cl} (h : Srt l) : Srt (moveC x y l) := by
  unfold Srt moveC at *
  rw [List.pairwise_map]
  refine h.imp ?_
  intro a b hab
  rw [bef_iff] at *
  dsimp only
  omega
theorem moveC_getD (x y : Int) (l : List Cl) (j : Nat) (h : j < l.length) : (moveC x y l).getD j (0, 0) = ((l.getD j (0, 0)).1 + x, (l.getD j (0, 0)).2 + y) := by
  simp [moveC, List.getD, h]
theorem minTo_mem (f : Cl → Int) (l : List Cl) : ∀ k, 0 < k → ∃ j, j < k ∧ f (l.getD j (0, 0)) = minTo f l k
  | 0, h => by omega
  | k + 1, _ => by
    by_cases hc : k = 0 ∨ f (l.getD k (0, 0)) < minTo f l k
    · exact ⟨k, by omega, (minTo_yes hc).symm⟩
    · obtain ⟨j, hj, e⟩ := minTo_mem f l k (by omega)
      exact ⟨j, by omega, by rw [minTo_no hc]; exact e⟩
theorem minTo_eq {f : Cl → Int} {l : List Cl} {k : Nat} {m : Int} (hk : 0 < k) (h1 : ∀ j, j < k → m ≤ f (l.getD j (0, 0))) (h2 : ∃ j, j < k ∧ f (l.getD j (0, 0)) = m) : minTo f l k = m := by
  obtain ⟨j, hj, e⟩ := h2
  obtain ⟨i, hi, e'⟩ := minTo_mem f l k hk
  have := minTo_le f l k j hj
  have := h1 i hi
  omega
theorem min_move (x y : Int) (l : List Cl) (h : 0 < l.length) : minX (moveC x y l) = minX l + x ∧ minY (moveC x y l) = minY l + y := by
  unfold minX minY
  rw [moveC_len]
  constructor
  · apply minTo_eq h
    · intro j hj; rw [moveC_getD x y l j hj]; have := minTo_le Prod.fst l l.length j hj; dsimp only; omega
    · obtain ⟨j, hj, e⟩ := minTo_mem Prod.fst l l.length h
      exact ⟨j, hj, by rw [moveC_getD x y l j hj]; dsimp only; omega⟩
  · apply minTo_eq h
    · intro j hj; rw [moveC_getD x y l j hj]; have := minTo_le Prod.snd l l.length j hj; dsimp only; omega
    · obtain ⟨j, hj, e⟩ := minTo_mem Prod.snd l l.length h
      exact ⟨j, hj, by rw [moveC_getD x y l j hj]; dsimp only; omega⟩
theorem moveC_move (x y u v : Int) (l : List Cl) : moveC u v (moveC x y l) = moveC (x + u) (y + v) l := by
  unfold moveC
  rw [List.map_map]
  apply List.map_congr_left
  intro c _
  simp [Int.add_assoc]
theorem moveC_zero (l : List Cl) : moveC 0 0 l = l := by
  unfold moveC
  simp
theorem moveC_back (x y : Int) (l : List Cl) : moveC (-x) (-y) (moveC x y l) = l := by
  rw [moveC_move, show x + -x = 0 by omega, show y + -y = 0 by omega, moveC_zero]
theorem cornerC_of_move (x y : Int) (l : List Cl) (h : 0 < l.length) : cornerC (moveC x y l) = cornerC l := by
  rw [cornerC_move, cornerC_move, (min_move x y l h).1, (min_move x y l h).2, moveC_move]
  congr 1 <;> omega
theorem min_in {l : List Cl} (h : isShape l = true) : 0 ≤ minX l ∧ minX l ≤ 7 ∧ 0 ≤ minY l ∧ minY l ≤ 7 := by
  obtain ⟨_, h2, _⟩ := (isShape_iff l).1 h
  have h4 := minTo_bd Prod.fst l 7 (by omega) (fun j hj => by have := inP_out (h2 _ (getD_mem hj)); omega) l.length (Nat.le_refl _)
  have h5 := minTo_bd Prod.snd l 7 (by omega) (fun j hj => by have := inP_out (h2 _ (getD_mem hj)); omega) l.length (Nat.le_refl _)
  unfold minX minY
  omega
theorem isShape_corner {l : List Cl} (h : isShape l = true) : isShape (cornerC l) = true := by
  obtain ⟨h1, h2, h3⟩ := (isShape_iff l).1 h
  have h4 := min_in h
  rw [isShape_iff, cornerC_move, moveC_len]
  refine ⟨h1, ?_, srt_move h3⟩
  intro c hc
  obtain ⟨j, hj, rfl⟩ := mem_getD hc
  rw [moveC_len] at hj
  rw [moveC_getD _ _ _ _ hj]
  have h5 := inP_out (h2 _ (getD_mem hj))
  have h6 := minTo_le Prod.fst l l.length j hj
  have h7 := minTo_le Prod.snd l l.length j hj
  unfold minX minY at h4 ⊢
  simp only [inP, inb, Bool.and_eq_true, decide_eq_true_eq]
  omega
theorem cornS_shape {l : List Cl} (h : isShape l = true) : isShape (cornS l) = true := by
  rw [show cornS l = cornerC l from if_pos h]; exact isShape_corner h
/-- A corner is reached by a move. -/
theorem cornS_moveS {l : List Cl} (h : isShape l = true) : canMove (-minX l) (-minY l) l = true ∧ moveS (-minX l) (-minY l) l = cornS l := by
  have h4 := min_in h
  have hc : canMove (-minX l) (-minY l) l = true := by
    unfold canMove
    rw [← cornerC_move, h, isShape_corner h]
    simp [inb]
    omega
  refine ⟨hc, ?_⟩
  rw [show moveS (-minX l) (-minY l) l = moveC (-minX l) (-minY l) l from if_pos hc, ← cornerC_move, show cornS l = cornerC l from if_pos h]
/-- The greatest value of f among the first k cells. -/
def grtTo (f : Cl → Int) (l : List Cl) : Nat → Int
  | 0 => f (l.getD 0 (0, 0))
  | k + 1 => if grtTo f l k < f (l.getD k (0, 0)) then f (l.getD k (0, 0)) else grtTo f l k
def lstTo (f : Cl → Int) (l : List Cl) : Nat → Int
  | 0 => f (l.getD 0 (0, 0))
  | k + 1 => if f (l.getD k (0, 0)) < lstTo f l k then f (l.getD k (0, 0)) else lstTo f l k
theorem lstTo_minTo (f : Cl → Int) (l : List Cl) : ∀ k, lstTo f l (k + 1) = minTo f l (k + 1)
  | 0 => by simp [lstTo, minTo]
  | k + 1 => by
    rw [lstTo, minTo, lstTo_minTo f l k]
    simp
theorem lst_min (f : Cl → Int) (l : List Cl) (h : 0 < l.length) : lstTo f l l.length = minTo f l l.length := by
  obtain ⟨k, hk⟩ : ∃ k, l.length = k + 1 := ⟨l.length - 1, by omega⟩
  rw [hk, lstTo_minTo]
theorem lstTo_bd (f : Cl → Int) (l : List Cl) (hl : 0 < l.length) (h : ∀ c ∈ l, 0 ≤ f c ∧ f c ≤ 7) : ∀ k, k ≤ l.length → 0 ≤ lstTo f l k ∧ lstTo f l k ≤ 7
  | 0, _ => h _ (getD_mem hl)
  | k + 1, hk => by
    unfold lstTo
    split
    · exact h _ (getD_mem (by omega))
    · exact lstTo_bd f l hl h k (by omega)
theorem grtTo_bd (f : Cl → Int) (l : List Cl) (hl : 0 < l.length) (h : ∀ c ∈ l, 0 ≤ f c ∧ f c ≤ 7) : ∀ k, k ≤ l.length → 0 ≤ grtTo f l k ∧ grtTo f l k ≤ 7
  | 0, _ => h _ (getD_mem hl)
  | k + 1, hk => by
    unfold grtTo
    split
    · exact h _ (getD_mem (by omega))
    · exact grtTo_bd f l hl h k (by omega)
theorem maxTo_step (f : Cl → Int) (l : List Cl) (k : Nat) : maxTo f l (k + 1) = if maxTo f l k < f (l.getD k (0, 0)) + 1 then f (l.getD k (0, 0)) + 1 else maxTo f l k := rfl
theorem grtTo_step (f : Cl → Int) (l : List Cl) (k : Nat) : grtTo f l (k + 1) = if grtTo f l k < f (l.getD k (0, 0)) then f (l.getD k (0, 0)) else grtTo f l k := rfl
theorem lstTo_step (f : Cl → Int) (l : List Cl) (k : Nat) : lstTo f l (k + 1) = if f (l.getD k (0, 0)) < lstTo f l k then f (l.getD k (0, 0)) else lstTo f l k := rfl
theorem max_grt (f : Cl → Int) (m : Int) (l r : List Cl) (hl : 0 < l.length) (hr : r.length = l.length) (h : ∀ j, j < l.length → f (r.getD j (0, 0)) = f (l.getD j (0, 0)) - m ∧ 0 ≤ f (r.getD j (0, 0))) : ∀ k, k < l.length → maxTo f r (k + 1) = grtTo f l (k + 1) - m + 1
  | 0, _ => by
    have := h 0 hl
    have e1 : maxTo f r 0 = 0 := rfl
    have e2 : grtTo f l 0 = f (l.getD 0 (0, 0)) := rfl
    rw [maxTo_step, grtTo_step, e1, e2]
    split <;> split <;> omega
  | k + 1, hk => by
    have ih := max_grt f m l r hl hr h k (by omega)
    have := h (k + 1) hk
    rw [maxTo_step f r (k + 1), grtTo_step f l (k + 1), ih]
    split <;> split <;> omega
theorem size_of {l : List Cl} (h : isShape l = true) : wideC l = grtTo Prod.fst l l.length - minX l + 1 ∧ highC l = grtTo Prod.snd l l.length - minY l + 1 := by
  obtain ⟨h1, h2, h3⟩ := (isShape_iff l).1 h
  have h4 := (isShape_iff _).1 (isShape_corner h)
  obtain ⟨k, hk⟩ : ∃ k, l.length = k + 1 := ⟨l.length - 1, by omega⟩
  unfold wideC highC
  rw [show cornS l = cornerC l from if_pos h]
  have hl : (cornerC l).length = l.length := by simp [cornerC]
  have hg : ∀ j, j < l.length → (cornerC l).getD j (0, 0) = ((l.getD j (0, 0)).1 - minX l, (l.getD j (0, 0)).2 - minY l) := fun j hj => by simp [cornerC, List.getD, hj]
  have hp : ∀ j, j < l.length → 0 ≤ ((cornerC l).getD j (0, 0)).1 ∧ 0 ≤ ((cornerC l).getD j (0, 0)).2 := fun j hj => by
    have := inP_out (h4.2.1 _ (getD_mem (l := cornerC l) (j := j) (by omega)))
    omega
  rw [hl, hk]
  constructor
  · exact max_grt Prod.fst (minX l) l (cornerC l) (by omega) hl (fun j hj => ⟨by rw [hg j hj], (hp j hj).1⟩) k (by omega)
  · exact max_grt Prod.snd (minY l) l (cornerC l) (by omega) hl (fun j hj => ⟨by rw [hg j hj], (hp j hj).2⟩) k (by omega)
theorem fmtTo_bd (l : List Cl) (h : ∀ c ∈ l, inP c = true) : ∀ k, k ≤ l.length → 0 ≤ (fmtTo l k).2.1 ∧ (fmtTo l k).2.1 ≤ 8 + k ∧ 0 ≤ (fmtTo l k).2.2 ∧ (fmtTo l k).2.2 ≤ 7 ∧ (fmtTo l k).1.length ≤ 15 * k
  | 0, _ => by simp [fmtTo]
  | k + 1, hk => by
    have h1 := fmtTo_bd l h k (by omega)
    have h2 := inP_out (h _ (getD_mem (l := l) (j := k) (by omega)))
    unfold fmtTo
    dsimp only
    simp only [List.length_append, List.length_replicate, List.length_singleton]
    split <;> split <;> omega
/-- The cells that a text shows, read from place x, y on. -/
def pcs : List UInt8 → Int → Int → List Cl
  | [], _, _ => []
  | b :: r, x, y => if b = 47 then pcs r 0 (y + 1) else if b = 35 then (x, y) :: pcs r (x + 1) y else pcs r (x + 1) y
/-- The place behind a text. -/
def pst : List UInt8 → Int → Int → Int × Int
  | [], x, y => (x, y)
  | b :: r, x, y => if b = 47 then pst r 0 (y + 1) else pst r (x + 1) y
theorem pcs_append : ∀ (a b : List UInt8) (x y : Int), pcs (a ++ b) x y = pcs a x y ++ pcs b (pst a x y).1 (pst a x y).2
  | [], b, x, y => rfl
  | c :: a, b, x, y => by
    rw [List.cons_append, pcs, pcs, pst]
    split
    · exact pcs_append a b _ _
    · split
      · rw [pcs_append a b]; rfl
      · exact pcs_append a b _ _
theorem pst_append : ∀ (a b : List UInt8) (x y : Int), pst (a ++ b) x y = pst b (pst a x y).1 (pst a x y).2
  | [], b, x, y => rfl
  | c :: a, b, x, y => by
    rw [List.cons_append, pst, pst]
    split <;> exact pst_append a b _ _
theorem pcs_rep47 : ∀ (n : Nat) (x y : Int), pcs (List.replicate n 47) x y = [] ∧ pst (List.replicate n 47) x y = (if n = 0 then x else 0, y + n)
  | 0, x, y => by simp [pcs, pst]
  | n + 1, x, y => by
    have := pcs_rep47 n 0 (y + 1)
    rw [List.replicate_succ, pcs, pst]
    simp only [if_true]
    rw [this.1, this.2]
    refine ⟨rfl, ?_⟩
    apply Prod.ext
    · simp
    · simp; omega
theorem pcs_rep46 : ∀ (n : Nat) (x y : Int), pcs (List.replicate n 46) x y = [] ∧ pst (List.replicate n 46) x y = (x + n, y)
  | 0, x, y => by simp [pcs, pst]
  | n + 1, x, y => by
    have := pcs_rep46 n (x + 1) y
    rw [List.replicate_succ, pcs, pst]
    simp only [show ((46 : UInt8) = 47) = False by simp, show ((46 : UInt8) = 35) = False by simp, if_false]
    rw [this.1, this.2]
    refine ⟨rfl, ?_⟩
    apply Prod.ext
    · simp; omega
    · simp
theorem pcs_hash (x y : Int) : pcs [35] x y = [(x, y)] ∧ pst [35] x y = (x + 1, y) := by simp [pcs, pst]
def okB (b : UInt8) : Prop := b = 35 ∨ b = 46 ∨ b = 47
theorem fmtTo_step (l : List Cl) (k : Nat) : fmtTo l (k + 1) = ((fmtTo l k).1 ++ List.replicate ((l.getD k (0, 0)).2 - (fmtTo l k).2.2).toNat 47 ++ List.replicate ((l.getD k (0, 0)).1 - (if (fmtTo l k).2.2 < (l.getD k (0, 0)).2 then 0 else (fmtTo l k).2.1)).toNat 46 ++ [35], (if (if (fmtTo l k).2.2 < (l.getD k (0, 0)).2 then 0 else (fmtTo l k).2.1) < (l.getD k (0, 0)).1 then (l.getD k (0, 0)).1 else (if (fmtTo l k).2.2 < (l.getD k (0, 0)).2 then 0 else (fmtTo l k).2.1)) + 1, if (fmtTo l k).2.2 < (l.getD k (0, 0)).2 then (l.getD k (0, 0)).2 else (fmtTo l k).2.2) := rfl
/-- How far the text of the first k cells of a shape has come. -/
structure FmtAt (l : List Cl) (k : Nat) (s : List UInt8 × Int × Int) : Prop where
  cells : pcs s.1 0 0 = l.take k
  at_ : pst s.1 0 0 = s.2
  low : 0 ≤ s.2.1 ∧ 0 ≤ s.2.2
  last : 0 < k → s.2.1 = (l.getD (k - 1) (0, 0)).1 + 1 ∧ s.2.2 = (l.getD (k - 1) (0, 0)).2
  first : k = 0 → s.2.1 = 0 ∧ s.2.2 = 0
  good : ∀ b ∈ s.1, okB b
  len : (s.1.length : Int) ≤ s.2.2 + 8 * k
  zlen : ∀ j, j < k → (l.getD j (0, 0)).1 = 0 → (s.1.length : Int) + 7 ≤ s.2.2 + 8 * k
theorem take_snoc (l : List Cl) (k : Nat) (h : k < l.length) : l.take (k + 1) = l.take k ++ [l.getD k (0, 0)] := by
  rw [List.take_succ_eq_append_getElem h]
  simp [List.getD, h]
theorem fmtAt {l : List Cl} (h : isShape l = true) : ∀ k, k ≤ l.length → FmtAt l k (fmtTo l k)
  | 0, _ => ⟨rfl, rfl, ⟨by simp [fmtTo], by simp [fmtTo]⟩, fun h => by omega, fun _ => ⟨rfl, rfl⟩, fun b hb => (by simp [fmtTo] at hb), by simp [fmtTo], fun j hj => by omega⟩
  | k + 1, hk => by
    have ih := fmtAt h k (by omega)
    obtain ⟨h1, h2, h3⟩ := (isShape_iff l).1 h
    have hc := inP_out (h2 _ (getD_mem (l := l) (j := k) (by omega)))
    obtain ⟨c, hcd⟩ : ∃ c, l.getD k (0, 0) = c := ⟨_, rfl⟩
    have hord : ((fmtTo l k).2.2 < c.2 ∨ ((fmtTo l k).2.2 = c.2 ∧ (fmtTo l k).2.1 ≤ c.1)) ∧ (0 < k → (fmtTo l k).2.2 = c.2 → 1 ≤ (fmtTo l k).2.1) ∧ (k = 0 → (fmtTo l k).2.1 = 0) := by
      by_cases h0 : k = 0
      · have := ih.first h0
        rw [hcd] at hc
        omega
      · have h4 := ih.last (by omega)
        have h5 := srt_getD h3 (show k - 1 < k by omega) (by omega)
        have h6 := inP_out (h2 _ (getD_mem (l := l) (j := k - 1) (by omega)))
        rw [bef_iff, hcd] at h5
        omega
    rw [hcd] at hc
    rw [fmtTo_step, hcd]
    obtain ⟨⟨t, x, y⟩, hs⟩ : ∃ s, fmtTo l k = s := ⟨_, rfl⟩
    rw [hs] at ih hord ⊢
    obtain ⟨i1, i2, i3, i4, i5, i6, i7, i8⟩ := ih
    dsimp only at i1 i2 i3 i4 i5 i6 i7 i8 hord ⊢
    obtain ⟨ho, ho2, ho3⟩ := hord
    obtain ⟨x', hx'⟩ : ∃ x' : Int, (if y < c.2 then 0 else x) = x' := ⟨_, rfl⟩
    have hxc : 0 ≤ x' ∧ x' ≤ c.1 := by
      rw [← hx']
      split <;> omega
    have hx1 : y = c.2 → x' = x := fun e => by rw [← hx', if_neg (by omega)]
    have hx0 : y < c.2 → x' = 0 := fun e => by rw [← hx', if_pos e]
    have hy : (if y < c.2 then c.2 else y) = c.2 := by split <;> omega
    have hx3 : (if x' < c.1 then c.1 else x') = c.1 := by split <;> omega
    rw [hx', hy, hx3]
    have s1 := pcs_rep47 (c.2 - y).toNat x y
    have s2 : pst (List.replicate (c.2 - y).toNat 47) x y = (x', c.2) := by
      rw [s1.2]
      apply Prod.ext
      · dsimp only
        split
        · rw [hx1 (by omega)]
        · rw [hx0 (by omega)]
      · dsimp only; omega
    have s3 := pcs_rep46 (c.1 - x').toNat x' c.2
    have s4 : pst (List.replicate (c.1 - x').toNat 46) x' c.2 = (c.1, c.2) := by
      rw [s3.2]
      apply Prod.ext
      · dsimp only; omega
      · rfl
    have s5 := pcs_hash c.1 c.2
    have e2 : pst (t ++ List.replicate (c.2 - y).toNat 47) 0 0 = (x', c.2) := by rw [pst_append, i2]; exact s2
    have e3 : pst (t ++ List.replicate (c.2 - y).toNat 47 ++ List.replicate (c.1 - x').toNat 46) 0 0 = (c.1, c.2) := by rw [pst_append, e2]; exact s4
    refine ⟨?_, ?_, ⟨by dsimp only; omega, by dsimp only; omega⟩, fun _ => ?_, fun h0 => by omega, ?_, ?_, ?_⟩
    · rw [pcs_append, pcs_append, pcs_append, e3, e2, i2]
      dsimp only
      rw [i1, s1.1, s3.1, s5.1, take_snoc l k (by omega), hcd]
      simp
    · rw [pst_append, e3]
      dsimp only
      rw [s5.2]
    · rw [Nat.add_sub_cancel, hcd]
      exact ⟨rfl, rfl⟩
    · intro b hb
      simp only [List.mem_append, List.mem_replicate, List.mem_singleton] at hb
      unfold okB
      rcases hb with ((hb | hb) | hb) | hb
      · exact i6 b hb
      · exact .inr (.inr hb.2)
      · exact .inr (.inl hb.2)
      · exact .inl hb
    · simp only [List.length_append, List.length_replicate, List.length_singleton]
      rcases Nat.lt_or_ge 0 k with h0 | h0
      · omega
      · obtain rfl : k = 0 := by omega
        have := i5 rfl
        omega
    · intro j hj hz
      simp only [List.length_append, List.length_replicate, List.length_singleton]
      by_cases hjk : j = k
      · subst hjk
        rw [hcd] at hz
        rcases Nat.lt_or_ge 0 j with h0 | h0
        · omega
        · obtain rfl : j = 0 := by omega
          have := i5 rfl
          omega
      · have := i8 j (by omega) hz
        omega
theorem corner_zero {l : List Cl} (h : isShape l = true) : ∃ j, j < (cornerC l).length ∧ ((cornerC l).getD j (0, 0)).1 = 0 := by
  obtain ⟨h1, _, _⟩ := (isShape_iff l).1 h
  obtain ⟨j, hj, e⟩ := minTo_mem Prod.fst l l.length (by omega)
  refine ⟨j, by simpa [cornerC] using hj, ?_⟩
  have : (cornerC l).getD j (0, 0) = ((l.getD j (0, 0)).1 - minX l, (l.getD j (0, 0)).2 - minY l) := by simp [cornerC, List.getD, hj]
  rw [this]
  unfold minX
  dsimp only
  omega
theorem fmtC_no {l : List Cl} (h : isShape l = false) : fmtC l = [] := by
  unfold fmtC
  rw [show cornS l = [] from if_neg (by rw [h]; simp)]
  rfl
/-- The text of a shape: it shows the shape in its corner, in good bytes, and it is short. -/
theorem fmtC_yes {l : List Cl} (h : isShape l = true) : pcs (fmtC l) 0 0 = cornS l ∧ (∀ b ∈ fmtC l, okB b) ∧ (fmtC l).length ≤ 64 ∧ fmtC l ≠ [] := by
  have hs := cornS_shape h
  obtain ⟨h1, h2, _⟩ := (isShape_iff _).1 hs
  have hf := fmtAt hs (cornS l).length (Nat.le_refl _)
  obtain ⟨j, hj, hz⟩ := corner_zero h
  have e : cornS l = cornerC l := if_pos h
  have hzl := hf.zlen j (by rw [e]; exact hj) (by rw [e]; exact hz)
  have hl := hf.last (by omega)
  have hp := inP_out (h2 _ (getD_mem (l := cornS l) (j := (cornS l).length - 1) (by omega)))
  have hc := hf.cells
  rw [List.take_length] at hc
  refine ⟨hc, hf.good, ?_, ?_⟩
  · unfold fmtC; omega
  · intro h0
    unfold fmtC at h0
    rw [h0] at hc
    have := congrArg List.length hc
    simp [pcs] at this
    omega
theorem cornS_cornS {l : List Cl} (h : isShape l = true) : cornS (cornS l) = cornS l := by
  have e : cornS l = cornerC l := if_pos h
  rw [e, show cornS (cornerC l) = cornerC (cornerC l) from if_pos (isShape_corner h), cornerC_move l, cornerC_of_move]
  · exact cornerC_move l
  · have := ((isShape_iff l).1 h).1; omega
theorem fmtC_cornS {l : List Cl} (h : isShape l = true) : fmtC (cornS l) = fmtC l := by
  unfold fmtC
  rw [cornS_cornS h]
/-- Is t the text of a shape? -/
def okP (t : List UInt8) : Bool := decide (t ≠ [] ∧ fmtC (pcs t 0 0) = t)
/-- The shape that a text shows. -/
def parS (t : List UInt8) : List Cl := if okP t = true then pcs t 0 0 else []
theorem okP_out {t : List UInt8} (h : okP t = true) : isShape (pcs t 0 0) = true ∧ fmtC (pcs t 0 0) = t ∧ (∀ b ∈ t, okB b) ∧ t.length ≤ 64 ∧ t ≠ [] := by
  unfold okP at h
  rw [decide_eq_true_eq] at h
  cases hs : isShape (pcs t 0 0) with
  | false => rw [fmtC_no hs] at h; exact absurd h.2.symm h.1
  | true =>
    have := fmtC_yes hs
    rw [h.2] at this
    exact ⟨rfl, h.2, this.2.1, this.2.2.1, h.1⟩
theorem okP_in {t : List UInt8} (h : isShape (pcs t 0 0) = true) (hf : fmtC (pcs t 0 0) = t) : okP t = true := by
  unfold okP
  rw [decide_eq_true_eq]
  refine ⟨?_, hf⟩
  have := (fmtC_yes h).2.2.2
  rw [hf] at this
  exact this
theorem okP_eq (t : List UInt8) : okP t = (isShape (pcs t 0 0) && decide (fmtC (pcs t 0 0) = t)) := by
  rw [Bool.eq_iff_iff, Bool.and_eq_true, decide_eq_true_eq]
  exact ⟨fun h => ⟨(okP_out h).1, (okP_out h).2.1⟩, fun h => okP_in h.1 h.2⟩
theorem okP_fmt (l : List Cl) : okP (fmtC l) = isShape l ∧ (isShape l = true → parS (fmtC l) = cornS l) := by
  cases h : isShape l with
  | false => exact ⟨by rw [fmtC_no h]; rfl, fun h => by cases h⟩
  | true =>
    have h1 := fmtC_yes h
    have h2 : okP (fmtC l) = true := okP_in (by rw [h1.1]; exact cornS_shape h) (by rw [h1.1]; exact fmtC_cornS h)
    exact ⟨h2, fun _ => (if_pos h2).trans h1.1⟩
def nearC (a b : Cl) : Bool := decide ((a.1 - b.1) * (a.1 - b.1) + (a.2 - b.2) * (a.2 - b.2) = 1)
def cellIs (x y : Int) (c : Cl) : Bool := decide (c.1 = x) && decide (c.2 = y)
def hasC (l : List Cl) (x y : Int) : Bool := l.any (cellIs x y)
theorem hasC_iff (l : List Cl) (c : Cl) : hasC l c.1 c.2 = true ↔ c ∈ l := by
  unfold hasC cellIs
  rw [List.any_eq_true]
  constructor
  · rintro ⟨d, hd, h⟩
    simp at h
    have : d = c := Prod.ext h.1 h.2
    rw [← this]; exact hd
  · intro h
    exact ⟨c, h, by simp⟩
theorem sq_cases (d : Int) : (d = 0 ∧ d * d = 0) ∨ ((d = 1 ∨ d = -1) ∧ d * d = 1) ∨ (d ≠ 0 ∧ d ≠ 1 ∧ d ≠ -1 ∧ 4 ≤ d * d) := by
  by_cases h0 : d = 0
  · exact .inl ⟨h0, by rw [h0]; rfl⟩
  · by_cases h1 : d = 1
    · exact .inr (.inl ⟨.inl h1, by rw [h1]; rfl⟩)
    · by_cases h2 : d = -1
      · exact .inr (.inl ⟨.inr h2, by rw [h2]; rfl⟩)
      · refine .inr (.inr ⟨h0, h1, h2, ?_⟩)
        rcases Int.le_total 0 d with h | h
        · exact Int.mul_le_mul (show (2 : Int) ≤ d by omega) (show (2 : Int) ≤ d by omega) (by omega) h
        · have := Int.mul_le_mul (show (2 : Int) ≤ -d by omega) (show (2 : Int) ≤ -d by omega) (by omega) (by omega)
          rw [Int.neg_mul_neg] at this
          omega
theorem nearC_iff (a b : Cl) : nearC a b = true ↔ (a.1 = b.1 ∧ (a.2 = b.2 + 1 ∨ b.2 = a.2 + 1)) ∨ (a.2 = b.2 ∧ (a.1 = b.1 + 1 ∨ b.1 = a.1 + 1)) := by
  unfold nearC
  rw [decide_eq_true_eq]
  have h1 := sq_cases (a.1 - b.1)
  have h2 := sq_cases (a.2 - b.2)
  omega
/-- What hangs together with the first cell. -/
inductive Rch (l : List Cl) : Cl → Prop
  | base : 0 < l.length → Rch l (l.getD 0 (0, 0))
  | step {a b : Cl} : Rch l a → b ∈ l → nearC a b = true → Rch l b
theorem nodup_sub_len : ∀ (a b : List Cl), a.Nodup → (∀ x ∈ a, x ∈ b) → a.length ≤ b.length
  | [], b, _, _ => Nat.zero_le _
  | x :: a, b, h, hs => by
    rw [List.nodup_cons] at h
    have hx := hs x (by simp)
    have := nodup_sub_len a (b.erase x) h.2 (fun y hy => by
      rw [List.mem_erase_of_ne]
      · exact hs y (by simp [hy])
      · intro e; rw [e] at hy; exact h.1 hy)
    rw [List.length_erase_of_mem hx] at this
    have hp := List.length_pos_of_mem hx
    rw [List.length_cons]
    omega
theorem srt_nodup {l : List Cl} (h : Srt l) : l.Nodup := by
  unfold List.Nodup
  refine h.imp ?_
  intro a b hab e
  rw [e, bef_irr] at hab
  cases hab
/-- A search from the first cell on, of which i cells have been looked at, and the (i + 1)th against k cells. -/
structure Bfs (l sn : List Cl) (i k : Nat) : Prop where
  nodup : sn.Nodup
  sub : ∀ c ∈ sn, c ∈ l
  first : l.getD 0 (0, 0) ∈ sn
  reach : ∀ c ∈ sn, Rch l c
  closed : ∀ j, j < i → ∀ b ∈ l, nearC (sn.getD j (0, 0)) b = true → b ∈ sn
  here : ∀ m, m < k → nearC (sn.getD i (0, 0)) (l.getD m (0, 0)) = true → l.getD m (0, 0) ∈ sn
  le : i ≤ sn.length
theorem Bfs.start (l : List Cl) (h : 0 < l.length) : Bfs l [l.getD 0 (0, 0)] 0 0 :=
  ⟨by simp, fun c hc => by rw [List.mem_singleton] at hc; rw [hc]; exact getD_mem h, by simp, fun c hc => by rw [List.mem_singleton] at hc; rw [hc]; exact .base h, fun j hj => by omega, fun m hm => by omega, by simp⟩
theorem Bfs.len {l sn : List Cl} {i k : Nat} (h : Bfs l sn i k) : sn.length ≤ l.length := nodup_sub_len _ _ h.nodup h.sub
theorem Bfs.skip {l sn : List Cl} {i k : Nat} (h : Bfs l sn i k) (hn : nearC (sn.getD i (0, 0)) (l.getD k (0, 0)) = true → l.getD k (0, 0) ∈ sn) : Bfs l sn i (k + 1) :=
  ⟨h.nodup, h.sub, h.first, h.reach, h.closed, fun m hm hne => by
    by_cases e : m = k
    · subst e; exact hn hne
    · exact h.here m (by omega) hne, h.le⟩
theorem getD_app {l r : List Cl} {j : Nat} (h : j < l.length) : (l ++ r).getD j (0, 0) = l.getD j (0, 0) := by
  simp [List.getD, List.getElem?_append_left h]
theorem Bfs.add {l sn : List Cl} {i k : Nat} (h : Bfs l sn i k) (hi : i < sn.length) (hk : k < l.length) (hn : nearC (sn.getD i (0, 0)) (l.getD k (0, 0)) = true) (hno : l.getD k (0, 0) ∉ sn) : Bfs l (sn ++ [l.getD k (0, 0)]) i (k + 1) where
  nodup := by
    rw [List.nodup_append]
    refine ⟨h.nodup, by simp, ?_⟩
    intro a ha b hb e
    rw [List.mem_singleton] at hb
    rw [← hb, ← e] at hno
    exact hno ha
  sub := fun c hc => by
    rw [List.mem_append, List.mem_singleton] at hc
    rcases hc with hc | hc
    · exact h.sub c hc
    · rw [hc]; exact getD_mem hk
  first := List.mem_append_left _ h.first
  reach := fun c hc => by
    rw [List.mem_append, List.mem_singleton] at hc
    rcases hc with hc | hc
    · exact h.reach c hc
    · rw [hc]; exact .step (h.reach _ (getD_mem hi)) (getD_mem hk) hn
  closed := fun j hj b hb hne => by
    rw [getD_app (by omega)] at hne
    exact List.mem_append_left _ (h.closed j hj b hb hne)
  here := fun m hm hne => by
    rw [getD_app hi] at hne
    by_cases e : m = k
    · rw [e]; simp
    · exact List.mem_append_left _ (h.here m (by omega) hne)
  le := by simp; omega
theorem Bfs.next {l sn : List Cl} {i : Nat} (h : Bfs l sn i l.length) (hi : i < sn.length) : Bfs l sn (i + 1) 0 :=
  ⟨h.nodup, h.sub, h.first, h.reach, fun j hj b hb hne => by
    by_cases e : j = i
    · obtain ⟨m, hm, rfl⟩ := mem_getD hb
      subst e
      exact h.here m hm hne
    · exact h.closed j (by omega) b hb hne, fun m hm => by omega, hi⟩
def AllRch (l : List Cl) : Prop := ∀ c ∈ l, Rch l c
theorem Bfs.done {l sn : List Cl} (h : Bfs l sn sn.length 0) (hl : l.Nodup) : sn.length = l.length ↔ AllRch l := by
  constructor
  · intro e c hc
    apply h.reach
    apply Classical.byContradiction
    intro hno
    have := nodup_sub_len (c :: sn) l (by rw [List.nodup_cons]; exact ⟨hno, h.nodup⟩) (fun x hx => by
      rw [List.mem_cons] at hx
      rcases hx with hx | hx
      · rw [hx]; exact hc
      · exact h.sub x hx)
    rw [List.length_cons] at this
    omega
  · intro ha
    have hall : ∀ c, Rch l c → c ∈ sn := by
      intro c hc
      induction hc with
      | base _ => exact h.first
      | step _ hb hn ih =>
        obtain ⟨j, hj, rfl⟩ := mem_getD ih
        exact h.closed j hj _ hb hn
    have h1 := h.len
    have h2 := nodup_sub_len l sn hl (fun c hc => hall c (ha c hc))
    omega

/-! ### Sets of places as rows of bits -/
/-- Row y of the first k cells. -/
def rowTo (l : List Cl) (y : Nat) : Nat → Nat
  | 0 => 0
  | k + 1 => if (l.getD k (0, 0)).2 = (y : Int) then rowTo l y k ||| 2 ^ (l.getD k (0, 0)).1.toNat else rowTo l y k
theorem rowTo_bit (l : List Cl) (h : ∀ c ∈ l, inP c = true) (x y : Nat) : ∀ k, k ≤ l.length → ((rowTo l y k).testBit x = true ↔ ∃ j, j < k ∧ l.getD j (0, 0) = ((x : Int), (y : Int)))
  | 0, _ => by simp [rowTo]
  | k + 1, hk => by
    have ih := rowTo_bit l h x y k (by omega)
    have hp := inP_out (h _ (getD_mem (l := l) (j := k) (by omega)))
    unfold rowTo
    split
    · rename_i hy
      rw [Nat.testBit_or, Bool.or_eq_true, ih, Nat.testBit_two_pow]
      constructor
      · rintro (⟨j, hj, e⟩ | e)
        · exact ⟨j, by omega, e⟩
        · rw [decide_eq_true_eq] at e
          exact ⟨k, by omega, Prod.ext (by show (l.getD k (0, 0)).1 = (x : Int); omega) hy⟩
      · rintro ⟨j, hj, e⟩
        by_cases hjk : j = k
        · refine .inr ?_
          rw [hjk] at e
          rw [e]
          simp
        · exact .inl ⟨j, by omega, e⟩
    · rename_i hy
      rw [ih]
      constructor
      · rintro ⟨j, hj, e⟩; exact ⟨j, by omega, e⟩
      · rintro ⟨j, hj, e⟩
        by_cases hjk : j = k
        · rw [hjk] at e
          rw [e] at hy
          exact absurd rfl hy
        · exact ⟨j, by omega, e⟩
theorem rowTo_lt (l : List Cl) (h : ∀ c ∈ l, inP c = true) (y : Nat) : ∀ k, k ≤ l.length → rowTo l y k < 256
  | 0, _ => by simp [rowTo]
  | k + 1, hk => by
    have ih := rowTo_lt l h y k (by omega)
    have hp := inP_out (h _ (getD_mem (l := l) (j := k) (by omega)))
    unfold rowTo
    split
    · have h2 : 2 ^ (l.getD k (0, 0)).1.toNat < 2 ^ 8 := Nat.pow_lt_pow_right (by omega) (by omega)
      exact Nat.or_lt_two_pow (n := 8) ih h2
    · exact ih
def allR (l : List Cl) (y : Nat) : Nat := rowTo l y l.length
theorem allR_bit {l : List Cl} (h : ∀ c ∈ l, inP c = true) (x y : Nat) : (allR l y).testBit x = true ↔ ((x : Int), (y : Int)) ∈ l := by
  unfold allR
  rw [rowTo_bit l h x y l.length (Nat.le_refl _)]
  constructor
  · rintro ⟨j, hj, e⟩; rw [← e]; exact getD_mem hj
  · exact mem_getD
/-- One step to the neighbours within A. -/
def nextR (R A : Nat → Nat) (y : Nat) : Nat := ((R y ||| ((R y) <<< 1 ||| (R y) >>> 1)) ||| (if 0 < y then R (y - 1) else 0) ||| (if y < 7 then R (y + 1) else 0)) &&& A y
theorem nextR_bit (R A : Nat → Nat) (x y : Nat) : (nextR R A y).testBit x = true ↔ (A y).testBit x = true ∧ ((R y).testBit x = true ∨ (1 ≤ x ∧ (R y).testBit (x - 1) = true) ∨ (R y).testBit (x + 1) = true ∨ (0 < y ∧ (R (y - 1)).testBit x = true) ∨ (y < 7 ∧ (R (y + 1)).testBit x = true)) := by
  unfold nextR
  rw [Nat.testBit_and, Nat.testBit_or, Nat.testBit_or, Nat.testBit_or, Nat.testBit_or, Nat.testBit_shiftLeft, Nat.testBit_shiftRight, Nat.add_comm 1 x]
  have e1 : (if 0 < y then R (y - 1) else 0).testBit x = (decide (0 < y) && (R (y - 1)).testBit x) := by split <;> simp [*]
  have e2 : (if y < 7 then R (y + 1) else 0).testBit x = (decide (y < 7) && (R (y + 1)).testBit x) := by split <;> simp [*]
  rw [e1, e2]
  simp only [Bool.and_eq_true, Bool.or_eq_true, decide_eq_true_eq]
  constructor
  · rintro ⟨((h | h | h) | h) | h, ha⟩
    · exact ⟨ha, .inl h⟩
    · exact ⟨ha, .inr (.inl h)⟩
    · exact ⟨ha, .inr (.inr (.inl h))⟩
    · exact ⟨ha, .inr (.inr (.inr (.inl h)))⟩
    · exact ⟨ha, .inr (.inr (.inr (.inr h)))⟩
  · rintro ⟨ha, h | h | h | h | h⟩
    · exact ⟨.inl (.inl (.inl h)), ha⟩
    · exact ⟨.inl (.inl (.inr (.inl h))), ha⟩
    · exact ⟨.inl (.inl (.inr (.inr h))), ha⟩
    · exact ⟨.inl (.inr h), ha⟩
    · exact ⟨.inr h, ha⟩
/-- What has been reached of l: places of l that hang together with the first one, and that one. -/
structure Got (l : List Cl) (R : Nat → Nat) : Prop where
  sound : ∀ x y, y < 8 → (R y).testBit x = true → Rch l ((x : Int), (y : Int)) ∧ ((x : Int), (y : Int)) ∈ l
  first : (R (l.getD 0 (0, 0)).2.toNat).testBit (l.getD 0 (0, 0)).1.toNat = true
  lt : ∀ y, y < 8 → R y < 256
theorem Got.start {l : List Cl} (h : ∀ c ∈ l, inP c = true) (hl : 0 < l.length) : Got l (fun y => rowTo l y 1) where
  sound := fun x y _ hb => by
    obtain ⟨j, hj, e⟩ := (rowTo_bit l h x y 1 hl).1 hb
    obtain rfl : j = 0 := by omega
    rw [← e]
    exact ⟨.base hl, getD_mem hl⟩
  first := by
    have hp := inP_out (h _ (getD_mem hl))
    exact (rowTo_bit l h _ _ 1 hl).2 ⟨0, by omega, Prod.ext (by dsimp only; omega) (by dsimp only; omega)⟩
  lt := fun y _ => rowTo_lt l h y 1 hl
theorem Got.next {l : List Cl} {R : Nat → Nat} (g : Got l R) (h : ∀ c ∈ l, inP c = true) (hl : 0 < l.length) : Got l (nextR R (allR l)) where
  sound := fun x y hy hb => by
    obtain ⟨ha, hr⟩ := (nextR_bit R _ x y).1 hb
    have hm := (allR_bit h x y).1 ha
    refine ⟨?_, hm⟩
    rcases hr with hr | ⟨h1, hr⟩ | hr | ⟨h1, hr⟩ | ⟨h1, hr⟩
    · exact (g.sound x y hy hr).1
    · exact .step (g.sound _ y hy hr).1 hm ((nearC_iff _ _).2 (.inr ⟨rfl, .inr (by dsimp only; omega)⟩))
    · exact .step (g.sound _ y hy hr).1 hm ((nearC_iff _ _).2 (.inr ⟨rfl, .inl (by dsimp only; omega)⟩))
    · exact .step (g.sound x _ (by omega) hr).1 hm ((nearC_iff _ _).2 (.inl ⟨rfl, .inr (by dsimp only; omega)⟩))
    · exact .step (g.sound x _ (by omega) hr).1 hm ((nearC_iff _ _).2 (.inl ⟨rfl, .inl (by dsimp only; omega)⟩))
  first := by
    have hp := inP_out (h _ (getD_mem hl))
    refine (nextR_bit R _ _ _).2 ⟨(allR_bit h _ _).2 ?_, .inl g.first⟩
    have e : ((((l.getD 0 (0, 0)).1.toNat : Nat) : Int), (((l.getD 0 (0, 0)).2.toNat : Nat) : Int)) = l.getD 0 (0, 0) := Prod.ext (by dsimp only; omega) (by dsimp only; omega)
    rw [e]
    exact getD_mem hl
  lt := fun y hy => by
    have : nextR R (allR l) y ≤ allR l y := Nat.and_le_right
    have h2 := rowTo_lt l h y l.length (Nat.le_refl _)
    unfold allR at *
    omega
theorem Got.le {l : List Cl} {R : Nat → Nat} (g : Got l R) (h : ∀ c ∈ l, inP c = true) (y : Nat) (hy : y < 8) : R y ≤ nextR R (allR l) y := by
  have e : R y &&& nextR R (allR l) y = R y := by
    apply Nat.eq_of_testBit_eq
    intro x
    rw [Nat.testBit_and]
    cases hb : (R y).testBit x with
    | false => rfl
    | true =>
      rw [Bool.true_and]
      exact (nextR_bit R _ x y).2 ⟨(allR_bit h x y).2 (g.sound x y hy hb).2, .inl hb⟩
  calc R y = R y &&& nextR R (allR l) y := e.symm
    _ ≤ nextR R (allR l) y := Nat.and_le_right
theorem Got.closed {l : List Cl} {R : Nat → Nat} (g : Got l R) (h : ∀ c ∈ l, inP c = true) (hf : ∀ y, y < 8 → nextR R (allR l) y = R y) : ∀ c, Rch l c → 0 ≤ c.1 ∧ 0 ≤ c.2 ∧ c.2 < 8 ∧ (R c.2.toNat).testBit c.1.toNat = true := by
  intro c hc
  induction hc with
  | base hl =>
    have hp := inP_out (h _ (getD_mem hl))
    exact ⟨by omega, by omega, by omega, g.first⟩
  | step ha hb hn ih =>
    rename_i a b
    have hp := inP_out (h b hb)
    refine ⟨by omega, by omega, by omega, ?_⟩
    rw [← hf b.2.toNat (by omega), nextR_bit]
    refine ⟨(allR_bit h _ _).2 ?_, ?_⟩
    · have e : ((b.1.toNat : Int), (b.2.toNat : Int)) = b := Prod.ext (by dsimp only; omega) (by dsimp only; omega)
      rw [e]; exact hb
    · rw [nearC_iff] at hn
      obtain ⟨i1, i2, i3, i4⟩ := ih
      rcases hn with ⟨h1, h2 | h2⟩ | ⟨h1, h2 | h2⟩
      · refine .inr (.inr (.inr (.inr ⟨by omega, ?_⟩)))
        rw [show b.2.toNat + 1 = a.2.toNat by omega, ← h1]; exact i4
      · refine .inr (.inr (.inr (.inl ⟨by omega, ?_⟩)))
        rw [show b.2.toNat - 1 = a.2.toNat by omega, ← h1]; exact i4
      · refine .inr (.inr (.inl ?_))
        rw [show b.1.toNat + 1 = a.1.toNat by omega, ← h1]; exact i4
      · refine .inr (.inl ⟨by omega, ?_⟩)
        rw [show b.1.toNat - 1 = a.1.toNat by omega, ← h1]; exact i4
theorem Got.done {l : List Cl} {R : Nat → Nat} (g : Got l R) (h : ∀ c ∈ l, inP c = true) (hf : ∀ y, y < 8 → nextR R (allR l) y = R y) : (∀ y, y < 8 → R y = allR l y) ↔ AllRch l := by
  constructor
  · intro e c hc
    have hp := inP_out (h c hc)
    have ec : ((c.1.toNat : Int), (c.2.toNat : Int)) = c := Prod.ext (by dsimp only; omega) (by dsimp only; omega)
    have := (g.sound c.1.toNat c.2.toNat (by omega) (by
      rw [e _ (by omega)]
      refine (allR_bit h _ _).2 ?_
      rw [ec]; exact hc)).1
    rw [ec] at this
    exact this
  · intro ha y hy
    apply Nat.eq_of_testBit_eq
    intro x
    rw [Bool.eq_iff_iff, allR_bit h]
    constructor
    · exact fun hb => (g.sound x y hy hb).2
    · intro hm
      have := (g.closed h hf _ (ha _ hm)).2.2.2
      simpa using this

/-- The next cell of a shape in its text. -/
theorem fmt_next {l : List Cl} (h : isShape l = true) {k : Nat} (hk : k < l.length) {t : List UInt8} {x y a b : Int} (hs : fmtTo l k = (t, x, y)) (hc : l.getD k (0, 0) = (a, b)) :
    (0 ≤ x ∧ 0 ≤ y ∧ y ≤ b ∧ (y = b → x ≤ a) ∧ 0 ≤ a ∧ a ≤ 7 ∧ b ≤ 7 ∧ t.length ≤ 200) ∧ fmtTo l (k + 1) = (t ++ List.replicate (b - y).toNat 47 ++ List.replicate (a - (if y < b then 0 else x)).toNat 46 ++ [35], a + 1, b) := by
  have ih := fmtAt h k (by omega)
  have ih2 := fmtAt h (k + 1) (by omega)
  obtain ⟨h1, h2, h3⟩ := (isShape_iff l).1 h
  have hp := inP_out (h2 _ (getD_mem hk))
  have hl2 := ih2.last (by omega)
  have e := fmtTo_step l k
  rw [hs] at ih e
  rw [hc] at hp e
  rw [Nat.add_sub_cancel, hc] at hl2
  dsimp only at hp hl2 e
  have hlow := ih.low
  have hlen := ih.len
  have hlast := ih.last
  have hfirst := ih.first
  dsimp only at hlow hlen hlast hfirst
  have hord : y ≤ b ∧ (y = b → x ≤ a) := by
    by_cases h0 : k = 0
    · have := hfirst h0
      omega
    · have h4 := hlast (by omega)
      have h5 := srt_getD h3 (show k - 1 < k by omega) hk
      rw [bef_iff, hc] at h5
      dsimp only at h5
      omega
  have hy7 : y ≤ 7 := by omega
  refine ⟨⟨hlow.1, hlow.2, hord.1, hord.2, hp.1, hp.2.1, hp.2.2.2, by omega⟩, ?_⟩
  rw [e] at hl2 ⊢
  dsimp only at hl2
  rw [hl2.1, hl2.2]

end Go.Proofs.YtkcclhnligajeaaGreatDoor
