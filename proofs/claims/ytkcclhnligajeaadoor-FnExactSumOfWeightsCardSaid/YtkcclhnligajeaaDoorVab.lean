/-
  Lists in an order, each element once: plain facts for any order, nothing of the program.
  Neighbours with one key taken out of a list: plain facts for any list and key, nothing of the program.
-/
namespace Go.Proofs.YtkcclhnligajeaaDoor

section
/-- An order in which two different elements never stand alike. -/
structure OrdG {α : Type} (lt : α → α → Bool) : Prop where
  irr : ∀ a, lt a a = false
  trans : ∀ {a b c}, lt a b = true → lt b c = true → lt a c = true
  asym : ∀ {a b}, lt a b = true → lt b a = false
  total : ∀ {a b}, lt a b = false → lt b a = false → a = b

section
variable {α : Type} {lt : α → α → Bool} {d : α}

/-- In order, each once. -/
def SrtG (lt : α → α → Bool) (l : List α) : Prop := l.Pairwise fun a b => lt a b = true
theorem srtG_unique (O : OrdG lt) : ∀ {a b : List α}, SrtG lt a → SrtG lt b → (∀ x, x ∈ a ↔ x ∈ b) → a = b := by
  intro a
  induction a with
  | nil => intro b _ _ h; cases b with
    | nil => rfl
    | cons y b => have := (h y).2 (by simp); cases this
  | cons x a ih =>
    intro b ha hb h
    cases b with
    | nil => have := (h x).1 (by simp); cases this
    | cons y b =>
      unfold SrtG at ha hb
      rw [List.pairwise_cons] at ha hb
      have hxy : x = y := by
        have h1 := (h x).1 (by simp)
        have h2 := (h y).2 (by simp)
        rw [List.mem_cons] at h1 h2
        rcases h1 with h1 | h1
        · exact h1
        · rcases h2 with h2 | h2
          · exact h2.symm
          · have k1 := hb.1 x h1
            have k2 := ha.1 y h2
            rw [O.asym k1] at k2
            cases k2
      subst hxy
      congr 1
      apply ih ha.2 hb.2
      intro z
      constructor
      · intro hz
        have h1 := (h z).1 (by simp [hz])
        rw [List.mem_cons] at h1
        rcases h1 with h1 | h1
        · subst h1; have := ha.1 z hz; rw [O.irr] at this; cases this
        · exact h1
      · intro hz
        have h1 := (h z).2 (by simp [hz])
        rw [List.mem_cons] at h1
        rcases h1 with h1 | h1
        · subst h1; have := hb.1 z hz; rw [O.irr] at this; cases this
        · exact h1

/-- Where x goes among the first k of o. -/
def posG (lt : α → α → Bool) (d : α) (x : α) (o : List α) : Nat → Nat
  | 0 => 0
  | k + 1 => if lt x (o.getD k d) = true then posG lt d x o k else k + 1
def insG [DecidableEq α] (lt : α → α → Bool) (d : α) (o : List α) (x : α) : List α := if 0 < posG lt d x o o.length ∧ o.getD (posG lt d x o o.length - 1) d = x then o else o.take (posG lt d x o o.length) ++ [x] ++ o.drop (posG lt d x o o.length)
/-- All in order, each once. -/
def sortG [DecidableEq α] (lt : α → α → Bool) (d : α) (l : List α) : List α := l.foldl (insG lt d) []
theorem posG_le (x : α) (o : List α) : ∀ k, posG lt d x o k ≤ k
  | 0 => Nat.le_refl _
  | k + 1 => by unfold posG; split; exact Nat.le_succ_of_le (posG_le x o k); exact Nat.le_refl _
theorem posG_after (x : α) (o : List α) : ∀ k j, posG lt d x o k ≤ j → j < k → lt x (o.getD j d) = true
  | 0, j, _, h => by omega
  | k + 1, j, h1, h2 => by
    unfold posG at h1
    split at h1
    · rename_i hb
      by_cases hj : j = k
      · rw [hj]; exact hb
      · exact posG_after x o k j h1 (by omega)
    · omega
theorem posG_at (x : α) (o : List α) : ∀ k, 0 < posG lt d x o k → lt x (o.getD (posG lt d x o k - 1) d) = false
  | 0, h => by simp [posG] at h
  | k + 1, h => by
    unfold posG at h ⊢
    split
    · rename_i hb; rw [if_pos hb] at h; exact posG_at x o k h
    · rename_i hb; simpa using hb
theorem srtG_getD (d : α) {o : List α} (h : SrtG lt o) {i j : Nat} (hij : i < j) (hj : j < o.length) : lt (o.getD i d) (o.getD j d) = true := by
  have h2 := List.pairwise_iff_getElem.1 h i j (by omega) hj hij
  simpa [List.getD, hj, show i < o.length by omega] using h2
theorem memG_getD (d : α) {o : List α} {x : α} (h : x ∈ o) : ∃ j, j < o.length ∧ o.getD j d = x := by
  obtain ⟨j, hj, rfl⟩ := List.getElem_of_mem h
  exact ⟨j, hj, by simp [List.getD, hj]⟩
theorem memG_take (d : α) {o : List α} {x : α} {k : Nat} (h : x ∈ o.take k) : ∃ j, j < k ∧ j < o.length ∧ o.getD j d = x := by
  obtain ⟨j, hj, rfl⟩ := List.getElem_of_mem h
  rw [List.length_take] at hj
  exact ⟨j, by omega, by omega, by simp [List.getD, show j < o.length by omega]⟩
theorem memG_drop (d : α) {o : List α} {x : α} {k : Nat} (h : x ∈ o.drop k) : ∃ j, k ≤ j ∧ j < o.length ∧ o.getD j d = x := by
  obtain ⟨j, hj, rfl⟩ := List.getElem_of_mem h
  rw [List.length_drop] at hj
  exact ⟨k + j, by omega, by omega, by simp [List.getD, show k + j < o.length by omega]⟩
theorem insG_srt [DecidableEq α] (O : OrdG lt) (d : α) {o : List α} (h : SrtG lt o) (x : α) : SrtG lt (insG lt d o x) := by
  unfold insG
  split
  · exact h
  · rename_i hne
    have hle := posG_le (lt := lt) (d := d) x o o.length
    obtain ⟨k, hk⟩ : ∃ k, posG lt d x o o.length = k := ⟨_, rfl⟩
    have haft := posG_after (lt := lt) (d := d) x o o.length
    have hat := posG_at (lt := lt) (d := d) x o o.length
    rw [hk] at hne hle haft hat ⊢
    have hbefore : ∀ a, a ∈ o.take k → lt a x = true := by
      intro a ha
      obtain ⟨j, hj1, hj2, rfl⟩ := memG_take d ha
      have h1 := hat (by omega)
      have h2 : lt (o.getD (k - 1) d) x = true := by
        cases h3 : lt (o.getD (k - 1) d) x with
        | true => rfl
        | false => exact absurd ⟨by omega, O.total h3 h1⟩ hne
      by_cases hj : j = k - 1
      · rw [hj]; exact h2
      · exact O.trans (srtG_getD d h (show j < k - 1 by omega) (by omega)) h2
    unfold SrtG
    rw [List.append_assoc, List.pairwise_append]
    refine ⟨h.sublist (List.take_sublist _ _), ?_, ?_⟩
    · rw [List.singleton_append, List.pairwise_cons]
      refine ⟨fun b hb => ?_, h.sublist (List.drop_sublist _ _)⟩
      obtain ⟨j, hj1, hj2, rfl⟩ := memG_drop d hb
      exact haft j hj1 hj2
    · intro a ha b hb
      rw [List.singleton_append, List.mem_cons] at hb
      rcases hb with rfl | hb
      · exact hbefore a ha
      · obtain ⟨j, hj1, hj2, rfl⟩ := memG_drop d hb
        exact O.trans (hbefore a ha) (haft j hj1 hj2)
theorem insG_mem [DecidableEq α] {o : List α} (x y : α) : y ∈ insG lt d o x ↔ y ∈ o ∨ y = x := by
  unfold insG
  split
  · rename_i h
    constructor
    · exact .inl
    · rintro (h1 | rfl)
      · exact h1
      · have hle := posG_le (lt := lt) (d := d) y o o.length
        obtain ⟨k, hk⟩ : ∃ k, posG lt d y o o.length = k := ⟨_, rfl⟩
        rw [hk] at h hle
        rw [← h.2]
        simp [List.getD, show k - 1 < o.length by omega]
  · have e : y ∈ o ↔ y ∈ o.take (posG lt d x o o.length) ∨ y ∈ o.drop (posG lt d x o o.length) := by
      rw [← List.mem_append, List.take_append_drop]
    rw [e, List.append_assoc]
    simp only [List.mem_append, List.mem_singleton]
    constructor
    · rintro (h | h | h)
      · exact .inl (.inl h)
      · exact .inr h
      · exact .inl (.inr h)
    · rintro ((h | h) | h)
      · exact .inl h
      · exact .inr (.inr h)
      · exact .inr (.inl h)
theorem foldG [DecidableEq α] (O : OrdG lt) (d : α) (l : List α) : ∀ o, SrtG lt o → SrtG lt (l.foldl (insG lt d) o) ∧ ∀ x, x ∈ l.foldl (insG lt d) o ↔ x ∈ o ∨ x ∈ l := by
  induction l with
  | nil => intro o h; exact ⟨h, by simp⟩
  | cons c l ih =>
    intro o h
    rw [List.foldl_cons]
    have := ih _ (insG_srt O d h c)
    refine ⟨this.1, fun x => ?_⟩
    rw [this.2 x, insG_mem, List.mem_cons, or_assoc]
theorem sortG_srt [DecidableEq α] (O : OrdG lt) (d : α) (l : List α) : SrtG lt (sortG lt d l) := (foldG O d l [] List.Pairwise.nil).1
theorem sortG_mem [DecidableEq α] (O : OrdG lt) (d : α) (l : List α) (x : α) : x ∈ sortG lt d l ↔ x ∈ l := by have := (foldG O d l [] List.Pairwise.nil).2 x; simpa [sortG] using this
theorem sortG_unique [DecidableEq α] (O : OrdG lt) (d : α) {l r : List α} (h : SrtG lt r) (hm : ∀ x, x ∈ r ↔ x ∈ l) : r = sortG lt d l := srtG_unique O h (sortG_srt O d l) fun x => (hm x).trans (sortG_mem O d l x).symm
theorem sortG_take [DecidableEq α] (l : List α) (k : Nat) (h : k < l.length) : sortG lt d (l.take (k + 1)) = insG lt d (sortG lt d (l.take k)) (l.getD k d) := by
  rw [List.take_succ_eq_append_getElem h, sortG, List.foldl_append]
  simp [sortG, List.getD, h]

/-- What is left of the first k of m when neighbours that are equal are taken out. -/
def dedG [DecidableEq α] (d : α) (m : List α) : Nat → List α
  | 0 => []
  | k + 1 => if 0 < k ∧ m.getD k d = m.getD (k - 1) d then dedG d m k else dedG d m k ++ [m.getD k d]

end
end

section
section
variable {α β : Type} [DecidableEq β] {key : α → β} {d : α}

/-- What is left of the first k of m when an element goes whose key is its neighbour's. -/
def dedK (key : α → β) (d : α) (m : List α) : Nat → List α
  | 0 => []
  | k + 1 => if 0 < k ∧ key (m.getD k d) = key (m.getD (k - 1) d) then dedK key d m k else dedK key d m k ++ [m.getD k d]
theorem dedK_skip {m : List α} {k : Nat} (h : 0 < k ∧ key (m.getD k d) = key (m.getD (k - 1) d)) : dedK key d m (k + 1) = dedK key d m k := if_pos h
theorem dedK_keep {m : List α} {k : Nat} (h : ¬ (0 < k ∧ key (m.getD k d) = key (m.getD (k - 1) d))) : dedK key d m (k + 1) = dedK key d m k ++ [m.getD k d] := if_neg h
theorem takeG_snoc (d : α) (l : List α) (k : Nat) (h : k < l.length) : l.take (k + 1) = l.take k ++ [l.getD k d] := by
  rw [List.take_succ_eq_append_getElem h]
  simp [List.getD, h]
theorem dedK_upto {m : List α} {n : Nat} (hn : n ≤ m.length) (h : ∀ j, 0 < j → j < n → key (m.getD j d) ≠ key (m.getD (j - 1) d)) : ∀ k, k ≤ n → dedK key d m k = m.take k
  | 0, _ => by simp [dedK]
  | k + 1, hk => by
    rw [dedK_keep (fun hh => h k hh.1 (by omega) hh.2), dedK_upto hn h k (by omega), takeG_snoc d m k (by omega)]
theorem dedK_le (m : List α) : ∀ k, (dedK key d m k).length ≤ k
  | 0 => by simp [dedK]
  | k + 1 => by
    have := dedK_le m k
    unfold dedK
    split
    · omega
    · simp; omega
theorem dedK_sub (m : List α) : ∀ k, k ≤ m.length → (dedK key d m k).Sublist (m.take k)
  | 0, _ => by simp [dedK]
  | k + 1, hk => by
    have h := dedK_sub m k (by omega)
    rw [takeG_snoc d m k (by omega)]
    unfold dedK
    split
    · exact h.trans (List.sublist_append_left _ _)
    · exact h.append (List.Sublist.refl _)
/-- The row while neighbours are taken out: p looked at, the first kk left. -/
structure CptK (key : α → β) (d : α) (m L : List α) (p kk : Nat) : Prop where
  len : L.length = m.length
  kept : L.take kk = dedK key d m p
  size : kk = (dedK key d m p).length
  lt : kk < p
  rest : ∀ j, p - 1 ≤ j → L.getD j d = m.getD j d
theorem CptK.skip {m L : List α} {p kk : Nat} (h : CptK key d m L p kk) (he : 0 < p ∧ key (m.getD p d) = key (m.getD (p - 1) d)) : CptK key d m L (p + 1) kk :=
  ⟨h.len, by rw [dedK_skip he]; exact h.kept, by rw [dedK_skip he]; exact h.size, by have := h.lt; omega, fun j hj => h.rest j (by omega)⟩
theorem CptK.keep {m L : List α} {p kk : Nat} (h : CptK key d m L p kk) (hp : p < m.length) (he : ¬ (0 < p ∧ key (m.getD p d) = key (m.getD (p - 1) d))) : CptK key d m (L.set kk (m.getD p d)) (p + 1) (kk + 1) := by
  have hl := h.lt
  have hkl : kk < L.length := by have := h.len; omega
  refine ⟨by rw [List.length_set]; exact h.len, ?_, by rw [dedK_keep he, List.length_append, ← h.size]; rfl, by omega, fun j hj => ?_⟩
  · have e : (L.set kk (m.getD p d)).getD kk d = m.getD p d := by
      rw [List.getD_eq_getElem?_getD, List.getElem?_set_self hkl]
      rfl
    rw [takeG_snoc d _ _ (by rw [List.length_set]; exact hkl), dedK_keep he, List.take_set_of_le (Nat.le_refl _), h.kept, e]
  · have hne : kk ≠ j := by omega
    have := h.rest j (by omega)
    rw [List.getD_eq_getElem?_getD] at this ⊢
    rw [List.getElem?_set_ne hne]
    exact this
/-- Behind a sort, every key is left, once. -/
theorem dedK_spec {lt : β → β → Bool} (O : OrdG lt) (m : List α) (h : m.Pairwise fun a b => lt (key b) (key a) = false) : ∀ k, k ≤ m.length → SrtG lt ((dedK key d m k).map key) ∧ ∀ x, x ∈ (dedK key d m k).map key ↔ ∃ j, j < k ∧ key (m.getD j d) = x
  | 0, _ => ⟨List.Pairwise.nil, fun x => by simp [dedK]⟩
  | k + 1, hk => by
    obtain ⟨h1, h2⟩ := dedK_spec O m h k (by omega)
    unfold dedK
    split
    · rename_i he
      refine ⟨h1, fun x => ?_⟩
      rw [h2]
      constructor
      · rintro ⟨j, hj, e⟩; exact ⟨j, by omega, e⟩
      · rintro ⟨j, hj, e⟩
        by_cases hjk : j = k
        · exact ⟨k - 1, by omega, by rw [← he.2, ← hjk]; exact e⟩
        · exact ⟨j, by omega, e⟩
    · rename_i hne
      refine ⟨?_, fun x => ?_⟩
      · unfold SrtG
        rw [List.map_append, List.pairwise_append]
        refine ⟨h1, by simp, ?_⟩
        intro a ha b hb
        rw [List.map_cons, List.map_nil, List.mem_singleton] at hb
        subst hb
        obtain ⟨j, hj, rfl⟩ := (h2 a).1 ha
        have hle : ∀ i, i < k → lt (key (m.getD k d)) (key (m.getD i d)) = false := fun i hi => by
          have := List.pairwise_iff_getElem.1 h i k (by omega) (by omega) hi
          simpa [List.getD, show i < m.length by omega, show k < m.length by omega] using this
        have hlt : lt (key (m.getD (k - 1) d)) (key (m.getD k d)) = true := by
          cases h5 : lt (key (m.getD (k - 1) d)) (key (m.getD k d)) with
          | true => rfl
          | false => exact absurd ⟨by omega, O.total (hle (k - 1) (by omega)) h5⟩ hne
        by_cases hj2 : j = k - 1
        · rw [hj2]; exact hlt
        · have h6 := List.pairwise_iff_getElem.1 h j (k - 1) (by omega) (by omega) (by omega)
          have h7 : lt (key (m.getD (k - 1) d)) (key (m.getD j d)) = false := by simpa [List.getD, show j < m.length by omega, show k - 1 < m.length by omega] using h6
          cases h8 : lt (key (m.getD j d)) (key (m.getD k d)) with
          | true => rfl
          | false =>
            have e1 := O.total h8 (hle j (by omega))
            rw [e1] at h7
            rw [h7] at hlt
            cases hlt
      · rw [List.map_append, List.mem_append, h2, List.map_cons, List.map_nil, List.mem_singleton]
        constructor
        · rintro (⟨j, hj, e⟩ | e)
          · exact ⟨j, by omega, e⟩
          · exact ⟨k, by omega, e.symm⟩
        · rintro ⟨j, hj, e⟩
          by_cases hjk : j = k
          · exact .inr (by rw [← e, hjk])
          · exact .inl ⟨j, by omega, e⟩
/-- .. so what is left has the keys in order, each once. -/
theorem dedK_sortG {lt : β → β → Bool} (O : OrdG lt) (db : β) {m : List α} (h : m.Pairwise fun a b => lt (key b) (key a) = false) {l : List β} (hm : ∀ x, x ∈ m.map key ↔ x ∈ l) : (dedK key d m m.length).map key = sortG lt db l := by
  obtain ⟨h1, h2⟩ := dedK_spec (d := d) O m h m.length (Nat.le_refl _)
  refine sortG_unique O db h1 fun x => ?_
  rw [h2, ← hm]
  constructor
  · rintro ⟨j, hj, rfl⟩; exact List.mem_map.2 ⟨m[j], List.getElem_mem _, by simp [List.getD, hj]⟩
  · intro hx
    obtain ⟨a, ha, rfl⟩ := List.mem_map.1 hx
    obtain ⟨j, hj, rfl⟩ := List.getElem_of_mem ha
    exact ⟨j, hj, by simp [List.getD, hj]⟩
end
end

end Go.Proofs.YtkcclhnligajeaaDoor
