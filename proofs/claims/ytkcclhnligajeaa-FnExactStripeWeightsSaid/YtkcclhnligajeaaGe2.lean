/-
  Neighbours with one key taken out of a list: plain facts for any list and key, nothing of the program.
-/
import Derived.Test.YtkcclhnligajeaaGen
namespace Go.Proofs.Ytkcclhnligajeaa

section
variable {α β : Type} [DecidableEq β] {key : α → β} {d : α}

/-- What is left of the first k of m when an element goes whose key is its neighbour's. -/
def dedK (key : α → β) (d : α) (m : List α) : Nat → List α
  | 0 => []
  | k + 1 => if 0 < k ∧ key (m.getD k d) = key (m.getD (k - 1) d) then dedK key d m k else dedK key d m k ++ [m.getD k d]
theorem dedK_skip {m : List α} {k : Nat} (h : 0 < k ∧ key (m.getD k d) = key (m.getD (k - 1) d)) : dedK key d m (k + 1) = dedK key d m k := if_pos h
theorem dedK_keep {m : List α} {k : Nat} (h : ¬ (0 < k ∧ key (m.getD k d) = key (m.getD (k - 1) d))) : dedK key d m (k + 1) = dedK key d m k ++ [m.getD k d] := if_neg h
theorem takeG_snoc (d : α) (l : List α) (k : Nat) (h : k < l.length) : l.take (k + 1) = l.take k ++ [l.getD k d] := by
  rw [List.take_succ_eq_append_getElem h]
  simp [List.getD, h]
theorem dedK_upto {m : List α} {n : Nat} (hn : n ≤ m.length) (h : ∀ j, 0 < j → j < n → key (m.getD j d) ≠ key (m.getD (j - 1) d)) : ∀ k, k ≤ n → dedK key d m k = m.take k
  | 0, _ => by simp [dedK]
  | k + 1, hk => by
    rw [dedK_keep (fun hh => h k hh.1 (by omega) hh.2), dedK_upto hn h k (by omega), takeG_snoc d m k (by omega)]
theorem dedK_le (m : List α) : ∀ k, (dedK key d m k).length ≤ k
  | 0 => by simp [dedK]
  | k + 1 => by
    have := dedK_le m k
    unfold dedK
    split
    · omega
    · simp; omega
theorem dedK_sub (m : List α) : ∀ k, k ≤ m.length → (dedK key d m k).Sublist (m.take k)
  | 0, _ => by simp [dedK]
  | k + 1, hk => by
    have h := dedK_sub m k (by omega)
    rw [takeG_snoc d m k (by omega)]
    unfold dedK
    split
    · exact h.trans (List.sublist_append_left _ _)
    · exact h.append (List.Sublist.refl _)
/-- The row while neighbours are taken out: p looked at, the first kk left. -/
structure CptK (key : α → β) (d : α) (m L : List α) (p kk : Nat) : Prop where
  len : L.length = m.length
  kept : L.take kk = dedK key d m p
  size : kk = (dedK key d m p).length
  lt : kk < p
  rest : ∀ j, p - 1 ≤ j → L.getD j d = m.getD j d
theorem CptK.skip {m L : List α} {p kk : Nat} (h : CptK key d m L p kk) (he : 0 < p ∧ key (m.getD p d) = key (m.getD (p - 1) d)) : CptK key d m L (p + 1) kk :=
  ⟨h.len, by rw [dedK_skip he]; exact h.kept, by rw [dedK_skip he]; exact h.size, by have := h.lt; omega, fun j hj => h.rest j (by omega)⟩
theorem CptK.keep {m L : List α} {p kk : Nat} (h : CptK key d m L p kk) (hp : p < m.length) (he : ¬ (0 < p ∧ key (m.getD p d) = key (m.getD (p - 1) d))) : CptK key d m (L.set kk (m.getD p d)) (p + 1) (kk + 1) := by
  have hl := h.lt
  have hkl : kk < L.length := by have := h.len; omega
  refine ⟨by rw [List.length_set]; exact h.len, ?_, by rw [dedK_keep he, List.length_append, ← h.size]; rfl, by omega, fun j hj => ?_⟩
  · have e : (L.set kk (m.getD p d)).getD kk d = m.getD p d := by
      rw [List.getD_eq_getElem?_getD, List.getElem?_set_self hkl]
      rfl
    rw [takeG_snoc d _ _ (by rw [List.length_set]; exact hkl), dedK_keep he, List.take_set_of_le (Nat.le_refl _), h.kept, e]
  · have hne : kk ≠ j := by omega
    have := h.rest j (by omega)
    rw [List.getD_eq_getElem?_getD] at this ⊢
    rw [List.getElem?_set_ne hne]
    exact this
/-- Behind a sort, every key is left, once. -/
theorem dedK_spec {lt : β → β → Bool} (O : OrdG lt) (m : List α) (h : m.Pairwise fun a b => lt (key b) (key a) = false) : ∀ k, k ≤ m.length → SrtG lt ((dedK key d m k).map key) ∧ ∀ x, x ∈ (dedK key d m k).map key ↔ ∃ j, j < k ∧ key (m.getD j d) = x
  | 0, _ => ⟨List.Pairwise.nil, fun x => by simp [dedK]⟩
  | k + 1, hk => by
    obtain ⟨h1, h2⟩ := dedK_spec O m h k (by omega)
    unfold dedK
    split
    · rename_i he
      refine ⟨h1, fun x => ?_⟩
      rw [h2]
      constructor
      · rintro ⟨j, hj, e⟩; exact ⟨j, by omega, e⟩
      · rintro ⟨j, hj, e⟩
        by_cases hjk : j = k
        · exact ⟨k - 1, by omega, by rw [← he.2, ← hjk]; exact e⟩
        · exact ⟨j, by omega, e⟩
    · rename_i hne
      refine ⟨?_, fun x => ?_⟩
      · unfold SrtG
        rw [List.map_append, List.pairwise_append]
        refine ⟨h1, by simp, ?_⟩
        intro a ha b hb
        rw [List.map_cons, List.map_nil, List.mem_singleton] at hb
        subst hb
        obtain ⟨j, hj, rfl⟩ := (h2 a).1 ha
        have hle : ∀ i, i < k → lt (key (m.getD k d)) (key (m.getD i d)) = false := fun i hi => by
          have := List.pairwise_iff_getElem.1 h i k (by omega) (by omega) hi
          simpa [List.getD, show i < m.length by omega, show k < m.length by omega] using this
        have hlt : lt (key (m.getD (k - 1) d)) (key (m.getD k d)) = true := by
          cases h5 : lt (key (m.getD (k - 1) d)) (key (m.getD k d)) with
          | true => rfl
          | false => exact absurd ⟨by omega, O.total (hle (k - 1) (by omega)) h5⟩ hne
        by_cases hj2 : j = k - 1
        · rw [hj2]; exact hlt
        · have h6 := List.pairwise_iff_getElem.1 h j (k - 1) (by omega) (by omega) (by omega)
          have h7 : lt (key (m.getD (k - 1) d)) (key (m.getD j d)) = false := by simpa [List.getD, show j < m.length by omega, show k - 1 < m.length by omega] using h6
          cases h8 : lt (key (m.getD j d)) (key (m.getD k d)) with
          | true => rfl
          | false =>
            have e1 := O.total h8 (hle j (by omega))
            rw [e1] at h7
            rw [h7] at hlt
            cases hlt
      · rw [List.map_append, List.mem_append, h2, List.map_cons, List.map_nil, List.mem_singleton]
        constructor
        · rintro (⟨j, hj, e⟩ | e)
          · exact ⟨j, by omega, e⟩
          · exact ⟨k, by omega, e.symm⟩
        · rintro ⟨j, hj, e⟩
          by_cases hjk : j = k
          · exact .inr (by rw [← e, hjk])
          · exact .inl ⟨j, by omega, e⟩
/-- .. so what is left has the keys in order, each once. -/
theorem dedK_sortG {lt : β → β → Bool} (O : OrdG lt) (db : β) {m : List α} (h : m.Pairwise fun a b => lt (key b) (key a) = false) {l : List β} (hm : ∀ x, x ∈ m.map key ↔ x ∈ l) : (dedK key d m m.length).map key = sortG lt db l := by
  obtain ⟨h1, h2⟩ := dedK_spec (d := d) O m h m.length (Nat.le_refl _)
  refine sortG_unique O db h1 fun x => ?_
  rw [h2, ← hm]
  constructor
  · rintro ⟨j, hj, rfl⟩; exact List.mem_map.2 ⟨m[j], List.getElem_mem _, by simp [List.getD, hj]⟩
  · intro hx
    obtain ⟨a, ha, rfl⟩ := List.mem_map.1 hx
    obtain ⟨j, hj, rfl⟩ := List.getElem_of_mem ha
    exact ⟨j, hj, by simp [List.getD, hj]⟩
end
end Go.Proofs.Ytkcclhnligajeaa
