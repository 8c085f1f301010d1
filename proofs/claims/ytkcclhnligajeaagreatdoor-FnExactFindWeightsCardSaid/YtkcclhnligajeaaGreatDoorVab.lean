/-
  Lists in an order, each element once: plain facts for any order, nothing of the program.
  Neighbours with one key taken out of a list: plain facts for any list and key, nothing of the program.
  The laws' helpers that compare, mark and look at slices of numbers.
  Appending cells to a slice of cells that the call owns: the laws at an operation, the new block a letter.
-/
import Derived.Test.YtkcclhnligajeaaGreatDoorVaa
import Derived.BigQuiet
import Derived.Deep.QuietTactic
import Derived.Deep.RegionHeld3
import Derived.Deep.AppendLies
namespace Go.Proofs.YtkcclhnligajeaaGreatDoor

section
/-- An order in which two different elements never stand alike. -/
structure OrdG {α : Type} (lt : α → α → Bool) : Prop where
  irr : ∀ a, lt a a = false
  trans : ∀ {a b c}, lt a b = true → lt b c = true → lt a c = true
  asym : ∀ {a b}, lt a b = true → lt b a = false
  total : ∀ {a b}, lt a b = false → lt b a = false → a = b

section
variable {α : Type} {lt : α → α → Bool} {d : α}

/-- In order, each once. -/
def SrtG (lt : α → α → Bool) (l : List α) : Prop := l.Pairwise fun a b => lt a b = true
theorem srtG_unique (O : OrdG lt) : ∀ {a b : List α}, SrtG lt a → SrtG lt b → (∀ x, x ∈ a ↔ x ∈ b) → a = b := by
  intro a
  induction a with
  | nil => intro b _ _ h; cases b with
    | nil => rfl
    | cons y b => have := (h y).2 (by simp); cases this
  | cons x a ih =>
    intro b ha hb h
    cases b with
    | nil => have := (h x).1 (by simp); cases this
    | cons y b =>
      unfold SrtG at ha hb
      rw [List.pairwise_cons] at ha hb
      have hxy : x = y := by
        have h1 := (h x).1 (by simp)
        have h2 := (h y).2 (by simp)
        rw [List.mem_cons] at h1 h2
        rcases h1 with h1 | h1
        · exact h1
        · rcases h2 with h2 | h2
          · exact h2.symm
          · have k1 := hb.1 x h1
            have k2 := ha.1 y h2
            rw [O.asym k1] at k2
            cases k2
      subst hxy
      congr 1
      apply ih ha.2 hb.2
      intro z
      constructor
      · intro hz
        have h1 := (h z).1 (by simp [hz])
        rw [List.mem_cons] at h1
        rcases h1 with h1 | h1
        · subst h1; have := ha.1 z hz; rw [O.irr] at this; cases this
        · exact h1
      · intro hz
        have h1 := (h z).2 (by simp [hz])
        rw [List.mem_cons] at h1
        rcases h1 with h1 | h1
        · subst h1; have := hb.1 z hz; rw [O.irr] at this; cases this
        · exact h1

/-- Where x goes among the first k of o. -/
def posG (lt : α → α → Bool) (d : α) (x : α) (o : List α) : Nat → Nat
  | 0 => 0
  | k + 1 => if lt x (o.getD k d) = true then posG lt d x o k else k + 1
def insG [DecidableEq α] (lt : α → α → Bool) (d : α) (o : List α) (x : α) : List α := if 0 < posG lt d x o o.length ∧ o.getD (posG lt d x o o.length - 1) d = x then o else o.take (posG lt d x o o.length) ++ [x] ++ o.drop (posG lt d x o o.length)
/-- All in order, each once. -/
def sortG [DecidableEq α] (lt : α → α → Bool) (d : α) (l : List α) : List α := l.foldl (insG lt d) []
theorem posG_le (x : α) (o : List α) : ∀ k, posG lt d x o k ≤ k
  | 0 => Nat.le_refl _
  | k + 1 => by unfold posG; split; exact Nat.le_succ_of_le (posG_le x o k); exact Nat.le_refl _
theorem posG_after (x : α) (o : List α) : ∀ k j, posG lt d x o k ≤ j → j < k → lt x (o.getD j d) = true
  | 0, j, _, h => by omega
  | k + 1, j, h1, h2 => by
    unfold posG at h1
    split at h1
    · rename_i hb
      by_cases hj : j = k
      · rw [hj]; exact hb
      · exact posG_after x o k j h1 (by omega)
    · omega
theorem posG_at (x : α) (o : List α) : ∀ k, 0 < posG lt d x o k → lt x (o.getD (posG lt d x o k - 1) d) = false
  | 0, h => by simp [posG] at h
  | k + 1, h => by
    unfold posG at h ⊢
    split
    · rename_i hb; rw [if_pos hb] at h; exact posG_at x o k h
    · rename_i hb; simpa using hb
theorem srtG_getD (d : α) {o : List α} (h : SrtG lt o) {i j : Nat} (hij : i < j) (hj : j < o.length) : lt (o.getD i d) (o.getD j d) = true := by
  have h2 := List.pairwise_iff_getElem.1 h i j (by omega) hj hij
  simpa [List.getD, hj, show i < o.length by omega] using h2
theorem memG_getD (d : α) {o : List α} {x : α} (h : x ∈ o) : ∃ j, j < o.length ∧ o.getD j d = x := by
  obtain ⟨j, hj, rfl⟩ := List.getElem_of_mem h
  exact ⟨j, hj, by simp [List.getD, hj]⟩
theorem memG_take (d : α) {o : List α} {x : α} {k : Nat} (h : x ∈ o.take k) : ∃ j, j < k ∧ j < o.length ∧ o.getD j d = x := by
  obtain ⟨j, hj, rfl⟩ := List.getElem_of_mem h
  rw [List.length_take] at hj
  exact ⟨j, by omega, by omega, by simp [List.getD, show j < o.length by omega]⟩
theorem memG_drop (d : α) {o : List α} {x : α} {k : Nat} (h : x ∈ o.drop k) : ∃ j, k ≤ j ∧ j < o.length ∧ o.getD j d = x := by
  obtain ⟨j, hj, rfl⟩ := List.getElem_of_mem h
  rw [List.length_drop] at hj
  exact ⟨k + j, by omega, by omega, by simp [List.getD, show k + j < o.length by omega]⟩
theorem insG_srt [DecidableEq α] (O : OrdG lt) (d : α) {o : List α} (h : SrtG lt o) (x : α) : SrtG lt (insG lt d o x) := by
  unfold insG
  split
  · exact h
  · rename_i hne
    have hle := posG_le (lt := lt) (d := d) x o o.length
    obtain ⟨k, hk⟩ : ∃ k, posG lt d x o o.length = k := ⟨_, rfl⟩
    have haft := posG_after (lt := lt) (d := d) x o o.length
    have hat := posG_at (lt := lt) (d := d) x o o.length
    rw [hk] at hne hle haft hat ⊢
    have hbefore : ∀ a, a ∈ o.take k → lt a x = true := by
      intro a ha
      obtain ⟨j, hj1, hj2, rfl⟩ := memG_take d ha
      have h1 := hat (by omega)
      have h2 : lt (o.getD (k - 1) d) x = true := by
        cases h3 : lt (o.getD (k - 1) d) x with
        | true => rfl
        | false => exact absurd ⟨by omega, O.total h3 h1⟩ hne
      by_cases hj : j = k - 1
      · rw [hj]; exact h2
      · exact O.trans (srtG_getD d h (show j < k - 1 by omega) (by omega)) h2
    unfold SrtG
    rw [List.append_assoc, List.pairwise_append]
    refine ⟨h.sublist (List.take_sublist _ _), ?_, ?_⟩
    · rw [List.singleton_append, List.pairwise_cons]
      refine ⟨fun b hb => ?_, h.sublist (List.drop_sublist _ _)⟩
      obtain ⟨j, hj1, hj2, rfl⟩ := memG_drop d hb
      exact haft j hj1 hj2
    · intro a ha b hb
      rw [List.singleton_append, List.mem_cons] at hb
      rcases hb with rfl | hb
      · exact hbefore a ha
      · obtain ⟨j, hj1, hj2, rfl⟩ := memG_drop d hb
        exact O.trans (hbefore a ha) (haft j hj1 hj2)
theorem insG_mem [DecidableEq α] {o : List α} (x y : α) : y ∈ insG lt d o x ↔ y ∈ o ∨ y = x := by
  unfold insG
  split
  · rename_i h
    constructor
    · exact .inl
    · rintro (h1 | rfl)
      · exact h1
      · have hle := posG_le (lt := lt) (d := d) y o o.length
        obtain ⟨k, hk⟩ : ∃ k, posG lt d y o o.length = k := ⟨_, rfl⟩
        rw [hk] at h hle
        rw [← h.2]
        simp [List.getD, show k - 1 < o.length by omega]
  · have e : y ∈ o ↔ y ∈ o.take (posG lt d x o o.length) ∨ y ∈ o.drop (posG lt d x o o.length) := by
      rw [← List.mem_append, List.take_append_drop]
    rw [e, List.append_assoc]
    simp only [List.mem_append, List.mem_singleton]
    constructor
    · rintro (h | h | h)
      · exact .inl (.inl h)
      · exact .inr h
      · exact .inl (.inr h)
    · rintro ((h | h) | h)
      · exact .inl h
      · exact .inr (.inr h)
      · exact .inr (.inl h)
theorem foldG [DecidableEq α] (O : OrdG lt) (d : α) (l : List α) : ∀ o, SrtG lt o → SrtG lt (l.foldl (insG lt d) o) ∧ ∀ x, x ∈ l.foldl (insG lt d) o ↔ x ∈ o ∨ x ∈ l := by
  induction l with
  | nil => intro o h; exact ⟨h, by simp⟩
  | cons c l ih =>
    intro o h
    rw [List.foldl_cons]
    have := ih _ (insG_srt O d h c)
    refine ⟨this.1, fun x => ?_⟩
    rw [this.2 x, insG_mem, List.mem_cons, or_assoc]
theorem sortG_srt [DecidableEq α] (O : OrdG lt) (d : α) (l : List α) : SrtG lt (sortG lt d l) := (foldG O d l [] List.Pairwise.nil).1
theorem sortG_mem [DecidableEq α] (O : OrdG lt) (d : α) (l : List α) (x : α) : x ∈ sortG lt d l ↔ x ∈ l := by have := (foldG O d l [] List.Pairwise.nil).2 x; simpa [sortG] using this
theorem sortG_unique [DecidableEq α] (O : OrdG lt) (d : α) {l r : List α} (h : SrtG lt r) (hm : ∀ x, x ∈ r ↔ x ∈ l) : r = sortG lt d l := srtG_unique O h (sortG_srt O d l) fun x => (hm x).trans (sortG_mem O d l x).symm
theorem sortG_take [DecidableEq α] (l : List α) (k : Nat) (h : k < l.length) : sortG lt d (l.take (k + 1)) = insG lt d (sortG lt d (l.take k)) (l.getD k d) := by
  rw [List.take_succ_eq_append_getElem h, sortG, List.foldl_append]
  simp [sortG, List.getD, h]

/-- What is left of the first k of m when neighbours that are equal are taken out. -/
def dedG [DecidableEq α] (d : α) (m : List α) : Nat → List α
  | 0 => []
  | k + 1 => if 0 < k ∧ m.getD k d = m.getD (k - 1) d then dedG d m k else dedG d m k ++ [m.getD k d]

end
end

section
section
variable {α β : Type} [DecidableEq β] {key : α → β} {d : α}

/-- What is left of the first k of m when an element goes whose key is its neighbour's. -/
def dedK (key : α → β) (d : α) (m : List α) : Nat → List α
  | 0 => []
  | k + 1 => if 0 < k ∧ key (m.getD k d) = key (m.getD (k - 1) d) then dedK key d m k else dedK key d m k ++ [m.getD k d]
theorem dedK_skip {m : List α} {k : Nat} (h : 0 < k ∧ key (m.getD k d) = key (m.getD (k - 1) d)) : dedK key d m (k + 1) = dedK key d m k := if_pos h
theorem dedK_keep {m : List α} {k : Nat} (h : ¬ (0 < k ∧ key (m.getD k d) = key (m.getD (k - 1) d))) : dedK key d m (k + 1) = dedK key d m k ++ [m.getD k d] := if_neg h
theorem takeG_snoc (d : α) (l : List α) (k : Nat) (h : k < l.length) : l.take (k + 1) = l.take k ++ [l.getD k d] := by
  rw [List.take_succ_eq_append_getElem h]
  simp [List.getD, h]
theorem dedK_upto {m : List α} {n : Nat} (hn : n ≤ m.length) (h : ∀ j, 0 < j → j < n → key (m.getD j d) ≠ key (m.getD (j - 1) d)) : ∀ k, k ≤ n → dedK key d m k = m.take k
  | 0, _ => by simp [dedK]
  | k + 1, hk => by
    rw [dedK_keep (fun hh => h k hh.1 (by omega) hh.2), dedK_upto hn h k (by omega), takeG_snoc d m k (by omega)]
theorem dedK_le (m : List α) : ∀ k, (dedK key d m k).length ≤ k
  | 0 => by simp [dedK]
  | k + 1 => by
    have := dedK_le m k
    unfold dedK
    split
    · omega
    · simp; omega
theorem dedK_sub (m : List α) : ∀ k, k ≤ m.length → (dedK key d m k).Sublist (m.take k)
  | 0, _ => by simp [dedK]
  | k + 1, hk => by
    have h := dedK_sub m k (by omega)
    rw [takeG_snoc d m k (by omega)]
    unfold dedK
    split
    · exact h.trans (List.sublist_append_left _ _)
    · exact h.append (List.Sublist.refl _)
/-- The row while neighbours are taken out: p looked at, the first kk left. -/
structure CptK (key : α → β) (d : α) (m L : List α) (p kk : Nat) : Prop where
  len : L.length = m.length
  kept : L.take kk = dedK key d m p
  size : kk = (dedK key d m p).length
  lt : kk < p
  rest : ∀ j, p - 1 ≤ j → L.getD j d = m.getD j d
theorem CptK.skip {m L : List α} {p kk : Nat} (h : CptK key d m L p kk) (he : 0 < p ∧ key (m.getD p d) = key (m.getD (p - 1) d)) : CptK key d m L (p + 1) kk :=
  ⟨h.len, by rw [dedK_skip he]; exact h.kept, by rw [dedK_skip he]; exact h.size, by have := h.lt; omega, fun j hj => h.rest j (by omega)⟩
theorem CptK.keep {m L : List α} {p kk : Nat} (h : CptK key d m L p kk) (hp : p < m.length) (he : ¬ (0 < p ∧ key (m.getD p d) = key (m.getD (p - 1) d))) : CptK key d m (L.set kk (m.getD p d)) (p + 1) (kk + 1) := by
  have hl := h.lt
  have hkl : kk < L.length := by have := h.len; omega
  refine ⟨by rw [List.length_set]; exact h.len, ?_, by rw [dedK_keep he, List.length_append, ← h.size]; rfl, by omega, fun j hj => ?_⟩
  · have e : (L.set kk (m.getD p d)).getD kk d = m.getD p d := by
      rw [List.getD_eq_getElem?_getD, List.getElem?_set_self hkl]
      rfl
    rw [takeG_snoc d _ _ (by rw [List.length_set]; exact hkl), dedK_keep he, List.take_set_of_le (Nat.le_refl _), h.kept, e]
  · have hne : kk ≠ j := by omega
    have := h.rest j (by omega)
    rw [List.getD_eq_getElem?_getD] at this ⊢
    rw [List.getElem?_set_ne hne]
    exact this
/-- Behind a sort, every key is left, once. -/
theorem dedK_spec {lt : β → β → Bool} (O : OrdG lt) (m : List α) (h : m.Pairwise fun a b => lt (key b) (key a) = false) : ∀ k, k ≤ m.length → SrtG lt ((dedK key d m k).map key) ∧ ∀ x, x ∈ (dedK key d m k).map key ↔ ∃ j, j < k ∧ key (m.getD j d) = x
  | 0, _ => ⟨List.Pairwise.nil, fun x => by simp [dedK]⟩
  | k + 1, hk => by
    obtain ⟨h1, h2⟩ := dedK_spec O m h k (by omega)
    unfold dedK
    split
    · rename_i he
      refine ⟨h1, fun x => ?_⟩
      rw [h2]
      constructor
      · rintro ⟨j, hj, e⟩; exact ⟨j, by omega, e⟩
      · rintro ⟨j, hj, e⟩
        by_cases hjk : j = k
        · exact ⟨k - 1, by omega, by rw [← he.2, ← hjk]; exact e⟩
        · exact ⟨j, by omega, e⟩
    · rename_i hne
      refine ⟨?_, fun x => ?_⟩
      · unfold SrtG
        rw [List.map_append, List.pairwise_append]
        refine ⟨h1, by simp, ?_⟩
        intro a ha b hb
        rw [List.map_cons, List.map_nil, List.mem_singleton] at hb
        subst hb
        obtain ⟨j, hj, rfl⟩ := (h2 a).1 ha
        have hle : ∀ i, i < k → lt (key (m.getD k d)) (key (m.getD i d)) = false := fun i hi => by
          have := List.pairwise_iff_getElem.1 h i k (by omega) (by omega) hi
          simpa [List.getD, show i < m.length by omega, show k < m.length by omega] using this
        have hlt : lt (key (m.getD (k - 1) d)) (key (m.getD k d)) = true := by
          cases h5 : lt (key (m.getD (k - 1) d)) (key (m.getD k d)) with
          | true => rfl
          | false => exact absurd ⟨by omega, O.total (hle (k - 1) (by omega)) h5⟩ hne
        by_cases hj2 : j = k - 1
        · rw [hj2]; exact hlt
        · have h6 := List.pairwise_iff_getElem.1 h j (k - 1) (by omega) (by omega) (by omega)
          have h7 : lt (key (m.getD (k - 1) d)) (key (m.getD j d)) = false := by simpa [List.getD, show j < m.length by omega, show k - 1 < m.length by omega] using h6
          cases h8 : lt (key (m.getD j d)) (key (m.getD k d)) with
          | true => rfl
          | false =>
            have e1 := O.total h8 (hle j (by omega))
            rw [e1] at h7
            rw [h7] at hlt
            cases hlt
      · rw [List.map_append, List.mem_append, h2, List.map_cons, List.map_nil, List.mem_singleton]
        constructor
        · rintro (⟨j, hj, e⟩ | e)
          · exact ⟨j, by omega, e⟩
          · exact ⟨k, by omega, e.symm⟩
        · rintro ⟨j, hj, e⟩
          by_cases hjk : j = k
          · exact .inr (by rw [← e, hjk])
          · exact .inl ⟨j, by omega, e⟩
/-- .. so what is left has the keys in order, each once. -/
theorem dedK_sortG {lt : β → β → Bool} (O : OrdG lt) (db : β) {m : List α} (h : m.Pairwise fun a b => lt (key b) (key a) = false) {l : List β} (hm : ∀ x, x ∈ m.map key ↔ x ∈ l) : (dedK key d m m.length).map key = sortG lt db l := by
  obtain ⟨h1, h2⟩ := dedK_spec (d := d) O m h m.length (Nat.le_refl _)
  refine sortG_unique O db h1 fun x => ?_
  rw [h2, ← hm]
  constructor
  · rintro ⟨j, hj, rfl⟩; exact List.mem_map.2 ⟨m[j], List.getElem_mem _, by simp [List.getD, hj]⟩
  · intro hx
    obtain ⟨a, ha, rfl⟩ := List.mem_map.1 hx
    obtain ⟨j, hj, rfl⟩ := List.getElem_of_mem ha
    exact ⟨j, hj, by simp [List.getD, hj]⟩
end
end

section
open Go.RowKit

/-- A value that reads as a list of numbers. -/
def IsRd (B : Nat) (w : World) (v : Value) (zs : List Int) : Prop := ∃ a cap, v = .slice a zs.length cap ∧ (0 < zs.length → ∃ g, a = some ⟨g, 0, none⟩ ∧ g < B ∧ ∀ k, k < zs.length → w.cell? ⟨g, k, none⟩ = some (.int .i64 (zs.getD k 0)))
theorem IsRd.on {B : Nat} {w w' : World} {v : Value} {zs : List Int} (h : IsRd B w v zs) (hb : Below B w w') : IsRd B w' v zs := by
  obtain ⟨a, cap, e, h1⟩ := h
  exact ⟨a, cap, e, fun h0 => by obtain ⟨g, e1, hlt, h2⟩ := h1 h0; exact ⟨g, e1, hlt, fun k hk => (hb.cell (p := ⟨g, k, none⟩) hlt).trans (h2 k hk)⟩⟩
theorem IsRd.more {B B' : Nat} {w : World} {v : Value} {zs : List Int} (h : IsRd B w v zs) (hB : B ≤ B') : IsRd B' w v zs := by
  obtain ⟨a, cap, e, h1⟩ := h
  exact ⟨a, cap, e, fun h0 => by obtain ⟨g, e1, hlt, h2⟩ := h1 h0; exact ⟨g, e1, Nat.lt_of_lt_of_le hlt hB, h2⟩⟩
theorem IsRd.of_own {B : Nat} {w : World} {v : Value} {zs : List Int} (h : w.ownsRow B 3 1 v zs.length (zs.map (Value.int .i64))) : IsRd w.heap.size w v zs := by
  rcases h.2 with ⟨rfl, h0⟩ | ⟨g, cap, cur, rfl, hb, hg, _⟩
  · have : zs = [] := List.eq_nil_of_length_eq_zero h0
    subst this
    exact ⟨none, 0, rfl, fun h9 => absurd h9 (Nat.lt_irrefl 0)⟩
  · refine ⟨_, cap, rfl, fun _ => ⟨g, rfl, (Array.getElem?_eq_some_iff.1 hg).1, fun k hk => ?_⟩⟩
    rw [h.cellAt k (by omega)]
    simp [List.getD, hk]

set_option maxHeartbeats 1000000 in
set_option maxRecDepth 100000 in
theorem lEqI (B : Nat) (v1 v2 : Value) (zs : List Int) (w : World) (hn : zs.length ≤ 4194304) (h1 : IsRd B w v1 zs) (h2 : IsRd B w v2 zs) (hB : B ≤ w.heap.size) :
    Calls Tryz.prog 48 #[v1, v2] w fun e w' => e = .returned (.bool true) ∧ Below w.heap.size w w' := by
  obtain ⟨a1, c1, rfl, hr1⟩ := h1
  obtain ⟨a2, c2, rfl, hr2⟩ := h2
  have H1 := Lib.hid hr1
  have H2 := Lib.hid hr2
  generalize zs.length = n at *
  have hne : (((n : Nat) : Int) != (n : Int)) = false := by simp
  clear hr1 hr2
  go_enter Tryz.func48, Tryz.ntmps48
  go_wp2
  go_loopw [5] (fun i wr => ∃ k : Nat, k ≤ n ∧ i = .int .i64 k ∧ Below w.heap.size w wr) (fun i _ => n - (intOf i).toNat)
  case atStart => exact ⟨0, by omega, rfl, Below.refl _ _⟩
  case round =>
    obtain ⟨k, hk, rfl, hb⟩ := hrel
    have hsz := hb.size
    by_cases hlt : k < n
    · obtain ⟨g1, rfl, hg1, hs1⟩ := H1.out (by omega)
      obtain ⟨g2, rfl, hg2, hs2⟩ := H2.out (by omega)
      have p1 := (hb.cell (p := ⟨g1, k, none⟩) (Nat.lt_of_lt_of_le hg1 hB)).trans (hs1 k hlt)
      have p2 := (hb.cell (p := ⟨g2, k, none⟩) (Nat.lt_of_lt_of_le hg2 hB)).trans (hs2 k hlt)
      generalize zs.getD k 0 = z at p1 p2
      have hk0 : (0 : Int) ≤ (k : Int) := by omega
      have hk1 : (k : Int) < (n : Int) := by omega
      have hzz : (z != z) = false := by simp
      clear hs1 hs2
      go_wp2_with fail
      go_quiet (fail)
      go_wp2
      go_roundw
      case rel => exact ⟨k + 1, by omega, by go_num, below_drewn hb _⟩
      case measure => simp [intOf]; omega
    · obtain rfl : k = n := by omega
      go_wp2
      go_ret
      exact ⟨rfl, hb⟩

/-- Marks: the numbers from k on. -/
def marksI (k : Int) (n : Nat) : List Int := (List.range n).map fun (j : Nat) => k + (j : Int)
theorem marksI_length (k : Int) (n : Nat) : (marksI k n).length = n := by simp [marksI]
theorem marksI_succ (k : Int) (n : Nat) : marksI k (n + 1) = marksI k n ++ [k + (n : Int)] := by simp [marksI, List.range_succ]
theorem marksI_get (k : Int) (n j : Nat) (h : j < n) : (marksI k n).getD j 0 = k + (j : Int) := by simp [marksI, h]
theorem markI_step (k : Int) (j : Nat) (l : List Int) (h : j < l.length) : ((marksI k j ++ l.drop j).map (Value.int .i64)).set j (.int .i64 (k + (j : Int))) = (marksI k (j + 1) ++ l.drop (j + 1)).map (Value.int .i64) := by
  rw [← List.map_set, List.set_append_right _ _ (by simp [marksI_length]), marksI_length, Nat.sub_self, List.drop_eq_getElem_cons h, List.set_cons_zero, marksI_succ, List.append_assoc]
  rfl

set_option maxHeartbeats 1000000 in
set_option maxRecDepth 100000 in
theorem lMarkI (base : Nat) (v : Value) (zs : List Int) (k0 : Int) (w : World) (hn : zs.length ≤ 4194304) (h0 : 0 ≤ k0) (h1 : k0 ≤ 1048576) (ho : w.ownsRow base 3 1 v zs.length (zs.map (Value.int .i64))) :
    Calls Tryz.prog 51 #[v, .int .i64 k0] w fun e w' => e = .returned (.int .i64 (k0 + zs.length)) ∧ w'.ownsRow base 3 1 v zs.length ((marksI k0 zs.length).map (Value.int .i64)) ∧ w.grownBy w' v.ownBlock := by
  by_cases hz : zs.length = 0
  · have e0 : zs = [] := List.eq_nil_of_length_eq_zero hz
    subst e0
    have HO := Lib.hid ho
    have hv : ∃ av cv, v = .slice av 0 cv := by
      rcases ho.2 with ⟨rfl, _⟩ | ⟨g, cv, cur, rfl, _⟩
      · exact ⟨_, _, rfl⟩
      · exact ⟨_, _, rfl⟩
    obtain ⟨av, cv, rfl⟩ := hv
    clear ho hz
    go_enter Tryz.func51, Tryz.ntmps51
    go_wp2
    go_loopw [5, 1] (fun i q wr => i = .int .i64 0 ∧ q = .int .i64 k0 ∧ wr = w) (fun i _ _ => 0 - (intOf i).toNat)
    case atStart => exact ⟨rfl, rfl, rfl⟩
    case round =>
      obtain ⟨rfl, rfl, rfl⟩ := hrel
      go_wp2
      go_ret
      exact ⟨by simp, HO.out, World.grownBy.refl _ _⟩
  · obtain ⟨g, cap, rfl⟩ : ∃ g cap, v = .slice (some ⟨g, 0, none⟩) zs.length cap := by
      rcases ho.2 with ⟨_, h9⟩ | ⟨g, cap, cur, rfl, _⟩
      · exact absurd h9 hz
      · exact ⟨g, cap, rfl⟩
    generalize hN : zs.length = n at *
    have HL := Lib.hid hN
    clear hN
    go_enter Tryz.func51, Tryz.ntmps51
    go_wp2
    go_loopw [5, 1] (fun i q wr => ∃ k : Nat, k ≤ n ∧ i = .int .i64 k ∧ q = .int .i64 (k0 + k) ∧ Hid (wr.ownsRow base 3 1 (.slice (some ⟨g, 0, none⟩) n cap) n ((marksI k0 k ++ zs.drop k).map (Value.int .i64))) ∧ w.grownBy wr (some g)) (fun i _ _ => n - (intOf i).toNat)
    case atStart => exact ⟨0, by omega, rfl, by simp, by simpa [marksI, Hid] using ho, World.grownBy.refl _ _⟩
    case round =>
      obtain ⟨k, hk, rfl, rfl, hown, hg⟩ := hrel
      by_cases hlt : k < n
      · have hk0 : (0 : Int) ≤ (k : Int) := by omega
        have hk1 : (k : Int) < (n : Int) := by omega
        have hlen : k < ((marksI k0 k ++ zs.drop k).map (Value.int .i64)).length := by have := HL.out; simp [marksI_length]; omega
        have c0 := hown.out.cellAt k (by omega)
        rw [List.getElem?_eq_getElem hlen] at c0
        have f0 := hown.out.frozenAt k
        have hs1 := hown.out.stored k (.int .i64 (k0 + k))
        have hO := hs1.1
        rw [markI_step _ _ _ (by have := HL.out; omega)] at hO
        have HO := Lib.hid hO
        have HG := Lib.hid (hg.trans hs1.2)
        generalize ((marksI k0 k ++ zs.drop k).map (Value.int .i64))[k] = u at c0
        clear hs1 hown hg hO hlen
        go_wp2
        go_roundw
        case rel => exact ⟨k + 1, by omega, by go_num, by go_num, HO.out, HG.out⟩
        case measure => simp [intOf]; omega
      · have e : k = n := by omega
        subst e
        have e2 : marksI k0 k ++ zs.drop k = marksI k0 k := by rw [List.drop_of_length_le (by have := HL.out; omega), List.append_nil]
        rw [e2] at hown
        go_wp2
        go_ret
        exact ⟨by rfl, hown.out, hg⟩

set_option maxHeartbeats 1000000 in
set_option maxRecDepth 100000 in
theorem lHeldI (B n : Nat) (v : Value) (k0 : Int) (w : World) (hn : n ≤ 4194304) (h0 : 0 ≤ k0) (h1 : k0 ≤ 1048576) (hr : IsRd B w v (marksI k0 n)) (hB : B ≤ w.heap.size) :
    Calls Tryz.prog 52 #[v, .int .i64 k0] w fun e w' => e = .returned (.int .i64 (k0 + n)) ∧ Below w.heap.size w w' := by
  obtain ⟨a1, c1, rfl, hr1⟩ := hr
  rw [marksI_length] at hr1 ⊢
  have H1 := Lib.hid hr1
  clear hr1
  go_enter Tryz.func52, Tryz.ntmps52
  go_wp2
  go_loopw [5, 1] (fun i q wr => ∃ k : Nat, k ≤ n ∧ i = .int .i64 k ∧ q = .int .i64 (k0 + k) ∧ Below w.heap.size w wr) (fun i _ _ => n - (intOf i).toNat)
  case atStart => exact ⟨0, by omega, rfl, by simp, Below.refl _ _⟩
  case round =>
    obtain ⟨k, hk, rfl, rfl, hb⟩ := hrel
    by_cases hlt : k < n
    · obtain ⟨g1, rfl, hg1, hs1⟩ := H1.out (by omega)
      have p1 := (hb.cell (p := ⟨g1, k, none⟩) (Nat.lt_of_lt_of_le hg1 hB)).trans (hs1 k hlt)
      rw [marksI_get k0 n k hlt] at p1
      have hk0 : (0 : Int) ≤ (k : Int) := by omega
      have hk1 : (k : Int) < (n : Int) := by omega
      have hzz : ((k0 + (k : Int)) != (k0 + (k : Int))) = false := by simp
      clear hs1
      go_wp2
      go_roundw
      case rel => exact ⟨k + 1, by omega, by go_num, by go_num, hb⟩
      case measure => simp [intOf]; omega
    · obtain rfl : k = n := by omega
      go_wp2
      go_ret
      exact ⟨rfl, hb⟩
end

section
open Go.RowKit

theorem cell_size : ∃ i, Tryz.prog.info? 126 = some i ∧ i.zero = some (.agg #[.int .i64 0, .int .i64 0]) ∧ i.size = 2 ∧ i.bytes = 16 := by
  obtain ⟨i0, hi, hz0, hz1, hz2⟩ := info_parts info_cell
  exact ⟨i0, hi, hz0, hz1, hz2⟩

/-- Where l begins in memory at ad, cell for cell. -/
def Lies (w : World) (ad : Addr) (l : List Cl) : Prop := ∀ j u, (cvs l)[j]? = some u → w.cell? (ad.add j) = some u

theorem append_cells (base g n cap : Nat) (xs : List Cl) (ad : Addr) (m c : Nat) (ys : List Cl) (w : World)
    (hown : w.ownsRow base 126 2 (.slice (some ⟨g, 0, none⟩) n cap) n (cvs xs)) (hl : ys.length = m) (hnews : Lies w ad ys) (h63 : n + m ≤ 8388608) (hbase : base ≤ w.heap.size) (ty : TypeId) (H : Nat) (hH : w.heap.size = H) :
    ∃ g' cap' w', (Builtin.append_ #[76, 76] ty #[.slice (some ⟨g, 0, none⟩) n cap, .slice (some ad) m c]).run Tryz.prog w = .ok (.slice (some ⟨g', 0, none⟩) (n + m) cap') w' ∧
      w'.ownsRow base 126 2 (.slice (some ⟨g', 0, none⟩) (n + m) cap') (n + m) (cvs (xs ++ ys)) ∧ w.grownBy w' (some g) ∧ (g' = g ∨ g' = H) ∧ base ≤ g' ∧ g' < w'.heap.size := by
  obtain ⟨i, hi, hz, hs, hby⟩ := cell_size
  obtain ⟨v', w', hr, h2, h3, h4, h5⟩ := run_append_own_at (P := Tryz.prog) w base 76 ty 126 i _ 2 16 Tryz.underlying76 hi hz hs hby rfl (by omega) _ n (cvs xs) hown ad m c (cvs ys) (by rw [cvs_length, hl]) hnews (cvs_oneCell _) (by unfold maxLen; omega) (by omega) hbase
  rw [← cvs_append] at h2
  rcases h2.2 with ⟨rfl, _⟩ | ⟨g', cap', cur, rfl, hb, hg, _⟩
  · exact absurd (h4.1 rfl).1 (by intro e; cases e)
  · refine ⟨g', cap', w', hr, h2, h3, ?_, hb, (Array.getElem?_eq_some_iff.1 hg).1⟩
    rcases h5 with h5 | h5
    · exact .inl (by simpa [Value.ownBlock] using h5)
    · exact .inr (by rw [← hH]; simpa [Value.ownBlock] using h5)

theorem wp_cells {o : Oper} {a : Act} {w : World} {K : Act → World → Prop} {Q : Exit → Act → World → Prop} (s x : Operand)
    (ho : o.op = .call { callee := .builtin .append, args := #[s, x], argTypes := #[76, 76] })
    (base g n cap : Nat) (xs : List Cl) (ad : Addr) (m c : Nat) (ys : List Cl) (hs : a.eval s = .slice (some ⟨g, 0, none⟩) n cap) (hx : a.eval x = .slice (some ad) m c)
    (hown : w.ownsRow base 126 2 (.slice (some ⟨g, 0, none⟩) n cap) n (cvs xs)) (hl : ys.length = m) (hnews : Lies w ad ys) (h63 : n + m ≤ 8388608) (hbase : base ≤ w.heap.size) (H : Nat) (hH : w.heap.size = H)
    (h : ∀ g' cap' w', w'.ownsRow base 126 2 (.slice (some ⟨g', 0, none⟩) (n + m) cap') (n + m) (cvs (xs ++ ys)) → w.grownBy w' (some g) → (g' = g ∨ g' = H) → base ≤ g' → g' < w'.heap.size → K (a.put o.dst (.slice (some ⟨g', 0, none⟩) (n + m) cap')) w') : o.wp Tryz.prog a w K Q := by
  obtain ⟨g', cap', w', hr, h2, h3, h4, h5, h6⟩ := append_cells base g n cap xs ad m c ys w hown hl hnews h63 hbase o.type H hH
  unfold Oper.wp execOp
  simp only [ho, resolve, invoke, builtin, Sem.run_bind, Sem.run_pure, Result.andThen_ok, List.map_toArray, List.map_cons, List.map_nil, hs, hx, hr]
  exact h g' cap' w' h2 h3 h4 h5 h6

theorem wpList_cells {ops : Array Oper} {rest : List Oper} {o : Oper} {a : Act} {w : World} {Q : Exit → Act → World → Prop} (hgd : o.guard = none) (s x : Operand)
    (ho : o.op = .call { callee := .builtin .append, args := #[s, x], argTypes := #[76, 76] })
    (base g n cap : Nat) (xs : List Cl) (ad : Addr) (m c : Nat) (ys : List Cl) (hs : a.eval s = .slice (some ⟨g, 0, none⟩) n cap) (hx : a.eval x = .slice (some ad) m c)
    (hown : w.ownsRow base 126 2 (.slice (some ⟨g, 0, none⟩) n cap) n (cvs xs)) (hl : ys.length = m) (hnews : Lies w ad ys) (h63 : n + m ≤ 8388608) (hbase : base ≤ w.heap.size) (H : Nat) (hH : w.heap.size = H)
    (h : ∀ g' cap' w', w'.ownsRow base 126 2 (.slice (some ⟨g', 0, none⟩) (n + m) cap') (n + m) (cvs (xs ++ ys)) → w.grownBy w' (some g) → (g' = g ∨ g' = H) → base ≤ g' → g' < w'.heap.size → wpList Tryz.prog ops Q rest (a.put o.dst (.slice (some ⟨g', 0, none⟩) (n + m) cap')) w') : wpList Tryz.prog ops Q (o :: rest) a w :=
  wpList_plain hgd fun _ hK => wp_cells s x ho base g n cap xs ad m c ys hs hx hown hl hnews h63 hbase H hH fun g' cap' w' h2 h3 h4 h5 h6 => hK _ _ (h g' cap' w' h2 h3 h4 h5 h6)

theorem step_cells {ops : Array Oper} {o : Oper} {a : Act} {w : World} {K : Act → World → Prop} {Q : Exit → Act → World → Prop} {E : Prop} (hgd : o.guard = none) (s x : Operand)
    (ho : o.op = .call { callee := .builtin .append, args := #[s, x], argTypes := #[76, 76] })
    (base g n cap : Nat) (xs : List Cl) (ad : Addr) (m c : Nat) (ys : List Cl) (hs : a.eval s = .slice (some ⟨g, 0, none⟩) n cap) (hx : a.eval x = .slice (some ad) m c)
    (hown : w.ownsRow base 126 2 (.slice (some ⟨g, 0, none⟩) n cap) n (cvs xs)) (hl : ys.length = m) (hnews : Lies w ad ys) (h63 : n + m ≤ 8388608) (hbase : base ≤ w.heap.size) (H : Nat) (hH : w.heap.size = H)
    (h : ∀ g' cap' w', w'.ownsRow base 126 2 (.slice (some ⟨g', 0, none⟩) (n + m) cap') (n + m) (cvs (xs ++ ys)) → w.grownBy w' (some g) → (g' = g ∨ g' = H) → base ≤ g' → g' < w'.heap.size → K (a.put o.dst (.slice (some ⟨g', 0, none⟩) (n + m) cap')) w') :
    if Region.wanted o (yielded ops a.tmps) = true then Oper.wp Tryz.prog o a w K Q else E := by
  have hw : Region.wanted o (yielded ops a.tmps) = true := by simp [Region.wanted, hgd]
  rw [if_pos hw]
  exact wp_cells s x ho base g n cap xs ad m c ys hs hx hown hl hnews h63 hbase H hH h

/-! ### What lies where -/
theorem lies_block {w : World} {b : Nat} {l : List Cl} {t : TypeId} {fr : Nat × Nat} (h : w.heap[b]? = some (.cells (cvs l).toArray t fr)) : Lies w ⟨b, 0, none⟩ l := World.news_of_block (cs := (cvs l).toArray) h
theorem add_at (b o j : Nat) : (⟨b, o, none⟩ : Addr).add j = ⟨b, o + j, none⟩ := by unfold Addr.add; split <;> simp_all
/-- A part of a slice of cells. -/
theorem CellsAt.lies {B n b off k m : Nat} {w : World} {l : List Cl} (h : CellsAt B w (some ⟨b, off, none⟩) n l) (hk : k + m ≤ n) : Lies w ⟨b, off + k * 2, none⟩ ((l.drop k).take m) := by
  intro j u hj
  rw [add_at]
  have hjl : j < m * 2 := by
    have := (List.getElem?_eq_some_iff.1 hj).1
    rw [cvs_length, List.length_take, List.length_drop] at this
    omega
  obtain ⟨b', off', e, hlt, hc⟩ := h.2.2 (by omega)
  injection e with e
  injection e with e1 e2
  subst e1 e2
  have hcc := hc (k + j / 2) (by omega)
  have hl := h.1
  have hg := cvs_get ((l.drop k).take m) (j / 2) (by rw [List.length_take, List.length_drop]; omega)
  have e3 : ((l.drop k).take m).getD (j / 2) (0, 0) = l.getD (k + j / 2) (0, 0) := by
    simp [List.getD, List.getElem?_drop, show j / 2 < m by omega]
  rw [e3] at hg
  rcases Nat.mod_two_eq_zero_or_one j with h2 | h2
  · have e4 : j / 2 * 2 = j := by omega
    have e5 : off + (k + j / 2) * 2 = off + k * 2 + j := by omega
    rw [e4] at hg
    rw [e5] at hcc
    rw [hcc.1, ← hg.1, hj]
  · have e4 : j / 2 * 2 + 1 = j := by omega
    have e5 : off + (k + j / 2) * 2 + 1 = off + k * 2 + j := by omega
    rw [e4] at hg
    rw [e5] at hcc
    rw [hcc.2, ← hg.2, hj]
theorem Lies.on {w w' : World} {b off B : Nat} {l : List Cl} (h : Lies w ⟨b, off, none⟩ l) (hb : Below B w w') (hlt : b < B) : Lies w' ⟨b, off, none⟩ l := fun j u hj => by
  rw [add_at]
  have := h j u hj
  rw [add_at] at this
  exact (hb.cell (p := ⟨b, off + j, none⟩) hlt).trans this
end

end Go.Proofs.YtkcclhnligajeaaGreatDoor
