/-
  Shapes that hang together grow cell by cell: plain facts.
-/
import Derived.Test.YtkcclhnligajeaaDoorPe3
namespace Go.Proofs.YtkcclhnligajeaaDoor

/-- Cells in an order in which each is beside one before it. -/
inductive Gr : List Cl → Prop
  | one (c : Cl) : Gr [c]
  | more {l : List Cl} {x a : Cl} : Gr l → x ∉ l → a ∈ l → nearC a x = true → Gr (l ++ [x])
theorem Gr.pos {l : List Cl} (h : Gr l) : 0 < l.length := by
  cases h with
  | one c => simp
  | more _ _ _ _ => simp
theorem Gr.nodup {l : List Cl} (h : Gr l) : l.Nodup := by
  induction h with
  | one c => simp
  | more _ hx _ _ ih =>
    rw [List.nodup_append]
    refine ⟨ih, by simp, fun a ha b hb => ?_⟩
    rw [List.mem_singleton] at hb
    subst hb
    exact fun e => hx (e ▸ ha)
theorem gr_all {l : List Cl} (hpos : 0 < l.length) (h : AllRch l) : ∃ g, Gr g ∧ ∀ x, x ∈ g ↔ x ∈ l := by
  have key : ∀ (k : Nat) (g : List Cl), Gr g → (∀ x ∈ g, x ∈ l) → l.getD 0 (0, 0) ∈ g → l.length - g.length ≤ k → ∃ g', Gr g' ∧ ∀ x, x ∈ g' ↔ x ∈ l := by
    intro k
    induction k with
    | zero =>
      intro g hg hs h0 hk
      rcases Classical.em (∀ a ∈ g, ∀ b ∈ l, nearC a b = true → b ∈ g) with hc | hc
      · refine ⟨g, hg, fun x => ⟨hs x, fun hx => ?_⟩⟩
        have : ∀ c, Rch l c → c ∈ g := fun c hr => by
          induction hr with
          | base _ => exact h0
          | step _ hb hn ih => exact hc _ ih _ hb hn
        exact this x (h x hx)
      · simp only [Classical.not_forall] at hc
        obtain ⟨a, ha, b, hb, hn, hbg⟩ := hc
        have h1 := (Gr.more hg hbg ha hn).nodup
        have h2 := nodup_sub_len _ l h1 fun y hy => by
          rcases List.mem_append.1 hy with hy | hy
          · exact hs y hy
          · rw [List.mem_singleton] at hy; subst hy; exact hb
        simp at h2
        omega
    | succ k ih =>
      intro g hg hs h0 hk
      rcases Classical.em (∀ a ∈ g, ∀ b ∈ l, nearC a b = true → b ∈ g) with hc | hc
      · refine ⟨g, hg, fun x => ⟨hs x, fun hx => ?_⟩⟩
        have : ∀ c, Rch l c → c ∈ g := fun c hr => by
          induction hr with
          | base _ => exact h0
          | step _ hb hn ih => exact hc _ ih _ hb hn
        exact this x (h x hx)
      · simp only [Classical.not_forall] at hc
        obtain ⟨a, ha, b, hb, hn, hbg⟩ := hc
        refine ih (g ++ [b]) (Gr.more hg hbg ha hn) (fun y hy => ?_) (List.mem_append_left _ h0) (by simp; omega)
        rcases List.mem_append.1 hy with hy | hy
        · exact hs y hy
        · rw [List.mem_singleton] at hy; subst hy; exact hb
  refine key l.length [l.getD 0 (0, 0)] (Gr.one _) (fun x hx => ?_) (by simp) (by omega)
  rw [List.mem_singleton] at hx
  subst hx
  exact getD_mem hpos
theorem conn_gr {l : List Cl} (h : Conn l) : ∃ g, Gr g ∧ sortU g = l ∧ g.length = l.length := by
  obtain ⟨hlen, _, hs⟩ := (isShape_iff l).1 h.1
  obtain ⟨g, hg, hm⟩ := gr_all (by omega) h.2
  refine ⟨g, hg, (sortU_unique hs fun x => (hm x).symm).symm, Nat.le_antisymm ?_ ?_⟩
  · exact nodup_sub_len _ _ hg.nodup fun x hx => (hm x).1 hx
  · exact nodup_sub_len _ _ (srt_nodup hs) fun x hx => (hm x).2 hx
theorem near_nb {a x : Cl} (h : nearC a x = true) : ∃ d, d < 4 ∧ x = nbC a d := by
  obtain ⟨p, q⟩ := a
  obtain ⟨u, v⟩ := x
  rw [nearC_iff] at h
  dsimp only at h
  rcases h with ⟨h1, h2 | h2⟩ | ⟨h1, h2 | h2⟩
  · exact ⟨3, by omega, by rw [nb3]; congr 1 <;> omega⟩
  · exact ⟨1, by omega, by rw [nb1]; congr 1 <;> omega⟩
  · exact ⟨2, by omega, by rw [nb2]; congr 1 <;> omega⟩
  · exact ⟨0, by omega, by rw [nb0]; congr 1 <;> omega⟩
theorem nb_move (a : Cl) (x y : Int) (d : Nat) : nbC (a.1 + x, a.2 + y) d = ((nbC a d).1 + x, (nbC a d).2 + y) := by
  unfold nbC
  dsimp only
  congr 1 <;> omega
theorem corner_more {g : List Cl} (x : Cl) (_hg : 0 < g.length) : cornerC (sortU (g ++ [x])) = moreC (cornerC (sortU g)) (x.1 + -minX (sortU g), x.2 + -minY (sortU g)) := by
  have e1 : cornerC (sortU g) ++ [(x.1 + -minX (sortU g), x.2 + -minY (sortU g))] = moveC (-minX (sortU g)) (-minY (sortU g)) (sortU g ++ [x]) := by
    rw [cornerC_move]
    simp [moveC]
  have e2 : sortU (sortU g ++ [x]) = sortU (g ++ [x]) := sortU_unique (sortU_srt _) fun y => by rw [sortU_mem, List.mem_append, List.mem_append, sortU_mem]
  unfold moreC
  rw [e1, sortU_move, cornerC_of_move _ _ _ (sortU_pos (by simp)), e2]
/-- What holds of one cell and is handed on from a shape to each that it becomes by one more cell at a side is so of every shape that hangs together, in its corner. -/
theorem grow_all (E : Nat → List Cl → Prop) (h1 : E 1 [(0, 0)]) (hE : ∀ n, 1 ≤ n → ∀ l, E n l → ∀ c ∈ l, ∀ d, d < 4 → nbC c d ∉ l → E (n + 1) (moreC l (nbC c d))) {g : List Cl} (h : Gr g) : E g.length (cornerC (sortU g)) := by
  induction h with
  | one c =>
    have e : cornerC (sortU [c]) = [(0, 0)] := by
      have e1 : sortU [c] = [c] := (sortU_unique (l := [c]) (r := [c]) (by simp [Srt]) fun _ => Iff.rfl).symm
      rw [e1]
      simp [cornerC, minX, minY, minTo]
    rw [e]
    exact h1
  | more hg hx ha hn ih =>
    rename_i l x a
    obtain ⟨d, hd, rfl⟩ := near_nb hn
    rw [corner_more _ hg.pos, List.length_append, List.length_singleton, ← nb_move]
    have hmem : ∀ y : Cl, (y.1 + -minX (sortU l), y.2 + -minY (sortU l)) ∈ cornerC (sortU l) ↔ y ∈ l := fun y => by
      rw [cornerC_move, ← sortU_mem l]
      unfold moveC
      constructor
      · intro hy
        obtain ⟨z, hz, e⟩ := List.mem_map.1 hy
        injection e with e1 e2
        have : z = y := by
          obtain ⟨z1, z2⟩ := z
          obtain ⟨y1, y2⟩ := y
          dsimp only at e1 e2
          congr 1 <;> omega
        exact this ▸ hz
      · intro hy
        exact List.mem_map.2 ⟨y, hy, rfl⟩
    refine hE l.length hg.pos _ ih _ ((hmem a).2 ha) d hd ?_
    rw [nb_move]
    exact fun hc => hx ((hmem _).1 hc)
theorem conn_all (E : Nat → List Cl → Prop) (h1 : E 1 [(0, 0)]) (hE : ∀ n, 1 ≤ n → ∀ l, E n l → ∀ c ∈ l, ∀ d, d < 4 → nbC c d ∉ l → E (n + 1) (moreC l (nbC c d))) {l : List Cl} (h : Conn l) : E l.length (cornerC l) := by
  obtain ⟨g, hg, rfl, e⟩ := conn_gr h
  rw [← e]
  exact grow_all E h1 hE hg

end Go.Proofs.YtkcclhnligajeaaDoor
