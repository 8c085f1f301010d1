/-
  Shapes that hang together grow cell by cell: plain facts.
  Shapes as marks in one number: how they grow; plain facts.
-/
import Derived.Test.YthnapikklolgcaaPen
namespace Go.Proofs.Ythnapikklolgcaa

section
/-- Cells in an order in which each is beside one before it. -/
inductive Gr : List Cl → Prop
  | one (c : Cl) : Gr [c]
  | more {l : List Cl} {x a : Cl} : Gr l → x ∉ l → a ∈ l → nearC a x = true → Gr (l ++ [x])
theorem Gr.pos {l : List Cl} (h : Gr l) : 0 < l.length := by
  cases h with
  | one c => simp
  | more _ _ _ _ => simp
theorem Gr.nodup {l : List Cl} (h : Gr l) : l.Nodup := by
  induction h with
  | one c => simp
  | more _ hx _ _ ih =>
    rw [List.nodup_append]
    refine ⟨ih, by simp, fun a ha b hb => ?_⟩
    rw [List.mem_singleton] at hb
    subst hb
    exact fun e => hx (e ▸ ha)
theorem gr_all {l : List Cl} (hpos : 0 < l.length) (h : AllRch l) : ∃ g, Gr g ∧ ∀ x, x ∈ g ↔ x ∈ l := by
  have key : ∀ (k : Nat) (g : List Cl), Gr g → (∀ x ∈ g, x ∈ l) → l.getD 0 (0, 0) ∈ g → l.length - g.length ≤ k → ∃ g', Gr g' ∧ ∀ x, x ∈ g' ↔ x ∈ l := by
    intro k
    induction k with
    | zero =>
      intro g hg hs h0 hk
      rcases Classical.em (∀ a ∈ g, ∀ b ∈ l, nearC a b = true → b ∈ g) with hc | hc
      · refine ⟨g, hg, fun x => ⟨hs x, fun hx => ?_⟩⟩
        have : ∀ c, Rch l c → c ∈ g := fun c hr => by
          induction hr with
          | base _ => exact h0
          | step _ hb hn ih => exact hc _ ih _ hb hn
        exact this x (h x hx)
      · simp only [Classical.not_forall] at hc
        obtain ⟨a, ha, b, hb, hn, hbg⟩ := hc
        have h1 := (Gr.more hg hbg ha hn).nodup
        have h2 := nodup_sub_len _ l h1 fun y hy => by
          rcases List.mem_append.1 hy with hy | hy
          · exact hs y hy
          · rw [List.mem_singleton] at hy; subst hy; exact hb
        simp at h2
        omega
    | succ k ih =>
      intro g hg hs h0 hk
      rcases Classical.em (∀ a ∈ g, ∀ b ∈ l, nearC a b = true → b ∈ g) with hc | hc
      · refine ⟨g, hg, fun x => ⟨hs x, fun hx => ?_⟩⟩
        have : ∀ c, Rch l c → c ∈ g := fun c hr => by
          induction hr with
          | base _ => exact h0
          | step _ hb hn ih => exact hc _ ih _ hb hn
        exact this x (h x hx)
      · simp only [Classical.not_forall] at hc
        obtain ⟨a, ha, b, hb, hn, hbg⟩ := hc
        refine ih (g ++ [b]) (Gr.more hg hbg ha hn) (fun y hy => ?_) (List.mem_append_left _ h0) (by simp; omega)
        rcases List.mem_append.1 hy with hy | hy
        · exact hs y hy
        · rw [List.mem_singleton] at hy; subst hy; exact hb
  refine key l.length [l.getD 0 (0, 0)] (Gr.one _) (fun x hx => ?_) (by simp) (by omega)
  rw [List.mem_singleton] at hx
  subst hx
  exact getD_mem hpos
theorem conn_gr {l : List Cl} (h : Conn l) : ∃ g, Gr g ∧ sortU g = l ∧ g.length = l.length := by
  obtain ⟨hlen, _, hs⟩ := (isShape_iff l).1 h.1
  obtain ⟨g, hg, hm⟩ := gr_all (by omega) h.2
  refine ⟨g, hg, (sortU_unique hs fun x => (hm x).symm).symm, Nat.le_antisymm ?_ ?_⟩
  · exact nodup_sub_len _ _ hg.nodup fun x hx => (hm x).1 hx
  · exact nodup_sub_len _ _ (srt_nodup hs) fun x hx => (hm x).2 hx
theorem near_nb {a x : Cl} (h : nearC a x = true) : ∃ d, d < 4 ∧ x = nbC a d := by
  obtain ⟨p, q⟩ := a
  obtain ⟨u, v⟩ := x
  rw [nearC_iff] at h
  dsimp only at h
  rcases h with ⟨h1, h2 | h2⟩ | ⟨h1, h2 | h2⟩
  · exact ⟨3, by omega, by rw [nb3]; congr 1 <;> omega⟩
  · exact ⟨1, by omega, by rw [nb1]; congr 1 <;> omega⟩
  · exact ⟨2, by omega, by rw [nb2]; congr 1 <;> omega⟩
  · exact ⟨0, by omega, by rw [nb0]; congr 1 <;> omega⟩
theorem nb_move (a : Cl) (x y : Int) (d : Nat) : nbC (a.1 + x, a.2 + y) d = ((nbC a d).1 + x, (nbC a d).2 + y) := by
  unfold nbC
  dsimp only
  congr 1 <;> omega
theorem corner_more {g : List Cl} (x : Cl) (_hg : 0 < g.length) : cornerC (sortU (g ++ [x])) = moreC (cornerC (sortU g)) (x.1 + -minX (sortU g), x.2 + -minY (sortU g)) := by
  have e1 : cornerC (sortU g) ++ [(x.1 + -minX (sortU g), x.2 + -minY (sortU g))] = moveC (-minX (sortU g)) (-minY (sortU g)) (sortU g ++ [x]) := by
    rw [cornerC_move]
    simp [moveC]
  have e2 : sortU (sortU g ++ [x]) = sortU (g ++ [x]) := sortU_unique (sortU_srt _) fun y => by rw [sortU_mem, List.mem_append, List.mem_append, sortU_mem]
  unfold moreC
  rw [e1, sortU_move, cornerC_of_move _ _ _ (sortU_pos (by simp)), e2]
/-- What holds of one cell and is handed on from a shape to each that it becomes by one more cell at a side is so of every shape that hangs together, in its corner. -/
theorem grow_all (E : Nat → List Cl → Prop) (h1 : E 1 [(0, 0)]) (hE : ∀ n, 1 ≤ n → ∀ l, E n l → ∀ c ∈ l, ∀ d, d < 4 → nbC c d ∉ l → E (n + 1) (moreC l (nbC c d))) {g : List Cl} (h : Gr g) : E g.length (cornerC (sortU g)) := by
  induction h with
  | one c =>
    have e : cornerC (sortU [c]) = [(0, 0)] := by
      have e1 : sortU [c] = [c] := (sortU_unique (l := [c]) (r := [c]) (by simp [Srt]) fun _ => Iff.rfl).symm
      rw [e1]
      simp [cornerC, minX, minY, minTo]
    rw [e]
    exact h1
  | more hg hx ha hn ih =>
    rename_i l x a
    obtain ⟨d, hd, rfl⟩ := near_nb hn
    rw [corner_more _ hg.pos, List.length_append, List.length_singleton, ← nb_move]
    have hmem : ∀ y : Cl, (y.1 + -minX (sortU l), y.2 + -minY (sortU l)) ∈ cornerC (sortU l) ↔ y ∈ l := fun y => by
      rw [cornerC_move, ← sortU_mem l]
      unfold moveC
      constructor
      · intro hy
        obtain ⟨z, hz, e⟩ := List.mem_map.1 hy
        injection e with e1 e2
        have : z = y := by
          obtain ⟨z1, z2⟩ := z
          obtain ⟨y1, y2⟩ := y
          dsimp only at e1 e2
          congr 1 <;> omega
        exact this ▸ hz
      · intro hy
        exact List.mem_map.2 ⟨y, hy, rfl⟩
    refine hE l.length hg.pos _ ih _ ((hmem a).2 ha) d hd ?_
    rw [nb_move]
    exact fun hc => hx ((hmem _).1 hc)
theorem conn_all (E : Nat → List Cl → Prop) (h1 : E 1 [(0, 0)]) (hE : ∀ n, 1 ≤ n → ∀ l, E n l → ∀ c ∈ l, ∀ d, d < 4 → nbC c d ∉ l → E (n + 1) (moreC l (nbC c d))) {l : List Cl} (h : Conn l) : E l.length (cornerC l) := by
  obtain ⟨g, hg, rfl, e⟩ := conn_gr h
  rw [← e]
  exact grow_all E h1 hE hg
end

section
/-- Bit 16 y + x of m stands for the cell x, y. -/
def RepM (m : Nat) (l : List Cl) : Prop := (∀ c ∈ l, 0 ≤ c.1 ∧ c.1 < 15 ∧ 0 ≤ c.2) ∧ ∀ x y : Nat, x < 16 → (m.testBit (16 * y + x) = true ↔ ((x : Int), (y : Int)) ∈ l)
theorem RepM.same {m : Nat} {l r : List Cl} (h : RepM m l) (e : ∀ c, c ∈ r ↔ c ∈ l) : RepM m r := ⟨fun c hc => h.1 c ((e c).1 hc), fun x y hx => (h.2 x y hx).trans (e _).symm⟩
theorem RepM.add {m : Nat} {l : List Cl} (h : RepM m l) (x y : Nat) (hx : x < 15) : RepM (m ||| 2 ^ (16 * y + x)) (l ++ [((x : Int), (y : Int))]) := by
  refine ⟨fun c hc => ?_, fun u v hu => ?_⟩
  · rcases List.mem_append.1 hc with hc | hc
    · exact h.1 c hc
    · rw [List.mem_singleton] at hc
      subst hc
      dsimp only
      omega
  · rw [Nat.testBit_or, Bool.or_eq_true, h.2 u v hu, Nat.testBit_two_pow, List.mem_append, List.mem_singleton]
    constructor
    · rintro (h1 | h1)
      · exact .inl h1
      · have h2 : 16 * y + x = 16 * v + u := by simpa using h1
        refine .inr ?_
        have : u = x ∧ v = y := by omega
        rw [this.1, this.2]
    · rintro (h1 | h1)
      · exact .inl h1
      · injection h1 with h2 h3
        refine .inr ?_
        have : u = x ∧ v = y := by omega
        rw [this.1, this.2]
        simp
theorem RepM.right {m : Nat} {l : List Cl} (h : RepM m l) (hb : ∀ c ∈ l, c.1 < 14) : RepM (m <<< 1) (moveC 1 0 l) := by
  refine ⟨fun c hc => ?_, fun u v hu => ?_⟩
  · obtain ⟨d, hd, rfl⟩ := List.mem_map.1 hc
    have h1 := h.1 d hd
    have h2 := hb d hd
    dsimp only
    omega
  · rw [Nat.testBit_shiftLeft, Bool.and_eq_true, decide_eq_true_eq]
    have hm : ((u : Int), (v : Int)) ∈ moveC 1 0 l ↔ ((u : Int) - 1, (v : Int)) ∈ l := by
      unfold moveC
      constructor
      · intro hx
        obtain ⟨d, hd, e⟩ := List.mem_map.1 hx
        injection e with e1 e2
        have : d = ((u : Int) - 1, (v : Int)) := by
          obtain ⟨d1, d2⟩ := d
          dsimp only at e1 e2
          congr 1 <;> omega
        exact this ▸ hd
      · intro hx
        exact List.mem_map.2 ⟨_, hx, by dsimp only; congr 1 <;> omega⟩
    rw [hm]
    by_cases hu0 : u = 0
    · subst hu0
      constructor
      · rintro ⟨h1, h2⟩
        have e : 16 * v + 0 - 1 = 16 * (v - 1) + 15 := by omega
        rw [e, h.2 15 (v - 1) (by omega)] at h2
        have := (h.1 _ h2).2.1
        dsimp only at this
        omega
      · intro h1
        have := (h.1 _ h1).1
        dsimp only at this
        omega
    · have e : 16 * v + u - 1 = 16 * v + (u - 1) := by omega
      rw [e, h.2 (u - 1) v (by omega)]
      have e2 : ((u - 1 : Nat) : Int) = (u : Int) - 1 := by omega
      rw [e2]
      exact ⟨fun h1 => h1.2, fun h1 => ⟨by omega, h1⟩⟩
theorem RepM.down {m : Nat} {l : List Cl} (h : RepM m l) : RepM (m <<< 16) (moveC 0 1 l) := by
  refine ⟨fun c hc => ?_, fun u v hu => ?_⟩
  · obtain ⟨d, hd, rfl⟩ := List.mem_map.1 hc
    have h1 := h.1 d hd
    dsimp only
    omega
  · rw [Nat.testBit_shiftLeft, Bool.and_eq_true, decide_eq_true_eq]
    have hm : ((u : Int), (v : Int)) ∈ moveC 0 1 l ↔ ((u : Int), (v : Int) - 1) ∈ l := by
      unfold moveC
      constructor
      · intro hx
        obtain ⟨d, hd, e⟩ := List.mem_map.1 hx
        injection e with e1 e2
        have : d = ((u : Int), (v : Int) - 1) := by
          obtain ⟨d1, d2⟩ := d
          dsimp only at e1 e2
          congr 1 <;> omega
        exact this ▸ hd
      · intro hx
        exact List.mem_map.2 ⟨_, hx, by dsimp only; congr 1 <;> omega⟩
    rw [hm]
    by_cases hv0 : v = 0
    · subst hv0
      constructor
      · rintro ⟨h1, h2⟩
        omega
      · intro h1
        have := (h.1 _ h1).2.2
        dsimp only at this
        omega
    · have e : 16 * v + u - 16 = 16 * (v - 1) + u := by omega
      rw [e, h.2 u (v - 1) hu]
      have e2 : ((v - 1 : Nat) : Int) = (v : Int) - 1 := by omega
      rw [e2]
      exact ⟨fun h1 => h1.2, fun h1 => ⟨by omega, h1⟩⟩

/-- The marks of a shape in its corner with one cell more at side d of the cell x, y. -/
def extM (m x y : Nat) : Nat → Nat
  | 0 => m ||| 2 ^ (16 * y + (x + 1))
  | 1 => m ||| 2 ^ (16 * (y + 1) + x)
  | 2 => bif Nat.beq x 0 then (m <<< 1) ||| 2 ^ (16 * y + 0) else m ||| 2 ^ (16 * y + (x - 1))
  | _ => bif Nat.beq y 0 then (m <<< 16) ||| 2 ^ (16 * 0 + x) else m ||| 2 ^ (16 * (y - 1) + x)
/-- In its corner. -/
structure InCor (n : Nat) (l : List Cl) : Prop where
  bd : ∀ c ∈ l, 0 ≤ c.1 ∧ c.1 < n ∧ 0 ≤ c.2 ∧ c.2 < n
  x0 : ∃ c ∈ l, c.1 = 0
  y0 : ∃ c ∈ l, c.2 = 0
theorem mins_of {l : List Cl} {a b : Int} (h1 : ∀ c ∈ l, a ≤ c.1 ∧ b ≤ c.2) (h2 : ∃ c ∈ l, c.1 = a) (h3 : ∃ c ∈ l, c.2 = b) : minX l = a ∧ minY l = b := by
  obtain ⟨c, hc, e⟩ := h2
  obtain ⟨d, hd, e2⟩ := h3
  obtain ⟨j, hj, rfl⟩ := mem_getD hc
  obtain ⟨k, hk, rfl⟩ := mem_getD hd
  exact ⟨minTo_eq (by omega) (fun i hi => (h1 _ (getD_mem hi)).1) ⟨j, hj, e⟩, minTo_eq (by omega) (fun i hi => (h1 _ (getD_mem hi)).2) ⟨k, hk, e2⟩⟩
theorem moreC_mem (l : List Cl) (x : Cl) {a b : Int} (h1 : ∀ c ∈ l ++ [x], a ≤ c.1 ∧ b ≤ c.2) (h2 : ∃ c ∈ l ++ [x], c.1 = a) (h3 : ∃ c ∈ l ++ [x], c.2 = b) : ∀ c, c ∈ moreC l x ↔ c ∈ moveC (-a) (-b) (l ++ [x]) := by
  have hm : ∀ c, c ∈ sortU (l ++ [x]) ↔ c ∈ l ++ [x] := sortU_mem _
  have hmin := mins_of (l := sortU (l ++ [x])) (fun c hc => h1 c ((hm c).1 hc)) (by obtain ⟨c, hc, e⟩ := h2; exact ⟨c, (hm c).2 hc, e⟩) (by obtain ⟨c, hc, e⟩ := h3; exact ⟨c, (hm c).2 hc, e⟩)
  intro c
  unfold moreC
  rw [cornerC_move, hmin.1, hmin.2]
  unfold moveC
  constructor
  · intro h
    obtain ⟨d, hd, rfl⟩ := List.mem_map.1 h
    exact List.mem_map.2 ⟨d, (hm d).1 hd, rfl⟩
  · intro h
    obtain ⟨d, hd, rfl⟩ := List.mem_map.1 h
    exact List.mem_map.2 ⟨d, (hm d).2 hd, rfl⟩
theorem moreC_srt (l : List Cl) (x : Cl) : Srt (moreC l x) := by
  unfold moreC
  rw [cornerC_move]
  exact srt_move (sortU_srt _)
theorem inCor_of {n : Nat} {r : List Cl} {l : List Cl} (e : ∀ c, c ∈ r ↔ c ∈ l) (h : InCor n l) : InCor n r :=
  ⟨fun c hc => h.bd c ((e c).1 hc), by obtain ⟨c, hc, h2⟩ := h.x0; exact ⟨c, (e c).2 hc, h2⟩, by obtain ⟨c, hc, h2⟩ := h.y0; exact ⟨c, (e c).2 hc, h2⟩⟩
/-- One cell more: the marks, and the corner. -/
theorem RepM.ext {m n x y d : Nat} {l : List Cl} (h : RepM m l) (hc : InCor n l) (hn : n ≤ 8) (hx : ((x : Int), (y : Int)) ∈ l) (hd : d < 4) : RepM (extM m x y d) (moreC l (nbC ((x : Int), (y : Int)) d)) ∧ InCor (n + 1) (moreC l (nbC ((x : Int), (y : Int)) d)) := by
  have hb := hc.bd _ hx
  dsimp only at hb
  have hdd : d = 0 ∨ d = 1 ∨ d = 2 ∨ d = 3 := by omega
  -- the case in which the corner stays
  have stay : ∀ u v : Nat, u < n + 1 → v < n + 1 → RepM (m ||| 2 ^ (16 * v + u)) (moreC l ((u : Int), (v : Int))) ∧ InCor (n + 1) (moreC l ((u : Int), (v : Int))) := by
    intro u v hu hv
    have hbd : ∀ c ∈ l ++ [((u : Int), (v : Int))], 0 ≤ c.1 ∧ c.1 < ((n + 1 : Nat) : Int) ∧ 0 ≤ c.2 ∧ c.2 < ((n + 1 : Nat) : Int) := fun c hc9 => by
      rcases List.mem_append.1 hc9 with h9 | h9
      · have := hc.bd c h9; omega
      · rw [List.mem_singleton] at h9; subst h9; dsimp only; omega
    have e := moreC_mem l ((u : Int), (v : Int)) (a := 0) (b := 0) (fun c h9 => ⟨(hbd c h9).1, (hbd c h9).2.2.1⟩) (by obtain ⟨c, h9, e9⟩ := hc.x0; exact ⟨c, List.mem_append_left _ h9, e9⟩) (by obtain ⟨c, h9, e9⟩ := hc.y0; exact ⟨c, List.mem_append_left _ h9, e9⟩)
    rw [show moveC (-0) (-0) (l ++ [((u : Int), (v : Int))]) = l ++ [((u : Int), (v : Int))] from moveC_zero _] at e
    refine ⟨(h.add u v (by omega)).same e, inCor_of e ⟨hbd, ?_, ?_⟩⟩
    · obtain ⟨c, h9, e9⟩ := hc.x0; exact ⟨c, List.mem_append_left _ h9, e9⟩
    · obtain ⟨c, h9, e9⟩ := hc.y0; exact ⟨c, List.mem_append_left _ h9, e9⟩
  rcases hdd with rfl | rfl | rfl | rfl
  · rw [nb0]
    exact stay (x + 1) y (by omega) (by omega)
  · rw [nb1]
    exact stay x (y + 1) (by omega) (by omega)
  · rw [nb2]
    by_cases h0 : x = 0
    · subst h0
      have hbd : ∀ c ∈ l ++ [(((0 : Nat) : Int) - 1, (y : Int))], (-1 : Int) ≤ c.1 ∧ (0 : Int) ≤ c.2 := fun c hc9 => by
        rcases List.mem_append.1 hc9 with h9 | h9
        · have := hc.bd c h9; omega
        · rw [List.mem_singleton] at h9; subst h9; dsimp only; omega
      have e := moreC_mem l (((0 : Nat) : Int) - 1, (y : Int)) (a := -1) (b := 0) hbd ⟨_, List.mem_append_right _ (List.mem_singleton.2 rfl), by dsimp only; omega⟩ (by obtain ⟨c, h9, e9⟩ := hc.y0; exact ⟨c, List.mem_append_left _ h9, e9⟩)
      have e2 : moveC (-(-1)) (-0) (l ++ [(((0 : Nat) : Int) - 1, (y : Int))]) = moveC 1 0 l ++ [(((0 : Nat) : Int), (y : Int))] := by
        unfold moveC
        rw [List.map_append]
        congr 1
      rw [e2] at e
      have hr := (h.right (fun c h9 => by have := hc.bd c h9; omega)).add 0 y (by omega)
      refine ⟨hr.same e, inCor_of e ⟨fun c h9 => ?_, ⟨_, List.mem_append_right _ (List.mem_singleton.2 rfl), by dsimp only; omega⟩, ?_⟩⟩
      · rcases List.mem_append.1 h9 with h9 | h9
        · obtain ⟨d, hd, rfl⟩ := List.mem_map.1 h9
          have := hc.bd d hd
          dsimp only
          omega
        · rw [List.mem_singleton] at h9; subst h9; dsimp only; omega
      · obtain ⟨c, h9, e9⟩ := hc.y0
        exact ⟨_, List.mem_append_left _ (List.mem_map.2 ⟨c, h9, rfl⟩), by dsimp only; omega⟩
    · have hq : Nat.beq x 0 = false := by
        cases hq : Nat.beq x 0 with
        | false => rfl
        | true => exact absurd (Nat.eq_of_beq_eq_true hq) h0
      have hs := stay (x - 1) y (by omega) (by omega)
      have e1 : ((x - 1 : Nat) : Int) = (x : Int) - 1 := by omega
      rw [e1] at hs
      unfold extM
      rw [hq]
      exact hs
  · rw [nb3]
    by_cases h0 : y = 0
    · subst h0
      have hbd : ∀ c ∈ l ++ [((x : Int), ((0 : Nat) : Int) - 1)], (0 : Int) ≤ c.1 ∧ (-1 : Int) ≤ c.2 := fun c hc9 => by
        rcases List.mem_append.1 hc9 with h9 | h9
        · have := hc.bd c h9; omega
        · rw [List.mem_singleton] at h9; subst h9; dsimp only; omega
      have e := moreC_mem l ((x : Int), ((0 : Nat) : Int) - 1) (a := 0) (b := -1) hbd (by obtain ⟨c, h9, e9⟩ := hc.x0; exact ⟨c, List.mem_append_left _ h9, e9⟩) ⟨_, List.mem_append_right _ (List.mem_singleton.2 rfl), by dsimp only; omega⟩
      have e2 : moveC (-0) (-(-1)) (l ++ [((x : Int), ((0 : Nat) : Int) - 1)]) = moveC 0 1 l ++ [((x : Int), ((0 : Nat) : Int))] := by
        unfold moveC
        rw [List.map_append]
        congr 1
      rw [e2] at e
      have hr := h.down.add x 0 (by omega)
      refine ⟨hr.same e, inCor_of e ⟨fun c h9 => ?_, ?_, ⟨_, List.mem_append_right _ (List.mem_singleton.2 rfl), by dsimp only; omega⟩⟩⟩
      · rcases List.mem_append.1 h9 with h9 | h9
        · obtain ⟨d, hd, rfl⟩ := List.mem_map.1 h9
          have := hc.bd d hd
          dsimp only
          omega
        · rw [List.mem_singleton] at h9; subst h9; dsimp only; omega
      · obtain ⟨c, h9, e9⟩ := hc.x0
        exact ⟨_, List.mem_append_left _ (List.mem_map.2 ⟨c, h9, rfl⟩), by dsimp only; omega⟩
    · have hq : Nat.beq y 0 = false := by
        cases hq : Nat.beq y 0 with
        | false => rfl
        | true => exact absurd (Nat.eq_of_beq_eq_true hq) h0
      have hs := stay x (y - 1) (by omega) (by omega)
      have e1 : ((y - 1 : Nat) : Int) = (y : Int) - 1 := by omega
      rw [e1] at hs
      unfold extM
      rw [hq]
      exact hs

/-- A shape's cells out of its marks. -/
def rowM (m y : Nat) : Nat := (m >>> (16 * y)) % 65536
def decM (m : Nat) : List Cl := cellsTo (rowM m) 8
theorem RepM.dec {m : Nat} {l : List Cl} (h : RepM m l) (hs : Srt l) (hb : ∀ c ∈ l, c.1 < 8 ∧ c.2 < 8) : decM m = l := by
  refine srt_unique (srt_cellsTo _ 8) hs fun c => ?_
  unfold decM
  rw [mem_cellsTo]
  have ht : ∀ x y : Nat, x < 16 → ((rowM m y).testBit x = true ↔ ((x : Int), (y : Int)) ∈ l) := fun x y hx => by
    unfold rowM
    rw [show (65536 : Nat) = 2 ^ 16 from rfl, Nat.testBit_mod_two_pow, Nat.testBit_shiftRight, Bool.and_eq_true, decide_eq_true_eq]
    exact ⟨fun h1 => (h.2 x y hx).1 h1.2, fun h1 => ⟨hx, (h.2 x y hx).2 h1⟩⟩
  constructor
  · rintro ⟨y, _, x, hx, hbit, rfl⟩
    exact (ht x y (by omega)).1 hbit
  · intro hc
    have h1 := h.1 c hc
    have h2 := hb c hc
    obtain ⟨a, b⟩ := c
    dsimp only at h1 h2
    have e1 : ((a.toNat : Nat) : Int) = a := by omega
    have e2 : ((b.toNat : Nat) : Int) = b := by omega
    refine ⟨b.toNat, by omega, a.toNat, by omega, (ht _ _ (by omega)).2 ?_, ?_⟩
    · rw [e1, e2]; exact hc
    · rw [e1, e2]
/-- Lists of marks that are closed under one cell more hold every shape that hangs together. -/
theorem conn_marks (Lv : Nat → List Nat) (h1 : 1 ∈ Lv 1) (hE : ∀ n, 1 ≤ n → n < 8 → ∀ m ∈ Lv n, ∀ x, x < n → ∀ y, y < n → m.testBit (16 * y + x) = true → ∀ d, d < 4 → extM m x y d ∈ Lv (n + 1) ∨ extM m x y d = m) {l : List Cl} (h : Conn l) : ∃ m ∈ Lv l.length, decM m = cornerC l := by
  have hlen := ((isShape_iff l).1 h.1).1
  have key := conn_all (fun n r => n ≤ 8 → Srt r ∧ InCor n r ∧ ∃ m ∈ Lv n, RepM m r) (fun _ => ⟨by simp [Srt], ⟨fun c hc => by rw [List.mem_singleton] at hc; subst hc; dsimp only; omega, ⟨(0, 0), by simp, rfl⟩, ⟨(0, 0), by simp, rfl⟩⟩, 1, h1, ⟨fun c hc => by rw [List.mem_singleton] at hc; subst hc; dsimp only; omega, fun x y hx => by
    rw [List.mem_singleton, show (1 : Nat) = 2 ^ 0 from rfl, Nat.testBit_two_pow]
    constructor
    · intro h9
      have : 0 = 16 * y + x := by simpa using h9
      have : x = 0 ∧ y = 0 := by omega
      rw [this.1, this.2]
      rfl
    · intro h9
      injection h9 with h10 h11
      have : x = 0 ∧ y = 0 := by omega
      rw [this.1, this.2]
      rfl⟩⟩) (fun n hn r ih c hc d hd hx hn8 => by
    obtain ⟨hs, hcor, m, hm, hrep⟩ := ih (by omega)
    have hb := hcor.bd c hc
    obtain ⟨a, b⟩ := c
    dsimp only at hb
    obtain ⟨x, rfl⟩ : ∃ x : Nat, a = x := ⟨a.toNat, by omega⟩
    obtain ⟨y, rfl⟩ : ∃ y : Nat, b = y := ⟨b.toNat, by omega⟩
    have hext := hrep.ext hcor (by omega) hc hd
    refine ⟨moreC_srt _ _, hext.2, extM m x y d, ?_, hext.1⟩
    rcases hE n hn (by omega) m hm x (by omega) y (by omega) ((hrep.2 x y (by omega)).2 hc) d hd with h9 | h9
    · exact h9
    · exfalso
      have hlen2 : (moreC r (nbC ((x : Int), (y : Int)) d)).length = r.length + 1 := by
        unfold moreC
        rw [cornerC_move, moveC_len]
        have h3 := nodup_sub_len (r ++ [nbC ((x : Int), (y : Int)) d]) (sortU (r ++ [nbC ((x : Int), (y : Int)) d])) (by
          rw [List.nodup_append]
          exact ⟨srt_nodup hs, by simp, fun p hp q hq e => by rw [List.mem_singleton] at hq; subst hq; exact hx (e ▸ hp)⟩) (fun p hp => (sortU_mem _ p).2 hp)
        have h4 := sortU_len (r ++ [nbC ((x : Int), (y : Int)) d])
        simp only [List.length_append, List.length_singleton] at h3 h4
        omega
      have hsame : r = moreC r (nbC ((x : Int), (y : Int)) d) := by
        have hr2 := hext.1
        rw [h9] at hr2
        refine srt_unique hs (moreC_srt _ _) fun p => ?_
        constructor
        · intro hp
          have h5 := hrep.1 p hp
          obtain ⟨p1, p2⟩ := p
          dsimp only at h5
          have e1 : ((p1.toNat : Nat) : Int) = p1 := by omega
          have e2 : ((p2.toNat : Nat) : Int) = p2 := by omega
          have h6 := (hrep.2 p1.toNat p2.toNat (by omega)).2 (by rw [e1, e2]; exact hp)
          have h7 := (hr2.2 p1.toNat p2.toNat (by omega)).1 h6
          rw [e1, e2] at h7
          exact h7
        · intro hp
          have h5 := hr2.1 p hp
          obtain ⟨p1, p2⟩ := p
          dsimp only at h5
          have e1 : ((p1.toNat : Nat) : Int) = p1 := by omega
          have e2 : ((p2.toNat : Nat) : Int) = p2 := by omega
          have h6 := (hr2.2 p1.toNat p2.toNat (by omega)).2 (by rw [e1, e2]; exact hp)
          have h7 := (hrep.2 p1.toNat p2.toNat (by omega)).1 h6
          rw [e1, e2] at h7
          exact h7
      have := congrArg List.length hsame
      omega) h
  obtain ⟨hs, hcor, m, hm, hrep⟩ := key hlen.2
  exact ⟨m, hm, hrep.dec hs fun c hc => by have := hcor.bd c hc; omega⟩
end

end Go.Proofs.Ythnapikklolgcaa
