/-
  Shapes that hang together grow cell by cell: plain facts.
  The parts of a region that hang together by sides: plain facts, nothing of the program.
-/
import Derived.Test.YtkcclhnligajeaaGreatDoorVaf
import Derived.Test.YtkcclhnligajeaaGreatDoorVag
namespace Go.Proofs.YtkcclhnligajeaaGreatDoor

section
/-- Cells in an order in which each is beside one before it. -/
inductive Gr : List Cl → Prop
  | one (c : Cl) : Gr [c]
  | more {l : List Cl} {x a : Cl} : Gr l → x ∉ l → a ∈ l → nearC a x = true → Gr (l ++ [x])
theorem Gr.pos {l : List Cl} (h : Gr l) : 0 < l.length := by
  cases h with
  | one c => simp
  | more _ _ _ _ => simp
theorem Gr.nodup {l : List Cl} (h : Gr l) : l.Nodup := by
  induction h with
  | one c => simp
  | more _ hx _ _ ih =>
    rw [List.nodup_append]
    refine ⟨ih, by simp, fun a ha b hb => ?_⟩
    rw [List.mem_singleton] at hb
    subst hb
    exact fun e => hx (e ▸ ha)
theorem gr_all {l : List Cl} (hpos : 0 < l.length) (h : AllRch l) : ∃ g, Gr g ∧ ∀ x, x ∈ g ↔ x ∈ l := by
  have key : ∀ (k : Nat) (g : List Cl), Gr g → (∀ x ∈ g, x ∈ l) → l.getD 0 (0, 0) ∈ g → l.length - g.length ≤ k → ∃ g', Gr g' ∧ ∀ x, x ∈ g' ↔ x ∈ l := by
    intro k
    induction k with
    | zero =>
      intro g hg hs h0 hk
      rcases Classical.em (∀ a ∈ g, ∀ b ∈ l, nearC a b = true → b ∈ g) with hc | hc
      · refine ⟨g, hg, fun x => ⟨hs x, fun hx => ?_⟩⟩
        have : ∀ c, Rch l c → c ∈ g := fun c hr => by
          induction hr with
          | base _ => exact h0
          | step _ hb hn ih => exact hc _ ih _ hb hn
        exact this x (h x hx)
      · simp only [Classical.not_forall] at hc
        obtain ⟨a, ha, b, hb, hn, hbg⟩ := hc
        have h1 := (Gr.more hg hbg ha hn).nodup
        have h2 := nodup_sub_len _ l h1 fun y hy => by
          rcases List.mem_append.1 hy with hy | hy
          · exact hs y hy
          · rw [List.mem_singleton] at hy; subst hy; exact hb
        simp at h2
        omega
    | succ k ih =>
      intro g hg hs h0 hk
      rcases Classical.em (∀ a ∈ g, ∀ b ∈ l, nearC a b = true → b ∈ g) with hc | hc
      · refine ⟨g, hg, fun x => ⟨hs x, fun hx => ?_⟩⟩
        have : ∀ c, Rch l c → c ∈ g := fun c hr => by
          induction hr with
          | base _ => exact h0
          | step _ hb hn ih => exact hc _ ih _ hb hn
        exact this x (h x hx)
      · simp only [Classical.not_forall] at hc
        obtain ⟨a, ha, b, hb, hn, hbg⟩ := hc
        refine ih (g ++ [b]) (Gr.more hg hbg ha hn) (fun y hy => ?_) (List.mem_append_left _ h0) (by simp; omega)
        rcases List.mem_append.1 hy with hy | hy
        · exact hs y hy
        · rw [List.mem_singleton] at hy; subst hy; exact hb
  refine key l.length [l.getD 0 (0, 0)] (Gr.one _) (fun x hx => ?_) (by simp) (by omega)
  rw [List.mem_singleton] at hx
  subst hx
  exact getD_mem hpos
theorem conn_gr {l : List Cl} (h : Conn l) : ∃ g, Gr g ∧ sortU g = l ∧ g.length = l.length := by
  obtain ⟨hlen, _, hs⟩ := (isShape_iff l).1 h.1
  obtain ⟨g, hg, hm⟩ := gr_all (by omega) h.2
  refine ⟨g, hg, (sortU_unique hs fun x => (hm x).symm).symm, Nat.le_antisymm ?_ ?_⟩
  · exact nodup_sub_len _ _ hg.nodup fun x hx => (hm x).1 hx
  · exact nodup_sub_len _ _ (srt_nodup hs) fun x hx => (hm x).2 hx
theorem near_nb {a x : Cl} (h : nearC a x = true) : ∃ d, d < 4 ∧ x = nbC a d := by
  obtain ⟨p, q⟩ := a
  obtain ⟨u, v⟩ := x
  rw [nearC_iff] at h
  dsimp only at h
  rcases h with ⟨h1, h2 | h2⟩ | ⟨h1, h2 | h2⟩
  · exact ⟨3, by omega, by rw [nb3]; congr 1 <;> omega⟩
  · exact ⟨1, by omega, by rw [nb1]; congr 1 <;> omega⟩
  · exact ⟨2, by omega, by rw [nb2]; congr 1 <;> omega⟩
  · exact ⟨0, by omega, by rw [nb0]; congr 1 <;> omega⟩
theorem nb_move (a : Cl) (x y : Int) (d : Nat) : nbC (a.1 + x, a.2 + y) d = ((nbC a d).1 + x, (nbC a d).2 + y) := by
  unfold nbC
  dsimp only
  congr 1 <;> omega
theorem corner_more {g : List Cl} (x : Cl) (_hg : 0 < g.length) : cornerC (sortU (g ++ [x])) = moreC (cornerC (sortU g)) (x.1 + -minX (sortU g), x.2 + -minY (sortU g)) := by
  have e1 : cornerC (sortU g) ++ [(x.1 + -minX (sortU g), x.2 + -minY (sortU g))] = moveC (-minX (sortU g)) (-minY (sortU g)) (sortU g ++ [x]) := by
    rw [cornerC_move]
    simp [moveC]
  have e2 : sortU (sortU g ++ [x]) = sortU (g ++ [x]) := sortU_unique (sortU_srt _) fun y => by rw [sortU_mem, List.mem_append, List.mem_append, sortU_mem]
  unfold moreC
  rw [e1, sortU_move, cornerC_of_move _ _ _ (sortU_pos (by simp)), e2]
/-- What holds of one cell and is handed on from a shape to each that it becomes by one more cell at a side is so of every shape that hangs together, in its corner. -/
theorem grow_all (E : Nat → List Cl → Prop) (h1 : E 1 [(0, 0)]) (hE : ∀ n, 1 ≤ n → ∀ l, E n l → ∀ c ∈ l, ∀ d, d < 4 → nbC c d ∉ l → E (n + 1) (moreC l (nbC c d))) {g : List Cl} (h : Gr g) : E g.length (cornerC (sortU g)) := by
  induction h with
  | one c =>
    have e : cornerC (sortU [c]) = [(0, 0)] := by
      have e1 : sortU [c] = [c] := (sortU_unique (l := [c]) (r := [c]) (by simp [Srt]) fun _ => Iff.rfl).symm
      rw [e1]
      simp [cornerC, minX, minY, minTo]
    rw [e]
    exact h1
  | more hg hx ha hn ih =>
    rename_i l x a
    obtain ⟨d, hd, rfl⟩ := near_nb hn
    rw [corner_more _ hg.pos, List.length_append, List.length_singleton, ← nb_move]
    have hmem : ∀ y : Cl, (y.1 + -minX (sortU l), y.2 + -minY (sortU l)) ∈ cornerC (sortU l) ↔ y ∈ l := fun y => by
      rw [cornerC_move, ← sortU_mem l]
      unfold moveC
      constructor
      · intro hy
        obtain ⟨z, hz, e⟩ := List.mem_map.1 hy
        injection e with e1 e2
        have : z = y := by
          obtain ⟨z1, z2⟩ := z
          obtain ⟨y1, y2⟩ := y
          dsimp only at e1 e2
          congr 1 <;> omega
        exact this ▸ hz
      · intro hy
        exact List.mem_map.2 ⟨y, hy, rfl⟩
    refine hE l.length hg.pos _ ih _ ((hmem a).2 ha) d hd ?_
    rw [nb_move]
    exact fun hc => hx ((hmem _).1 hc)
theorem conn_all (E : Nat → List Cl → Prop) (h1 : E 1 [(0, 0)]) (hE : ∀ n, 1 ≤ n → ∀ l, E n l → ∀ c ∈ l, ∀ d, d < 4 → nbC c d ∉ l → E (n + 1) (moreC l (nbC c d))) {l : List Cl} (h : Conn l) : E l.length (cornerC l) := by
  obtain ⟨g, hg, rfl, e⟩ := conn_gr h
  rw [← e]
  exact grow_all E h1 hE hg
end

section
/-- A way by sides over places with A. -/
inductive Way (A : Cl → Prop) (p : Cl) : Cl → Prop
  | base : A p → Way A p p
  | step {q r : Cl} : Way A p q → nearC q r = true → A r → Way A p r
theorem Way.fst {A : Cl → Prop} {p q : Cl} (h : Way A p q) : A p := by
  induction h with
  | base h => exact h
  | step _ _ _ ih => exact ih
theorem Way.snd {A : Cl → Prop} {p q : Cl} (h : Way A p q) : A q := by
  cases h with
  | base h => exact h
  | step _ _ h => exact h
theorem Way.trans {A : Cl → Prop} {p q r : Cl} (h : Way A p q) (k : Way A q r) : Way A p r := by
  induction k with
  | base _ => exact h
  | step _ hn ha ih => exact .step ih hn ha
theorem Way.mono {A B : Cl → Prop} (hs : ∀ q, A q → B q) {p q : Cl} (h : Way A p q) : Way B p q := by
  induction h with
  | base h => exact .base (hs _ h)
  | step _ hn ha ih => exact .step ih hn (hs _ ha)
theorem near_sym {a b : Cl} (h : nearC a b = true) : nearC b a = true := by
  rw [nearC_iff] at h ⊢
  omega
theorem Way.symm {A : Cl → Prop} {p q : Cl} (h : Way A p q) : Way A q p := by
  induction h with
  | base h => exact .base h
  | step hw hn ha ih => exact (Way.step (.base ha) (near_sym hn) hw.snd).trans ih
theorem near_of_nb {c : Cl} {d : Nat} (hd : d < 4) : nearC c (nbC c d) = true := by
  have : d = 0 ∨ d = 1 ∨ d = 2 ∨ d = 3 := by omega
  rw [nearC_iff]
  unfold nbC
  rcases this with rfl | rfl | rfl | rfl <;> simp <;> omega

/-- What a call takes away from A. -/
structure Mv (A A' : Cl → Prop) (c : Cl) : Prop where
  sub : ∀ q, A' q → A q
  path : ∀ q, A q → ¬ A' q → Way A c q
  self : ¬ A' c
  close : ∀ q, A q → ¬ A' q → ∀ r, nearC q r = true → ¬ A' r
/-- What it has taken so far. -/
structure Mp (A B : Cl → Prop) (c : Cl) (k : Nat) : Prop where
  sub : ∀ q, B q → A q
  path : ∀ q, A q → ¬ B q → Way A c q
  self : ¬ B c
  close : ∀ q, q ≠ c → A q → ¬ B q → ∀ r, nearC q r = true → ¬ B r
  part : ∀ d, d < k → ¬ B (nbC c d)
theorem Mv.off {A : Cl → Prop} {c : Cl} (h : ¬ A c) : Mv A A c := ⟨fun _ h => h, fun _ h1 h2 => absurd h1 h2, h, fun _ h1 h2 => absurd h1 h2⟩
theorem Mp.start {A B : Cl → Prop} {c : Cl} (hc : A c) (h : ∀ q, B q ↔ A q ∧ q ≠ c) : Mp A B c 0 where
  sub := fun q hq => ((h q).1 hq).1
  path := fun q h1 h2 => by
    by_cases e : q = c
    · subst e; exact .base hc
    · exact absurd ((h q).2 ⟨h1, e⟩) h2
  self := fun hq => ((h c).1 hq).2 rfl
  close := fun q hne h1 h2 => absurd ((h q).2 ⟨h1, hne⟩) h2
  part := fun d hd => by omega
theorem Mp.step {A B B' : Cl → Prop} {c : Cl} {d : Nat} (h : Mp A B c d) (hc : A c) (hd : d < 4) (k : Mv B B' (nbC c d)) : Mp A B' c (d + 1) where
  sub := fun q hq => h.sub q (k.sub q hq)
  path := fun q h1 h2 => by
    by_cases h3 : B q
    · have h4 := k.path q h3 h2
      have h5 := h4.mono h.sub
      exact (Way.step (.base hc) (near_of_nb hd) h5.fst).trans h5
    · exact h.path q h1 h3
  self := fun hq => h.self (k.sub c hq)
  close := fun q hne h1 h2 r hr hB => by
    by_cases h3 : B q
    · exact k.close q h3 h2 r hr hB
    · exact h.close q hne h1 h3 r hr (k.sub r hB)
  part := fun e he hB => by
    by_cases e9 : e = d
    · subst e9; exact k.self hB
    · exact h.part e (by omega) (k.sub _ hB)
theorem Mp.done {A B : Cl → Prop} {c : Cl} (h : Mp A B c 4) : Mv A B c where
  sub := h.sub
  path := h.path
  self := h.self
  close := fun q h1 h2 r hr => by
    by_cases e : q = c
    · subst e
      obtain ⟨d, hd, rfl⟩ := near_nb hr
      exact h.part d hd
    · exact h.close q e h1 h2 r hr
theorem Mv.all {A A' : Cl → Prop} {c : Cl} (h : Mv A A' c) (q : Cl) : A' q ↔ A q ∧ ¬ Way A c q := by
  constructor
  · intro hq
    refine ⟨h.sub q hq, fun hw => ?_⟩
    have key : ∀ r, Way A c r → ¬ A' r := fun r hr => by
      induction hr with
      | base _ => exact h.self
      | step hw hn ha ih => exact h.close _ hw.snd ih _ hn
    exact key q hw hq
  · rintro ⟨h1, h2⟩
    exact Classical.byContradiction fun h3 => h2 (h.path q h1 h3)

/-! ### Rows of some cells -/
def rowsOf (H : Nat) (cs : List Cl) : List Int := cs.foldl setB (zerosR H)
theorem foldl_set {W H : Nat} : ∀ (cs : List Cl) (l : List Int), Rg W H l → (∀ c ∈ cs, inG W H c) → Rg W H (cs.foldl setB l) ∧ ∀ q, bt (cs.foldl setB l) q = true ↔ bt l q = true ∨ q ∈ cs
  | [], l, h, _ => ⟨h, fun q => by simp⟩
  | c :: cs, l, h, hi => by
    have h1 := h.set (hi c (by simp))
    obtain ⟨h2, h3⟩ := foldl_set cs (setB l c) h1 (fun d hd => hi d (by simp [hd]))
    refine ⟨h2, fun q => ?_⟩
    rw [List.foldl_cons, h3 q, h.bt_set (hi c (by simp)), List.mem_cons]
    constructor
    · rintro ((h | h) | h)
      · exact .inl h
      · exact .inr (.inl h)
      · exact .inr (.inr h)
    · rintro (h | h | h)
      · exact .inl (.inl h)
      · exact .inl (.inr h)
      · exact .inr h
theorem rowsOf_facts {W H : Nat} (h1 : 1 ≤ W) (h2 : W ≤ 6) (h3 : 1 ≤ H) (h4 : H ≤ 6) {cs : List Cl} (hi : ∀ c ∈ cs, inG W H c) : Rg W H (rowsOf H cs) ∧ ∀ q, bt (rowsOf H cs) q = true ↔ q ∈ cs := by
  obtain ⟨h5, h6⟩ := foldl_set cs (zerosR H) (Rg.zeros h1 h2 h3 h4) hi
  refine ⟨h5, fun q => ?_⟩
  unfold rowsOf
  rw [h6 q, bt_zeros]
  simp
theorem rowsOf_snoc (H : Nat) (cs : List Cl) (c : Cl) : rowsOf H (cs ++ [c]) = setB (rowsOf H cs) c := by unfold rowsOf; rw [List.foldl_append]; rfl

/-! ### Parts -/
def InP (l : List Int) (q : Cl) : Prop := bt l q = true
noncomputable def dP (p : Prop) : Bool := @decide p (Classical.propDecidable p)
theorem dP_iff (p : Prop) : dP p = true ↔ p := @decide_eq_true_iff p (Classical.propDecidable p)
noncomputable def partR (W H : Nat) (l : List Int) (c : Cl) : List Int := rowsOf H ((cellsB W H l).filter fun q => dP (Way (InP l) c q))
theorem cellsB_inG {W H : Nat} {l : List Int} : ∀ c ∈ cellsB W H l, inG W H c := fun c hc => by
  have := (mem_gTo W c H).1 (List.mem_filter.1 hc).1
  unfold inG
  omega
theorem partR_facts {W H : Nat} {l : List Int} (h : Rg W H l) (c : Cl) : Rg W H (partR W H l c) ∧ ∀ q, bt (partR W H l c) q = true ↔ Way (InP l) c q := by
  obtain ⟨h1, h2⟩ := rowsOf_facts h.w0 h.w6 h.h0 h.h6 (cs := (cellsB W H l).filter fun q => dP (Way (InP l) c q)) (fun d hd => cellsB_inG d (List.mem_filter.1 hd).1)
  refine ⟨h1, fun q => (h2 q).trans ?_⟩
  rw [List.mem_filter, mem_cellsB h, dP_iff]
  exact ⟨fun h => h.2, fun h => ⟨h.snd, h⟩⟩
theorem partR_eq {W H : Nat} {l r : List Int} (h : Rg W H l) (c : Cl) (hr : Rg W H r) (hq : ∀ q, bt r q = true ↔ Way (InP l) c q) : r = partR W H l c := by
  obtain ⟨h1, h2⟩ := partR_facts h c
  exact hr.ext h1 fun q => (hq q).trans (h2 q).symm
/-- No cell before the k-th leads there. -/
def Un (l : List Int) (cs : List Cl) (k : Nat) (q : Cl) : Prop := ∀ j, j < k → ¬ Way (InP l) (cs.getD j (0, 0)) q
open Classical in
noncomputable def partsTo (W H : Nat) (l : List Int) : Nat → List (List Int)
  | 0 => []
  | k + 1 => if Un l (cellsB W H l) k ((cellsB W H l).getD k (0, 0)) then partsTo W H l k ++ [partR W H l ((cellsB W H l).getD k (0, 0))] else partsTo W H l k
theorem partsTo_yes {W H : Nat} {l : List Int} {k : Nat} (h : Un l (cellsB W H l) k ((cellsB W H l).getD k (0, 0))) : partsTo W H l (k + 1) = partsTo W H l k ++ [partR W H l ((cellsB W H l).getD k (0, 0))] := if_pos h
theorem partsTo_no {W H : Nat} {l : List Int} {k : Nat} (h : ¬ Un l (cellsB W H l) k ((cellsB W H l).getD k (0, 0))) : partsTo W H l (k + 1) = partsTo W H l k := if_neg h
theorem partsTo_le (W H : Nat) (l : List Int) : ∀ k, (partsTo W H l k).length ≤ k
  | 0 => Nat.le_refl _
  | k + 1 => by
    have := partsTo_le W H l k
    rw [partsTo]
    split
    · rw [List.length_append, List.length_singleton]; omega
    · omega
theorem partsTo_mem {W H : Nat} {l : List Int} : ∀ k, k ≤ (cellsB W H l).length → ∀ p ∈ partsTo W H l k, ∃ c ∈ cellsB W H l, p = partR W H l c
  | 0, _, p, hp => by cases hp
  | k + 1, hk, p, hp => by
    rw [partsTo] at hp
    split at hp
    · rw [List.mem_append, List.mem_singleton] at hp
      rcases hp with hp | hp
      · exact partsTo_mem k (by omega) p hp
      · exact ⟨_, getD_mem (by omega), hp⟩
    · exact partsTo_mem k (by omega) p hp
noncomputable def partsB (W H : Nat) (l : List Int) : List (List Int) := partsTo W H l (cellsB W H l).length
noncomputable def partsR (W : Int) (l : List Int) : List (List Int) := if isReg W l = true then partsB W.toNat l.length l else []
theorem partsR_yes {W H : Nat} {l : List Int} (h : Rg W H l) : partsR W l = partsB W H l := by
  unfold partsR
  rw [if_pos (isReg_of h), h.len]
  rfl
theorem partsR_no {W : Int} {l : List Int} (h : isReg W l = false) : partsR W l = [] := if_neg (by rw [h]; simp)
theorem partsB_le {W H : Nat} {l : List Int} (h : Rg W H l) : (partsB W H l).length ≤ 36 := Nat.le_trans (partsTo_le W H l _) (cellsB_len W H l h.w6 h.h6)
theorem partsB_rg {W H : Nat} {l : List Int} (h : Rg W H l) : ∀ p ∈ partsB W H l, Rg W H p := fun p hp => by
  obtain ⟨c, _, rfl⟩ := partsTo_mem _ (Nat.le_refl _) p hp
  exact (partR_facts h c).1
/-! What is left, in the program. -/
/-- Of rest, just what no cell before the k-th leads to. -/
def Lft (l : List Int) (cs : List Cl) (k : Nat) (rest : List Int) : Prop := ∀ q, bt rest q = true ↔ bt l q = true ∧ Un l cs k q
theorem Un.zero (l : List Int) (cs : List Cl) (q : Cl) : Un l cs 0 q := fun j hj => by omega
theorem Un.succ {l : List Int} {cs : List Cl} {k : Nat} {q : Cl} : Un l cs (k + 1) q ↔ Un l cs k q ∧ ¬ Way (InP l) (cs.getD k (0, 0)) q := by
  constructor
  · intro h; exact ⟨fun j hj => h j (by omega), h k (by omega)⟩
  · rintro ⟨h1, h2⟩ j hj
    by_cases e : j = k
    · subst e; exact h2
    · exact h1 j (by omega)
theorem Un.way {l : List Int} {cs : List Cl} {k : Nat} {p q : Cl} (h : Un l cs k p) (hw : Way (InP l) p q) : Un l cs k q := fun j hj h1 => h j hj (h1.trans hw.symm)
theorem Lft.start (l : List Int) (cs : List Cl) : Lft l cs 0 l := fun q => ⟨fun h => ⟨h, Un.zero l cs q⟩, fun h => h.1⟩
theorem Lft.un {l : List Int} {cs : List Cl} {k : Nat} {rest : List Int} (h : Lft l cs k rest) {c : Cl} (hc : bt l c = true) : bt rest c = true ↔ Un l cs k c := by
  rw [h c]
  exact ⟨fun h => h.2, fun h2 => ⟨hc, h2⟩⟩
theorem Lft.skip {l : List Int} {cs : List Cl} {k : Nat} {rest : List Int} (h : Lft l cs k rest) (hn : ¬ Un l cs k (cs.getD k (0, 0))) : Lft l cs (k + 1) rest := fun q => by
  rw [h q, Un.succ]
  constructor
  · rintro ⟨h1, h2⟩
    refine ⟨h1, h2, fun hw => hn ?_⟩
    exact h2.way hw.symm
  · rintro ⟨h1, h2, _⟩
    exact ⟨h1, h2⟩
theorem Lft.way {l : List Int} {cs : List Cl} {k : Nat} {rest : List Int} (h : Lft l cs k rest) {c : Cl} (hc : bt rest c = true) (q : Cl) : Way (InP rest) c q ↔ Way (InP l) c q := by
  constructor
  · exact Way.mono fun q hq => ((h q).1 hq).1
  · intro hw
    induction hw with
    | base _ => exact .base hc
    | step h1 hn ha ih => exact .step ih hn ((h _).2 ⟨ha, ((h _).1 ih.snd).2.way (.step (.base ((h _).1 ih.snd).1) hn ha)⟩)
theorem Lft.take {l : List Int} {cs : List Cl} {k : Nat} {rest rest' : List Int} (h : Lft l cs k rest) (hc : bt rest (cs.getD k (0, 0)) = true) (hm : Mv (InP rest) (InP rest') (cs.getD k (0, 0))) : Lft l cs (k + 1) rest' := fun q => by
  have h1 := hm.all q
  unfold InP at h1
  rw [h1, show Way (fun q => bt rest q = true) (cs.getD k (0, 0)) q ↔ Way (InP l) (cs.getD k (0, 0)) q from h.way hc q, h q, Un.succ, and_assoc]
theorem Lft.part {W H : Nat} {l : List Int} {cs : List Cl} {k : Nat} {rest rest' part : List Int} (hl : Rg W H l) (h : Lft l cs k rest) (hc : bt rest (cs.getD k (0, 0)) = true) (hm : Mv (InP rest) (InP rest') (cs.getD k (0, 0))) (hp : Rg W H part)
    (hq : ∀ q, bt part q = true ↔ bt rest q = true ∧ ¬ bt rest' q = true) : part = partR W H l (cs.getD k (0, 0)) := partR_eq hl _ hp fun q => by
  have h1 := hm.all q
  unfold InP at h1
  rw [hq q, h1, ← h.way hc q]
  constructor
  · rintro ⟨h2, h3⟩
    exact Classical.byContradiction fun h4 => h3 ⟨h2, h4⟩
  · intro h2
    exact ⟨h2.snd, fun h3 => h3.2 h2⟩
/-! What is left, in the model. -/
noncomputable def leftL (l : List Int) (cs : List Cl) (k : Nat) : List Cl := cs.filter fun q => dP (Un l cs k q)
theorem mem_leftL (l : List Int) (cs : List Cl) (k : Nat) (q : Cl) : q ∈ leftL l cs k ↔ q ∈ cs ∧ Un l cs k q := by unfold leftL; rw [List.mem_filter, dP_iff]
theorem leftL_zero (l : List Int) (cs : List Cl) : leftL l cs 0 = cs := by
  unfold leftL
  rw [List.filter_eq_self]
  intro q _
  exact (dP_iff _).2 (Un.zero l cs q)
theorem Bfs.full {l sn : List Cl} (h : Bfs l sn sn.length 0) (q : Cl) : q ∈ sn ↔ Rch l q := by
  constructor
  · exact h.reach q
  · intro hc
    induction hc with
    | base _ => exact h.first
    | step _ hb hn ih =>
      obtain ⟨j, hj, rfl⟩ := mem_getD ih
      exact h.closed j hj _ hb hn
theorem rch_way {L : List Cl} (h0 : 0 < L.length) (q : Cl) : Rch L q ↔ Way (fun q => q ∈ L) (L.getD 0 (0, 0)) q := by
  constructor
  · intro h
    induction h with
    | base h => exact .base (getD_mem h)
    | step _ hb hn ih => exact .step ih hn hb
  · intro h
    induction h with
    | base _ => exact .base h0
    | step _ hn hb ih => exact .step ih hb hn
theorem partsTo_over {W H : Nat} {l : List Int} {k : Nat} : ∀ m, (∀ i, k ≤ i → i < k + m → ¬ Un l (cellsB W H l) k ((cellsB W H l).getD i (0, 0))) → partsTo W H l (k + m) = partsTo W H l k ∧ ∀ q, bt l q = true → (Un l (cellsB W H l) (k + m) q ↔ Un l (cellsB W H l) k q)
  | 0, _ => ⟨rfl, fun _ _ => Iff.rfl⟩
  | m + 1, h => by
    obtain ⟨h1, h2⟩ := partsTo_over m (fun i hi h3 => h i hi (by omega))
    have hn := h (k + m) (by omega) (by omega)
    have hn2 : ¬ Un l (cellsB W H l) (k + m) ((cellsB W H l).getD (k + m) (0, 0)) := fun h5 => hn fun j hj => h5 j (by omega)
    refine ⟨(partsTo_no hn2).trans h1, fun q hq => ?_⟩
    rw [← Nat.add_assoc, Un.succ, h2 q hq]
    constructor
    · exact fun h => h.1
    · intro h5
      refine ⟨h5, fun hw => hn ?_⟩
      exact h5.way hw.symm
/-- One part more, in the model. -/
theorem left_step {W H : Nat} {l : List Int} (hl : Rg W H l) {k : Nat} (_hk : k ≤ (cellsB W H l).length) (h0 : 0 < (leftL l (cellsB W H l) k).length) : ∃ i, k ≤ i ∧ i < (cellsB W H l).length ∧ partsTo W H l (i + 1) = partsTo W H l k ++ [partR W H l ((leftL l (cellsB W H l) k).getD 0 (0, 0))] ∧
    (∀ q, Rch (leftL l (cellsB W H l) k) q ↔ Way (InP l) ((leftL l (cellsB W H l) k).getD 0 (0, 0)) q) ∧
    (∀ q, q ∈ leftL l (cellsB W H l) (i + 1) ↔ q ∈ leftL l (cellsB W H l) k ∧ ¬ Rch (leftL l (cellsB W H l) k) q) := by
  obtain ⟨c, t, hct⟩ : ∃ c t, leftL l (cellsB W H l) k = c :: t := by
    match hq : leftL l (cellsB W H l) k with
    | [] => rw [hq] at h0; simp at h0
    | c :: t => exact ⟨c, t, rfl⟩
  have h0' := h0
  have hcin : c ∈ leftL l (cellsB W H l) k := by rw [hct]; simp
  have hc0 := (mem_leftL l _ k c).1 hcin
  have hcb := (mem_cellsB hl c).1 hc0.1
  have hsplit := hct
  unfold leftL at hsplit
  rw [List.filter_eq_cons_iff] at hsplit
  obtain ⟨a, b, hab, hno, _, _⟩ := hsplit
  have hia : (cellsB W H l).getD a.length (0, 0) = c := by rw [hab]; simp [List.getD]
  have hlen : a.length < (cellsB W H l).length := by rw [hab]; simp
  have hbefore : ∀ i, i < a.length → ¬ Un l (cellsB W H l) k ((cellsB W H l).getD i (0, 0)) := fun i hi hu => by
    have e : (cellsB W H l).getD i (0, 0) = a.getD i (0, 0) := by
      rw [hab]
      simp [List.getD, List.getElem?_append_left hi]
    have hm := hno (a.getD i (0, 0)) (getD_mem hi)
    rw [e] at hu
    exact hm ((dP_iff _).2 hu)
  have hki : k ≤ a.length := by
    by_cases h9 : k ≤ a.length
    · exact h9
    · have := hc0.2 a.length (by omega)
      rw [hia] at this
      exact absurd (.base hcb) this
  obtain ⟨m, hm⟩ : ∃ m, a.length = k + m := ⟨a.length - k, by omega⟩
  obtain ⟨p1, p2⟩ := partsTo_over (W := W) (H := H) (l := l) (k := k) m (fun i _ hi => hbefore i (by omega))
  have hUc : Un l (cellsB W H l) (k + m) c := (p2 c hcb).2 hc0.2
  have hrch : ∀ q, Rch (leftL l (cellsB W H l) k) q ↔ Way (InP l) c q := fun q => by
    rw [rch_way h0, hct]
    have e : (c :: t).getD 0 ((0 : Int), (0 : Int)) = c := rfl
    rw [e]
    constructor
    · exact Way.mono fun q hq => (mem_cellsB hl q).1 ((mem_leftL l _ k q).1 (by rw [hct]; exact hq)).1
    · intro hw
      induction hw with
      | base _ => exact .base (by simp)
      | step h1 hn ha ih =>
        refine .step ih hn ?_
        rw [← hct, mem_leftL]
        exact ⟨(mem_cellsB hl _).2 ha, hc0.2.way (.step h1 hn ha)⟩
  have hhead : (leftL l (cellsB W H l) k).getD 0 ((0 : Int), (0 : Int)) = c := by rw [hct]; rfl
  refine ⟨a.length, hki, hlen, ?_, ?_, fun q => ?_⟩
  · rw [hhead, partsTo_yes (by rw [hia, hm]; exact hUc), hia, hm, p1]
  · rw [hhead]; exact hrch
  · rw [mem_leftL, mem_leftL, hrch, Un.succ, hia]
    constructor
    · rintro ⟨h1, h2, h3⟩
      exact ⟨⟨h1, (p2 q ((mem_cellsB hl q).1 h1)).1 (hm ▸ h2)⟩, h3⟩
    · rintro ⟨⟨h1, h2⟩, h3⟩
      exact ⟨h1, by rw [hm]; exact (p2 q ((mem_cellsB hl q).1 h1)).2 h2, h3⟩
theorem left_done {W H : Nat} {l : List Int} {k : Nat} (_hk : k ≤ (cellsB W H l).length) (h0 : leftL l (cellsB W H l) k = []) : partsTo W H l k = partsB W H l := by
  have hall : ∀ i, k ≤ i → i < k + ((cellsB W H l).length - k) → ¬ Un l (cellsB W H l) k ((cellsB W H l).getD i (0, 0)) := fun i h1 h2 hu => by
    have : (cellsB W H l).getD i (0, 0) ∈ leftL l (cellsB W H l) k := (mem_leftL l _ k _).2 ⟨getD_mem (by omega), hu⟩
    rw [h0] at this
    cases this
  have := (partsTo_over (W := W) (H := H) (l := l) (k := k) ((cellsB W H l).length - k) hall).1
  unfold partsB
  rw [← this]
  congr 1
  omega
/-- What is kept of a list, in order, is told by what it has. -/
theorem filter_left {W H : Nat} {l : List Int} {k i : Nat} {sn : List Cl} (h : ∀ q, q ∈ leftL l (cellsB W H l) (i + 1) ↔ q ∈ leftL l (cellsB W H l) k ∧ q ∉ sn) : (leftL l (cellsB W H l) k).filter (fun q => !hasC sn q.1 q.2) = leftL l (cellsB W H l) (i + 1) := by
  have hs : ∀ k, Srt (leftL l (cellsB W H l) k) := fun k => List.Pairwise.sublist List.filter_sublist (cellsB_srt W H l)
  refine srt_unique (List.Pairwise.sublist List.filter_sublist (hs k)) (hs (i + 1)) fun q => ?_
  rw [List.mem_filter, h q]
  have := hasC_iff sn q
  simp only [Bool.not_eq_true', ← Bool.not_eq_true, this]
end

end Go.Proofs.YtkcclhnligajeaaGreatDoor
